/-
  THE WALKS of opposite, farthest, fourAt. Conditions: a row of numbers lies in memory.
  THE WALKS of the maker's tiles and sixteen. Conditions: the grower lies in memory.
  THE WALK of the maker's sixteen. Conditions: the grower lies in memory.
-/
import Derived.Test.YtlejohclijjhnaaGreatDoorL25
namespace Go.Proofs.YtlejohclijjhnaaGreatDoor
open Go.RowKit Ti Qd Go.Maps Go.WideMaps

/-- a call ends with a whole array as its result -/
theorem post_cell_row {P : Program} {fn : Func} {R : Ending → World → Prop} {a : Act} {w : World} {p : Tmp} {ty : TypeId} (h : fn.results = #[.cell p ty]) (g : Nat) (t : TypeId) (cs : Array Value) (fr : Nat × Nat) (d : TypeDesc)
    (hu : P.underlying ty = some d) (hd : (match d with | .struct _ | .array _ _ => true | _ => false) = true) (hi : (P.info? ty).map (·.size) = some cs.size)
    (hp : a.tmps.getD p undef = .pointer (some ⟨g, 0, none⟩)) (hg : w.heap[g]? = some (.cells cs t fr)) (hdf : a.defers = []) (hR : R (.returned (.agg cs)) w) : bodyPost P fn R .ret a w :=
  bodyPost_ret (results_cell_row h a.tmps w g t cs fr d hp hg hu hd hi) hdf hR
theorem Below.drewN' {B : Nat} {a w : World} (h : Below B a w) (n : Nat) : Below B a (w.drewN n) := ⟨h.os, h.tape, h.output, h.size, h.block⟩
/-- numbers in a row of a block -/
def ir (F : Nat → Int) (n : Nat) : Array Value := ((List.range n).map (fun i => Value.int .i64 (F i))).toArray
theorem ir_size (F : Nat → Int) (n : Nat) : (ir F n).size = n := by simp [ir]
theorem ir_get (F : Nat → Int) (n i : Nat) (h : i < n) : (ir F n)[i]? = some (.int .i64 (F i)) := by simp [ir, h]
theorem ir_set (F : Nat → Int) (n i : Nat) (x : Int) : (ir F n).setIfInBounds i (.int .i64 x) = ir (upd F i x) n := by
  apply Array.ext
  · simp [ir]
  · intro j h1 h2
    have hj : j < n := by simpa [ir] using h2
    have e1 : (ir F n)[j]'(by simpa [ir] using hj) = .int .i64 (F j) := by simp [ir]
    have e2 : (ir (upd F i x) n)[j]'h2 = .int .i64 (upd F i x j) := by simp [ir]
    rw [Array.getElem_setIfInBounds (by simpa [ir] using hj), e2]
    unfold upd
    by_cases e : i = j
    · subst e
      simp
    · rw [if_neg e, if_neg (fun h => e h.symm), e1]
theorem ir_cell {w : World} {g n : Nat} {F : Nat → Int} {T : TypeId} (h : w.heap[g]? = some (.cells (ir F n) T)) (i : Nat) (hi : i < n) : w.cell? ⟨g, i, none⟩ = some (.int .i64 (F i)) := by
  rw [cell_of_row _ _ i _ _ _ h, ir_get F n i hi]
theorem ir_fro {w : World} {g n : Nat} {F : Nat → Int} {T : TypeId} (h : w.heap[g]? = some (.cells (ir F n) T)) (i : Nat) : w.frozen? ⟨g, i, none⟩ = false := frozen_of_row _ _ i _ _ h
theorem ir_put {w : World} {g n : Nat} {F : Nat → Int} {T : TypeId} (h : w.heap[g]? = some (.cells (ir F n) T)) (i : Nat) (x : Int) : (w.setCell ⟨g, i, none⟩ (.int .i64 x)).heap[g]? = some (.cells (ir (upd F i x) n) T) := by
  rw [heap_setCell_same w g i _ _ _ h, ir_set]
theorem ir_ext {F F' : Nat → Int} {n : Nat} (h : ∀ i, i < n → F i = F' i) : ir F n = ir F' n := by
  unfold ir
  congr 1
  apply List.map_congr_left
  intro i hi
  rw [h i (List.mem_range.1 hi)]
set_option maxRecDepth 100000 in
theorem opposite_any (i : Nat) (hi : i < 4) (w : World) : Calls Tryz.prog 69 #[.int .i64 i] w fun e w' => e = .returned (.int .i64 ((3 - i : Nat) : Int)) ∧ w = w' := by
  rcases (show i = 0 ∨ i = 1 ∨ i = 2 ∨ i = 3 by omega) with rfl | rfl | rfl | rfl
  all_goals
    go_enter Tryz.func69, Tryz.ntmps69
    go_wp2
    go_ret
    exact ⟨rfl, rfl⟩
end Go.Proofs.YtlejohclijjhnaaGreatDoor
namespace Go.Proofs.YtlejohclijjhnaaGreatDoor
open Go.RowKit Ti Qd Go.Maps Go.WideMaps

theorem Gs.alloc' {B n : Nat} {w0 w : World} {H0 : Nat → Prop} {G P M b l room : Nat} {s : GS} {bx : List (Nat × Obj)} (h : Gs B w0 H0 G P M b l room s bx w) (o : Obj) (hn : w.heap.size = n) : Gs B w0 H0 G P M b l room s ((n, o) :: bx) (w.alloc o) := hn ▸ h.alloc o
theorem Gs.store {B : Nat} {w0 w : World} {H0 : Nat → Prop} {G P M b l room : Nat} {s : GS} {bx : List (Nat × Obj)} (h : Gs B w0 H0 G P M b l room s bx w) : ∃ Hs, St B w P s.1 room Hs ∧ ∀ (L' : List Sq) (w' : World), Goes B w P room Hs L' w' → Gs B w0 H0 G P M b l room (L', s.2) bx w' := by
  obtain ⟨⟨H, h1, h2, h3⟩, h4, h5⟩ := h
  obtain ⟨Hs, k1, k2⟩ := h1.store
  exact ⟨Hs, k1, fun _ _ hg => Gs.goes ⟨h1, h2, h3⟩ h4 h5 (k2 hg)⟩
theorem Gs.call {B : Nat} {w0 w : World} {H0 : Nat → Prop} {G P M b l room : Nat} {s : GS} {bx : List (Nat × Obj)} (h : Gs B w0 H0 G P M b l room s bx w) : ∃ H, Gr B w G P M b l s room H ∧ ∀ (s' : GS) (w' : World), Gt B w G P M b l room H s' w' → Gs B w0 H0 G P M b l room s' bx w' := by
  obtain ⟨⟨H, h1, h2, h3⟩, h4, h5⟩ := h
  exact ⟨H, h1, fun _ _ hg => Gs.goes ⟨h1, h2, h3⟩ h4 h5 hg⟩
theorem Gs.ptr {B : Nat} {w0 w : World} {H0 : Nat → Prop} {G P M b l room : Nat} {s : GS} {bx : List (Nat × Obj)} (h : Gs B w0 H0 G P M b l room s bx w) : w.cell? ⟨G, 0, none⟩ = some (.pointer (some ⟨P, 0, none⟩)) := by
  obtain ⟨⟨H, ⟨Hs, hs, _⟩, _⟩, _⟩ := h
  exact hs.c0
theorem Gs.rul {B : Nat} {w0 w : World} {H0 : Nat → Prop} {G P M b l room : Nat} {s : GS} {bx : List (Nat × Obj)} (h : Gs B w0 H0 G P M b l room s bx w) : w.cell? ⟨G, 1, none⟩ = some (.int .u16 b) ∧ w.cell? ⟨G, 2, none⟩ = some (.int .u16 l) ∧ w.cell? ⟨G, 3, none⟩ = some (.map (some M)) := by
  obtain ⟨⟨H, ⟨Hs, hs, _⟩, _⟩, _⟩ := h
  exact ⟨hs.c1, hs.c2, hs.c3⟩
theorem Gs.inv {B : Nat} {w0 w : World} {H0 : Nat → Prop} {G P M b l room : Nat} {s : GS} {bx : List (Nat × Obj)} (h : Gs B w0 H0 G P M b l room s bx w) : Inv s.1 ∧ s.1.length ≤ 65536 := by
  obtain ⟨⟨H, ⟨Hs, hs, _⟩, _⟩, _⟩ := h
  exact ⟨hs.st.inv, hs.st.small⟩
theorem Gs.b0 {B : Nat} {w0 w : World} {H0 : Nat → Prop} {G P M b l room : Nat} {s : GS} {bx : List (Nat × Obj)} {g : Nat} {o : Obj} (h : Gs B w0 H0 G P M b l room s ((g, o) :: bx) w) : w.heap[g]? = some o := h.box List.mem_cons_self
theorem Gs.b1 {B : Nat} {w0 w : World} {H0 : Nat → Prop} {G P M b l room : Nat} {s : GS} {bx : List (Nat × Obj)} {g : Nat} {o : Obj} {x0 : Nat × Obj} (h : Gs B w0 H0 G P M b l room s (x0 :: (g, o) :: bx) w) : w.heap[g]? = some o := h.box (List.mem_cons_of_mem _ List.mem_cons_self)
theorem Gs.b2 {B : Nat} {w0 w : World} {H0 : Nat → Prop} {G P M b l room : Nat} {s : GS} {bx : List (Nat × Obj)} {g : Nat} {o : Obj} {x0 x1 : Nat × Obj} (h : Gs B w0 H0 G P M b l room s (x0 :: x1 :: (g, o) :: bx) w) : w.heap[g]? = some o := h.box (List.mem_cons_of_mem _ (List.mem_cons_of_mem _ List.mem_cons_self))
theorem Gs.b3 {B : Nat} {w0 w : World} {H0 : Nat → Prop} {G P M b l room : Nat} {s : GS} {bx : List (Nat × Obj)} {g : Nat} {o : Obj} {x0 x1 x2 : Nat × Obj} (h : Gs B w0 H0 G P M b l room s (x0 :: x1 :: x2 :: (g, o) :: bx) w) : w.heap[g]? = some o := h.box (List.mem_cons_of_mem _ (List.mem_cons_of_mem _ (List.mem_cons_of_mem _ List.mem_cons_self)))
theorem Gs.b4 {B : Nat} {w0 w : World} {H0 : Nat → Prop} {G P M b l room : Nat} {s : GS} {bx : List (Nat × Obj)} {g : Nat} {o : Obj} {x0 x1 x2 x3 : Nat × Obj} (h : Gs B w0 H0 G P M b l room s (x0 :: x1 :: x2 :: x3 :: (g, o) :: bx) w) : w.heap[g]? = some o := h.box (List.mem_cons_of_mem _ (List.mem_cons_of_mem _ (List.mem_cons_of_mem _ (List.mem_cons_of_mem _ List.mem_cons_self))))
set_option maxRecDepth 100000 in
theorem idx4 (f : Nat → Int) (k : Nat) (hk : k < 4) (w : World) : (Instr.index 93 (.agg #[.int .i64 (f 0), .int .i64 (f 1), .int .i64 (f 2), .int .i64 (f 3)]) (.int .i64 (k : Int))).run Tryz.prog w = .ok (.int .i64 (f k)) w := by
  rcases (show k = 0 ∨ k = 1 ∨ k = 2 ∨ k = 3 by omega) with rfl | rfl | rfl | rfl
  · exact idx4_0 _ _ _ _ w
  · exact idx4_1 _ _ _ _ w
  · exact idx4_2 _ _ _ _ w
  · exact idx4_3 _ _ _ _ w
/-- so many tiles in a row -/
def trow (F : Nat → T6) (n : Nat) : Array Value := ((List.range n).map (fun i => Value.int .u64 (rg (F i)))).toArray
theorem trow_size (F : Nat → T6) (n : Nat) : (trow F n).size = n := by simp [trow]
theorem trow_get (F : Nat → T6) (n i : Nat) (h : i < n) : (trow F n)[i]? = some (.int .u64 (rg (F i))) := by simp [trow, h]
theorem trow_set (F : Nat → T6) (n i : Nat) (x : T6) : (trow F n).setIfInBounds i (.int .u64 (rg x)) = trow (upd F i x) n := by
  apply Array.ext_getElem?
  intro j
  rw [Array.getElem?_setIfInBounds]
  by_cases e : i = j
  · subst e
    rw [if_pos rfl, trow_size]
    by_cases h : i < n
    · rw [if_pos h, trow_get _ _ _ h]; simp [upd]
    · rw [if_neg h]; simp [trow, h]
  · rw [if_neg e]
    have e2 : ¬ j = i := fun q => e q.symm
    by_cases h : j < n
    · rw [trow_get _ _ _ h, trow_get _ _ _ h]; simp [upd, e2]
    · simp [trow, h]
theorem tr_cell {w : World} {g n i : Nat} {F : Nat → T6} {T : TypeId} (h : w.heap[g]? = some (.cells (trow F n) T)) (hi : i < n) : w.cell? ⟨g, i, none⟩ = some (.int .u64 (rg (F i))) ∧ w.frozen? ⟨g, i, none⟩ = false :=
  ⟨by rw [cell_of_row _ _ i _ _ _ h]; exact trow_get F n i hi, frozen_of_row _ _ i _ _ h⟩
theorem tr_set {w : World} {g n i : Nat} {F : Nat → T6} {T : TypeId} (h : w.heap[g]? = some (.cells (trow F n) T)) (x : T6) : (w.setCell ⟨g, i, none⟩ (.int .u64 (rg x))).heap[g]? = some (.cells (trow (upd F i x) n) T) := by
  rw [heap_setCell_same _ _ i _ _ _ h, trow_set]
/-- the first k are copied -/
def cpF {α : Type} (z : α) (q : Nat → α) (k : Nat) : Nat → α := fun j => if j < k then q j else z
theorem cp_step {α : Type} (z : α) (q : Nat → α) (k : Nat) : upd (cpF z q k) k (q k) = cpF z q (k + 1) := by
  funext j
  unfold upd cpF
  by_cases e : j = k
  · subst e; simp
  · rw [if_neg e]
    by_cases h : j < k
    · rw [if_pos h, if_pos (by omega)]
    · rw [if_neg h, if_neg (by omega)]
set_option maxRecDepth 100000 in
theorem info_t4 : (Tryz.prog.info? 167).map (·.size) = some 4 := by kernel_rfl
abbrev zt4 : Obj := .cells (trow (fun _ => 0#64) 4) 167
theorem zt4_is : (.cells #[.int .u64 0, .int .u64 0, .int .u64 0, .int .u64 0] 167 : Obj) = zt4 := rfl
abbrev ob4 (f : Nat → Int) : Obj := .cells #[.int .i64 (f 0), .int .i64 (f 1), .int .i64 (f 2), .int .i64 (f 3)] 93
abbrev vb4 (f : Nat → Int) : Value := .agg #[.int .i64 (f 0), .int .i64 (f 1), .int .i64 (f 2), .int .i64 (f 3)]
theorem Gs.set4 {B : Nat} {w0 w : World} {H0 : Nat → Prop} {G P M b l room : Nat} {s : GS} {bx : List (Nat × Obj)} {g : Nat} {T : TypeId} {a0 a1 a2 a3 : Value} (h : Gs B w0 H0 G P M b l room s ((g, .cells #[a0, a1, a2, a3] T) :: bx) w) (v0 v1 v2 v3 : Value) :
    Gs B w0 H0 G P M b l room s ((g, .cells #[v0, v1, v2, v3] T) :: bx) (set4 w g v0 v1 v2 v3) := by
  have h0 := heap_setCell_same w g 0 _ _ v0 h.b0
  have h1 := heap_setCell_same _ g 1 _ _ v1 h0
  have h2 := heap_setCell_same _ g 2 _ _ v2 h1
  have h3 := heap_setCell_same _ g 3 _ _ v3 h2
  exact (((h.set h0).set h1).set h2).set (by rw [h3]; rfl)
set_option maxRecDepth 100000 in
set_option maxHeartbeats 2000000 in
theorem tiles_ok {B : Nat} {w : World} {G P M b l : Nat} {s : GS} {room : Nat} {H : Nat → Prop} (h : Gr B w G P M b l s room H) (f : Nat → Int) (t : Nat → T6) (hf : ∀ i, i < 4 → Lv s.1 0 (f i) ∧ (at' s.1 (f i)).til = t i) :
    Calls Tryz.prog 82 #[.pointer (some ⟨G, 0, none⟩), vb4 f] w fun e w' => e = .returned (.tuple #[.agg #[.int .u64 (rg (t 0)), .int .u64 (rg (t 1)), .int .u64 (rg (t 2)), .int .u64 (rg (t 3))], .nilIface]) ∧ Gt B w G P M b l room H s w' := by
  have HS : Hid (Gs B w H G P M b l room s [(w.heap.size + 1 + 1, .cells (trow (cpF 0#64 t 0) 4) 167), (w.heap.size + 1, .cells #[.int .u64 0, .int .u64 0, .int .u64 0, .int .u64 0] 167), (w.heap.size, ob4 f)] (((w.alloc (.cells #[.int .i64 (f 0), .int .i64 (f 1), .int .i64 (f 2), .int .i64 (f 3)] 93)).alloc (.cells #[.int .u64 0, .int .u64 0, .int .u64 0, .int .u64 0] 167)).alloc (.cells #[.int .u64 0, .int .u64 0, .int .u64 0, .int .u64 0] 167))) := Lib.hid ((((Gs.start h).alloc' (ob4 f) rfl).alloc' zt4 (n := w.heap.size + 1) (by simp)).alloc' zt4 (n := w.heap.size + 1 + 1) (by simp))
  have HF := Lib.hid hf
  clear h hf
  go_enter Tryz.func82, Tryz.ntmps82
  go_wp2
  generalize World.alloc _ _ = W at HS ⊢
  go_loopw [5, 12] (fun v i wr => ∃ k : Nat, k ≤ 4 ∧ v = .nilIface ∧ i = .int .i64 k ∧ Hid (Gs B w H G P M b l room s [(w.heap.size + 1 + 1, .cells (trow (cpF 0#64 t k) 4) 167), (w.heap.size + 1, .cells #[.int .u64 0, .int .u64 0, .int .u64 0, .int .u64 0] 167), (w.heap.size, ob4 f)] wr)) (fun _ i _ => 4 - (intOf i).toNat)
  case atStart => exact ⟨0, by omega, rfl, rfl, HS⟩
  case round =>
    clear HS
    obtain ⟨k, hk, rfl, rfl, HR⟩ := hrel
    have k0 : (0 : Int) ≤ (k : Int) := by omega
    by_cases hlt : k < 4
    · have k1 : (k : Int) < 4 := by omega
      have hx := idx4 f k hlt
      have hp := HR.out.ptr
      obtain ⟨Hs, hst, _⟩ := HR.out.store
      have HC := Lib.hid (tile_ok hst (f k) (HF.out k hlt).1 (t k) (HF.out k hlt).2)
      have HLT := Lib.hid hlt
      clear hst
      generalize f k = fk at *
      go_wp2_with fail
      refine HC.out.mono ?_
      rintro e w1 ⟨rfl, hb⟩
      have HR1 := Lib.hid (HR.out.below hb)
      have hc := tr_cell (HR1.out.b0) HLT.out
      obtain ⟨c1, c2⟩ := hc
      have HP := Lib.hid (cp_step (0#64) t k ▸ tr_set (HR1.out.b0) (t k))
      clear hb HR hx hp HC
      go_wp2
      go_roundw
      case rel => exact ⟨k + 1, by have := HLT.out; omega, rfl, by go_num, Lib.hid (HR1.out.set HP.out)⟩
      case measure => have := HLT.out; simp [intOf]; omega
    · obtain rfl : k = 4 := by omega
      have h0 : wr.heap[w.heap.size + 1 + 1]? = some (.cells #[.int .u64 (rg (t 0)), .int .u64 (rg (t 1)), .int .u64 (rg (t 2)), .int .u64 (rg (t 3))] 167 (0, 0)) := HR.out.b0
      have h1 : wr.heap[w.heap.size + 1]? = some (.cells #[.int .u64 0, .int .u64 0, .int .u64 0, .int .u64 0] 167 (0, 0)) := HR.out.b1
      obtain ⟨c0, c1, c2, c3⟩ := row4 h0
      obtain ⟨d0, d1, d2, d3⟩ := row4 h1
      have f0 := frozen_of_row _ _ 0 _ _ h1
      have f1 := frozen_of_row _ _ 1 _ _ h1
      have f2 := frozen_of_row _ _ 2 _ _ h1
      have f3 := frozen_of_row _ _ 3 _ _ h1
      have HX := Lib.hid h1
      have HE := Lib.hid (Gs.set4 (HR.out.sub (by' := [(w.heap.size + 1, .cells #[.int .u64 0, .int .u64 0, .int .u64 0, .int .u64 0] 167)]) (by simp) (by simp)) (.int .u64 (rg (t 0))) (.int .u64 (rg (t 1))) (.int .u64 (rg (t 2))) (.int .u64 (rg (t 3))))
      clear h0 h1 HR
      go_wp2
      refine post_row_tmp Tryz.results82 (w.heap.size + 1) 167 #[.int .u64 (rg (t 0)), .int .u64 (rg (t 1)), .int .u64 (rg (t 2)), .int .u64 (rg (t 3))] (0, 0) _ .nilIface Tryz.underlying167 rfl info_t4 ?_ ?_ (row_set4 HX.out _ _ _ _) ?_ ?_
      · rfl
      · rfl
      · rfl
      exact ⟨rfl, HE.out.gt⟩
end Go.Proofs.YtlejohclijjhnaaGreatDoor
namespace Go.Proofs.YtlejohclijjhnaaGreatDoor
open Go.RowKit Ti Qd Go.Maps Go.WideMaps

theorem Gs.setRow {B : Nat} {w0 w : World} {H0 : Nat → Prop} {G P M b l room : Nat} {s : GS} {bx : List (Nat × Obj)} {g : Nat} {T : TypeId} {old : Array Value} (h : Gs B w0 H0 G P M b l room s ((g, .cells old T) :: bx) w) (cs : Array Value) : Gs B w0 H0 G P M b l room s ((g, .cells cs T) :: bx) (w.setRow g cs) := by
  obtain ⟨⟨H, h1, h2, h3⟩, h4, h5⟩ := h
  have hg := h3 _ (List.mem_cons_self)
  rw [List.map_cons, List.nodup_cons] at h4
  have ne : ∀ x, ¬ g = x → (w.setRow g cs).heap[x]? = w.heap[x]? := fun x hx => setRow_other w g x cs (fun e => hx e.symm)
  have gr : Gr B (w.setRow g cs) G P M b l s room H := by
    obtain ⟨Hs, hs, rfl⟩ := h1
    exact ⟨Hs, hs.moved (ne _ fun e => by have := hg.1; simp only at this; omega) (ne _ fun e => hg.2.1 (.inl e)) (fun x hx => ne _ fun e => hg.2.1 (.inr (e ▸ hx))), rfl⟩
  refine ⟨⟨H, gr, ⟨h2.os, h2.tape, h2.output, by simpa [World.setRow] using h2.size, fun k hk hn => (ne k fun e => by have := hg.1; simp only at this; omega).trans (h2.block k hk hn), h2.own⟩, fun x hx => ?_⟩, by rw [List.map_cons, List.nodup_cons]; exact h4, h5⟩
  rcases List.mem_cons.1 hx with rfl | hx
  · exact ⟨hg.1, hg.2.1, setRow_heap _ _ _ _ _ _ hg.2.2⟩
  · exact ⟨(h3 x (List.mem_cons_of_mem _ hx)).1, (h3 x (List.mem_cons_of_mem _ hx)).2.1, (ne _ fun q => h4.1 (List.mem_map.2 ⟨x, hx, q.symm⟩)).trans (h3 x (List.mem_cons_of_mem _ hx)).2.2⟩
theorem Gs.tail {B : Nat} {w0 w : World} {H0 : Nat → Prop} {G P M b l room : Nat} {s : GS} {bx : List (Nat × Obj)} {x : Nat × Obj} (h : Gs B w0 H0 G P M b l room s (x :: bx) w) : Gs B w0 H0 G P M b l room s bx w :=
  h.sub (fun y hy => List.mem_cons_of_mem _ hy) (by have := h.nd; rw [List.map_cons, List.nodup_cons] at this; exact this.2)
/-- the sixteen, so many laid -/
def lyF (q : Nat → Int) (c : Nat) : Nat → Int := fun p => if (p / 8 * 2 + p % 4 / 2) * 4 + (p / 4 % 2 * 2 + p % 2) < c then q p else 0
def lyP (i j : Nat) : Nat := 4 * (i / 2 * 2 + j / 2) + i % 2 * 2 + j % 2
theorem ly_code (p : Nat) : p / 8 * 2 * 4 + p % 4 / 2 * 4 + (p / 4 % 2 * 2 + p % 2) = 8 * (p / 8) + 4 * (p % 4 / 2) + 2 * (p / 4 % 2) + p % 2 ∧ p = 8 * (p / 8) + 4 * (p / 4 % 2) + 2 * (p % 4 / 2) + p % 2 := by omega
theorem ly_eq (p i j : Nat) (hi : i < 4) (hj : j < 4) (h : (p / 8 * 2 + p % 4 / 2) * 4 + (p / 4 % 2 * 2 + p % 2) = 4 * i + j) : p = lyP i j := by
  have h1 := ly_code p
  unfold lyP
  rcases (show i = 0 ∨ i = 1 ∨ i = 2 ∨ i = 3 by omega) with rfl | rfl | rfl | rfl <;> rcases (show j = 0 ∨ j = 1 ∨ j = 2 ∨ j = 3 by omega) with rfl | rfl | rfl | rfl <;> omega
theorem ly_pos (i j : Nat) (hi : i < 4) (hj : j < 4) : (lyP i j / 8 * 2 + lyP i j % 4 / 2) * 4 + (lyP i j / 4 % 2 * 2 + lyP i j % 2) = 4 * i + j := by
  unfold lyP
  rcases (show i = 0 ∨ i = 1 ∨ i = 2 ∨ i = 3 by omega) with rfl | rfl | rfl | rfl <;> rcases (show j = 0 ∨ j = 1 ∨ j = 2 ∨ j = 3 by omega) with rfl | rfl | rfl | rfl <;> rfl
theorem ly_step (q : Nat → Int) (i j : Nat) (hi : i < 4) (hj : j < 4) : upd (lyF q (4 * i + j)) (lyP i j) (q (lyP i j)) = lyF q (4 * i + (j + 1)) := by
  funext p
  unfold upd lyF
  by_cases e : p = lyP i j
  · rw [if_pos e, if_pos (by subst e; have := ly_pos i j hi hj; omega), e]
  · rw [if_neg e]
    by_cases h : (p / 8 * 2 + p % 4 / 2) * 4 + (p / 4 % 2 * 2 + p % 2) < 4 * i + j
    · rw [if_pos h, if_pos (by omega)]
    · rw [if_neg h, if_neg (fun k => e (ly_eq p i j hi hj (by omega)))]
theorem ly_all (q : Nat → Int) : ir (lyF q 16) 16 = ir q 16 := ir_ext fun p hp => by
  unfold lyF
  rw [if_pos (by omega)]
def sx4 (L : List Sq) (f : Nat → Int) (k : Nat) : Int := kid (at' L (f (k / 8 * 2 + k % 4 / 2))) (k / 4 % 2 * 2 + k % 2)
theorem sx4_at (L : List Sq) (f : Nat → Int) (i j : Nat) (hi : i < 4) (hj : j < 4) : sx4 L f (lyP i j) = kid (at' L (f i)) j := by
  unfold sx4 lyP
  rcases (show i = 0 ∨ i = 1 ∨ i = 2 ∨ i = 3 by omega) with rfl | rfl | rfl | rfl <;> rcases (show j = 0 ∨ j = 1 ∨ j = 2 ∨ j = 3 by omega) with rfl | rfl | rfl | rfl <;> rfl
set_option maxRecDepth 100000 in
theorem info_16 (F : Nat → Int) : (Tryz.prog.info? 139).map (·.size) = some (ir F 16).size := by
  rw [ir_size]
  kernel_rfl
abbrev z16 : Obj := .cells #[.int .i64 0, .int .i64 0, .int .i64 0, .int .i64 0, .int .i64 0, .int .i64 0, .int .i64 0, .int .i64 0, .int .i64 0, .int .i64 0, .int .i64 0, .int .i64 0, .int .i64 0, .int .i64 0, .int .i64 0, .int .i64 0] 139
theorem ir_one (F : Nat → Int) (n : Nat) : (ir F n).all (·.oneCell') = true := by
  rw [Array.all_eq_true]
  intro i hi
  simp [ir, Value.oneCell']
end Go.Proofs.YtlejohclijjhnaaGreatDoor

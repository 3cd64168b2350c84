/-
  THE WALKS of the maker's tiles and sixteen. Conditions: the grower lies in memory.
  THE WALK of the maker's sixteen. Conditions: the grower lies in memory.
  THE WALK of the maker's middle, of tiles and of squares above. Conditions: the grower lies in memory, and there is room.
-/
import Derived.Test.YtkefjkfknegogaaGreatP26
namespace Go.Proofs.YtkefjkfknegogaaGreat
open Go.RowKit Ti Qd Go.Maps Go.WideMaps

theorem Gs.alloc' {B n : Nat} {w0 w : World} {H0 : Nat → Prop} {G P M b l room : Nat} {s : GS} {bx : List (Nat × Obj)} (h : Gs B w0 H0 G P M b l room s bx w) (o : Obj) (hn : w.heap.size = n) : Gs B w0 H0 G P M b l room s ((n, o) :: bx) (w.alloc o) := hn ▸ h.alloc o
theorem Gs.store {B : Nat} {w0 w : World} {H0 : Nat → Prop} {G P M b l room : Nat} {s : GS} {bx : List (Nat × Obj)} (h : Gs B w0 H0 G P M b l room s bx w) : ∃ Hs, St B w P s.1 room Hs ∧ ∀ (L' : List Sq) (w' : World), Goes B w P room Hs L' w' → Gs B w0 H0 G P M b l room (L', s.2) bx w' := by
  obtain ⟨⟨H, h1, h2, h3⟩, h4, h5⟩ := h
  obtain ⟨Hs, k1, k2⟩ := h1.store
  exact ⟨Hs, k1, fun _ _ hg => Gs.goes ⟨h1, h2, h3⟩ h4 h5 (k2 hg)⟩
theorem Gs.call {B : Nat} {w0 w : World} {H0 : Nat → Prop} {G P M b l room : Nat} {s : GS} {bx : List (Nat × Obj)} (h : Gs B w0 H0 G P M b l room s bx w) : ∃ H, Gr B w G P M b l s room H ∧ ∀ (s' : GS) (w' : World), Gt B w G P M b l room H s' w' → Gs B w0 H0 G P M b l room s' bx w' := by
  obtain ⟨⟨H, h1, h2, h3⟩, h4, h5⟩ := h
  exact ⟨H, h1, fun _ _ hg => Gs.goes ⟨h1, h2, h3⟩ h4 h5 hg⟩
theorem Gs.ptr {B : Nat} {w0 w : World} {H0 : Nat → Prop} {G P M b l room : Nat} {s : GS} {bx : List (Nat × Obj)} (h : Gs B w0 H0 G P M b l room s bx w) : w.cell? ⟨G, 0, none⟩ = some (.pointer (some ⟨P, 0, none⟩)) := by
  obtain ⟨⟨H, ⟨Hs, hs, _⟩, _⟩, _⟩ := h
  exact hs.c0
theorem Gs.rul {B : Nat} {w0 w : World} {H0 : Nat → Prop} {G P M b l room : Nat} {s : GS} {bx : List (Nat × Obj)} (h : Gs B w0 H0 G P M b l room s bx w) : w.cell? ⟨G, 1, none⟩ = some (.int .u16 b) ∧ w.cell? ⟨G, 2, none⟩ = some (.int .u16 l) ∧ w.cell? ⟨G, 3, none⟩ = some (.map (some M)) := by
  obtain ⟨⟨H, ⟨Hs, hs, _⟩, _⟩, _⟩ := h
  exact ⟨hs.c1, hs.c2, hs.c3⟩
theorem Gs.inv {B : Nat} {w0 w : World} {H0 : Nat → Prop} {G P M b l room : Nat} {s : GS} {bx : List (Nat × Obj)} (h : Gs B w0 H0 G P M b l room s bx w) : Inv s.1 ∧ s.1.length ≤ 65536 := by
  obtain ⟨⟨H, ⟨Hs, hs, _⟩, _⟩, _⟩ := h
  exact ⟨hs.st.inv, hs.st.small⟩
theorem Gs.b0 {B : Nat} {w0 w : World} {H0 : Nat → Prop} {G P M b l room : Nat} {s : GS} {bx : List (Nat × Obj)} {g : Nat} {o : Obj} (h : Gs B w0 H0 G P M b l room s ((g, o) :: bx) w) : w.heap[g]? = some o := h.box List.mem_cons_self
theorem Gs.b1 {B : Nat} {w0 w : World} {H0 : Nat → Prop} {G P M b l room : Nat} {s : GS} {bx : List (Nat × Obj)} {g : Nat} {o : Obj} {x0 : Nat × Obj} (h : Gs B w0 H0 G P M b l room s (x0 :: (g, o) :: bx) w) : w.heap[g]? = some o := h.box (List.mem_cons_of_mem _ List.mem_cons_self)
theorem Gs.b2 {B : Nat} {w0 w : World} {H0 : Nat → Prop} {G P M b l room : Nat} {s : GS} {bx : List (Nat × Obj)} {g : Nat} {o : Obj} {x0 x1 : Nat × Obj} (h : Gs B w0 H0 G P M b l room s (x0 :: x1 :: (g, o) :: bx) w) : w.heap[g]? = some o := h.box (List.mem_cons_of_mem _ (List.mem_cons_of_mem _ List.mem_cons_self))
theorem Gs.b3 {B : Nat} {w0 w : World} {H0 : Nat → Prop} {G P M b l room : Nat} {s : GS} {bx : List (Nat × Obj)} {g : Nat} {o : Obj} {x0 x1 x2 : Nat × Obj} (h : Gs B w0 H0 G P M b l room s (x0 :: x1 :: x2 :: (g, o) :: bx) w) : w.heap[g]? = some o := h.box (List.mem_cons_of_mem _ (List.mem_cons_of_mem _ (List.mem_cons_of_mem _ List.mem_cons_self)))
theorem Gs.b4 {B : Nat} {w0 w : World} {H0 : Nat → Prop} {G P M b l room : Nat} {s : GS} {bx : List (Nat × Obj)} {g : Nat} {o : Obj} {x0 x1 x2 x3 : Nat × Obj} (h : Gs B w0 H0 G P M b l room s (x0 :: x1 :: x2 :: x3 :: (g, o) :: bx) w) : w.heap[g]? = some o := h.box (List.mem_cons_of_mem _ (List.mem_cons_of_mem _ (List.mem_cons_of_mem _ (List.mem_cons_of_mem _ List.mem_cons_self))))
set_option maxRecDepth 100000 in
theorem idx4 (f : Nat → Int) (k : Nat) (hk : k < 4) (w : World) : (Instr.index 96 (.agg #[.int .i64 (f 0), .int .i64 (f 1), .int .i64 (f 2), .int .i64 (f 3)]) (.int .i64 (k : Int))).run Tryz.prog w = .ok (.int .i64 (f k)) w := by
  rcases (show k = 0 ∨ k = 1 ∨ k = 2 ∨ k = 3 by omega) with rfl | rfl | rfl | rfl
  · exact idx4_0 _ _ _ _ w
  · exact idx4_1 _ _ _ _ w
  · exact idx4_2 _ _ _ _ w
  · exact idx4_3 _ _ _ _ w
/-- so many tiles in a row -/
def trow (F : Nat → T6) (n : Nat) : Array Value := ((List.range n).map (fun i => Value.int .u64 (rg (F i)))).toArray
theorem trow_size (F : Nat → T6) (n : Nat) : (trow F n).size = n := by simp [trow]
theorem trow_get (F : Nat → T6) (n i : Nat) (h : i < n) : (trow F n)[i]? = some (.int .u64 (rg (F i))) := by simp [trow, h]
theorem trow_set (F : Nat → T6) (n i : Nat) (x : T6) : (trow F n).setIfInBounds i (.int .u64 (rg x)) = trow (upd F i x) n := by
  apply Array.ext_getElem?
  intro j
  rw [Array.getElem?_setIfInBounds]
  by_cases e : i = j
  · subst e
    rw [if_pos rfl, trow_size]
    by_cases h : i < n
    · rw [if_pos h, trow_get _ _ _ h]; simp [upd]
    · rw [if_neg h]; simp [trow, h]
  · rw [if_neg e]
    have e2 : ¬ j = i := fun q => e q.symm
    by_cases h : j < n
    · rw [trow_get _ _ _ h, trow_get _ _ _ h]; simp [upd, e2]
    · simp [trow, h]
theorem tr_cell {w : World} {g n i : Nat} {F : Nat → T6} {T : TypeId} (h : w.heap[g]? = some (.cells (trow F n) T)) (hi : i < n) : w.cell? ⟨g, i, none⟩ = some (.int .u64 (rg (F i))) ∧ w.frozen? ⟨g, i, none⟩ = false :=
  ⟨by rw [cell_of_row _ _ i _ _ _ h]; exact trow_get F n i hi, frozen_of_row _ _ i _ _ h⟩
theorem tr_set {w : World} {g n i : Nat} {F : Nat → T6} {T : TypeId} (h : w.heap[g]? = some (.cells (trow F n) T)) (x : T6) : (w.setCell ⟨g, i, none⟩ (.int .u64 (rg x))).heap[g]? = some (.cells (trow (upd F i x) n) T) := by
  rw [heap_setCell_same _ _ i _ _ _ h, trow_set]
/-- the first k are copied -/
def cpF {α : Type} (z : α) (q : Nat → α) (k : Nat) : Nat → α := fun j => if j < k then q j else z
theorem cp_step {α : Type} (z : α) (q : Nat → α) (k : Nat) : upd (cpF z q k) k (q k) = cpF z q (k + 1) := by
  funext j
  unfold upd cpF
  by_cases e : j = k
  · subst e; simp
  · rw [if_neg e]
    by_cases h : j < k
    · rw [if_pos h, if_pos (by omega)]
    · rw [if_neg h, if_neg (by omega)]
set_option maxRecDepth 100000 in
theorem info_t4 : (Tryz.prog.info? 142).map (·.size) = some 4 := by kernel_rfl
abbrev zt4 : Obj := .cells (trow (fun _ => 0#64) 4) 142
theorem zt4_is : (.cells #[.int .u64 0, .int .u64 0, .int .u64 0, .int .u64 0] 142 : Obj) = zt4 := rfl
abbrev ob4 (f : Nat → Int) : Obj := .cells #[.int .i64 (f 0), .int .i64 (f 1), .int .i64 (f 2), .int .i64 (f 3)] 96
abbrev vb4 (f : Nat → Int) : Value := .agg #[.int .i64 (f 0), .int .i64 (f 1), .int .i64 (f 2), .int .i64 (f 3)]
theorem Gs.set4 {B : Nat} {w0 w : World} {H0 : Nat → Prop} {G P M b l room : Nat} {s : GS} {bx : List (Nat × Obj)} {g : Nat} {T : TypeId} {a0 a1 a2 a3 : Value} (h : Gs B w0 H0 G P M b l room s ((g, .cells #[a0, a1, a2, a3] T) :: bx) w) (v0 v1 v2 v3 : Value) :
    Gs B w0 H0 G P M b l room s ((g, .cells #[v0, v1, v2, v3] T) :: bx) (set4 w g v0 v1 v2 v3) := by
  have h0 := heap_setCell_same w g 0 _ _ v0 h.b0
  have h1 := heap_setCell_same _ g 1 _ _ v1 h0
  have h2 := heap_setCell_same _ g 2 _ _ v2 h1
  have h3 := heap_setCell_same _ g 3 _ _ v3 h2
  exact (((h.set h0).set h1).set h2).set (by rw [h3]; rfl)
set_option maxRecDepth 100000 in
set_option maxHeartbeats 2000000 in
theorem tiles_ok {B : Nat} {w : World} {G P M b l : Nat} {s : GS} {room : Nat} {H : Nat → Prop} (h : Gr B w G P M b l s room H) (f : Nat → Int) (t : Nat → T6) (hf : ∀ i, i < 4 → Lv s.1 0 (f i) ∧ (at' s.1 (f i)).til = t i) :
    Calls Tryz.prog 73 #[.pointer (some ⟨G, 0, none⟩), vb4 f] w fun e w' => e = .returned (.tuple #[.agg #[.int .u64 (rg (t 0)), .int .u64 (rg (t 1)), .int .u64 (rg (t 2)), .int .u64 (rg (t 3))], .nilIface]) ∧ Gt B w G P M b l room H s w' := by
  have HS : Hid (Gs B w H G P M b l room s [(w.heap.size + 1 + 1, .cells (trow (cpF 0#64 t 0) 4) 142), (w.heap.size + 1, .cells #[.int .u64 0, .int .u64 0, .int .u64 0, .int .u64 0] 142), (w.heap.size, ob4 f)] (((w.alloc (.cells #[.int .i64 (f 0), .int .i64 (f 1), .int .i64 (f 2), .int .i64 (f 3)] 96)).alloc (.cells #[.int .u64 0, .int .u64 0, .int .u64 0, .int .u64 0] 142)).alloc (.cells #[.int .u64 0, .int .u64 0, .int .u64 0, .int .u64 0] 142))) := Lib.hid ((((Gs.start h).alloc' (ob4 f) rfl).alloc' zt4 (n := w.heap.size + 1) (by simp)).alloc' zt4 (n := w.heap.size + 1 + 1) (by simp))
  have HF := Lib.hid hf
  clear h hf
  go_enter Tryz.func73, Tryz.ntmps73
  go_wp2
  generalize World.alloc _ _ = W at HS ⊢
  go_loopw [5, 12] (fun v i wr => ∃ k : Nat, k ≤ 4 ∧ v = .nilIface ∧ i = .int .i64 k ∧ Hid (Gs B w H G P M b l room s [(w.heap.size + 1 + 1, .cells (trow (cpF 0#64 t k) 4) 142), (w.heap.size + 1, .cells #[.int .u64 0, .int .u64 0, .int .u64 0, .int .u64 0] 142), (w.heap.size, ob4 f)] wr)) (fun _ i _ => 4 - (intOf i).toNat)
  case atStart => exact ⟨0, by omega, rfl, rfl, HS⟩
  case round =>
    clear HS
    obtain ⟨k, hk, rfl, rfl, HR⟩ := hrel
    have k0 : (0 : Int) ≤ (k : Int) := by omega
    by_cases hlt : k < 4
    · have k1 : (k : Int) < 4 := by omega
      have hx := idx4 f k hlt
      have hp := HR.out.ptr
      obtain ⟨Hs, hst, _⟩ := HR.out.store
      have HC := Lib.hid (tile_ok hst (f k) (HF.out k hlt).1 (t k) (HF.out k hlt).2)
      have HLT := Lib.hid hlt
      clear hst
      generalize f k = fk at *
      go_wp2_with fail
      refine HC.out.mono ?_
      rintro e w1 ⟨rfl, hb⟩
      have HR1 := Lib.hid (HR.out.below hb)
      have hc := tr_cell (HR1.out.b0) HLT.out
      obtain ⟨c1, c2⟩ := hc
      have HP := Lib.hid (cp_step (0#64) t k ▸ tr_set (HR1.out.b0) (t k))
      clear hb HR hx hp HC
      go_wp2
      go_roundw
      case rel => exact ⟨k + 1, by have := HLT.out; omega, rfl, by go_num, Lib.hid (HR1.out.set HP.out)⟩
      case measure => have := HLT.out; simp [intOf]; omega
    · obtain rfl : k = 4 := by omega
      have h0 : wr.heap[w.heap.size + 1 + 1]? = some (.cells #[.int .u64 (rg (t 0)), .int .u64 (rg (t 1)), .int .u64 (rg (t 2)), .int .u64 (rg (t 3))] 142 (0, 0)) := HR.out.b0
      have h1 : wr.heap[w.heap.size + 1]? = some (.cells #[.int .u64 0, .int .u64 0, .int .u64 0, .int .u64 0] 142 (0, 0)) := HR.out.b1
      obtain ⟨c0, c1, c2, c3⟩ := row4 h0
      obtain ⟨d0, d1, d2, d3⟩ := row4 h1
      have f0 := frozen_of_row _ _ 0 _ _ h1
      have f1 := frozen_of_row _ _ 1 _ _ h1
      have f2 := frozen_of_row _ _ 2 _ _ h1
      have f3 := frozen_of_row _ _ 3 _ _ h1
      have HX := Lib.hid h1
      have HE := Lib.hid (Gs.set4 (HR.out.sub (by' := [(w.heap.size + 1, .cells #[.int .u64 0, .int .u64 0, .int .u64 0, .int .u64 0] 142)]) (by simp) (by simp)) (.int .u64 (rg (t 0))) (.int .u64 (rg (t 1))) (.int .u64 (rg (t 2))) (.int .u64 (rg (t 3))))
      clear h0 h1 HR
      go_wp2
      refine post_row_tmp Tryz.results73 (w.heap.size + 1) 142 #[.int .u64 (rg (t 0)), .int .u64 (rg (t 1)), .int .u64 (rg (t 2)), .int .u64 (rg (t 3))] (0, 0) _ .nilIface Tryz.underlying142 rfl info_t4 ?_ ?_ (row_set4 HX.out _ _ _ _) ?_ ?_
      · rfl
      · rfl
      · rfl
      exact ⟨rfl, HE.out.gt⟩
end Go.Proofs.YtkefjkfknegogaaGreat
namespace Go.Proofs.YtkefjkfknegogaaGreat
open Go.RowKit Ti Qd Go.Maps Go.WideMaps

theorem Gs.setRow {B : Nat} {w0 w : World} {H0 : Nat → Prop} {G P M b l room : Nat} {s : GS} {bx : List (Nat × Obj)} {g : Nat} {T : TypeId} {old : Array Value} (h : Gs B w0 H0 G P M b l room s ((g, .cells old T) :: bx) w) (cs : Array Value) : Gs B w0 H0 G P M b l room s ((g, .cells cs T) :: bx) (w.setRow g cs) := by
  obtain ⟨⟨H, h1, h2, h3⟩, h4, h5⟩ := h
  have hg := h3 _ (List.mem_cons_self)
  rw [List.map_cons, List.nodup_cons] at h4
  have ne : ∀ x, ¬ g = x → (w.setRow g cs).heap[x]? = w.heap[x]? := fun x hx => setRow_other w g x cs (fun e => hx e.symm)
  have gr : Gr B (w.setRow g cs) G P M b l s room H := by
    obtain ⟨Hs, hs, rfl⟩ := h1
    exact ⟨Hs, hs.moved (ne _ fun e => by have := hg.1; simp only at this; omega) (ne _ fun e => hg.2.1 (.inl e)) (fun x hx => ne _ fun e => hg.2.1 (.inr (e ▸ hx))), rfl⟩
  refine ⟨⟨H, gr, ⟨h2.os, h2.tape, h2.output, by simpa [World.setRow] using h2.size, fun k hk hn => (ne k fun e => by have := hg.1; simp only at this; omega).trans (h2.block k hk hn), h2.own⟩, fun x hx => ?_⟩, by rw [List.map_cons, List.nodup_cons]; exact h4, h5⟩
  rcases List.mem_cons.1 hx with rfl | hx
  · exact ⟨hg.1, hg.2.1, setRow_heap _ _ _ _ _ _ hg.2.2⟩
  · exact ⟨(h3 x (List.mem_cons_of_mem _ hx)).1, (h3 x (List.mem_cons_of_mem _ hx)).2.1, (ne _ fun q => h4.1 (List.mem_map.2 ⟨x, hx, q.symm⟩)).trans (h3 x (List.mem_cons_of_mem _ hx)).2.2⟩
theorem Gs.tail {B : Nat} {w0 w : World} {H0 : Nat → Prop} {G P M b l room : Nat} {s : GS} {bx : List (Nat × Obj)} {x : Nat × Obj} (h : Gs B w0 H0 G P M b l room s (x :: bx) w) : Gs B w0 H0 G P M b l room s bx w :=
  h.sub (fun y hy => List.mem_cons_of_mem _ hy) (by have := h.nd; rw [List.map_cons, List.nodup_cons] at this; exact this.2)
/-- the sixteen, so many laid -/
def lyF (q : Nat → Int) (c : Nat) : Nat → Int := fun p => if (p / 8 * 2 + p % 4 / 2) * 4 + (p / 4 % 2 * 2 + p % 2) < c then q p else 0
def lyP (i j : Nat) : Nat := 4 * (i / 2 * 2 + j / 2) + i % 2 * 2 + j % 2
theorem ly_code (p : Nat) : p / 8 * 2 * 4 + p % 4 / 2 * 4 + (p / 4 % 2 * 2 + p % 2) = 8 * (p / 8) + 4 * (p % 4 / 2) + 2 * (p / 4 % 2) + p % 2 ∧ p = 8 * (p / 8) + 4 * (p / 4 % 2) + 2 * (p % 4 / 2) + p % 2 := by omega
theorem ly_eq (p i j : Nat) (hi : i < 4) (hj : j < 4) (h : (p / 8 * 2 + p % 4 / 2) * 4 + (p / 4 % 2 * 2 + p % 2) = 4 * i + j) : p = lyP i j := by
  have h1 := ly_code p
  unfold lyP
  rcases (show i = 0 ∨ i = 1 ∨ i = 2 ∨ i = 3 by omega) with rfl | rfl | rfl | rfl <;> rcases (show j = 0 ∨ j = 1 ∨ j = 2 ∨ j = 3 by omega) with rfl | rfl | rfl | rfl <;> omega
theorem ly_pos (i j : Nat) (hi : i < 4) (hj : j < 4) : (lyP i j / 8 * 2 + lyP i j % 4 / 2) * 4 + (lyP i j / 4 % 2 * 2 + lyP i j % 2) = 4 * i + j := by
  unfold lyP
  rcases (show i = 0 ∨ i = 1 ∨ i = 2 ∨ i = 3 by omega) with rfl | rfl | rfl | rfl <;> rcases (show j = 0 ∨ j = 1 ∨ j = 2 ∨ j = 3 by omega) with rfl | rfl | rfl | rfl <;> rfl
theorem ly_step (q : Nat → Int) (i j : Nat) (hi : i < 4) (hj : j < 4) : upd (lyF q (4 * i + j)) (lyP i j) (q (lyP i j)) = lyF q (4 * i + (j + 1)) := by
  funext p
  unfold upd lyF
  by_cases e : p = lyP i j
  · rw [if_pos e, if_pos (by subst e; have := ly_pos i j hi hj; omega), e]
  · rw [if_neg e]
    by_cases h : (p / 8 * 2 + p % 4 / 2) * 4 + (p / 4 % 2 * 2 + p % 2) < 4 * i + j
    · rw [if_pos h, if_pos (by omega)]
    · rw [if_neg h, if_neg (fun k => e (ly_eq p i j hi hj (by omega)))]
theorem ly_all (q : Nat → Int) : ir (lyF q 16) 16 = ir q 16 := ir_ext fun p hp => by
  unfold lyF
  rw [if_pos (by omega)]
def sx4 (L : List Sq) (f : Nat → Int) (k : Nat) : Int := kid (at' L (f (k / 8 * 2 + k % 4 / 2))) (k / 4 % 2 * 2 + k % 2)
theorem sx4_at (L : List Sq) (f : Nat → Int) (i j : Nat) (hi : i < 4) (hj : j < 4) : sx4 L f (lyP i j) = kid (at' L (f i)) j := by
  unfold sx4 lyP
  rcases (show i = 0 ∨ i = 1 ∨ i = 2 ∨ i = 3 by omega) with rfl | rfl | rfl | rfl <;> rcases (show j = 0 ∨ j = 1 ∨ j = 2 ∨ j = 3 by omega) with rfl | rfl | rfl | rfl <;> rfl
set_option maxRecDepth 100000 in
theorem info_16 (F : Nat → Int) : (Tryz.prog.info? 125).map (·.size) = some (ir F 16).size := by
  rw [ir_size]
  kernel_rfl
abbrev z16 : Obj := .cells #[.int .i64 0, .int .i64 0, .int .i64 0, .int .i64 0, .int .i64 0, .int .i64 0, .int .i64 0, .int .i64 0, .int .i64 0, .int .i64 0, .int .i64 0, .int .i64 0, .int .i64 0, .int .i64 0, .int .i64 0, .int .i64 0] 125
theorem ir_one (F : Nat → Int) (n : Nat) : (ir F n).all (·.oneCell') = true := by
  rw [Array.all_eq_true]
  intro i hi
  simp [ir, Value.oneCell']
set_option maxRecDepth 100000 in
set_option maxHeartbeats 4000000 in
theorem sixteen_ok {B : Nat} {w : World} {G P M b l : Nat} {s : GS} {room : Nat} {H : Nat → Prop} (h : Gr B w G P M b l s room H) (f : Nat → Int) (n : Nat) (hf : ∀ i, i < 4 → Lv s.1 (n + 1) (f i)) :
    Calls Tryz.prog 76 #[.pointer (some ⟨G, 0, none⟩), vb4 f] w fun e w' => e = .returned (.tuple #[.agg (ir (sx4 s.1 f) 16), .nilIface]) ∧ Gt B w G P M b l room H s w' := by
  have HS : Hid (Gs B w H G P M b l room s [(w.heap.size + 1 + 1, .cells (ir (lyF (sx4 s.1 f) (4 * 0)) 16) 125), (w.heap.size + 1, .cells (ir (fun _ => 0) 16) 125), (w.heap.size, ob4 f)] (((w.alloc (.cells #[.int .i64 (f 0), .int .i64 (f 1), .int .i64 (f 2), .int .i64 (f 3)] 96)).alloc z16).alloc z16)) := Lib.hid ((((Gs.start h).alloc' (ob4 f) rfl).alloc' (.cells (ir (fun _ => 0) 16) 125) (n := w.heap.size + 1) (by simp)).alloc' (.cells (ir (fun _ => 0) 16) 125) (n := w.heap.size + 1 + 1) (by simp))
  have HF := Lib.hid hf
  clear h hf
  go_enter Tryz.func76, Tryz.ntmps76
  go_wp2
  generalize World.alloc _ _ = W at HS ⊢
  go_loopw [5, 14] (fun v i wr => ∃ k : Nat, k ≤ 4 ∧ v = .nilIface ∧ i = .int .i64 k ∧ Hid (Gs B w H G P M b l room s [(w.heap.size + 1 + 1, .cells (ir (lyF (sx4 s.1 f) (4 * k)) 16) 125), (w.heap.size + 1, .cells (ir (fun _ => 0) 16) 125), (w.heap.size, ob4 f)] wr)) (fun _ i _ => 4 - (intOf i).toNat)
  case atStart => exact ⟨0, by omega, rfl, rfl, HS⟩
  case round =>
    clear HS
    obtain ⟨k, hk, rfl, rfl, HR⟩ := hrel
    have k0 : (0 : Int) ≤ (k : Int) := by omega
    by_cases hlt : k < 4
    · have k1 : (k : Int) < 4 := by omega
      have hx := idx4 f k hlt
      have hp := HR.out.ptr
      obtain ⟨Hs, hst, _⟩ := HR.out.store
      have HC := Lib.hid (kids_ok hst n (f k) (HF.out k hlt) _ rfl)
      have HLT := Lib.hid hlt
      have HAT := Lib.hid (fun j hj => sx4_at s.1 f k j hlt hj)
      clear hst
      generalize f k = fk at *
      generalize at' s.1 fk = q at *
      go_wp2_with fail
      refine HC.out.mono ?_
      rintro e w1 ⟨rfl, hb⟩
      have HR1 := Lib.hid ((HR.out.below hb).alloc (.cells #[.int .i64 q.k0, .int .i64 q.k1, .int .i64 q.k2, .int .i64 q.k3] 96))
      clear hb HR hx hp HC
      go_upto_region 8 with (fail)
      generalize World.alloc _ _ = W1 at HR1 ⊢
      have hc := HR1.out.b0
      have hr4 := row4 hc
      obtain ⟨c0, c1, c2, c3⟩ := hr4
      obtain ⟨g9, hg9⟩ : ∃ g, g = w1.heap.size := ⟨_, rfl⟩
      rw [← hg9] at HR1 c0 c1 c2 c3 ⊢
      clear hg9 hc
      have HR2 : Hid (Gs B w H G P M b l room s [(w.heap.size + 1 + 1, .cells (ir (lyF (sx4 s.1 f) (4 * k + 0)) 16) 125), (w.heap.size + 1, .cells (ir (fun _ => 0) 16) 125), (w.heap.size, ob4 f)] W1) := Lib.hid HR1.out.tail
      clear HR1
      go_wp2
      go_loopw [32] (fun i wr => ∃ j : Nat, j ≤ 4 ∧ i = .int .i64 j ∧ Hid (Gs B w H G P M b l room s [(w.heap.size + 1 + 1, .cells (ir (lyF (sx4 s.1 f) (4 * k + j)) 16) 125), (w.heap.size + 1, .cells (ir (fun _ => 0) 16) 125), (w.heap.size, ob4 f)] wr)) (fun i _ => 4 - (intOf i).toNat)
      case atStart => exact ⟨0, by omega, rfl, HR2⟩
      case round =>
        clear HR2 c0 c1 c2 c3
        obtain ⟨j, hj, rfl, HQ⟩ := hrel
        have j0 : (0 : Int) ≤ (j : Int) := by omega
        by_cases hjt : j < 4
        · have j1 : (j : Int) < 4 := by omega
          have hx : ∀ W, (Instr.index 96 (.agg #[.int .i64 q.k0, .int .i64 q.k1, .int .i64 q.k2, .int .i64 q.k3]) (.int .i64 (j : Int))).run Tryz.prog W = .ok (.int .i64 (kid q j)) W := idx4 (kid q) j hjt
          have HAJ := Lib.hid (HAT.out j hjt)
          have HJ := Lib.hid hjt
          generalize kid q j = x at *
          have b2 : 4 * (k / 2 * 2 + j / 2) + k % 2 * 2 + j % 2 < 16 := by omega
          have b0 : (0 : Int) ≤ 4 * ((k : Int) / 2 * 2 + (j : Int) / 2) + (k : Int) % 2 * 2 + (j : Int) % 2 := by omega
          have b1 : 4 * ((k : Int) / 2 * 2 + (j : Int) / 2) + (k : Int) % 2 * 2 + (j : Int) % 2 < 16 := by omega
          have hc := ir_cell HQ.out.b0 (4 * (k / 2 * 2 + j / 2) + k % 2 * 2 + j % 2) b2
          have hf := ir_fro HQ.out.b0 (4 * (k / 2 * 2 + j / 2) + k % 2 * 2 + j % 2)
          have HP := Lib.hid (show (wr.setCell ⟨w.heap.size + 1 + 1, 4 * (k / 2 * 2 + j / 2) + k % 2 * 2 + j % 2, none⟩ (.int .i64 x)).heap[w.heap.size + 1 + 1]? = some (.cells (ir (lyF (sx4 s.1 f) (4 * k + (j + 1))) 16) 125) from by
            rw [← ly_step (sx4 s.1 f) k j HLT.out HJ.out, HAJ.out]
            exact ir_put HQ.out.b0 (lyP k j) x)
          generalize lyF (sx4 s.1 f) (4 * k + j) (4 * (k / 2 * 2 + j / 2) + k % 2 * 2 + j % 2) = old at *
          go_wp2
          go_roundw
          case rel => exact ⟨j + 1, by have := HJ.out; omega, by go_num, Lib.hid (HQ.out.set HP.out)⟩
          case measure => have := HJ.out; simp [intOf]; omega
        · obtain rfl : j = 4 := by omega
          go_wp2
          go_roundw
          case rel => exact ⟨k + 1, by have := HLT.out; omega, rfl, by go_num, Lib.hid HQ.out⟩
          case measure => have := HLT.out; simp [intOf]; omega
    · obtain rfl : k = 4 := by omega
      have h0 : wr.heap[w.heap.size + 1 + 1]? = some (.cells (ir (sx4 s.1 f) 16) 125 (0, 0)) := by rw [← ly_all]; exact HR.out.b0
      have h1 := HR.out.b1
      have HX := Lib.hid (Gs.setRow (HR.out.tail) (ir (sx4 s.1 f) 16))
      have HR0 := Lib.hid h0
      have HR1 := Lib.hid h1
      have hone := ir_one (sx4 s.1 f) 16
      have hinf := info_16 (sx4 s.1 f)
      have hsz : (ir (fun _ => 0) 16).size = (ir (sx4 s.1 f) 16).size := by rw [ir_size, ir_size]
      have HA := Lib.hid (And.intro hone (And.intro hinf hsz))
      generalize hV : ir (sx4 s.1 f) 16 = V at *
      have HV := Lib.hid hV
      generalize ir (fun _ => 0) 16 = Z at *
      clear h0 h1 HR hone hinf hsz hV
      go_wp2_with (first
        | (refine wpList_load_row rfl _ (.tmp 6) rfl (w.heap.size + 1 + 1) rfl _ V (0, 0) _ HR0.out Tryz.underlying125 rfl HA.out.2.1 ?_)
        | (refine wpList_store_row rfl 125 (.tmp 4) (.tmp 54) rfl (w.heap.size + 1) V rfl rfl 125 _ HR1.out HA.out.2.1 HA.out.2.2 HA.out.1 ?_))
      refine post_row_tmp Tryz.results76 (w.heap.size + 1) 125 V (0, 0) _ .nilIface Tryz.underlying125 rfl HA.out.2.1 ?_ ?_ (setRow_heap _ _ _ _ _ _ HR1.out) ?_ ?_
      · rfl
      · rfl
      · rfl
      exact ⟨by rw [HV.out], HX.out.gt⟩
end Go.Proofs.YtkefjkfknegogaaGreat
namespace Go.Proofs.YtkefjkfknegogaaGreat
open Go.RowKit Ti Qd Go.Maps Go.WideMaps

theorem Gs.drew {B : Nat} {w0 w : World} {H0 : Nat → Prop} {G P M b l room : Nat} {s : GS} {bx : List (Nat × Obj)} (h : Gs B w0 H0 G P M b l room s bx w) : Gs B w0 H0 G P M b l room s bx w.drew := h.below (Below.refl _ _).drew
set_option maxRecDepth 100000 in
set_option maxHeartbeats 4000000 in
theorem middle_0 {B : Nat} {w : World} {G P M b l : Nat} {s : GS} {room : Nat} {H : Nat → Prop} (h : Gr B w G P M b l s room H) (f : Nat → Int) (hf : ∀ i, i < 4 → Lv s.1 0 (f i))
    (hr : (put s.1 (leafQ (growP 0 0 0 (tilG s.1 (f 0) (f 1) (f 2) (f 3))))).length ≤ room) :
    Calls Tryz.prog 60 #[.pointer (some ⟨G, 0, none⟩), vb4 f] w fun e w' => e = .returned (.tuple #[.int .i64 (nr s.1 (leafQ (growP 0 0 0 (tilG s.1 (f 0) (f 1) (f 2) (f 3))))), .nilIface]) ∧ Gt B w G P M b l room H (put s.1 (leafQ (growP 0 0 0 (tilG s.1 (f 0) (f 1) (f 2) (f 3)))), s.2) w' := by
  have HS : Hid (Gs B w H G P M b l room s [(w.heap.size, ob4 f)] (w.alloc (.cells #[.int .i64 (f 0), .int .i64 (f 1), .int .i64 (f 2), .int .i64 (f 3)] 96))) := Lib.hid ((Gs.start h).alloc' (ob4 f) rfl)
  have HF := Lib.hid hf
  have HRM := Lib.hid hr
  obtain ⟨t, ht⟩ : ∃ t, t = tilG s.1 (f 0) (f 1) (f 2) (f 3) := ⟨_, rfl⟩
  rw [← ht] at HRM ⊢
  have HT : Hid (∀ i, i < 4 → Lv s.1 0 (f i) ∧ (at' s.1 (f i)).til = t i) := Lib.hid fun i h4 => ⟨hf i h4, by
    rw [ht]
    rcases (show i = 0 ∨ i = 1 ∨ i = 2 ∨ i = 3 by omega) with rfl | rfl | rfl | rfl <;> rfl⟩
  have HQT := Lib.hid (show growP 0 0 0 t = growB 0 0 0 (q4 (t 0) (t 1) (t 2) (t 3)) from by
    rw [ht]
    rfl)
  clear ht h hf hr
  have HM := Lib.hid (fun w => middle_any (t 0) (t 1) (t 2) (t 3) w)
  rw [HQT.out] at HRM ⊢
  generalize growB 0 0 0 (q4 (t 0) (t 1) (t 2) (t 3)) = X at HRM HM ⊢
  clear HQT
  go_enter Tryz.func60, Tryz.ntmps60
  go_wp2
  generalize World.alloc _ _ = W at HS ⊢
  have HD := Lib.hid HS.out.drew
  have KD := Lib.hid (And.intro HD.out.ptr (row4 HD.out.b0).1)
  obtain ⟨Hs, hst, _⟩ := HD.out.store
  have HC := Lib.hid (level_is hst (f 0) (HF.out 0 (by decide)).1 3 (HF.out 0 (by decide)).2)
  clear hst
  go_region_held3 (fun w' => w'.cell? ⟨G, 0, none⟩ = some (.pointer (some ⟨P, 0, none⟩)) ∧ w'.cell? ⟨w.heap.size, 0, none⟩ = some (.int .i64 (f 0))) (first | with_reducible exact KD.out | with_reducible exact ks)
    ((go_at_call 20; with_reducible refine HC.out.mono ?_; rintro e w1 ⟨rfl, hb⟩; have HS1 := Lib.hid (HD.out.below hb); have ks := And.intro HS1.out.ptr (row4 HS1.out.b0).1; clear hb))
  obtain ⟨c0, c1, c2, c3⟩ := row4 HS1.out.b0
  obtain ⟨H1, h1, h2⟩ := HS1.out.call
  have HT1 := Lib.hid (tiles_ok h1 f t HT.out)
  have HG1 := Lib.hid h2
  clear h1 h2 ks
  go_wp2_with fail
  refine HT1.out.mono ?_
  rintro e w2 ⟨rfl, hg⟩
  have HS2 := Lib.hid ((HG1.out _ _ hg).alloc (.cells #[.int .u64 (rg (t 0)), .int .u64 (rg (t 1)), .int .u64 (rg (t 2)), .int .u64 (rg (t 3))] 142))
  clear hg HS HD HS1 HG1 HT1 KD HC c0 c1 c2 c3
  go_upto_region 8 with (fail)
  obtain ⟨g8, hg8⟩ : ∃ g, g = w2.heap.size := ⟨_, rfl⟩
  rw [← hg8] at HS2 ⊢
  generalize World.alloc _ _ = W2 at HS2 ⊢
  clear hg8
  have HD := Lib.hid HS2.out.drew
  have KD := Lib.hid (And.intro HD.out.ptr (row4 HD.out.b0))
  go_region_held3 (fun w' => w'.cell? ⟨G, 0, none⟩ = some (.pointer (some ⟨P, 0, none⟩)) ∧ w'.cell? ⟨g8, 0, none⟩ = some (.int .u64 (rg (t 0))) ∧ w'.cell? ⟨g8, 1, none⟩ = some (.int .u64 (rg (t 1))) ∧ w'.cell? ⟨g8, 2, none⟩ = some (.int .u64 (rg (t 2))) ∧ w'.cell? ⟨g8, 3, none⟩ = some (.int .u64 (rg (t 3)))) (first | with_reducible exact KD.out | with_reducible exact ks)
    (first
      | (go_at_call 75; with_reducible refine (HM.out _).mono ?_; rintro e w3 ⟨rfl, hb⟩; have HS3 := Lib.hid (HD.out.below hb); have ks := And.intro HS3.out.ptr (row4 HS3.out.b0); obtain ⟨Hs3, hst, hgo⟩ := HS3.out.store; have HGO := Lib.hid hgo; have HL := Lib.hid (leaf_ok hst X HRM.out); clear hb hst hgo)
      | (go_at_call 44; with_reducible refine HL.out.mono ?_; rintro e w4 ⟨rfl, hg⟩; have HS4 := Lib.hid (HGO.out _ _ hg); have ks := And.intro HS4.out.ptr (row4 HS4.out.b0); clear hg))
  go_wp2
  go_ret2
  exact ⟨rfl, HS4.out.gt⟩
end Go.Proofs.YtkefjkfknegogaaGreat

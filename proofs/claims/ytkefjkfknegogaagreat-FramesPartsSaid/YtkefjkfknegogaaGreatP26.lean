/-
  A GROWER IN MEMORY and its store's small calls: Level, Tile, Kids. Conditions: the grower lies in memory.
  THE WALKS of opposite, farthest, fourAt. Conditions: a row of numbers lies in memory.
-/
import Derived.Test.YtkefjkfknegogaaGreatP17
import Derived.Test.YtkefjkfknegogaaGreatP18
import Derived.Test.YtkefjkfknegogaaGreatP25
namespace Go.Proofs.YtkefjkfknegogaaGreat
open Go.RowKit Ti Qd Go.Maps Go.WideMaps

set_option maxRecDepth 100000 in
theorem level_is {B : Nat} {w : World} {P : Nat} {L : List Sq} {room : Nat} {H : Nat → Prop} (h : St B w P L room H) (id : Int) (ho : Ok L id) (lv : Int) (hv : (at' L id).lev = lv) :
    Calls Tryz.prog 20 #[.pointer (some ⟨P, 0, none⟩), .int .i64 id] w fun e w' => e = .returned (.tuple #[.int .i64 lv, .nilIface]) ∧ Below w.heap.size w w' := by
  subst hv
  have HQ := Lib.hid (square_ok h id ho)
  clear h
  unfold qv at *
  generalize at' L id = q at *
  go_enter Tryz.func20, Tryz.ntmps20
  go_wp2_with fail
  refine HQ.out.mono ?_
  rintro e w1 ⟨rfl, hb⟩
  have HB := Lib.hid (hb.trans ((alX w1 (bq q)).mono hb.size))
  clear hb
  unfold bq at *
  go_wp2
  go_ret2
  exact ⟨rfl, HB.out⟩
set_option maxRecDepth 100000 in
theorem level_none {B : Nat} {w : World} {P : Nat} {L : List Sq} {room : Nat} {H : Nat → Prop} (h : St B w P L room H) (id : Int) (ho : ¬ Ok L id) :
    Calls Tryz.prog 20 #[.pointer (some ⟨P, 0, none⟩), .int .i64 id] w fun e w' => e = .returned (.tuple #[.int .i64 0, .iface 59 (.int .i64 8)]) ∧ Below w.heap.size w w' := by
  have HQ := Lib.hid (square_none h id ho)
  clear h
  unfold zv at *
  go_enter Tryz.func20, Tryz.ntmps20
  go_wp2_with fail
  refine HQ.out.mono ?_
  rintro e w1 ⟨rfl, hb⟩
  have HB := Lib.hid (hb.trans ((alX w1 zq).mono hb.size))
  clear hb
  go_wp2
  go_ret2
  exact ⟨rfl, HB.out⟩
set_option maxRecDepth 100000 in
theorem tile_ok {B : Nat} {w : World} {P : Nat} {L : List Sq} {room : Nat} {H : Nat → Prop} (h : St B w P L room H) (id : Int) (hl : Lv L 0 id) (t : T6) (ht : (at' L id).til = t) :
    Calls Tryz.prog 78 #[.pointer (some ⟨P, 0, none⟩), .int .i64 id] w fun e w' => e = .returned (.tuple #[.int .u64 (rg t), .nilIface]) ∧ Below w.heap.size w w' := by
  subst ht
  have HQ := Lib.hid (square_ok h id hl.1)
  have e3 : ((at' L id).lev == 3) = true := by rw [beq_iff_eq, hl.2]; rfl
  have e4 : ((at' L id).lev != 3) = false := by rw [bne_eq_false_iff_eq, hl.2]; rfl
  clear h hl
  unfold qv at *
  generalize at' L id = q at *
  go_enter Tryz.func78, Tryz.ntmps78
  go_wp2_with fail
  refine HQ.out.mono ?_
  rintro e w1 ⟨rfl, hb⟩
  have HB := Lib.hid (hb.trans ((alX w1 (bq q)).mono hb.size))
  clear hb
  unfold bq at *
  go_wp2
  go_ret2
  exact ⟨rfl, HB.out⟩
/-- a grower: the store P, the map M -/
structure Gro (B : Nat) (w : World) (G P M b l : Nat) (s : GS) (room : Nat) (Hs : Nat → Prop) : Prop where
  st : St B w P s.1 room Hs
  c0 : w.cell? ⟨G, 0, none⟩ = some (.pointer (some ⟨P, 0, none⟩))
  c1 : w.cell? ⟨G, 1, none⟩ = some (.int .u16 b)
  c2 : w.cell? ⟨G, 2, none⟩ = some (.int .u16 l)
  c3 : w.cell? ⟨G, 3, none⟩ = some (.map (some M))
  kn : KAt w M s.2
  bG : B ≤ G
  bM : B ≤ M
  nG : ¬ Hs G
  nM : ¬ Hs M
  GM : ¬ G = M
def Gr (B : Nat) (w : World) (G P M b l : Nat) (s : GS) (room : Nat) (H : Nat → Prop) : Prop := ∃ Hs, Gro B w G P M b l s room Hs ∧ H = fun x => x = M ∨ Hs x
def Gt (B : Nat) (w : World) (G P M b l room : Nat) (H : Nat → Prop) (s : GS) (w' : World) : Prop := ∃ H', Gr B w' G P M b l s room H' ∧ Stp w H w' H'
theorem Gro.moved {B : Nat} {w w' : World} {G P M b l : Nat} {s : GS} {room : Nat} {Hs : Nat → Prop} (h : Gro B w G P M b l s room Hs) (hG : w'.heap[G]? = w.heap[G]?) (hM : w'.heap[M]? = w.heap[M]?) (hb : ∀ x, Hs x → w'.heap[x]? = w.heap[x]?) : Gro B w' G P M b l s room Hs :=
  ⟨h.st.moved hb, (World.cell?_of_block hG).trans h.c0, (World.cell?_of_block hG).trans h.c1, (World.cell?_of_block hG).trans h.c2, (World.cell?_of_block hG).trans h.c3, h.kn.moved hM, h.bG, h.bM, h.nG, h.nM, h.GM⟩
theorem Gro.ltG {B : Nat} {w : World} {G P M b l : Nat} {s : GS} {room : Nat} {Hs : Nat → Prop} (h : Gro B w G P M b l s room Hs) : G < w.heap.size := World.block_lt_of_cell? w _ h.c0
theorem Gr.lt {B : Nat} {w : World} {G P M b l : Nat} {s : GS} {room : Nat} {H : Nat → Prop} (h : Gr B w G P M b l s room H) : ∀ x, H x → B ≤ x ∧ x < w.heap.size := by
  obtain ⟨Hs, hs, rfl⟩ := h
  rintro x (rfl | hx)
  · exact ⟨hs.bM, hs.kn.lt⟩
  · exact hs.st.lt x hx
theorem Gr.below {B n : Nat} {w w' : World} {G P M b l : Nat} {s : GS} {room : Nat} {H : Nat → Prop} (h : Gr B w G P M b l s room H) (hb : Below n w w') (hn : w.heap.size ≤ n) : Gr B w' G P M b l s room H := by
  obtain ⟨Hs, hs, rfl⟩ := h
  have := hs.ltG
  have := hs.kn.lt
  exact ⟨Hs, hs.moved (hb.block _ (by omega)) (hb.block _ (by omega)) (fun x hx => hb.block _ (by have := (hs.st.lt x hx).2; omega)), rfl⟩
theorem Gr.set {B : Nat} {w : World} {G P M b l : Nat} {s : GS} {room : Nat} {H : Nat → Prop} (h : Gr B w G P M b l s room H) {g i : Nat} (hg : ¬ H g) (hG : ¬ g = G) (v : Value) : Gr B (w.setCell ⟨g, i, none⟩ v) G P M b l s room H := by
  obtain ⟨Hs, hs, rfl⟩ := h
  have ne : ∀ x, ¬ g = x → (w.setCell ⟨g, i, none⟩ v).heap[x]? = w.heap[x]? := fun x hx => Go.RowKit.Below.heap_setCell _ _ _ _ (fun e => hx e.symm)
  exact ⟨Hs, hs.moved (ne _ hG) (ne _ fun e => hg (.inl e)) (fun x hx => ne _ fun e => hg (.inr (e ▸ hx))), rfl⟩
theorem Gr.store {B : Nat} {w : World} {G P M b l : Nat} {s : GS} {room : Nat} {H : Nat → Prop} (h : Gr B w G P M b l s room H) : ∃ Hs, St B w P s.1 room Hs ∧ ∀ {L' : List Sq} {w' : World}, Goes B w P room Hs L' w' → Gt B w G P M b l room H (L', s.2) w' := by
  obtain ⟨Hs, hs, rfl⟩ := h
  refine ⟨Hs, hs.st, ?_⟩
  rintro L' w' ⟨Hs', h1, h2⟩
  have g1 := h2.block G hs.ltG hs.nG
  have g2 := h2.block M hs.kn.lt hs.nM
  refine ⟨_, ⟨Hs', ⟨h1, (World.cell?_of_block g1).trans hs.c0, (World.cell?_of_block g1).trans hs.c1, (World.cell?_of_block g1).trans hs.c2, (World.cell?_of_block g1).trans hs.c3, hs.kn.moved g2, hs.bG, hs.bM, fun e => ?_, fun e => ?_, hs.GM⟩, rfl⟩, ?_⟩
  · rcases h2.own G e with q | q
    · exact hs.nG q
    · have := hs.ltG; omega
  · rcases h2.own M e with q | q
    · exact hs.nM q
    · have := hs.kn.lt; omega
  · refine ⟨h2.os, h2.tape, h2.output, h2.size, fun k hk hn => h2.block k hk fun e => hn (.inr e), fun k hk => ?_⟩
    rcases hk with rfl | hk
    · exact .inl (.inl rfl)
    · rcases h2.own k hk with q | q
      · exact .inl (.inr q)
      · exact .inr q
/-- what was made since a world, beside the grower -/
structure Gs (B : Nat) (w0 : World) (H0 : Nat → Prop) (G P M b l room : Nat) (s : GS) (bx : List (Nat × Obj)) (w : World) : Prop where
  ex : ∃ H, Gr B w G P M b l s room H ∧ Stp w0 H0 w H ∧ ∀ x ∈ bx, w0.heap.size ≤ x.1 ∧ ¬ H x.1 ∧ w.heap[x.1]? = some x.2
  nd : (bx.map Prod.fst).Nodup
  lo : G < w0.heap.size
theorem Gs.start {B : Nat} {w : World} {G P M b l : Nat} {s : GS} {room : Nat} {H : Nat → Prop} (h : Gr B w G P M b l s room H) : Gs B w H G P M b l room s [] w :=
  ⟨⟨H, h, Stp.refl _ _, fun x hx => by cases hx⟩, List.nodup_nil, by obtain ⟨Hs, hs, _⟩ := h; exact hs.ltG⟩
theorem Gs.below {B : Nat} {w0 w w' : World} {H0 : Nat → Prop} {G P M b l room : Nat} {s : GS} {bx : List (Nat × Obj)} (h : Gs B w0 H0 G P M b l room s bx w) (hb : Below w.heap.size w w') : Gs B w0 H0 G P M b l room s bx w' := by
  obtain ⟨⟨H, h1, h2, h3⟩, h4, h5⟩ := h
  exact ⟨⟨H, h1.below hb (Nat.le_refl _), h2.trans (.of_below hb), fun x hx => ⟨(h3 x hx).1, (h3 x hx).2.1, (hb.block _ (lt_of_block (h3 x hx).2.2)).trans (h3 x hx).2.2⟩⟩, h4, h5⟩
theorem Gs.alloc {B : Nat} {w0 w : World} {H0 : Nat → Prop} {G P M b l room : Nat} {s : GS} {bx : List (Nat × Obj)} (h : Gs B w0 H0 G P M b l room s bx w) (o : Obj) : Gs B w0 H0 G P M b l room s ((w.heap.size, o) :: bx) (w.alloc o) := by
  have h' := h.below (alX w o)
  obtain ⟨⟨H, h1, h2, h3⟩, h4, h5⟩ := h
  obtain ⟨⟨_, _, _, _⟩, _, _⟩ := h'
  refine ⟨⟨H, h1.below (alX w o) (Nat.le_refl _), h2.trans (.of_below (alX w o)), fun x hx => ?_⟩, List.nodup_cons.2 ⟨fun hm => ?_, h4⟩, h5⟩
  · rcases List.mem_cons.1 hx with rfl | hx
    · exact ⟨h2.size, fun e => by have := (h1.lt _ e).2; exact Nat.lt_irrefl _ this, heap_alloc_new w o⟩
    · exact ⟨(h3 x hx).1, (h3 x hx).2.1, ((alX w o).block _ (lt_of_block (h3 x hx).2.2)).trans (h3 x hx).2.2⟩
  · obtain ⟨y, hy, e⟩ := List.mem_map.1 hm
    have := lt_of_block (h3 y hy).2.2
    omega
theorem Gs.goes {B : Nat} {w0 w w' : World} {H0 H : Nat → Prop} {G P M b l room : Nat} {s s' : GS} {bx : List (Nat × Obj)} (h : Gr B w G P M b l s room H ∧ Stp w0 H0 w H ∧ ∀ x ∈ bx, w0.heap.size ≤ x.1 ∧ ¬ H x.1 ∧ w.heap[x.1]? = some x.2) (hn : (bx.map Prod.fst).Nodup) (hl : G < w0.heap.size) (k : Gt B w G P M b l room H s' w') : Gs B w0 H0 G P M b l room s' bx w' := by
  obtain ⟨h1, h2, h3⟩ := h
  obtain ⟨H', k1, k2⟩ := k
  refine ⟨⟨H', k1, h2.trans k2, fun x hx => ⟨(h3 x hx).1, fun e => ?_, (k2.block _ (lt_of_block (h3 x hx).2.2) (h3 x hx).2.1).trans (h3 x hx).2.2⟩⟩, hn, hl⟩
  rcases k2.own _ e with q | q
  · exact (h3 x hx).2.1 q
  · have := lt_of_block (h3 x hx).2.2
    omega
theorem Gs.box {B : Nat} {w0 w : World} {H0 : Nat → Prop} {G P M b l room : Nat} {s : GS} {bx : List (Nat × Obj)} (h : Gs B w0 H0 G P M b l room s bx w) {g : Nat} {o : Obj} (hm : (g, o) ∈ bx) : w.heap[g]? = some o := by
  obtain ⟨⟨H, h1, h2, h3⟩, _⟩ := h
  exact (h3 _ hm).2.2
theorem Gs.set {B : Nat} {w0 w : World} {H0 : Nat → Prop} {G P M b l room : Nat} {s : GS} {bx : List (Nat × Obj)} {g : Nat} {o o' : Obj} (h : Gs B w0 H0 G P M b l room s ((g, o) :: bx) w) {i : Nat} {v : Value} (e : (w.setCell ⟨g, i, none⟩ v).heap[g]? = some o') : Gs B w0 H0 G P M b l room s ((g, o') :: bx) (w.setCell ⟨g, i, none⟩ v) := by
  obtain ⟨⟨H, h1, h2, h3⟩, h4, h5⟩ := h
  have hg := h3 _ (List.mem_cons_self)
  rw [List.map_cons, List.nodup_cons] at h4
  have ne : ∀ x, ¬ g = x → (w.setCell ⟨g, i, none⟩ v).heap[x]? = w.heap[x]? := fun x hx => Go.RowKit.Below.heap_setCell _ _ _ _ (fun e => hx e.symm)
  refine ⟨⟨H, h1.set hg.2.1 (fun e => by have := hg.1; simp only at this; omega) v, ⟨h2.os, h2.tape, h2.output, by simpa using h2.size, fun k hk hn => (ne k fun e => by have := hg.1; simp only at this; omega).trans (h2.block k hk hn), h2.own⟩, fun x hx => ?_⟩, by rw [List.map_cons, List.nodup_cons]; exact h4, h5⟩
  · rcases List.mem_cons.1 hx with rfl | hx
    · exact ⟨hg.1, hg.2.1, e⟩
    · exact ⟨(h3 x (List.mem_cons_of_mem _ hx)).1, (h3 x (List.mem_cons_of_mem _ hx)).2.1, (ne _ fun q => h4.1 (List.mem_map.2 ⟨x, hx, q.symm⟩)).trans (h3 x (List.mem_cons_of_mem _ hx)).2.2⟩
theorem Gs.sub {B : Nat} {w0 w : World} {H0 : Nat → Prop} {G P M b l room : Nat} {s : GS} {bx by' : List (Nat × Obj)} (h : Gs B w0 H0 G P M b l room s bx w) (hs : ∀ x ∈ by', x ∈ bx) (hn : (by'.map Prod.fst).Nodup) : Gs B w0 H0 G P M b l room s by' w := by
  obtain ⟨⟨H, h1, h2, h3⟩, h4, h5⟩ := h
  exact ⟨⟨H, h1, h2, fun x hx => h3 x (hs x hx)⟩, hn, h5⟩
theorem Gs.gt {B : Nat} {w0 w : World} {H0 : Nat → Prop} {G P M b l room : Nat} {s : GS} {bx : List (Nat × Obj)} (h : Gs B w0 H0 G P M b l room s bx w) : Gt B w0 G P M b l room H0 s w := by
  obtain ⟨⟨H, h1, h2, _⟩, _⟩ := h
  exact ⟨H, h1, h2⟩
end Go.Proofs.YtkefjkfknegogaaGreat
namespace Go.Proofs.YtkefjkfknegogaaGreat
open Go.RowKit Ti Qd Go.Maps Go.WideMaps

/-- a call ends with a whole array as its result -/
theorem post_cell_row {P : Program} {fn : Func} {R : Ending → World → Prop} {a : Act} {w : World} {p : Tmp} {ty : TypeId} (h : fn.results = #[.cell p ty]) (g : Nat) (t : TypeId) (cs : Array Value) (fr : Nat × Nat) (d : TypeDesc)
    (hu : P.underlying ty = some d) (hd : (match d with | .struct _ | .array _ _ => true | _ => false) = true) (hi : (P.info? ty).map (·.size) = some cs.size)
    (hp : a.tmps.getD p undef = .pointer (some ⟨g, 0, none⟩)) (hg : w.heap[g]? = some (.cells cs t fr)) (hdf : a.defers = []) (hR : R (.returned (.agg cs)) w) : bodyPost P fn R .ret a w :=
  bodyPost_ret (results_cell_row h a.tmps w g t cs fr d hp hg hu hd hi) hdf hR
theorem Below.drewN' {B : Nat} {a w : World} (h : Below B a w) (n : Nat) : Below B a (w.drewN n) := ⟨h.os, h.tape, h.output, h.size, h.block⟩
/-- numbers in a row of a block -/
def ir (F : Nat → Int) (n : Nat) : Array Value := ((List.range n).map (fun i => Value.int .i64 (F i))).toArray
theorem ir_size (F : Nat → Int) (n : Nat) : (ir F n).size = n := by simp [ir]
theorem ir_get (F : Nat → Int) (n i : Nat) (h : i < n) : (ir F n)[i]? = some (.int .i64 (F i)) := by simp [ir, h]
theorem ir_set (F : Nat → Int) (n i : Nat) (x : Int) : (ir F n).setIfInBounds i (.int .i64 x) = ir (upd F i x) n := by
  apply Array.ext
  · simp [ir]
  · intro j h1 h2
    have hj : j < n := by simpa [ir] using h2
    have e1 : (ir F n)[j]'(by simpa [ir] using hj) = .int .i64 (F j) := by simp [ir]
    have e2 : (ir (upd F i x) n)[j]'h2 = .int .i64 (upd F i x j) := by simp [ir]
    rw [Array.getElem_setIfInBounds (by simpa [ir] using hj), e2]
    unfold upd
    by_cases e : i = j
    · subst e
      simp
    · rw [if_neg e, if_neg (fun h => e h.symm), e1]
theorem ir_cell {w : World} {g n : Nat} {F : Nat → Int} {T : TypeId} (h : w.heap[g]? = some (.cells (ir F n) T)) (i : Nat) (hi : i < n) : w.cell? ⟨g, i, none⟩ = some (.int .i64 (F i)) := by
  rw [cell_of_row _ _ i _ _ _ h, ir_get F n i hi]
theorem ir_fro {w : World} {g n : Nat} {F : Nat → Int} {T : TypeId} (h : w.heap[g]? = some (.cells (ir F n) T)) (i : Nat) : w.frozen? ⟨g, i, none⟩ = false := frozen_of_row _ _ i _ _ h
theorem ir_put {w : World} {g n : Nat} {F : Nat → Int} {T : TypeId} (h : w.heap[g]? = some (.cells (ir F n) T)) (i : Nat) (x : Int) : (w.setCell ⟨g, i, none⟩ (.int .i64 x)).heap[g]? = some (.cells (ir (upd F i x) n) T) := by
  rw [heap_setCell_same w g i _ _ _ h, ir_set]
theorem ir_ext {F F' : Nat → Int} {n : Nat} (h : ∀ i, i < n → F i = F' i) : ir F n = ir F' n := by
  unfold ir
  congr 1
  apply List.map_congr_left
  intro i hi
  rw [h i (List.mem_range.1 hi)]
set_option maxRecDepth 100000 in
theorem opposite_any (i : Nat) (hi : i < 4) (w : World) : Calls Tryz.prog 69 #[.int .i64 i] w fun e w' => e = .returned (.int .i64 ((3 - i : Nat) : Int)) ∧ w = w' := by
  rcases (show i = 0 ∨ i = 1 ∨ i = 2 ∨ i = 3 by omega) with rfl | rfl | rfl | rfl
  all_goals
    go_enter Tryz.func69, Tryz.ntmps69
    go_wp2
    go_ret
    exact ⟨rfl, rfl⟩
set_option maxRecDepth 100000 in
theorem farthest_any (n : Int) (h0 : 0 ≤ n) (h1 : n ≤ 100) (w : World) : Calls Tryz.prog 27 #[.int .i64 n] w fun e w' => e = .returned (.int .i64 (n - 2)) ∧ w = w' := by
  go_enter Tryz.func27, Tryz.ntmps27
  go_wp2
  go_ret
  exact ⟨rfl, rfl⟩
set_option maxRecDepth 100000 in
set_option maxHeartbeats 2000000 in
theorem four_4 (g i : Nat) (hi : i < 9) (F : Nat → Int) (T : TypeId) (w : World) (h : w.heap[g]? = some (.cells (ir F 16) T)) :
    Calls Tryz.prog 64 #[.slice (some ⟨g, 0, none⟩) 16 16, .int .i64 4, .int .i64 i] w fun e w' => e = .returned (.agg #[.int .i64 (F (at4 4 i)), .int .i64 (F (at4 4 i + 1)), .int .i64 (F (at4 4 i + 4)), .int .i64 (F (at4 4 i + 4 + 1))]) ∧ Below w.heap.size w w' := by
  have hb := alX w z4
  have hz := heap_alloc_new w z4
  have hr := (hb.block _ (lt_of_block h)).trans h
  have hne : ¬ w.heap.size = g := by have := lt_of_block h; omega
  have HB := Lib.hid hb
  have HZ := Lib.hid hz
  clear h hb
  obtain ⟨k, hk⟩ : ∃ k, k = at4 4 i := ⟨_, rfl⟩
  rw [← hk]
  have k1 : k < 11 := by unfold at4 at hk; omega
  have c0 := ir_cell hr k (by omega)
  have c1 := ir_cell hr (k + 1) (by omega)
  have c2 := ir_cell hr (k + 4) (by omega)
  have c3 := ir_cell hr (k + 4 + 1) (by omega)
  generalize F k = x0 at *
  generalize F (k + 1) = x1 at *
  generalize F (k + 4) = x2 at *
  generalize F (k + 4 + 1) = x3 at *
  clear hr
  have HK := Lib.hid hk
  clear hk
  go_enter Tryz.func64, Tryz.ntmps64
  go_wp2
  go_quiet (fail)
  go_wp2
  have e : (i : Int) / 3 * 4 + (i : Int) % 3 = (k : Int) := by rw [HK.out]; unfold at4; omega
  rw [e]
  have HB2 := Lib.hid (Below.drewN' HB.out nq)
  have HZ2 := Lib.hid (show ((w.alloc z4).drewN nq).heap[w.heap.size]? = some z4 from HZ.out)
  have c0 : ((w.alloc z4).drewN nq).cell? ⟨g, k, none⟩ = some (.int .i64 x0) := c0
  have c1 : ((w.alloc z4).drewN nq).cell? ⟨g, k + 1, none⟩ = some (.int .i64 x1) := c1
  have c2 : ((w.alloc z4).drewN nq).cell? ⟨g, k + 4, none⟩ = some (.int .i64 x2) := c2
  have c3 : ((w.alloc z4).drewN nq).cell? ⟨g, k + 4 + 1, none⟩ = some (.int .i64 x3) := c3
  clear e HB HZ hz
  generalize ((w.alloc z4).drewN nq) = W at *
  obtain ⟨b0, b1, b2, b3⟩ := row4 HZ2.out
  have f0 := frozen_of_row _ _ 0 _ _ HZ2.out
  have f1 := frozen_of_row _ _ 1 _ _ HZ2.out
  have f2 := frozen_of_row _ _ 2 _ _ HZ2.out
  have f3 := frozen_of_row _ _ 3 _ _ HZ2.out
  go_region
  go_wp2
  refine post_cell_row Tryz.results64 w.heap.size 96 #[.int .i64 x0, .int .i64 x1, .int .i64 x2, .int .i64 x3] (0, 0) _ Tryz.underlying96 rfl info_4 ?_ (row_set4 HZ2.out _ _ _ _) ?_ ?_
  · rfl
  · rfl
  exact ⟨rfl, (below_set4 HB2.out (Nat.le_refl _) _ _ _ _).drew⟩
set_option maxRecDepth 100000 in
set_option maxHeartbeats 2000000 in
theorem four_3 (g i : Nat) (hi : i < 4) (F : Nat → Int) (T : TypeId) (w : World) (h : w.heap[g]? = some (.cells (ir F 9) T)) :
    Calls Tryz.prog 64 #[.slice (some ⟨g, 0, none⟩) 9 9, .int .i64 3, .int .i64 i] w fun e w' => e = .returned (.agg #[.int .i64 (F (at4 3 i)), .int .i64 (F (at4 3 i + 1)), .int .i64 (F (at4 3 i + 3)), .int .i64 (F (at4 3 i + 3 + 1))]) ∧ Below w.heap.size w w' := by
  have hb := alX w z4
  have hz := heap_alloc_new w z4
  have hr := (hb.block _ (lt_of_block h)).trans h
  have hne : ¬ w.heap.size = g := by have := lt_of_block h; omega
  have HB := Lib.hid hb
  have HZ := Lib.hid hz
  clear h hb
  obtain ⟨k, hk⟩ : ∃ k, k = at4 3 i := ⟨_, rfl⟩
  rw [← hk]
  have k1 : k < 5 := by unfold at4 at hk; omega
  have c0 := ir_cell hr k (by omega)
  have c1 := ir_cell hr (k + 1) (by omega)
  have c2 := ir_cell hr (k + 3) (by omega)
  have c3 := ir_cell hr (k + 3 + 1) (by omega)
  generalize F k = x0 at *
  generalize F (k + 1) = x1 at *
  generalize F (k + 3) = x2 at *
  generalize F (k + 3 + 1) = x3 at *
  clear hr
  have HK := Lib.hid hk
  clear hk
  go_enter Tryz.func64, Tryz.ntmps64
  go_wp2
  go_quiet (fail)
  go_wp2
  have e : (i : Int) / 2 * 3 + (i : Int) % 2 = (k : Int) := by rw [HK.out]; unfold at4; omega
  rw [e]
  have HB2 := Lib.hid (Below.drewN' HB.out nq)
  have HZ2 := Lib.hid (show ((w.alloc z4).drewN nq).heap[w.heap.size]? = some z4 from HZ.out)
  have c0 : ((w.alloc z4).drewN nq).cell? ⟨g, k, none⟩ = some (.int .i64 x0) := c0
  have c1 : ((w.alloc z4).drewN nq).cell? ⟨g, k + 1, none⟩ = some (.int .i64 x1) := c1
  have c2 : ((w.alloc z4).drewN nq).cell? ⟨g, k + 3, none⟩ = some (.int .i64 x2) := c2
  have c3 : ((w.alloc z4).drewN nq).cell? ⟨g, k + 3 + 1, none⟩ = some (.int .i64 x3) := c3
  clear e HB HZ hz
  generalize ((w.alloc z4).drewN nq) = W at *
  obtain ⟨b0, b1, b2, b3⟩ := row4 HZ2.out
  have f0 := frozen_of_row _ _ 0 _ _ HZ2.out
  have f1 := frozen_of_row _ _ 1 _ _ HZ2.out
  have f2 := frozen_of_row _ _ 2 _ _ HZ2.out
  have f3 := frozen_of_row _ _ 3 _ _ HZ2.out
  go_region
  go_wp2
  refine post_cell_row Tryz.results64 w.heap.size 96 #[.int .i64 x0, .int .i64 x1, .int .i64 x2, .int .i64 x3] (0, 0) _ Tryz.underlying96 rfl info_4 ?_ (row_set4 HZ2.out _ _ _ _) ?_ ?_
  · rfl
  · rfl
  exact ⟨rfl, (below_set4 HB2.out (Nat.le_refl _) _ _ _ _).drew⟩
end Go.Proofs.YtkefjkfknegogaaGreat

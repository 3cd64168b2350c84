/-
  THE WALKS of opposite, farthest, fourAt. Conditions: a row of numbers lies in memory.
-/
import Derived.Test.YtgimphkamjojpaaDoorE28
namespace Go.Proofs.YtgimphkamjojpaaDoor
open Go.RowKit Ti Qd Go.Maps Go.WideMaps

/-- a call ends with a whole array as its result -/
theorem post_cell_row {P : Program} {fn : Func} {R : Ending → World → Prop} {a : Act} {w : World} {p : Tmp} {ty : TypeId} (h : fn.results = #[.cell p ty]) (g : Nat) (t : TypeId) (cs : Array Value) (fr : Nat × Nat) (d : TypeDesc)
    (hu : P.underlying ty = some d) (hd : (match d with | .struct _ | .array _ _ => true | _ => false) = true) (hi : (P.info? ty).map (·.size) = some cs.size)
    (hp : a.tmps.getD p undef = .pointer (some ⟨g, 0, none⟩)) (hg : w.heap[g]? = some (.cells cs t fr)) (hdf : a.defers = []) (hR : R (.returned (.agg cs)) w) : bodyPost P fn R .ret a w :=
  bodyPost_ret (results_cell_row h a.tmps w g t cs fr d hp hg hu hd hi) hdf hR
theorem Below.drewN' {B : Nat} {a w : World} (h : Below B a w) (n : Nat) : Below B a (w.drewN n) := ⟨h.os, h.tape, h.output, h.size, h.block⟩
/-- numbers in a row of a block -/
def ir (F : Nat → Int) (n : Nat) : Array Value := ((List.range n).map (fun i => Value.int .i64 (F i))).toArray
theorem ir_size (F : Nat → Int) (n : Nat) : (ir F n).size = n := by simp [ir]
theorem ir_get (F : Nat → Int) (n i : Nat) (h : i < n) : (ir F n)[i]? = some (.int .i64 (F i)) := by simp [ir, h]
theorem ir_set (F : Nat → Int) (n i : Nat) (x : Int) : (ir F n).setIfInBounds i (.int .i64 x) = ir (upd F i x) n := by
  apply Array.ext
  · simp [ir]
  · intro j h1 h2
    have hj : j < n := by simpa [ir] using h2
    have e1 : (ir F n)[j]'(by simpa [ir] using hj) = .int .i64 (F j) := by simp [ir]
    have e2 : (ir (upd F i x) n)[j]'h2 = .int .i64 (upd F i x j) := by simp [ir]
    rw [Array.getElem_setIfInBounds (by simpa [ir] using hj), e2]
    unfold upd
    by_cases e : i = j
    · subst e
      simp
    · rw [if_neg e, if_neg (fun h => e h.symm), e1]
theorem ir_cell {w : World} {g n : Nat} {F : Nat → Int} {T : TypeId} (h : w.heap[g]? = some (.cells (ir F n) T)) (i : Nat) (hi : i < n) : w.cell? ⟨g, i, none⟩ = some (.int .i64 (F i)) := by
  rw [cell_of_row _ _ i _ _ _ h, ir_get F n i hi]
theorem ir_fro {w : World} {g n : Nat} {F : Nat → Int} {T : TypeId} (h : w.heap[g]? = some (.cells (ir F n) T)) (i : Nat) : w.frozen? ⟨g, i, none⟩ = false := frozen_of_row _ _ i _ _ h
theorem ir_put {w : World} {g n : Nat} {F : Nat → Int} {T : TypeId} (h : w.heap[g]? = some (.cells (ir F n) T)) (i : Nat) (x : Int) : (w.setCell ⟨g, i, none⟩ (.int .i64 x)).heap[g]? = some (.cells (ir (upd F i x) n) T) := by
  rw [heap_setCell_same w g i _ _ _ h, ir_set]
theorem ir_ext {F F' : Nat → Int} {n : Nat} (h : ∀ i, i < n → F i = F' i) : ir F n = ir F' n := by
  unfold ir
  congr 1
  apply List.map_congr_left
  intro i hi
  rw [h i (List.mem_range.1 hi)]
set_option maxRecDepth 100000 in
theorem opposite_any (i : Nat) (hi : i < 4) (w : World) : Calls Tryd.prog 47 #[.int .i64 i] w fun e w' => e = .returned (.int .i64 ((3 - i : Nat) : Int)) ∧ w = w' := by
  rcases (show i = 0 ∨ i = 1 ∨ i = 2 ∨ i = 3 by omega) with rfl | rfl | rfl | rfl
  all_goals
    go_enter Tryd.func47, Tryd.ntmps47
    go_wp2
    go_ret
    exact ⟨rfl, rfl⟩
set_option maxRecDepth 100000 in
theorem farthest_any (n : Int) (h0 : 0 ≤ n) (h1 : n ≤ 100) (w : World) : Calls Tryd.prog 25 #[.int .i64 n] w fun e w' => e = .returned (.int .i64 (n - 2)) ∧ w = w' := by
  go_enter Tryd.func25, Tryd.ntmps25
  go_wp2
  go_ret
  exact ⟨rfl, rfl⟩
set_option maxRecDepth 100000 in
set_option maxHeartbeats 2000000 in
theorem four_4 (g i : Nat) (hi : i < 9) (F : Nat → Int) (T : TypeId) (w : World) (h : w.heap[g]? = some (.cells (ir F 16) T)) :
    Calls Tryd.prog 60 #[.slice (some ⟨g, 0, none⟩) 16 16, .int .i64 4, .int .i64 i] w fun e w' => e = .returned (.agg #[.int .i64 (F (at4 4 i)), .int .i64 (F (at4 4 i + 1)), .int .i64 (F (at4 4 i + 4)), .int .i64 (F (at4 4 i + 4 + 1))]) ∧ Below w.heap.size w w' := by
  have hb := alX w z4
  have hz := heap_alloc_new w z4
  have hr := (hb.block _ (lt_of_block h)).trans h
  have hne : ¬ w.heap.size = g := by have := lt_of_block h; omega
  have HB := Lib.hid hb
  have HZ := Lib.hid hz
  clear h hb
  obtain ⟨k, hk⟩ : ∃ k, k = at4 4 i := ⟨_, rfl⟩
  rw [← hk]
  have k1 : k < 11 := by unfold at4 at hk; omega
  have c0 := ir_cell hr k (by omega)
  have c1 := ir_cell hr (k + 1) (by omega)
  have c2 := ir_cell hr (k + 4) (by omega)
  have c3 := ir_cell hr (k + 4 + 1) (by omega)
  generalize F k = x0 at *
  generalize F (k + 1) = x1 at *
  generalize F (k + 4) = x2 at *
  generalize F (k + 4 + 1) = x3 at *
  clear hr
  have HK := Lib.hid hk
  clear hk
  go_enter Tryd.func60, Tryd.ntmps60
  go_wp2
  go_quiet (fail)
  go_wp2
  have e : (i : Int) / 3 * 4 + (i : Int) % 3 = (k : Int) := by rw [HK.out]; unfold at4; omega
  rw [e]
  have HB2 := Lib.hid (Below.drewN' HB.out nq)
  have HZ2 := Lib.hid (show ((w.alloc z4).drewN nq).heap[w.heap.size]? = some z4 from HZ.out)
  have c0 : ((w.alloc z4).drewN nq).cell? ⟨g, k, none⟩ = some (.int .i64 x0) := c0
  have c1 : ((w.alloc z4).drewN nq).cell? ⟨g, k + 1, none⟩ = some (.int .i64 x1) := c1
  have c2 : ((w.alloc z4).drewN nq).cell? ⟨g, k + 4, none⟩ = some (.int .i64 x2) := c2
  have c3 : ((w.alloc z4).drewN nq).cell? ⟨g, k + 4 + 1, none⟩ = some (.int .i64 x3) := c3
  clear e HB HZ hz
  generalize ((w.alloc z4).drewN nq) = W at *
  obtain ⟨b0, b1, b2, b3⟩ := row4 HZ2.out
  have f0 := frozen_of_row _ _ 0 _ _ HZ2.out
  have f1 := frozen_of_row _ _ 1 _ _ HZ2.out
  have f2 := frozen_of_row _ _ 2 _ _ HZ2.out
  have f3 := frozen_of_row _ _ 3 _ _ HZ2.out
  go_region
  go_wp2
  refine post_cell_row Tryd.results60 w.heap.size 71 #[.int .i64 x0, .int .i64 x1, .int .i64 x2, .int .i64 x3] (0, 0) _ Tryd.underlying71 rfl info_4 ?_ (row_set4 HZ2.out _ _ _ _) ?_ ?_
  · rfl
  · rfl
  exact ⟨rfl, (below_set4 HB2.out (Nat.le_refl _) _ _ _ _).drew⟩
set_option maxRecDepth 100000 in
set_option maxHeartbeats 2000000 in
theorem four_3 (g i : Nat) (hi : i < 4) (F : Nat → Int) (T : TypeId) (w : World) (h : w.heap[g]? = some (.cells (ir F 9) T)) :
    Calls Tryd.prog 60 #[.slice (some ⟨g, 0, none⟩) 9 9, .int .i64 3, .int .i64 i] w fun e w' => e = .returned (.agg #[.int .i64 (F (at4 3 i)), .int .i64 (F (at4 3 i + 1)), .int .i64 (F (at4 3 i + 3)), .int .i64 (F (at4 3 i + 3 + 1))]) ∧ Below w.heap.size w w' := by
  have hb := alX w z4
  have hz := heap_alloc_new w z4
  have hr := (hb.block _ (lt_of_block h)).trans h
  have hne : ¬ w.heap.size = g := by have := lt_of_block h; omega
  have HB := Lib.hid hb
  have HZ := Lib.hid hz
  clear h hb
  obtain ⟨k, hk⟩ : ∃ k, k = at4 3 i := ⟨_, rfl⟩
  rw [← hk]
  have k1 : k < 5 := by unfold at4 at hk; omega
  have c0 := ir_cell hr k (by omega)
  have c1 := ir_cell hr (k + 1) (by omega)
  have c2 := ir_cell hr (k + 3) (by omega)
  have c3 := ir_cell hr (k + 3 + 1) (by omega)
  generalize F k = x0 at *
  generalize F (k + 1) = x1 at *
  generalize F (k + 3) = x2 at *
  generalize F (k + 3 + 1) = x3 at *
  clear hr
  have HK := Lib.hid hk
  clear hk
  go_enter Tryd.func60, Tryd.ntmps60
  go_wp2
  go_quiet (fail)
  go_wp2
  have e : (i : Int) / 2 * 3 + (i : Int) % 2 = (k : Int) := by rw [HK.out]; unfold at4; omega
  rw [e]
  have HB2 := Lib.hid (Below.drewN' HB.out nq)
  have HZ2 := Lib.hid (show ((w.alloc z4).drewN nq).heap[w.heap.size]? = some z4 from HZ.out)
  have c0 : ((w.alloc z4).drewN nq).cell? ⟨g, k, none⟩ = some (.int .i64 x0) := c0
  have c1 : ((w.alloc z4).drewN nq).cell? ⟨g, k + 1, none⟩ = some (.int .i64 x1) := c1
  have c2 : ((w.alloc z4).drewN nq).cell? ⟨g, k + 3, none⟩ = some (.int .i64 x2) := c2
  have c3 : ((w.alloc z4).drewN nq).cell? ⟨g, k + 3 + 1, none⟩ = some (.int .i64 x3) := c3
  clear e HB HZ hz
  generalize ((w.alloc z4).drewN nq) = W at *
  obtain ⟨b0, b1, b2, b3⟩ := row4 HZ2.out
  have f0 := frozen_of_row _ _ 0 _ _ HZ2.out
  have f1 := frozen_of_row _ _ 1 _ _ HZ2.out
  have f2 := frozen_of_row _ _ 2 _ _ HZ2.out
  have f3 := frozen_of_row _ _ 3 _ _ HZ2.out
  go_region
  go_wp2
  refine post_cell_row Tryd.results60 w.heap.size 71 #[.int .i64 x0, .int .i64 x1, .int .i64 x2, .int .i64 x3] (0, 0) _ Tryd.underlying71 rfl info_4 ?_ (row_set4 HZ2.out _ _ _ _) ?_ ?_
  · rfl
  · rfl
  exact ⟨rfl, (below_set4 HB2.out (Nat.le_refl _) _ _ _ _).drew⟩
end Go.Proofs.YtgimphkamjojpaaDoor

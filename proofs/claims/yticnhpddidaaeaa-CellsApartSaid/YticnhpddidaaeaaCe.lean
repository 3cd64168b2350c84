/-
  THE WALK of compare, and what it is for a sort. Conditions: none.
-/

import Derived.Test.YticnhpddidaaeaaCd
namespace Go.Proofs.Yticnhpddidaaeaa
open Go.RowKit Ru Ce Go.Sort

def Grew (W : World) (v : Value) (e : Ending) (w' : World) : Prop := e = .returned v ∧ ∃ q os', w' = grow (W.drewN q) os'
theorem grow_ddd (W : World) (A B C : Obj) : (((W.alloc A).alloc B).alloc C).drew = grow (W.drewN 1) #[A, B, C] := by
  rw [alloc_eq_grow, alloc_eq_grow, alloc_eq_grow, grow_grow, grow_grow]
  rfl
theorem new2 (X : World) (c0 c1 : Value) (T : TypeId) (n : Nat) (hn : n = X.heap.size) : (X.alloc (.cells #[c0, c1] T)).drew.cell? ⟨n, 0, none⟩ = some c0 ∧ (X.alloc (.cells #[c0, c1] T)).drew.cell? ⟨n, 1, none⟩ = some c1 := by
  subst hn
  have hh := heap_alloc_new X (.cells #[c0, c1] T)
  exact ⟨cell_of_row _ _ 0 _ _ _ hh, cell_of_row _ _ 1 _ _ _ hh⟩
theorem cell_al {Y : World} {b o : Nat} {v : Value} (O : Obj) (h : Y.cell? ⟨b, o, none⟩ = some v) : (Y.alloc O).cell? ⟨b, o, none⟩ = some v :=
  ((alX Y O).cell (p := ⟨b, o, none⟩) (World.block_lt_of_cell? Y _ h)).trans h
theorem keep2 {Y : World} {b : Nat} {o : Nat} {v : Value} (c : Value) (d : Value) (T : TypeId) (h : Y.cell? ⟨b, o, none⟩ = some v) : (Y.alloc (.cells #[c, d] T)).drew.cell? ⟨b, o, none⟩ = some v :=
  cell_al _ h
theorem grow_one {Y W : World} {os : Array Obj} (h : Y = grow W os) (C : Obj) : (Y.alloc C).drew = grow (W.drewN 1) (os ++ #[C]) := by
  subst h
  rw [alloc_eq_grow, grow_grow]
  rfl
set_option maxRecDepth 100000 in
set_option maxHeartbeats 1000000 in
theorem compare_grew (a b : Cel) (W : World) : Calls Try.prog 14 #[cv a, cv b] W (Grew W (.int .i64 (ccmp a b))) := by
  obtain ⟨ax, ay⟩ := a
  obtain ⟨bx, by'⟩ := b
  unfold cv
  go_enter Try.func14, Try.ntmps14
  go_wp2
  obtain ⟨n, hn⟩ : ∃ n, n = W.heap.size + 1 := ⟨_, rfl⟩
  have a1 := heap_alloc_new W (.cells #[.int .i64 ax, .int .i64 ay] 31)
  have a2 := heap_alloc_new (W.alloc (.cells #[.int .i64 ax, .int .i64 ay] 31)) (.cells #[.int .i64 bx, .int .i64 by'] 31)
  have a3 := cell_al (.cells #[.int .i64 bx, .int .i64 by'] 31) (cell_of_row _ _ 0 _ _ _ a1)
  have a4 := cell_al (.cells #[.int .i64 bx, .int .i64 by'] 31) (cell_of_row _ _ 1 _ _ _ a1)
  have a5 := cell_of_row _ _ 0 _ _ _ a2
  have a6 := cell_of_row _ _ 1 _ _ _ a2
  have hg : ((W.alloc (.cells #[.int .i64 ax, .int .i64 ay] 31)).alloc (.cells #[.int .i64 bx, .int .i64 by'] 31)) = grow W #[.cells #[.int .i64 ax, .int .i64 ay] 31, .cells #[.int .i64 bx, .int .i64 by'] 31] := by
    rw [alloc_eq_grow, alloc_eq_grow, grow_grow]; rfl
  rw [World.size_alloc] at a5 a6
  generalize ((W.alloc (.cells #[.int .i64 ax, .int .i64 ay] 31)).alloc (.cells #[.int .i64 bx, .int .i64 by'] 31)) = Y at a3 a4 a5 a6 hg ⊢
  have HG := Lib.hid hg
  clear hg a1 a2
  have KA := Lib.hid (show Y.drew.cell? ⟨W.heap.size, 0, none⟩ = some (.int .i64 ax) ∧ Y.drew.cell? ⟨W.heap.size, 1, none⟩ = some (.int .i64 ay) ∧ Y.drew.cell? ⟨W.heap.size + 1, 0, none⟩ = some (.int .i64 bx) ∧ Y.drew.cell? ⟨W.heap.size + 1, 1, none⟩ = some (.int .i64 by') from ⟨a3, a4, a5, a6⟩)
  have KB := Lib.hid (show ∀ c d, (Y.alloc (.cells #[c, d] 3)).drew.cell? ⟨W.heap.size, 0, none⟩ = some (.int .i64 ax) ∧ (Y.alloc (.cells #[c, d] 3)).drew.cell? ⟨W.heap.size, 1, none⟩ = some (.int .i64 ay) ∧ (Y.alloc (.cells #[c, d] 3)).drew.cell? ⟨W.heap.size + 1, 0, none⟩ = some (.int .i64 bx) ∧ (Y.alloc (.cells #[c, d] 3)).drew.cell? ⟨W.heap.size + 1, 1, none⟩ = some (.int .i64 by') from fun c d => ⟨keep2 c d _ a3, keep2 c d _ a4, keep2 c d _ a5, keep2 c d _ a6⟩)
  clear a3 a4 a5 a6 hn n
  go_region_held3 (fun w' => w'.cell? ⟨W.heap.size, 0, none⟩ = some (.int .i64 ax) ∧ w'.cell? ⟨W.heap.size, 1, none⟩ = some (.int .i64 ay) ∧ w'.cell? ⟨W.heap.size + 1, 0, none⟩ = some (.int .i64 bx) ∧ w'.cell? ⟨W.heap.size + 1, 1, none⟩ = some (.int .i64 by')) (first | with_reducible exact KA.out | with_reducible exact KB.out _ _) (first | (go_at_call 25; refine (cmp_any _ _ _).mono ?_; rintro e w' ⟨rfl, rfl⟩) | (go_at_call 24; refine (or_any _ _ _ _ (new2 _ _ _ _ _ (by simp)).1 (new2 _ _ _ _ _ (by simp)).2).mono ?_; rintro e w' ⟨rfl, rfl⟩))
  all_goals go_wp2
  all_goals go_ret
  all_goals exact ⟨rfl, 1, _, grow_one HG.out _⟩
end Go.Proofs.Yticnhpddidaaeaa

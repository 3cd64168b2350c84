/-
  THE WALKS of isBeyond, cmp.Compare, cmp.Or, compare, IndexFunc, ContainsFunc, check. Conditions: those that each lemma names.
  THE WALK of compare, and what it is for a sort. Conditions: none.
-/
import Derived.Sort.Grow
import Derived.Deep.RegionLaw
import Derived.Deep.RegionHeld3
import Derived.BigQuiet
import Derived.Test.YtifkhmcdgmnipaaGreatDoorR25
namespace Go.Proofs.YtifkhmcdgmnipaaGreatDoor.Cl
open Go.RowKit Ru Ce

/-- below 0, 0, above 0 -/
def cm (a b : Int) : Int := if a < b then -1 else if b < a then 1 else 0
theorem nan_any (a : Int) (w : World) : Calls Tryz.prog 67 #[.int .i64 a] w fun e w' => e = .returned (.bool false) ∧ w = w' := by
  have hb : (a != a) = false := by simp
  go_enter Tryz.func67, Tryz.ntmps67
  go_wp2
  go_ret
  exact ⟨rfl, rfl⟩
theorem cmp_any (a b : Int) (w : World) : Calls Tryz.prog 43 #[.int .i64 a, .int .i64 b] w fun e w' => e = .returned (.int .i64 (cm a b)) ∧ w = w' := by
  by_cases h1 : a < b
  · have h0 := Lib.hid (show cm a b = -1 from if_pos h1)
    go_enter Tryz.func43, Tryz.ntmps43
    go_wp2_with (go_at_call 67; refine (nan_any _ _).mono ?_; rintro e w' ⟨rfl, rfl⟩)
    go_ret
    exact ⟨by rw [h0.out]; rfl, rfl⟩
  · by_cases h2 : b < a
    · have h0 := Lib.hid (show cm a b = 1 by unfold cm; rw [if_neg h1, if_pos h2])
      go_enter Tryz.func43, Tryz.ntmps43
      go_wp2_with (go_at_call 67; refine (nan_any _ _).mono ?_; rintro e w' ⟨rfl, rfl⟩)
      go_ret
      exact ⟨by rw [h0.out]; rfl, rfl⟩
    · have h0 := Lib.hid (show cm a b = 0 by unfold cm; rw [if_neg h1, if_neg h2])
      go_enter Tryz.func43, Tryz.ntmps43
      go_wp2_with (go_at_call 67; refine (nan_any _ _).mono ?_; rintro e w' ⟨rfl, rfl⟩)
      go_ret
      exact ⟨by rw [h0.out]; rfl, rfl⟩
/-- the first of two that is not 0 -/
def orI (a b : Int) : Int := if a = 0 then b else a
theorem or_any (a b : Int) (g : Nat) (w : World) (c0 : w.cell? ⟨g, 0, none⟩ = some (.int .i64 a)) (c1 : w.cell? ⟨g, 1, none⟩ = some (.int .i64 b)) :
    Calls Tryz.prog 42 #[.slice (some ⟨g, 0, none⟩) 2 2] w fun e w' => e = .returned (.int .i64 (orI a b)) ∧ w = w' := by
  by_cases h1 : a = 0
  · by_cases h2 : b = 0
    · have h0 := Lib.hid (show orI a b = 0 by unfold orI; rw [if_pos h1, h2])
      subst h1 h2
      go_enter Tryz.func42, Tryz.ntmps42
      go_wp2
      go_loop [8] (fun i => ∃ k : Nat, k ≤ 2 ∧ i = .int .i64 k) (fun i => 2 - (intOf i).toNat)
      case atStart => exact ⟨0, by omega, rfl⟩
      case round =>
        obtain ⟨k, hk, rfl⟩ := hrel
        rcases (show k = 0 ∨ k = 1 ∨ k = 2 by omega) with rfl | rfl | rfl
        · go_wp2
          go_round
          case rel => exact ⟨1, by omega, rfl⟩
          case measure => simp [intOf]
        · go_wp2
          go_round
          case rel => exact ⟨2, by omega, rfl⟩
          case measure => simp [intOf]
        · go_wp2
          go_ret
          exact ⟨by rw [h0.out]; rfl, rfl⟩
    · have h0 := Lib.hid (show orI a b = b by unfold orI; rw [if_pos h1])
      have hb : (b != 0) = true := by simpa using h2
      subst h1
      clear h2
      go_enter Tryz.func42, Tryz.ntmps42
      go_wp2
      go_loop [8] (fun i => ∃ k : Nat, k ≤ 1 ∧ i = .int .i64 k) (fun i => 2 - (intOf i).toNat)
      case atStart => exact ⟨0, by omega, rfl⟩
      case round =>
        obtain ⟨k, hk, rfl⟩ := hrel
        rcases (show k = 0 ∨ k = 1 by omega) with rfl | rfl
        · go_wp2
          go_round
          case rel => exact ⟨1, by omega, rfl⟩
          case measure => simp [intOf]
        · go_wp2
          go_ret
          exact ⟨by rw [h0.out]; rfl, rfl⟩
  · have h0 := Lib.hid (show orI a b = a by unfold orI; rw [if_neg h1])
    have hb : (a != 0) = true := by simpa using h1
    clear h1
    go_enter Tryz.func42, Tryz.ntmps42
    go_wp2
    go_loop [8] (fun i => i = .int .i64 0) (fun _ => 0)
    case atStart => rfl
    case round =>
      subst hrel
      go_wp2
      go_ret
      exact ⟨by rw [h0.out]; rfl, rfl⟩
/-- how two cells stand -/
def ccmp (a b : Cel) : Int := orI (cm a.2 b.2) (cm a.1 b.1)
theorem ccmp_lt (a b : Cel) : decide (ccmp a b < 0) = lt a b := by
  unfold ccmp orI cm lt
  rw [decide_eq_decide]
  repeat' split
  all_goals omega
end Go.Proofs.YtifkhmcdgmnipaaGreatDoor.Cl
namespace Go.Proofs.YtifkhmcdgmnipaaGreatDoor.Cl
open Go.RowKit Ru Ce Go.Sort

def Grew (W : World) (v : Value) (e : Ending) (w' : World) : Prop := e = .returned v ∧ ∃ q os', w' = grow (W.drewN q) os'
theorem grow_ddd (W : World) (A B C : Obj) : (((W.alloc A).alloc B).alloc C).drew = grow (W.drewN 1) #[A, B, C] := by
  rw [alloc_eq_grow, alloc_eq_grow, alloc_eq_grow, grow_grow, grow_grow]
  rfl
theorem new2 (X : World) (c0 c1 : Value) (T : TypeId) (n : Nat) (hn : n = X.heap.size) : (X.alloc (.cells #[c0, c1] T)).drew.cell? ⟨n, 0, none⟩ = some c0 ∧ (X.alloc (.cells #[c0, c1] T)).drew.cell? ⟨n, 1, none⟩ = some c1 := by
  subst hn
  have hh := heap_alloc_new X (.cells #[c0, c1] T)
  exact ⟨cell_of_row _ _ 0 _ _ _ hh, cell_of_row _ _ 1 _ _ _ hh⟩
theorem cell_al {Y : World} {b o : Nat} {v : Value} (O : Obj) (h : Y.cell? ⟨b, o, none⟩ = some v) : (Y.alloc O).cell? ⟨b, o, none⟩ = some v :=
  ((alX Y O).cell (p := ⟨b, o, none⟩) (World.block_lt_of_cell? Y _ h)).trans h
theorem keep2 {Y : World} {b : Nat} {o : Nat} {v : Value} (c : Value) (d : Value) (T : TypeId) (h : Y.cell? ⟨b, o, none⟩ = some v) : (Y.alloc (.cells #[c, d] T)).drew.cell? ⟨b, o, none⟩ = some v :=
  cell_al _ h
theorem grow_one {Y W : World} {os : Array Obj} (h : Y = grow W os) (C : Obj) : (Y.alloc C).drew = grow (W.drewN 1) (os ++ #[C]) := by
  subst h
  rw [alloc_eq_grow, grow_grow]
  rfl
set_option maxRecDepth 100000 in
set_option maxHeartbeats 1000000 in
theorem compare_grew (a b : Cel) (W : World) : Calls Tryz.prog 21 #[cv a, cv b] W (Grew W (.int .i64 (ccmp a b))) := by
  obtain ⟨ax, ay⟩ := a
  obtain ⟨bx, by'⟩ := b
  unfold cv
  go_enter Tryz.func21, Tryz.ntmps21
  go_wp2
  obtain ⟨n, hn⟩ : ∃ n, n = W.heap.size + 1 := ⟨_, rfl⟩
  have a1 := heap_alloc_new W (.cells #[.int .i64 ax, .int .i64 ay] 30)
  have a2 := heap_alloc_new (W.alloc (.cells #[.int .i64 ax, .int .i64 ay] 30)) (.cells #[.int .i64 bx, .int .i64 by'] 30)
  have a3 := cell_al (.cells #[.int .i64 bx, .int .i64 by'] 30) (cell_of_row _ _ 0 _ _ _ a1)
  have a4 := cell_al (.cells #[.int .i64 bx, .int .i64 by'] 30) (cell_of_row _ _ 1 _ _ _ a1)
  have a5 := cell_of_row _ _ 0 _ _ _ a2
  have a6 := cell_of_row _ _ 1 _ _ _ a2
  have hg : ((W.alloc (.cells #[.int .i64 ax, .int .i64 ay] 30)).alloc (.cells #[.int .i64 bx, .int .i64 by'] 30)) = grow W #[.cells #[.int .i64 ax, .int .i64 ay] 30, .cells #[.int .i64 bx, .int .i64 by'] 30] := by
    rw [alloc_eq_grow, alloc_eq_grow, grow_grow]; rfl
  rw [World.size_alloc] at a5 a6
  generalize ((W.alloc (.cells #[.int .i64 ax, .int .i64 ay] 30)).alloc (.cells #[.int .i64 bx, .int .i64 by'] 30)) = Y at a3 a4 a5 a6 hg ⊢
  have HG := Lib.hid hg
  clear hg a1 a2
  have KA := Lib.hid (show Y.drew.cell? ⟨W.heap.size, 0, none⟩ = some (.int .i64 ax) ∧ Y.drew.cell? ⟨W.heap.size, 1, none⟩ = some (.int .i64 ay) ∧ Y.drew.cell? ⟨W.heap.size + 1, 0, none⟩ = some (.int .i64 bx) ∧ Y.drew.cell? ⟨W.heap.size + 1, 1, none⟩ = some (.int .i64 by') from ⟨a3, a4, a5, a6⟩)
  have KB := Lib.hid (show ∀ c d, (Y.alloc (.cells #[c, d] 3)).drew.cell? ⟨W.heap.size, 0, none⟩ = some (.int .i64 ax) ∧ (Y.alloc (.cells #[c, d] 3)).drew.cell? ⟨W.heap.size, 1, none⟩ = some (.int .i64 ay) ∧ (Y.alloc (.cells #[c, d] 3)).drew.cell? ⟨W.heap.size + 1, 0, none⟩ = some (.int .i64 bx) ∧ (Y.alloc (.cells #[c, d] 3)).drew.cell? ⟨W.heap.size + 1, 1, none⟩ = some (.int .i64 by') from fun c d => ⟨keep2 c d _ a3, keep2 c d _ a4, keep2 c d _ a5, keep2 c d _ a6⟩)
  clear a3 a4 a5 a6 hn n
  go_region_held3 (fun w' => w'.cell? ⟨W.heap.size, 0, none⟩ = some (.int .i64 ax) ∧ w'.cell? ⟨W.heap.size, 1, none⟩ = some (.int .i64 ay) ∧ w'.cell? ⟨W.heap.size + 1, 0, none⟩ = some (.int .i64 bx) ∧ w'.cell? ⟨W.heap.size + 1, 1, none⟩ = some (.int .i64 by')) (first | with_reducible exact KA.out | with_reducible exact KB.out _ _) (first | (go_at_call 43; refine (cmp_any _ _ _).mono ?_; rintro e w' ⟨rfl, rfl⟩) | (go_at_call 42; refine (or_any _ _ _ _ (new2 _ _ _ _ _ (by simp)).1 (new2 _ _ _ _ _ (by simp)).2).mono ?_; rintro e w' ⟨rfl, rfl⟩))
  all_goals go_wp2
  all_goals go_ret
  all_goals exact ⟨rfl, 1, _, grow_one HG.out _⟩
end Go.Proofs.YtifkhmcdgmnipaaGreatDoor.Cl

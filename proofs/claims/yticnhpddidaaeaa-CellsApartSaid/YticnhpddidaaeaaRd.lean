/-
  THE WALKS of rule.Next, and of the document's May. Conditions: the parts are numbers of 16 bits.
-/

import Derived.Test.YticnhpddidaaeaaRa

namespace Go.Proofs.Yticnhpddidaaeaa
open Go.RowKit Ru

theorem next_may (b l : Nat) (x : Bool) (n : Int) (hb : b < 65536) (hl : l < 65536) (h : mayR b l = false) (w : World) :
    Calls Try.prog 20 #[Rv b l, .bool x, .int .i64 n] w fun e w' => e = .returned (.tuple #[.bool false, .iface 41 (.int .i64 11)]) ∧ Below w.heap.size w w' := by
  have HC := Lib.hid (fun w => check_bad b l hb hl h w)
  unfold Rv at HC ⊢
  clear hb hl h
  go_enter Try.func20, Try.ntmps20
  go_wp2_with (go_at_call 9; refine (HC.out _).mono ?_; rintro e w1 ⟨rfl, hb1⟩; have HB1 := Lib.hid ((alX w _).trans (hb1.mono (by simp))); clear hb1)
  go_ret2
  exact ⟨rfl, HB1.out⟩
theorem next_arg (b l : Nat) (x : Bool) (n : Int) (h : mayR b l = true) (hn : n < 0 ∨ 8 < n) (w : World) :
    Calls Try.prog 20 #[Rv b l, .bool x, .int .i64 n] w fun e w' => e = .returned (.tuple #[.bool false, .iface 41 (.int .i64 1)]) ∧ Below w.heap.size w w' := by
  have HC := Lib.hid (fun w => check_ok b l h w)
  unfold Rv at HC ⊢
  clear h
  rcases (show n < 0 ∨ (¬ n < 0 ∧ 8 < n) by omega) with h1 | ⟨h1, h2⟩
  all_goals
    clear hn
    go_enter Try.func20, Try.ntmps20
    go_wp2_with (go_at_call 9; refine (HC.out _).mono ?_; rintro e w1 ⟨rfl, hb1⟩; have HB1 := Lib.hid ((alX w _).trans (hb1.mono (by simp))); clear hb1)
    go_ret2
    exact ⟨rfl, HB1.out⟩
def pick (b l : Nat) (x : Bool) (n : Nat) : Bool := if x then hs l n else hs b n
theorem next_ok (b l : Nat) (x : Bool) (n : Nat) (h : mayR b l = true) (hn : n ≤ 8) (w : World) :
    Calls Try.prog 20 #[Rv b l, .bool x, .int .i64 n] w fun e w' => e = .returned (.tuple #[.bool (pick b l x n), .nilIface]) ∧ Below w.heap.size w w' := by
  have HC := Lib.hid (fun w => check_ok b l h w)
  have hm := mayR_true h
  have HB := Lib.hid (fun w => has_any b n (by omega) (by omega) w)
  have HL := Lib.hid (fun w => has_any l n (by omega) (by omega) w)
  unfold Rv at HC ⊢
  have n0 : ¬ (n : Int) < 0 := by omega
  have n1 : ¬ (8 : Int) < (n : Int) := by omega
  clear h hm hn
  cases x
  all_goals
    go_enter Try.func20, Try.ntmps20
    go_wp2_with (first | (go_at_call 9; refine (HC.out _).mono ?_; rintro e w1 ⟨rfl, hb1⟩; have HB1 := Lib.hid ((alX w _).trans (hb1.mono (by simp))); have hn := (hb1.block w.heap.size (by simp)).trans (heap_alloc_new w _); have c0 := cell_of_row _ _ 0 _ _ _ hn; have c1 := cell_of_row _ _ 1 _ _ _ hn; clear hn hb1) | (go_at_call 29; (first | with_reducible refine (HB.out _).mono ?_ | with_reducible refine (HL.out _).mono ?_); rintro e w' ⟨rfl, rfl⟩))
    go_ret2
    exact ⟨rfl, HB1.out⟩
/-- the document's -/
theorem may_ref (b l : Nat) (w : World) :
    Calls Try.prog 4 #[Rv b l] w fun e w' => e = .returned (.bool (mayR b l)) ∧ Below w.heap.size w w' := by
  unfold Rv
  have b0 : (0 : Int) ≤ (b : Int) := by omega
  have l0 : (0 : Int) ≤ (l : Int) := by omega
  by_cases h1 : b < 512
  · by_cases h2 : l < 512
    · have HM := Lib.hid (show ((b : Int) % 2 == 0) = mayR b l by
        simp only [mayR, h1, h2, decide_true, Bool.true_and]
        rw [Bool.eq_iff_iff, beq_iff_eq, beq_iff_eq]
        omega)
      have i1 : (b : Int) < 512 := by omega
      have i2 : (l : Int) < 512 := by omega
      clear h1 h2
      go_enter Try.func4, Try.ntmps4
      go_wp2
      go_ret
      exact ⟨by rw [← HM.out]; rfl, alX _ _⟩
    · have HM := Lib.hid (show mayR b l = false by simp [mayR, h2])
      have i1 : (b : Int) < 512 := by omega
      have i2 : ¬ (l : Int) < 512 := by omega
      have i3 : decide ((l : Int) < 512) = false := by simpa using i2
      clear h1 h2
      go_enter Try.func4, Try.ntmps4
      go_wp2
      go_ret
      exact ⟨by rw [HM.out]; rfl, alX _ _⟩
  · have HM := Lib.hid (show mayR b l = false by simp [mayR, h1])
    have i1 : ¬ (b : Int) < 512 := by omega
    have i3 : decide ((b : Int) < 512) = false := by simpa using i1
    clear h1
    go_enter Try.func4, Try.ntmps4
    go_wp2
    go_ret
    exact ⟨by rw [HM.out]; rfl, alX _ _⟩
end Go.Proofs.Yticnhpddidaaeaa

/-
  THE WALKS of the document's Has and Next of a rule. Conditions: the parts are numbers of 16 bits.
-/

import Derived.Test.YtbjpmefjfpefpaaDoorRd
namespace Go.Proofs.YtbjpmefjfpefpaaDoor
open Go.RowKit Ru

theorem has_ref (b n : Nat) (hb : b < 65536) (hn : n ≤ 100) (w : World) :
    Calls Tryd.prog 65 #[.int .u16 b, .int .i64 n] w fun e w' => e = .returned (.bool (hs b n)) ∧ w = w' := by
  go_enter Tryd.func65, Tryd.ntmps65
  go_wp2
  go_loop [0, 5] (fun x i => ∃ k : Nat, k ≤ n ∧ i = .int .i64 k ∧ x = .int .u16 ((b / 2 ^ k : Nat) : Int)) (fun _ i => n - (intOf i).toNat)
  case atStart => exact ⟨0, by omega, rfl, by simp⟩
  case round =>
    obtain ⟨k, hk, rfl, rfl⟩ := hrel
    have k0 : (0 : Int) ≤ (k : Int) := by omega
    have hle : b / 2 ^ k < 65536 := Nat.lt_of_le_of_lt (Nat.div_le_self _ _) hb
    have hd := Lib.hid (show ((b / 2 ^ k : Nat) : Int) / 2 = ((b / 2 ^ (k + 1) : Nat) : Int) by
      rw [Nat.pow_succ, ← Nat.div_div_eq_div_mul]; simp)
    by_cases hlt : k < n
    · have i1 : (k : Int) < (n : Int) := by omega
      generalize b / 2 ^ k = x at hle hd ⊢
      have x0 : (0 : Int) ≤ (x : Int) := by omega
      have x1 : (x : Int) < 65536 := by omega
      go_wp2
      go_round
      case rel => exact ⟨k + 1, by omega, by go_num, by rw [hd.out]⟩
      case measure => simp [intOf]; omega
    · obtain rfl : k = n := by omega
      have HB := Lib.hid (show (((b / 2 ^ k : Nat) : Int) % 2 == 1) = hs b k by
        unfold hs
        rw [Bool.eq_iff_iff, beq_iff_eq, beq_iff_eq]
        omega)
      generalize b / 2 ^ k = x at hle hd HB ⊢
      have x0 : (0 : Int) ≤ (x : Int) := by omega
      have x1 : (x : Int) < 65536 := by omega
      go_wp2
      go_ret
      exact ⟨by rw [← HB.out]; rfl, rfl⟩
theorem next_ref (b l : Nat) (x : Bool) (n : Nat) (hb : b < 65536) (hl : l < 65536) (hn : n ≤ 8) (w : World) :
    Calls Tryd.prog 47 #[Rv b l, .bool x, .int .i64 n] w fun e w' => e = .returned (.bool (pick b l x n)) ∧ Below w.heap.size w w' := by
  have HB := Lib.hid (fun w => has_ref b n hb (by omega) w)
  have HL := Lib.hid (fun w => has_ref l n hl (by omega) w)
  unfold Rv
  clear hb hl hn
  cases x
  all_goals
    go_enter Tryd.func47, Tryd.ntmps47
    go_wp2_with (go_at_call 65; (first | with_reducible refine (HB.out _).mono ?_ | with_reducible refine (HL.out _).mono ?_); rintro e w' ⟨rfl, rfl⟩)
    go_ret
    exact ⟨rfl, alX _ _⟩
end Go.Proofs.YtbjpmefjfpefpaaDoor

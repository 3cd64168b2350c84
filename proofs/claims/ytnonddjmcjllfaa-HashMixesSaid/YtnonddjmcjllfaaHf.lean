/-
  THE WALKS of hash.Front and of the document's Mix, Of and Front, and the statements' `sure`. Conditions: those that each lemma names.
-/
import Derived.Test.YtnonddjmcjllfaaHn
import Derived.IntWalk
import Derived.Deep.QuietTactic
import Derived.BigQuiet
import Derived.OpenShut
namespace Go.Proofs.Ytnonddjmcjllfaa
open Go.RowKit Hb

theorem fr_int (x : BitVec 64) (m : Nat) : rg x / 2 ^ (64 - m) = (frB x m : Int) := by
  unfold rg frB
  simp
theorem fr_small (x : BitVec 64) (m : Nat) (h : m ≤ 32) : (frB x m : Int) ≤ 4294967295 := by
  have h1 := fr_lt x m (by omega)
  have h2 : 2 ^ m ≤ 2 ^ 32 := Nat.pow_le_pow_right (by decide) h
  omega
theorem fr_wrap (x : BitVec 64) (m : Nat) (h : m ≤ 32) (d : Int) (hd : d = 2 ^ (64 - m)) : wrap64 (rg x / d) = (frB x m : Int) := by
  rw [hd, fr_int]
  have := fr_small x m h
  exact IntWalk.wrap64_in _ ⟨by omega, by omega⟩
theorem front_any (x : BitVec 64) (n b : Int) (m : Nat) (hn : n = rg x) (hm : min (max b 0) 32 = (m : Int)) (w : World) :
    Calls Try.prog 14 #[.int .u64 n, .int .i64 b] w fun e w' => e = .returned (.int .i64 (frB x m : Int)) ∧ w = w' := by
  subst hn
  have h0 := rg_lo x
  by_cases hb : b < 0
  · obtain rfl : m = 0 := by omega
    go_enter Try.func14, Try.ntmps14
    go_wp2
    go_ret
    exact ⟨ret_i64 (fr_wrap x 0 (by decide) _ rfl), rfl⟩
  by_cases hb2 : 32 < b
  · obtain rfl : m = 32 := by omega
    go_enter Try.func14, Try.ntmps14
    go_wp2
    go_ret
    exact ⟨ret_i64 (fr_wrap x 32 (by decide) _ rfl), rfl⟩
  obtain rfl : b = (m : Int) := by omega
  have m2 : m ≤ 32 := by omega
  have m0 : (0 : Int) ≤ (m : Int) := by omega
  have m1 : (m : Int) ≤ 32 := by omega
  clear hm hb hb2
  go_enter Try.func14, Try.ntmps14
  go_wp2
  go_ret
  exact ⟨ret_i64 (fr_wrap x m m2 _ rfl), rfl⟩
theorem quo_w (x : BitVec 64) (c : Int) (s : Nat) (h : c = 2 ^ s) : IntKind.u64.wrap ((rg x).tdiv c) = rg (x >>> s) := by
  rw [Int.tdiv_eq_ediv_of_nonneg (rg_lo x), h, shr_rg, wrap_rg]
theorem refMix_any (x : BitVec 64) (n : Int) (hn : n = rg x) (w : World) :
    Calls Try.prog 11 #[.int .u64 n] w fun e w' => e = .returned (.int .u64 (rg (mixB x))) ∧ w = w' := by
  subst hn
  have h0 := rg_lo x
  go_enter Try.func11, Try.ntmps11
  go_wp2
  go_ret
  exact ⟨ret_u64 (by rw [quo_w x 1073741824 30 (by decide), xor_rg, mul1, quo_w _ 134217728 27 (by decide), xor_rg, mul2, quo_w _ 2147483648 31 (by decide), xor_rg]; rfl), rfl⟩
set_option maxRecDepth 100000 in
theorem refOf_any (a : Option Addr) (n c : Nat) (xs : List (BitVec 64)) (w : World) (hx : LiesQ w a xs) (hn : xs.length = n) (hm : n ≤ 9223372036854775807) :
    Calls Try.prog 13 #[.slice a n c] w fun e w' => e = .returned (.int .u64 (rg (ofB xs))) ∧ w = w' := by
  have HX := Lib.hid hx
  have HN := Lib.hid hn
  clear hx hn
  go_enter Try.func13, Try.ntmps13
  go_wp2
  go_loop [3, 4] (fun t i => ∃ k : Nat, k ≤ n ∧ i = .int .i64 k ∧ t = .int .u64 (rg (ofB (xs.take k)))) (fun _ i => n - (intOf i).toNat)
  case atStart => exact ⟨0, by omega, rfl, rfl⟩
  case round =>
    obtain ⟨k, hk, rfl, rfl⟩ := hrel
    by_cases hlt : k < n
    · have hkl : k < xs.length := by rw [HN.out]; exact hlt
      obtain ⟨b, off, rfl, hc⟩ := HX.out k hkl
      have H : Hid (ofB (xs.take (k + 1)) = _) := Lib.hid (of_take xs k hkl)
      generalize xs[k] = x at hc H
      go_wp2_with (go_at_call 11; refine (refMix_any ((ofB (xs.take k) ^^^ x) + gold) _ (by rw [xor_rg, ← add_gold, IntKind.wrap_u64]) _).mono ?_; rintro e w' ⟨rfl, rfl⟩)
      go_round
      case rel => exact ⟨k + 1, by omega, by go_num, by rw [H.out]; rfl⟩
      case measure => simp [intOf]; omega
    · obtain rfl : k = n := by omega
      go_wp2
      go_ret
      exact ⟨ret_u64 (by rw [List.take_of_length_le (by rw [HN.out]; exact Nat.le_refl _)]), rfl⟩
def lei (x : BitVec 64) (m : Nat) : Int := (leB x m : Int)
theorem refFront_any (x : BitVec 64) (b : Int) (m : Nat) (hm : min (max b 0) 32 = (m : Int)) (hb : b ≤ 9223372036854775807) (w : World) :
    Calls Try.prog 15 #[.int .u64 (rg x), .int .i64 b] w fun e w' => e = .returned (.int .i64 (frB x m : Int)) ∧ w = w' := by
  have hm32 : m ≤ 32 := by omega
  have HM := Lib.hid hm
  have hle0 : rg x = lei x 0 := by unfold rg lei; rw [le_zero]
  have HL0 := Lib.hid hle0
  clear hm hle0
  go_enter Try.func15, Try.ntmps15
  go_wp2
  go_loop [0, 5, 6] (fun t n i => ∃ k : Nat, k ≤ m ∧ i = .int .i64 k ∧ t = .int .u64 (lei x k) ∧ n = .int .i64 (frB x k : Int)) (fun _ _ i => m - (intOf i).toNat)
  case atStart => exact ⟨0, by omega, rfl, by rw [HL0.out], by rw [fr_zero]; rfl⟩
  case round =>
    obtain ⟨k, hk, rfl, rfl, rfl⟩ := hrel
    by_cases hlt : k < m
    · have hq1 : (k : Int) < b := by have := HM.out; omega
      have hq2 : (k : Int) < 32 := by omega
      have hs := fr_small x k (by omega)
      have hn := fr_next x k (by omega)
      have HX : Hid (lei x k * 2 % 18446744073709551616 = lei x (k + 1)) := Lib.hid (by unfold lei; rw [← le_next]; rfl)
      by_cases hbit : 9223372036854775808 ≤ leB x k
      · rw [if_pos hbit] at hn
        have hge : (9223372036854775808 : Int) ≤ lei x k := by unfold lei; omega
        have HN := Lib.hid hn
        clear hn hbit
        go_wp2
        go_round
        case rel => exact ⟨k + 1, by omega, by go_num, by rw [← HX.out, IntKind.wrap_u64], by rw [HN.out]; go_num⟩
        case measure => simp [intOf]; omega
      · rw [if_neg hbit] at hn
        have hge : ¬ (9223372036854775808 : Int) ≤ lei x k := by unfold lei; omega
        have HN := Lib.hid hn
        clear hn hbit
        go_wp2
        go_round
        case rel => exact ⟨k + 1, by omega, by go_num, by rw [← HX.out, IntKind.wrap_u64], by rw [HN.out]; go_num⟩
        case measure => simp [intOf]; omega
    · obtain rfl : k = m := by omega
      have hq : (¬ (k : Int) < b) ∨ ((k : Int) < b ∧ ¬ (k : Int) < 32) := by have := HM.out; omega
      rcases hq with h1 | ⟨h1, h2⟩
      all_goals
        go_wp2
        go_ret
        exact ⟨rfl, rfl⟩
end Go.Proofs.Ytnonddjmcjllfaa

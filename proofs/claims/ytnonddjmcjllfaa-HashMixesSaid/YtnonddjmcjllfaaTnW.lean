/-
  THE WALK of the statement on numbers mixed, and turned back, so many times. Conditions: what came in could be read.
-/
import Derived.Test.YtnonddjmcjllfaaSu
namespace Go.Proofs.Ytnonddjmcjllfaa
open Go.RowKit Hb

theorem red_bd (a m : Int) (hm : 0 < m) (hm2 : m ≤ 9223372036854775807) : 0 ≤ wrap64 ((IntKind.u64.wrap a).tmod m) ∧ wrap64 ((IntKind.u64.wrap a).tmod m) < m := by
  have h0 := wrap_u64_nonneg a
  rw [Int.tmod_eq_emod_of_nonneg h0]
  have h1 := Int.emod_nonneg (IntKind.u64.wrap a) (show m ≠ 0 by omega)
  have h2 := Int.emod_lt_of_pos (IntKind.u64.wrap a) hm
  rw [IntWalk.wrap64_in _ ⟨by omega, by omega⟩]
  exact ⟨h1, h2⟩
theorem red_nat (a m : Int) (hm : 0 < m) (hm2 : m ≤ 9223372036854775807) : ∃ k : Nat, wrap64 ((IntKind.u64.wrap a).tmod m) = k ∧ (k : Int) < m := by
  have := red_bd a m hm hm2
  exact ⟨(wrap64 ((IntKind.u64.wrap a).tmod m)).toNat, by omega, by omega⟩
set_option maxRecDepth 100000 in
theorem turns_walk (x n : Int) (w : World) (w0 : (Lit.int .u64 x).wf = true) (_w1 : (Lit.int .i64 n).wf = true) :
    Calls Try.prog 8 #[.int .u64 x, .int .i64 n] w fun e w' => e = .returned (.bool true) ∧ Below w.heap.size w w' := by
  obtain ⟨X, rfl⟩ := u64_open w0
  clear w0
  obtain ⟨k, hk, hk50⟩ := red_nat n 50 (by omega) (by omega)
  have k0 : (0 : Int) ≤ (k : Int) := by omega
  go_enter Try.func8, Try.ntmps8
  go_wp2
  simp only [hk]
  clear hk
  go_loop [6, 7] (fun t i => ∃ j : Nat, j ≤ k ∧ i = .int .i64 j ∧ t = .int .u64 (rg (itB mixB j X))) (fun _ i => k - (intOf i).toNat)
  case atStart => exact ⟨0, by omega, rfl, rfl⟩
  case round =>
    obtain ⟨j, hj, rfl, rfl⟩ := hrel
    by_cases hlt : j < k
    · have hq : (j : Int) < (k : Int) := by omega
      go_wp2_with (go_at_call 10; refine (mix_any _ _ rfl _).mono ?_; rintro e w' ⟨rfl, rfl⟩)
      go_round
      case rel => exact ⟨j + 1, by omega, by go_num, rfl⟩
      case measure => simp [intOf]; omega
    · obtain rfl : j = k := by omega
      go_wp2
      go_loop [6, 8] (fun t i => ∃ i' : Nat, i' ≤ j ∧ i = .int .i64 i' ∧ t = .int .u64 (rg (itB backB i' (itB mixB j X)))) (fun _ i => j - (intOf i).toNat)
      case atStart => exact ⟨0, by omega, rfl, rfl⟩
      case round =>
        obtain ⟨i, hi, rfl, rfl⟩ := hrel
        by_cases hlt2 : i < j
        · have hq : (i : Int) < (j : Int) := by omega
          go_wp2_with (go_at_call 16; refine (back_any _ _ rfl _).mono ?_; rintro e w' ⟨rfl, rfl⟩)
          go_round
          case rel => exact ⟨i + 1, by omega, by go_num, rfl⟩
          case measure => simp [intOf]; omega
        · obtain rfl : i = j := by omega
          have h1 : itB backB i (itB mixB i X) = X := by rw [it_back X i i (Nat.le_refl _), Nat.sub_self]; rfl
          rw [h1]
          clear h1
          have h0 := rg_lo X
          have h2 := fr_wrap X 32 (by decide) 4294967296 (by decide)
          go_wp2_with (first | (go_at_call 14; refine (front_any X _ _ 32 rfl (by decide) _).mono ?_; rintro e w' ⟨rfl, rfl⟩) | (go_at_call 9; refine (sure_any _).mono ?_; rintro e w' ⟨rfl, rfl⟩))
          go_ret
          exact ⟨rfl, Below.refl _ _⟩
end Go.Proofs.Ytnonddjmcjllfaa

/-
  THE WALKS of the statements' `sure`, and of those on Mix and Back. Conditions: what came in could be read.
-/
import Derived.Test.YtnonddjmcjllfaaHf
namespace Go.Proofs.Ytnonddjmcjllfaa
open Go.RowKit Hb

theorem of_nil (w : World) : Calls Try.prog 12 #[.slice none 0 0] w fun e w' => e = .returned (.int .u64 11400714819323198485) ∧ w = w' :=
  of_any none 0 0 [] w (fun i hi => absurd hi (by simp)) rfl (by decide)
theorem mix_zero (w : World) : Calls Try.prog 10 #[.int .u64 0] w fun e w' => e = .returned (.int .u64 0) ∧ w = w' :=
  (mix_any 0#64 0 rfl w).mono fun _ _ ⟨he, hw⟩ => ⟨by rw [he]; exact ret_u64 (by decide), hw⟩
theorem front_one (w : World) : Calls Try.prog 14 #[.int .u64 9223372036854775808, .int .i64 1] w fun e w' => e = .returned (.int .i64 1) ∧ w = w' :=
  (front_any 9223372036854775808#64 9223372036854775808 1 1 rfl (by decide) w).mono fun _ _ ⟨he, hw⟩ => ⟨by rw [he]; exact ret_i64 (by decide), hw⟩
theorem mix_five (w : World) : Calls Try.prog 10 #[.int .u64 5] w fun e w' => e = .returned (.int .u64 (rg (mixB 5#64))) ∧ w = w' := mix_any 5#64 5 rfl w
theorem back_five (w : World) : Calls Try.prog 16 #[.int .u64 (rg (mixB 5#64))] w fun e w' => e = .returned (.int .u64 5) ∧ w = w' :=
  (back_any (mixB 5#64) _ rfl w).mono fun _ _ ⟨he, hw⟩ => ⟨by rw [he, back_mix]; rfl, hw⟩
theorem sure_any (w : World) : Calls Try.prog 9 #[] w fun e w' => e = .returned (.bool true) ∧ w = w' := by
  go_enter Try.func9, Try.ntmps9
  go_wp2_with fail
  refine (of_nil _).mono ?_; rintro e w' ⟨rfl, rfl⟩
  go_wp2_with fail
  refine (mix_zero _).mono ?_; rintro e w' ⟨rfl, rfl⟩
  go_wp2_with fail
  refine (front_one _).mono ?_; rintro e w' ⟨rfl, rfl⟩
  go_wp2_with fail
  refine (mix_five _).mono ?_; rintro e w' ⟨rfl, rfl⟩
  go_wp2_with fail
  refine (back_five _).mono ?_; rintro e w' ⟨rfl, rfl⟩
  go_wp2
  go_ret
  exact ⟨rfl, rfl⟩

theorem u64_open {n : Int} (h : (Lit.int .u64 n).wf = true) : ∃ X, n = rg X := by
  have h2 := bounds_u64 h
  have hb : 0 ≤ n ∧ n < 2 ^ 64 := by omega
  exact ⟨BitVec.ofInt 64 n, (rg_of n hb.1 hb.2).symm⟩
theorem rg_ne {X Y : BitVec 64} (h : ¬ X = Y) : (rg X == rg Y) = false := by
  rw [beq_eq_false_iff_ne]
  exact fun e => h (rg_inj e)

set_option maxRecDepth 100000 in
theorem back_walk (x y : Int) (w : World) (w0 : (Lit.int .u64 x).wf = true) (w1 : (Lit.int .u64 y).wf = true) :
    Calls Try.prog 4 #[.int .u64 x, .int .u64 y] w fun e w' => e = .returned (.bool true) ∧ Below w.heap.size w w' := by
  obtain ⟨X, rfl⟩ := u64_open w0
  obtain ⟨Y, rfl⟩ := u64_open w1
  clear w0 w1
  have h1 := back_mix X
  have h2 := mix_back X
  by_cases h : X = Y
  · subst h
    go_enter Try.func4, Try.ntmps4
    go_wp2_with (first | (go_at_call 10; refine (mix_any _ _ rfl _).mono ?_; rintro e w' ⟨rfl, rfl⟩) | (go_at_call 16; refine (back_any _ _ rfl _).mono ?_; rintro e w' ⟨rfl, rfl⟩) | (go_at_call 9; refine (sure_any _).mono ?_; rintro e w' ⟨rfl, rfl⟩))
    go_ret
    exact ⟨rfl, Below.refl _ _⟩
  · have h3 := rg_ne h
    have h4 := rg_ne (X := mixB X) (Y := mixB Y) (fun e => h (mix_inj e))
    go_enter Try.func4, Try.ntmps4
    go_wp2_with (first | (go_at_call 10; refine (mix_any _ _ rfl _).mono ?_; rintro e w' ⟨rfl, rfl⟩) | (go_at_call 16; refine (back_any _ _ rfl _).mono ?_; rintro e w' ⟨rfl, rfl⟩) | (go_at_call 9; refine (sure_any _).mono ?_; rintro e w' ⟨rfl, rfl⟩))
    go_ret
    exact ⟨rfl, Below.refl _ _⟩
end Go.Proofs.Ytnonddjmcjllfaa

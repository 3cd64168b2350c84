/-
  THE WALK of the statement on first bits. Conditions: what came in could be read.
-/
import Derived.Test.YtnonddjmcjllfaaOnW
namespace Go.Proofs.Ytnonddjmcjllfaa
open Go.RowKit Hb

theorem fr_shl (X : BitVec 64) (q : Nat) (h : q < 33) : (frB X q : Int) < wrap64 (2 ^ q) := by
  have h1 := fr_lt X q (by omega)
  have h2 : (2 : Nat) ^ q ≤ 2 ^ 32 := Nat.pow_le_pow_right (by decide) (by omega)
  have e : (2 : Int) ^ q = ((2 ^ q : Nat) : Int) := by simp
  rw [e, IntWalk.wrap64_in _ ⟨by omega, by omega⟩]
  omega
theorem fr_shr (X : BitVec 64) (p q : Nat) (h : q ≤ p) (hp : p < 33) : ((frB X p : Int) / 2 ^ (p - q) == (frB X q : Int)) = true := by
  have h1 := fr_more X q p h (by omega)
  rw [beq_iff_eq, ← h1]
  simp
set_option maxRecDepth 100000 in
theorem fronts_walk (x a b : Int) (w : World) (w0 : (Lit.int .u64 x).wf = true) (w1 : (Lit.int .i64 a).wf = true) (_w2 : (Lit.int .i64 b).wf = true) :
    Calls Try.prog 6 #[.int .u64 x, .int .i64 a, .int .i64 b] w fun e w' => e = .returned (.bool true) ∧ Below w.heap.size w w' := by
  obtain ⟨X, rfl⟩ := u64_open w0
  clear w0
  have b1 := bounds_i64 w1
  obtain ⟨p, hp, hp33⟩ := red_nat a 33 (by omega) (by omega)
  obtain ⟨q, hq, hq33⟩ := red_nat b 33 (by omega) (by omega)
  have p0 : (0 : Int) ≤ (p : Int) := by omega
  have q0 : (0 : Int) ≤ (q : Int) := by omega
  go_enter Try.func6, Try.ntmps6
  go_upto_region 2 with (fail)
  simp only [hp, hq]
  clear hp hq
  have t0 : -1000 < a.tmod 1000 := Int.lt_tmod_of_pos a (by decide)
  have t1 : a.tmod 1000 < 1000 := Int.tmod_lt_of_pos a (by decide)
  by_cases hpq : (q : Int) < (p : Int)
  · skip
    have f1 := fr_shl X q (by omega)
    have f2 := fr_shr X p q (by omega) (by omega)
    obtain ⟨m, hm⟩ := clamp_nat (33 + a.tmod 1000)
    have HM := Lib.hid hm
    clear hm
    go_upto_region 5 with (go_at_call 14; first | (with_reducible refine (front_any X _ (p : Int) p rfl (by omega) _).mono ?_; rintro e w' ⟨rfl, rfl⟩) | (with_reducible refine (front_any X _ (q : Int) q rfl (by omega) _).mono ?_; rintro e w' ⟨rfl, rfl⟩))
    go_wp2_with fail
    refine (front_any X _ _ m rfl (by have := HM.out; omega) _).mono ?_; rintro e w' ⟨rfl, rfl⟩
    rcases (show 33 + a.tmod 1000 < 0 ∨ 32 < 33 + a.tmod 1000 ∨ (¬ 33 + a.tmod 1000 < 0 ∧ ¬ 32 < 33 + a.tmod 1000) by omega) with c | c | ⟨c, c2⟩
    all_goals
      go_wp2_with (first | (go_at_call 14; refine (front_any X _ _ m rfl (by have := HM.out; omega) _).mono ?_; rintro e w' ⟨rfl, rfl⟩) | (go_at_call 9; refine (sure_any _).mono ?_; rintro e w' ⟨rfl, rfl⟩))
      all_goals (go_ret; exact ⟨rfl, Below.refl _ _⟩)
  · skip
    have f1 := fr_shl X p (by omega)
    have f2 := fr_shr X q p (by omega) (by omega)
    obtain ⟨m, hm⟩ := clamp_nat (33 + a.tmod 1000)
    have HM := Lib.hid hm
    clear hm
    go_upto_region 5 with (go_at_call 14; first | (with_reducible refine (front_any X _ (p : Int) p rfl (by omega) _).mono ?_; rintro e w' ⟨rfl, rfl⟩) | (with_reducible refine (front_any X _ (q : Int) q rfl (by omega) _).mono ?_; rintro e w' ⟨rfl, rfl⟩))
    go_wp2_with fail
    refine (front_any X _ _ m rfl (by have := HM.out; omega) _).mono ?_; rintro e w' ⟨rfl, rfl⟩
    rcases (show 33 + a.tmod 1000 < 0 ∨ 32 < 33 + a.tmod 1000 ∨ (¬ 33 + a.tmod 1000 < 0 ∧ ¬ 32 < 33 + a.tmod 1000) by omega) with c | c | ⟨c, c2⟩
    all_goals
      go_wp2_with (first | (go_at_call 14; refine (front_any X _ _ m rfl (by have := HM.out; omega) _).mono ?_; rintro e w' ⟨rfl, rfl⟩) | (go_at_call 9; refine (sure_any _).mono ?_; rintro e w' ⟨rfl, rfl⟩))
      all_goals (go_ret; exact ⟨rfl, Below.refl _ _⟩)
end Go.Proofs.Ytnonddjmcjllfaa

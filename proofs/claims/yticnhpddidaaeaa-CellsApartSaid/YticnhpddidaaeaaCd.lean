/-
  THE WALKS of isBeyond, cmp.Compare, cmp.Or, compare, IndexFunc, ContainsFunc, check. Conditions: those that each lemma names.
-/

import Derived.Test.YticnhpddidaaeaaCc
import Derived.Sort.Grow
import Derived.Deep.RegionLaw
import Derived.Deep.RegionHeld3
import Derived.BigQuiet
namespace Go.Proofs.Yticnhpddidaaeaa
open Go.RowKit Ru Ce

theorem beyond_any (c : Cel) (w : World) : Calls Try.prog 21 #[cv c] w fun e w' => e = .returned (.bool (!okc c)) ∧ Below w.heap.size w w' := by
  obtain ⟨x, y⟩ := c
  unfold cv
  by_cases h1 : x < -274877906944
  · have h0 : okc (x, y) = false := by rw [Bool.eq_false_iff, ne_eq, okc_iff]; simp only; omega
    rw [h0]
    clear h0
    go_enter Try.func21, Try.ntmps21
    go_wp2
    go_ret
    exact ⟨rfl, alX _ _⟩
  · by_cases h2 : 274877906944 < x
    · have h0 : okc (x, y) = false := by rw [Bool.eq_false_iff, ne_eq, okc_iff]; simp only; omega
      rw [h0]
      clear h0
      go_enter Try.func21, Try.ntmps21
      go_wp2
      go_ret
      exact ⟨rfl, alX _ _⟩
    · by_cases h3 : y < -274877906944
      · have h0 : okc (x, y) = false := by rw [Bool.eq_false_iff, ne_eq, okc_iff]; simp only; omega
        rw [h0]
        clear h0
        go_enter Try.func21, Try.ntmps21
        go_wp2
        go_ret
        exact ⟨rfl, alX _ _⟩
      · by_cases h4 : 274877906944 < y
        · have h0 : okc (x, y) = false := by rw [Bool.eq_false_iff, ne_eq, okc_iff]; simp only; omega
          rw [h0]
          clear h0
          go_enter Try.func21, Try.ntmps21
          go_wp2
          go_ret
          exact ⟨rfl, alX _ _⟩
        · have h0 : okc (x, y) = true := by rw [okc_iff]; simp only; omega
          rw [h0]
          clear h0
          go_enter Try.func21, Try.ntmps21
          go_wp2
          go_ret
          exact ⟨rfl, alX _ _⟩
/-- below 0, 0, above 0 -/
def cm (a b : Int) : Int := if a < b then -1 else if b < a then 1 else 0
theorem nan_any (a : Int) (w : World) : Calls Try.prog 40 #[.int .i64 a] w fun e w' => e = .returned (.bool false) ∧ w = w' := by
  have hb : (a != a) = false := by simp
  go_enter Try.func40, Try.ntmps40
  go_wp2
  go_ret
  exact ⟨rfl, rfl⟩
theorem cmp_any (a b : Int) (w : World) : Calls Try.prog 25 #[.int .i64 a, .int .i64 b] w fun e w' => e = .returned (.int .i64 (cm a b)) ∧ w = w' := by
  by_cases h1 : a < b
  · have h0 := Lib.hid (show cm a b = -1 from if_pos h1)
    go_enter Try.func25, Try.ntmps25
    go_wp2_with (go_at_call 40; refine (nan_any _ _).mono ?_; rintro e w' ⟨rfl, rfl⟩)
    go_ret
    exact ⟨by rw [h0.out]; rfl, rfl⟩
  · by_cases h2 : b < a
    · have h0 := Lib.hid (show cm a b = 1 by unfold cm; rw [if_neg h1, if_pos h2])
      go_enter Try.func25, Try.ntmps25
      go_wp2_with (go_at_call 40; refine (nan_any _ _).mono ?_; rintro e w' ⟨rfl, rfl⟩)
      go_ret
      exact ⟨by rw [h0.out]; rfl, rfl⟩
    · have h0 := Lib.hid (show cm a b = 0 by unfold cm; rw [if_neg h1, if_neg h2])
      go_enter Try.func25, Try.ntmps25
      go_wp2_with (go_at_call 40; refine (nan_any _ _).mono ?_; rintro e w' ⟨rfl, rfl⟩)
      go_ret
      exact ⟨by rw [h0.out]; rfl, rfl⟩
/-- the first of two that is not 0 -/
def orI (a b : Int) : Int := if a = 0 then b else a
theorem or_any (a b : Int) (g : Nat) (w : World) (c0 : w.cell? ⟨g, 0, none⟩ = some (.int .i64 a)) (c1 : w.cell? ⟨g, 1, none⟩ = some (.int .i64 b)) :
    Calls Try.prog 24 #[.slice (some ⟨g, 0, none⟩) 2 2] w fun e w' => e = .returned (.int .i64 (orI a b)) ∧ w = w' := by
  by_cases h1 : a = 0
  · by_cases h2 : b = 0
    · have h0 := Lib.hid (show orI a b = 0 by unfold orI; rw [if_pos h1, h2])
      subst h1 h2
      go_enter Try.func24, Try.ntmps24
      go_wp2
      go_loop [8] (fun i => ∃ k : Nat, k ≤ 2 ∧ i = .int .i64 k) (fun i => 2 - (intOf i).toNat)
      case atStart => exact ⟨0, by omega, rfl⟩
      case round =>
        obtain ⟨k, hk, rfl⟩ := hrel
        rcases (show k = 0 ∨ k = 1 ∨ k = 2 by omega) with rfl | rfl | rfl
        · go_wp2
          go_round
          case rel => exact ⟨1, by omega, rfl⟩
          case measure => simp [intOf]
        · go_wp2
          go_round
          case rel => exact ⟨2, by omega, rfl⟩
          case measure => simp [intOf]
        · go_wp2
          go_ret
          exact ⟨by rw [h0.out]; rfl, rfl⟩
    · have h0 := Lib.hid (show orI a b = b by unfold orI; rw [if_pos h1])
      have hb : (b != 0) = true := by simpa using h2
      subst h1
      clear h2
      go_enter Try.func24, Try.ntmps24
      go_wp2
      go_loop [8] (fun i => ∃ k : Nat, k ≤ 1 ∧ i = .int .i64 k) (fun i => 2 - (intOf i).toNat)
      case atStart => exact ⟨0, by omega, rfl⟩
      case round =>
        obtain ⟨k, hk, rfl⟩ := hrel
        rcases (show k = 0 ∨ k = 1 by omega) with rfl | rfl
        · go_wp2
          go_round
          case rel => exact ⟨1, by omega, rfl⟩
          case measure => simp [intOf]
        · go_wp2
          go_ret
          exact ⟨by rw [h0.out]; rfl, rfl⟩
  · have h0 := Lib.hid (show orI a b = a by unfold orI; rw [if_neg h1])
    have hb : (a != 0) = true := by simpa using h1
    clear h1
    go_enter Try.func24, Try.ntmps24
    go_wp2
    go_loop [8] (fun i => i = .int .i64 0) (fun _ => 0)
    case atStart => rfl
    case round =>
      subst hrel
      go_wp2
      go_ret
      exact ⟨by rw [h0.out]; rfl, rfl⟩
/-- how two cells stand -/
def ccmp (a b : Cel) : Int := orI (cm a.2 b.2) (cm a.1 b.1)
theorem ccmp_lt (a b : Cel) : decide (ccmp a b < 0) = lt a b := by
  unfold ccmp orI cm lt
  rw [decide_eq_decide]
  repeat' split
  all_goals omega
end Go.Proofs.Yticnhpddidaaeaa

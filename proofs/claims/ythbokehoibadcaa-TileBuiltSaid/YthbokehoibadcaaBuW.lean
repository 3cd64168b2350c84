/-
  TileBuilt, the walk. No condition but that the input could be read.
-/
import Derived.Test.YthbokehoibadcaaSu
namespace Go.Proofs.Ythbokehoibadcaa
open Go.RowKit Ti

/-- the tile built, and the one taken away, behind the first k cells -/
def UpAt (t : T6) (k : Nat) (a : T6) : Prop := ∀ i, i < 64 → a.getLsbD i = (decide (i < k) && t.getLsbD i)
def DnAt (t : T6) (k : Nat) (a : T6) : Prop := ∀ i, i < 64 → a.getLsbD i = (!decide (i < k) && t.getLsbD i)
theorem setB_bit (a : T6) (x y : Nat) (c : Bool) (h : 8 * y + x < 64) (i : Nat) : (setB a x y c).getLsbD i = if i = 8 * y + x then c else a.getLsbD i := by
  unfold setB
  cases c
  · rw [if_neg (by simp), not_cell a x y h]
    by_cases e : i = 8 * y + x
    · simp [e]
    · simp [e]
  · rw [if_pos rfl, or_cell a x y h]
    by_cases e : i = 8 * y + x
    · simp [e]
    · simp [e]
theorem UpAt.on {t a : T6} {k : Nat} (h : UpAt t k a) (hk : k < 64) : UpAt t (k + 1) (setB a (k % 8) (k / 8) (t.getLsbD k)) := by
  intro i hi
  rw [setB_bit _ _ _ _ (by omega), h i hi, show 8 * (k / 8) + k % 8 = k by omega]
  by_cases e : i = k
  · subst e; simp
  · have : decide (i < k + 1) = decide (i < k) := by rw [Bool.eq_iff_iff, decide_eq_true_iff, decide_eq_true_iff]; omega
    rw [if_neg e, this]
theorem DnAt.on {t a : T6} {k : Nat} (h : DnAt t k a) (hk : k < 64) : DnAt t (k + 1) (setB a (k % 8) (k / 8) false) := by
  intro i hi
  rw [setB_bit _ _ _ _ (by omega), h i hi, show 8 * (k / 8) + k % 8 = k by omega]
  by_cases e : i = k
  · subst e; simp
  · have : decide (i < k + 1) = decide (i < k) := by rw [Bool.eq_iff_iff, decide_eq_true_iff, decide_eq_true_iff]; omega
    rw [if_neg e, this]
theorem UpAt.all {t a : T6} (h : UpAt t 64 a) : a = t := by
  apply BitVec.eq_of_getLsbD_eq
  intro i hi
  rw [h i hi, decide_eq_true hi, Bool.true_and]
theorem DnAt.all {t a : T6} (h : DnAt t 64 a) : a = 0#64 := by
  apply BitVec.eq_of_getLsbD_eq
  intro i hi
  rw [h i hi, decide_eq_true hi]
  simp
theorem get_k (t : T6) (k : Nat) (hk : k < 64) (w : World) : Calls Try.prog 16 #[.int .u64 (rg t), .int .i64 ((k : Int) % 8), .int .i64 ((k : Int) / 8)] w fun e w' => e = .returned (.tuple #[.bool (t.getLsbD k), .nilIface]) ∧ w = w' := by
  have h := get_ok t (k % 8) (k / 8) (by omega) (by omega) w
  rw [show 8 * (k / 8) + k % 8 = k by omega, Int.natCast_emod, Int.natCast_ediv] at h
  exact h
theorem set_k (t : T6) (k : Nat) (c : Bool) (hk : k < 64) (w : World) : Calls Try.prog 17 #[.int .u64 (rg t), .int .i64 ((k : Int) % 8), .int .i64 ((k : Int) / 8), .bool c] w fun e w' => e = .returned (.tuple #[.int .u64 (rg (setB t (k % 8) (k / 8) c)), .nilIface]) ∧ w = w' := by
  have h := set_ok t (k % 8) (k / 8) c (by omega) (by omega) w
  rw [Int.natCast_emod, Int.natCast_ediv] at h
  exact h
set_option maxRecDepth 100000 in
theorem built_walk (x : Int) (W : World) (w0 : (Lit.int .u64 x).wf = true) :
    Calls Try.prog 5 #[.int .u64 x] W fun e w' => e = .returned (.bool true) ∧ Below W.heap.size W w' := by
  obtain ⟨t, rfl⟩ := one_open w0
  clear w0
  have HS := Lib.hid sure_any
  have HC := Lib.hid (fun w => count_any t w)
  go_enter Try.func5, Try.ntmps5
  go_wp2
  go_loop [3, 4, 5, 6] (fun a b n i => ∃ (k : Nat) (A B : T6), k ≤ 64 ∧ i = .int .i64 (k : Int) ∧ a = .int .u64 (rg A) ∧ b = .int .u64 (rg B) ∧ n = .int .i64 ((pcN t.toNat k : Nat) : Int) ∧ Hid (UpAt t k A) ∧ Hid (DnAt t k B)) (fun _ _ _ i => 64 - (intOf i).toNat)
  case atStart => exact ⟨0, 0#64, t, by omega, rfl, rfl, rfl, rfl, Lib.hid (fun i _ => by simp), Lib.hid (fun i _ => by simp)⟩
  case round =>
    obtain ⟨k, A, B, hk, rfl, rfl, rfl, rfl, HU, HD⟩ := hrel
    have k0 : (0 : Int) ≤ (k : Int) := by omega
    by_cases hlt : k < 64
    · have k1 : (k : Int) < 64 := by omega
      have HG := Lib.hid (fun w => get_k t k hlt w)
      have HA := Lib.hid (fun w => set_k A k (t.getLsbD k) hlt w)
      have HB := Lib.hid (fun w => set_k B k false hlt w)
      have HU2 := Lib.hid (HU.out.on hlt)
      have HD2 := Lib.hid (HD.out.on hlt)
      have HP := Lib.hid (pcN_succ t k)
      have HPL := Lib.hid (pcN_le t.toNat k)
      have p0 : (0 : Int) ≤ ((pcN t.toNat k : Nat) : Int) := by omega
      have p1 : ((pcN t.toNat k : Nat) : Int) ≤ 64 := by have := HPL.out; omega
      generalize pcN t.toNat k = P at *
      cases hb : t.getLsbD k
      all_goals
        rw [hb] at HG HA HU2 HP
        clear hb
        go_wp2_with (first | (go_at_call 16; with_reducible refine (HG.out _).mono ?_; rintro e w' ⟨rfl, rfl⟩) | (go_at_call 17; with_reducible refine (HA.out _).mono ?_; rintro e w' ⟨rfl, rfl⟩) | (go_at_call 17; with_reducible refine (HB.out _).mono ?_; rintro e w' ⟨rfl, rfl⟩))
        go_round
        case rel => exact ⟨k + 1, _, _, by omega, by go_num, rfl, rfl, by rw [HP.out]; simp, HU2, HD2⟩
        case measure => simp [intOf]; omega
    · obtain rfl : k = 64 := by omega
      have hA := HU.out.all
      have hB := HD.out.all
      subst hA hB
      go_wp2_with (first | (go_at_call 10; with_reducible refine (HC.out _).mono ?_; rintro e w' ⟨rfl, rfl⟩) | (go_at_call 12; refine (HS.out _).mono ?_; rintro e w1 ⟨rfl, hb1⟩; have HB1 := Lib.hid hb1; clear hb1))
      trace_state
      go_ret
      exact ⟨rfl, HB1.out⟩
end Go.Proofs.Ythbokehoibadcaa

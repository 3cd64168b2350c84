/-
  TILES TURNED AND MIRRORED go on as turned and mirrored ones; what lies far does not matter; nothing comes of nothing. No condition but those that each names.
-/
import Derived.Test.YthbokehoibadcaaDoorKd
namespace Go.Proofs.YthbokehoibadcaaDoor.Ti
open Ru

theorem turnB_bit (t : T6) (i : Nat) (h : i < 64) : (turnB t).getLsbD i = t.getLsbD (turnI i) := mkT_bit _ i h
theorem flipB_bit (t : T6) (i : Nat) (h : i < 64) : (flipB t).getLsbD i = t.getLsbD (flipI i) := mkT_bit _ i h
theorem turnI_lt (i : Nat) (h : i < 64) : turnI i < 64 := by unfold turnI; omega
theorem flipI_lt (i : Nat) (h : i < 64) : flipI i < 64 := by unfold flipI; omega
theorem turn4 (t : T6) : turnB (turnB (turnB (turnB t))) = t := by
  apply BitVec.eq_of_getLsbD_eq
  intro i hi
  have h1 := turnI_lt i hi
  have h2 := turnI_lt _ h1
  have h3 := turnI_lt _ h2
  rw [turnB_bit _ _ hi, turnB_bit _ _ h1, turnB_bit _ _ h2, turnB_bit _ _ h3]
  congr 1
  unfold turnI
  omega
theorem flip2 (t : T6) : flipB (flipB t) = t := by
  apply BitVec.eq_of_getLsbD_eq
  intro i hi
  rw [flipB_bit _ _ hi, flipB_bit _ _ (flipI_lt i hi)]
  congr 1
  unfold flipI
  omega
theorem pcN_sum (x : Nat) : ∀ k, pcN x k = ((List.range k).map (fun i => (x.testBit i).toNat)).sum
  | 0 => rfl
  | k + 1 => by rw [pcN, pcN_sum x k, List.range_succ, List.map_append, List.sum_append_nat]; simp
theorem turn_perm : ((List.range 64).map turnI).Perm (List.range 64) := by decide +kernel
theorem liv_turn (t : T6) : liv (turnB t) = liv t := by
  unfold liv
  rw [pcN_sum, pcN_sum]
  have h : (List.range 64).map (fun i => ((turnB t).toNat.testBit i).toNat) = ((List.range 64).map turnI).map (fun i => (t.toNat.testBit i).toNat) := by
    rw [List.map_map]
    apply List.map_congr_left
    intro i hi
    have := turnB_bit t i (List.mem_range.1 hi)
    show ((turnB t).getLsbD i).toNat = (t.getLsbD (turnI i)).toNat
    rw [this]
  rw [h]
  exact (turn_perm.map _).sum_nat
theorem gen_turn (b l : Nat) (p : Pl) (m : Int) : gen b l (fun x y => p y (m - x)) = fun x y => gen b l p y (m - x) := by
  funext x y
  unfold gen nbr
  simp only
  have e1 : m - (x - 1) = m - x + 1 := by omega
  have e2 : m - (x + 1) = m - x - 1 := by omega
  rw [e1, e2]
  congr 1
  omega
theorem gen_flip (b l : Nat) (p : Pl) (m : Int) : gen b l (fun x y => p (m - x) y) = fun x y => gen b l p (m - x) y := by
  funext x y
  unfold gen nbr
  simp only
  have e1 : m - (x - 1) = m - x + 1 := by omega
  have e2 : m - (x + 1) = m - x - 1 := by omega
  rw [e1, e2]
  congr 1
  omega
theorem gens_turn (b l : Nat) (p : Pl) (m : Int) : ∀ n, gens b l (fun x y => p y (m - x)) n = fun x y => gens b l p n y (m - x)
  | 0 => rfl
  | n + 1 => by rw [gens, gens_turn b l p m n, gen_turn b l _ m]; rfl
theorem gens_flip (b l : Nat) (p : Pl) (m : Int) : ∀ n, gens b l (fun x y => p (m - x) y) n = fun x y => gens b l p n (m - x) y
  | 0 => rfl
  | n + 1 => by rw [gens, gens_flip b l p m n, gen_flip b l _ m]; rfl
theorem tp_nat (k : Nat) (t : Nat → T6) (x y : Nat) : tp k t x y = (decide (x < 8 * k) && decide (y < 8 * k) && (t (y / 8 * k + x / 8)).getLsbD (8 * (y % 8) + x % 8)) := by
  unfold tp
  have e1 : decide ((0 : Int) ≤ (x : Int)) = true := by simp
  have e2 : decide ((0 : Int) ≤ (y : Int)) = true := by simp
  have e3 : decide ((x : Int) < 8 * (k : Int)) = decide (x < 8 * k) := by rw [Bool.eq_iff_iff, decide_eq_true_iff, decide_eq_true_iff]; omega
  have e4 : decide ((y : Int) < 8 * (k : Int)) = decide (y < 8 * k) := by rw [Bool.eq_iff_iff, decide_eq_true_iff, decide_eq_true_iff]; omega
  rw [e1, e2, e3, e4, Bool.true_and, Bool.true_and]
  simp
theorem tp_out (k : Nat) (t : Nat → T6) (x y : Int) (h : x < 0 ∨ y < 0 ∨ 8 * (k : Int) ≤ x ∨ 8 * (k : Int) ≤ y) : tp k t x y = false := by
  unfold tp
  rcases h with q | q | q | q
  · rw [decide_eq_false (show ¬ 0 ≤ x by omega)]; simp
  · rw [decide_eq_false (show ¬ 0 ≤ y by omega)]; simp
  · rw [decide_eq_false (show ¬ x < 8 * (k : Int) by omega)]; simp
  · rw [decide_eq_false (show ¬ y < 8 * (k : Int) by omega)]; simp
theorem two_of (k : Nat) (h : k < 2) : k = 0 ∨ k = 1 := by omega
theorem tp_turn (a b c d : T6) : tp 2 (q4 (turnB c) (turnB a) (turnB d) (turnB b)) = fun x y => tp 2 (q4 a b c d) y (15 - x) := by
  funext x y
  by_cases h : x < 0 ∨ y < 0 ∨ 8 * ((2 : Nat) : Int) ≤ x ∨ 8 * ((2 : Nat) : Int) ≤ y
  · rw [tp_out _ _ _ _ h, tp_out _ _ _ _ (by omega)]
  · obtain ⟨x, rfl⟩ := Int.eq_ofNat_of_zero_le (show 0 ≤ x by omega)
    obtain ⟨y, rfl⟩ := Int.eq_ofNat_of_zero_le (show 0 ≤ y by omega)
    have hx : x < 16 := by omega
    have hy : y < 16 := by omega
    rw [show (15 - (x : Int)) = ((15 - x : Nat) : Int) by omega, tp_nat, tp_nat]
    rw [decide_eq_true (show x < 8 * 2 by omega), decide_eq_true (show y < 8 * 2 by omega), decide_eq_true (show 15 - x < 8 * 2 by omega)]
    simp only [Bool.true_and]
    rw [show (15 - x) % 8 = 7 - x % 8 by omega, show (15 - x) / 8 = 1 - x / 8 by omega]
    have e : turnI (8 * (y % 8) + x % 8) = 8 * (7 - x % 8) + y % 8 := by unfold turnI; omega
    have hb : 8 * (y % 8) + x % 8 < 64 := by omega
    rcases two_of (x / 8) (by omega) with h1 | h1 <;> rcases two_of (y / 8) (by omega) with h2 | h2 <;> rw [h1, h2] <;> simp only [q4, Nat.zero_mul, Nat.one_mul, Nat.zero_add, Nat.add_zero, Nat.sub_zero, Nat.sub_self, Nat.reduceAdd] <;> rw [turnB_bit _ _ hb, e]
theorem tp_flip (a b c d : T6) : tp 2 (q4 (flipB b) (flipB a) (flipB d) (flipB c)) = fun x y => tp 2 (q4 a b c d) (15 - x) y := by
  funext x y
  by_cases h : x < 0 ∨ y < 0 ∨ 8 * ((2 : Nat) : Int) ≤ x ∨ 8 * ((2 : Nat) : Int) ≤ y
  · rw [tp_out _ _ _ _ h, tp_out _ _ _ _ (by omega)]
  · obtain ⟨x, rfl⟩ := Int.eq_ofNat_of_zero_le (show 0 ≤ x by omega)
    obtain ⟨y, rfl⟩ := Int.eq_ofNat_of_zero_le (show 0 ≤ y by omega)
    have hx : x < 16 := by omega
    have hy : y < 16 := by omega
    rw [show (15 - (x : Int)) = ((15 - x : Nat) : Int) by omega, tp_nat, tp_nat]
    rw [decide_eq_true (show x < 8 * 2 by omega), decide_eq_true (show y < 8 * 2 by omega), decide_eq_true (show 15 - x < 8 * 2 by omega)]
    simp only [Bool.true_and]
    rw [show (15 - x) % 8 = 7 - x % 8 by omega, show (15 - x) / 8 = 1 - x / 8 by omega]
    have e : flipI (8 * (y % 8) + x % 8) = 8 * (y % 8) + (7 - x % 8) := by unfold flipI; omega
    have hb : 8 * (y % 8) + x % 8 < 64 := by omega
    rcases two_of (x / 8) (by omega) with h1 | h1 <;> rcases two_of (y / 8) (by omega) with h2 | h2 <;> rw [h1, h2] <;> simp only [q4, Nat.zero_mul, Nat.one_mul, Nat.zero_add, Nat.add_zero, Nat.sub_zero, Nat.sub_self, Nat.reduceAdd] <;> rw [flipB_bit _ _ hb, e]
theorem grow_turn (r l n : Nat) (a b c d : T6) : growB r l n (q4 (turnB c) (turnB a) (turnB d) (turnB b)) = turnB (growB r l n (q4 a b c d)) := by
  apply BitVec.eq_of_getLsbD_eq
  intro i hi
  rw [turnB_bit _ _ hi]
  unfold growB
  rw [cutB_cuts _ _ _ i hi, cutB_cuts _ _ _ _ (turnI_lt i hi), tp_turn, gens_turn]
  unfold turnI
  simp only []
  rw [show (8 * (7 - i % 8) + i / 8) % 8 = i / 8 by omega, show (8 * (7 - i % 8) + i / 8) / 8 = 7 - i % 8 by omega, show (15 - (4 + ((i % 8 : Nat) : Int))) = 4 + ((7 - i % 8 : Nat) : Int) by omega]
theorem grow_flip (r l n : Nat) (a b c d : T6) : growB r l n (q4 (flipB b) (flipB a) (flipB d) (flipB c)) = flipB (growB r l n (q4 a b c d)) := by
  apply BitVec.eq_of_getLsbD_eq
  intro i hi
  rw [flipB_bit _ _ hi]
  unfold growB
  rw [cutB_cuts _ _ _ i hi, cutB_cuts _ _ _ _ (flipI_lt i hi), tp_flip, gens_flip]
  unfold flipI
  simp only []
  rw [show (8 * (i / 8) + (7 - i % 8)) % 8 = 7 - i % 8 by omega, show (8 * (i / 8) + (7 - i % 8)) / 8 = i / 8 by omega, show (15 - (4 + ((i % 8 : Nat) : Int))) = 4 + ((7 - i % 8 : Nat) : Int) by omega]
end Go.Proofs.YthbokehoibadcaaDoor.Ti

/-
  TILES AS PLAIN DATA: tiles laid side by side as rows, a tile cut out of rows, and the plane of both. No condition.
-/
import Derived.Test.YtifkhmcdgmnipaaGreatDoorR01
namespace Go.Proofs.YtifkhmcdgmnipaaGreatDoor.Ti
open Ru

/-- the plane of tiles, so many in a row -/
def tp (k : Nat) (t : Nat → T6) : Pl := fun x y => decide (0 ≤ x) && decide (x < 8 * (k : Int)) && (decide (0 ≤ y) && decide (y < 8 * (k : Int))) && (t (y.toNat / 8 * k + x.toNat / 8)).getLsbD (8 * (y.toNat % 8) + x.toNat % 8)
/-- a tile's row -/
def rowB (t : T6) (j : Nat) : R3 := ((t >>> (8 * j)) &&& 255#64).setWidth 32
theorem bit255 (i : Nat) (hi : i < 64) : (255#64).getLsbD i = decide (i < 8) := by
  have h : ∀ i < 64, (255#64).getLsbD i = decide (i < 8) := by decide
  exact h i hi
theorem bit255' (i : Nat) (hi : i < 32) : (255#32).getLsbD i = decide (i < 8) := by
  have h : ∀ i < 32, (255#32).getLsbD i = decide (i < 8) := by decide
  exact h i hi
theorem rowB_bit (t : T6) (j i : Nat) : (rowB t j).getLsbD i = (decide (i < 8) && t.getLsbD (8 * j + i)) := by
  unfold rowB
  rw [BitVec.getLsbD_setWidth, BitVec.getLsbD_and, BitVec.getLsbD_ushiftRight]
  by_cases h : i < 32
  · rw [bit255 i (by omega)]; simp [h, Bool.and_comm]
  · have : ¬ i < 8 := by omega
    simp [h, this]
def upd {α : Type} (F : Nat → α) (n : Nat) (x : α) : Nat → α := fun y => if y = n then x else F y
/-- so many tiles, and so many rows of the next, are laid -/
def LayAt (t : Nat → T6) (k i j : Nat) (F : Nat → R3) : Prop := ∀ y x, y < 8 * k → x < 32 → (F y).getLsbD x = (decide (x < 8 * k) && (decide (y / 8 * k + x / 8 < i) || (decide (y / 8 * k + x / 8 = i) && decide (y % 8 < j))) && (t (y / 8 * k + x / 8)).getLsbD (8 * (y % 8) + x % 8))
theorem LayAt.nil (t : Nat → T6) (k : Nat) : LayAt t k 0 0 (fun _ => 0#32) := by
  intro y x _ _
  simp
theorem LayAt.next {t : Nat → T6} {k i : Nat} {F : Nat → R3} (h : LayAt t k i 8 F) : LayAt t k (i + 1) 0 F := by
  intro y x hy hx
  rw [h y x hy hx]
  have h1 : decide (y % 8 < 8) = true := by simp; omega
  have h2 : decide (y % 8 < 0) = false := by simp
  rw [h1, h2, Bool.and_true, Bool.and_false, Bool.or_false]
  congr 2
  rw [Bool.eq_iff_iff, Bool.or_eq_true, decide_eq_true_iff, decide_eq_true_iff, decide_eq_true_iff]
  omega
theorem LayAt.row {t : Nat → T6} {k i j : Nat} {F : Nat → R3} (hk : k = 2 ∨ k = 3) (h : LayAt t k i j F) (hj : j < 8) (_hi : i < k * k) :
    LayAt t k i (j + 1) (upd F (i / k * 8 + j) (F (i / k * 8 + j) ||| (rowB (t i) j) <<< (i % k * 8))) := by
  intro y x hy hx
  unfold upd
  by_cases hY : y = i / k * 8 + j
  · rw [if_pos hY, BitVec.getLsbD_or, BitVec.getLsbD_shiftLeft, ← hY, h y x hy hx]
    by_cases hT : y / 8 * k + x / 8 = i ∧ x < 8 * k
    · have e1 : 8 * j + (x - i % k * 8) = 8 * (y % 8) + x % 8 := by rcases hk with rfl | rfl <;> omega
      have e2 : ¬ x < i % k * 8 := by rcases hk with rfl | rfl <;> omega
      have e3 : x - i % k * 8 < 8 := by rcases hk with rfl | rfl <;> omega
      have e4 : ¬ y % 8 < j := by rcases hk with rfl | rfl <;> omega
      have e5 : y % 8 < j + 1 := by rcases hk with rfl | rfl <;> omega
      rw [rowB_bit, e1]
      simp [hT.1, hT.2, hx, e2, e3, e4, e5]
    · have e0 : (decide (x < 8 * k) && decide (y / 8 * k + x / 8 = i)) = false := by
        rw [Bool.and_eq_false_iff, decide_eq_false_iff_not, decide_eq_false_iff_not]
        by_cases q : x < 8 * k
        · exact .inr (fun e => hT ⟨e, q⟩)
        · exact .inl q
      have e1 : (decide (x < 32) && !decide (x < i % k * 8) && (rowB (t i) j).getLsbD (x - i % k * 8)) = false := by
        rw [rowB_bit]
        by_cases q : x < i % k * 8
        · simp [q]
        · have : ¬ x - i % k * 8 < 8 := by
            intro q2
            apply hT
            rcases hk with rfl | rfl <;> constructor <;> omega
          simp [this]
      rw [e1, Bool.or_false]
      rcases Bool.and_eq_false_iff.1 e0 with q | q
      · rw [q]; simp
      · rw [q]; simp
  · rw [if_neg hY, h y x hy hx]
    by_cases hx8 : x < 8 * k
    · by_cases hT : y / 8 * k + x / 8 = i
      · have : decide (y % 8 < j) = decide (y % 8 < j + 1) := by
          rw [Bool.eq_iff_iff, decide_eq_true_iff, decide_eq_true_iff]
          rcases hk with rfl | rfl <;> omega
        rw [this]
      · simp [hT]
    · simp [hx8]
theorem LayAt.plane {t : Nat → T6} {k : Nat} {F : Nat → R3} (hk : k = 2 ∨ k = 3) (h : LayAt t k (k * k) 0 F) : fp (8 * k) F = tp k t := by
  funext x y
  by_cases hn : x < 0 ∨ y < 0 ∨ ((8 * k : Nat) : Int) ≤ y
  · rw [fp_neg _ _ _ _ hn]
    unfold tp
    rcases hn with q | q | q
    · rw [decide_eq_false (show ¬ 0 ≤ x by omega)]; simp
    · rw [decide_eq_false (show ¬ 0 ≤ y by omega)]; simp
    · rw [decide_eq_false (show ¬ y < 8 * (k : Int) by omega)]; simp
  · obtain ⟨x, rfl⟩ := Int.eq_ofNat_of_zero_le (show 0 ≤ x by omega)
    obtain ⟨y, rfl⟩ := Int.eq_ofNat_of_zero_le (show 0 ≤ y by omega)
    have hy : y < 8 * k := by omega
    rw [fp_nat, decide_eq_true hy, Bool.true_and]
    unfold tp
    have e1 : decide ((0 : Int) ≤ (x : Int)) = true := by simp
    have e2 : decide ((0 : Int) ≤ (y : Int)) = true := by simp
    have e3 : decide ((y : Int) < 8 * (k : Int)) = true := by simp; omega
    have e4 : decide ((x : Int) < 8 * (k : Int)) = decide (x < 8 * k) := by rw [Bool.eq_iff_iff, decide_eq_true_iff, decide_eq_true_iff]; omega
    rw [e1, e2, e3, e4, Bool.true_and, Bool.true_and, Bool.and_true]
    by_cases hx : x < 32
    · rw [h y x hy hx]
      by_cases hx8 : x < 8 * k
      · have : y / 8 * k + x / 8 < k * k := by rcases hk with rfl | rfl <;> omega
        simp [hx8, this]
      · simp [hx8]
    · have : ¬ x < 8 * k := by rcases hk with rfl | rfl <;> omega
      simp only [this, decide_false, Bool.false_and]
      exact BitVec.getLsbD_of_ge _ _ (by omega)

/-- so many rows are cut -/
def CutAt (F : Nat → R3) (x y j : Nat) (t : T6) : Prop := ∀ i, i < 64 → t.getLsbD i = (decide (i / 8 < j) && (F (y + i / 8)).getLsbD (x + i % 8))
theorem CutAt.nil (F : Nat → R3) (x y : Nat) : CutAt F x y 0 0#64 := by
  intro i _
  simp
theorem CutAt.row {F : Nat → R3} {x y j : Nat} {t : T6} (h : CutAt F x y j t) :
    CutAt F x y (j + 1) (t ||| ((((F (y + j)) >>> x) &&& 255#32).setWidth 64) <<< (8 * j)) := by
  intro i hi
  rw [BitVec.getLsbD_or, BitVec.getLsbD_shiftLeft, BitVec.getLsbD_setWidth, BitVec.getLsbD_and, BitVec.getLsbD_ushiftRight, h i hi]
  by_cases e : i / 8 = j
  · have e1 : ¬ i < 8 * j := by omega
    have e2 : i - 8 * j = i % 8 := by omega
    have e3 : ¬ i / 8 < j := by omega
    have e4 : i / 8 < j + 1 := by omega
    have e5 : i % 8 < 64 := by omega
    rw [e2, bit255' _ (by omega), e]
    have e6 : i % 8 < 8 := by omega
    simp [hi, e1, e5, e6]
  · by_cases e1 : i < 8 * j
    · have e3 : i / 8 < j := by omega
      have e4 : i / 8 < j + 1 := by omega
      simp [e1, e3, e4]
    · have e3 : ¬ i / 8 < j := by omega
      have e4 : ¬ i / 8 < j + 1 := by omega
      have e5 : ¬ i - 8 * j < 8 := by omega
      have e6 : (255#32).getLsbD (i - 8 * j) = false := by
        by_cases q : i - 8 * j < 32
        · rw [bit255' _ q]; simp [e5]
        · exact BitVec.getLsbD_of_ge _ _ (by omega)
      simp [e3, e4, e6]
/-- a tile is what a plane has there -/
def Cuts (p : Pl) (x y : Int) (t : T6) : Prop := ∀ i : Nat, i < 64 → t.getLsbD i = p (x + (i % 8 : Nat)) (y + (i / 8 : Nat))
theorem Cuts.inj {p q : Pl} {x y u v : Int} {s t : T6} (h : Cuts p x y s) (k : Cuts q u v t) (he : ∀ i j : Nat, i < 8 → j < 8 → p (x + i) (y + j) = q (u + i) (v + j)) : s = t := by
  apply BitVec.eq_of_getLsbD_eq
  intro i hi
  rw [h i hi, k i hi]
  exact he _ _ (by omega) (by omega)
theorem Cuts.ag {p q : Pl} {x y : Int} {t : T6} (h : Cuts p x y t) {x0 x1 y0 y1 : Int} (a : Ag p q x0 x1 y0 y1) (h0 : x0 ≤ x) (h1 : x + 7 ≤ x1) (h2 : y0 ≤ y) (h3 : y + 7 ≤ y1) : Cuts q x y t := by
  intro i hi
  rw [h i hi]
  exact a _ _ (by omega) (by omega) (by omega) (by omega)
theorem CutAt.cuts {F : Nat → R3} {x y : Nat} {t : T6} (h : CutAt F x y 8 t) (H : Nat) (hH : y + 8 ≤ H) : Cuts (fp H F) x y t := by
  intro i hi
  have e1 : i / 8 < 8 := by omega
  rw [h i hi, decide_eq_true e1, Bool.true_and, show ((x : Int) + (i % 8 : Nat)) = ((x + i % 8 : Nat) : Int) by omega, show ((y : Int) + (i / 8 : Nat)) = ((y + i / 8 : Nat) : Int) by omega, fp_nat, decide_eq_true (by omega), Bool.true_and]
/-- the middle of four, so many generations on -/
theorem grown_cuts {t : Nat → T6} {F : Nat → R3} {A : T6} (b l n : Nat) (hn : n ≤ 4) (h : LayAt t 2 4 0 F) (k : CutAt (stsM b l 16 F n) 4 4 8 A) : Cuts (gens b l (tp 2 t) n) 4 4 A := by
  have h1 := k.cuts 16 (by omega)
  have h2 := sts_gens b l 16 F n
  rw [show (16 : Nat) = 8 * 2 from rfl, LayAt.plane (.inl rfl) h] at h2
  exact h1.ag (q := gens b l (tp 2 t) n) h2 (by omega) (by omega) (by omega) (by omega)
theorem next_cuts {t : Nat → T6} {F : Nat → R3} {A : T6} (b l : Nat) (h : LayAt t 3 9 0 F) (k : CutAt (stM b l 24 F) 8 8 8 A) : Cuts (gen b l (tp 3 t)) 8 8 A := by
  have h1 := k.cuts 24 (by omega)
  have h2 := st_gen b l 24 F
  rw [show (24 : Nat) = 8 * 3 from rfl, LayAt.plane (.inr rfl) h] at h2
  exact h1.ag (q := gen b l (tp 3 t)) h2 (by omega) (by omega) (by omega) (by omega)
end Go.Proofs.YtifkhmcdgmnipaaGreatDoor.Ti

/-
  OF NOTHING COMES NOTHING; A BLOCK STAYS. No condition but those that each names.
-/
import Derived.Test.YthbokehoibadcaaSg
namespace Go.Proofs.Ythbokehoibadcaa.Ti
open Ru

theorem gens_none (b l : Nat) (h : hs b 0 = false) (p : Pl) (hp : p = fun _ _ => false) : ∀ n, gens b l p n = fun _ _ => false
  | 0 => hp
  | n + 1 => by
    rw [gens, gens_none b l h p hp n]
    funext x y
    show nx b l false 0 = false
    unfold nx
    rw [if_neg (by simp)]
    exact h
theorem tp_none (k : Nat) (t : Nat → T6) (h : ∀ i, t i = 0#64) : tp k t = fun _ _ => false := by
  funext x y
  unfold tp
  rw [h]
  simp
theorem cutB_none (x y : Int) : cutB (fun _ _ => false) x y = 0#64 := by
  apply BitVec.eq_of_getLsbD_eq
  intro i hi
  rw [cutB_cuts _ _ _ i hi]
  simp
theorem may_zero {b l : Nat} (h : mayR b l = true) : hs b 0 = false := by
  have hm := mayR_true h
  unfold mayR at h
  unfold hs
  simp at h
  rw [beq_eq_false_iff_ne]
  omega
theorem q4_zero (i : Nat) : q4 0#64 0#64 0#64 0#64 i = 0#64 := by
  rcases (show i = 0 ∨ i = 1 ∨ i = 2 ∨ 3 ≤ i by omega) with rfl | rfl | rfl | h
  · rfl
  · rfl
  · rfl
  · obtain ⟨j, rfl⟩ : ∃ j, i = j + 3 := ⟨i - 3, by omega⟩
    rfl
theorem q9_zero (i : Nat) : q9 0#64 0#64 0#64 0#64 0#64 0#64 0#64 0#64 0#64 i = 0#64 := by
  rcases (show i = 0 ∨ i = 1 ∨ i = 2 ∨ i = 3 ∨ i = 4 ∨ i = 5 ∨ i = 6 ∨ i = 7 ∨ 8 ≤ i by omega) with rfl | rfl | rfl | rfl | rfl | rfl | rfl | rfl | h
  · rfl
  · rfl
  · rfl
  · rfl
  · rfl
  · rfl
  · rfl
  · rfl
  · obtain ⟨j, rfl⟩ : ∃ j, i = j + 8 := ⟨i - 8, by omega⟩
    rfl
theorem grow_zero {b l : Nat} (h : mayR b l = true) (n : Nat) : growB b l n (q4 0#64 0#64 0#64 0#64) = 0#64 := by
  unfold growB
  rw [gens_none b l (may_zero h) _ (tp_none 2 _ q4_zero), cutB_none]
theorem next_zero {b l : Nat} (h : mayR b l = true) : nextB b l (q9 0#64 0#64 0#64 0#64 0#64 0#64 0#64 0#64 0#64) = 0#64 := by
  unfold nextB
  have := gens_none b l (may_zero h) _ (tp_none 3 _ q9_zero) 1
  rw [show gen b l (tp 3 (q9 0#64 0#64 0#64 0#64 0#64 0#64 0#64 0#64 0#64)) = gens b l (tp 3 (q9 0#64 0#64 0#64 0#64 0#64 0#64 0#64 0#64 0#64)) 1 from rfl, this, cutB_none]
/-- four cells -/
def blk (x y : Nat) : Pl := fun u v => (decide (u = (x : Int)) || decide (u = (x : Int) + 1)) && (decide (v = (y : Int)) || decide (v = (y : Int) + 1))
theorem blk_gen (x y : Nat) : gen 8 12 (blk x y) = blk x y := by
  funext u v
  obtain ⟨a, rfl⟩ : ∃ a, u = (x : Int) + a := ⟨u - x, by omega⟩
  obtain ⟨b, rfl⟩ : ∃ b, v = (y : Int) + b := ⟨v - y, by omega⟩
  have e : ∀ c d : Int, blk x y ((x : Int) + c) ((y : Int) + d) = ((decide (c = 0) || decide (c = 1)) && (decide (d = 0) || decide (d = 1))) := by
    intro c d
    unfold blk
    have e1 : decide ((x : Int) + c = (x : Int)) = decide (c = 0) := by rw [Bool.eq_iff_iff, decide_eq_true_iff, decide_eq_true_iff]; omega
    have e2 : decide ((x : Int) + c = (x : Int) + 1) = decide (c = 1) := by rw [Bool.eq_iff_iff, decide_eq_true_iff, decide_eq_true_iff]; omega
    have e3 : decide ((y : Int) + d = (y : Int)) = decide (d = 0) := by rw [Bool.eq_iff_iff, decide_eq_true_iff, decide_eq_true_iff]; omega
    have e4 : decide ((y : Int) + d = (y : Int) + 1) = decide (d = 1) := by rw [Bool.eq_iff_iff, decide_eq_true_iff, decide_eq_true_iff]; omega
    rw [e1, e2, e3, e4]
  unfold gen nbr
  rw [show (x : Int) + a - 1 = (x : Int) + (a - 1) by omega, show (x : Int) + a + 1 = (x : Int) + (a + 1) by omega, show (y : Int) + b - 1 = (y : Int) + (b - 1) by omega, show (y : Int) + b + 1 = (y : Int) + (b + 1) by omega]
  simp only [e]
  have far : ∀ c : Int, c ≠ 0 → c ≠ 1 → (decide (c = 0) || decide (c = 1)) = false := by
    intro c h1 h2
    rw [decide_eq_false h1, decide_eq_false h2]; rfl
  by_cases ha : a < -1 ∨ 2 < a
  · rw [far (a - 1) (by omega) (by omega), far a (by omega) (by omega), far (a + 1) (by omega) (by omega)]
    simp only [Bool.false_and]
    decide
  · by_cases hb : b < -1 ∨ 2 < b
    · rw [far (b - 1) (by omega) (by omega), far b (by omega) (by omega), far (b + 1) (by omega) (by omega)]
      simp only [Bool.and_false]
      decide
    · have ha' : a = -1 ∨ a = 0 ∨ a = 1 ∨ a = 2 := by omega
      have hb' : b = -1 ∨ b = 0 ∨ b = 1 ∨ b = 2 := by omega
      rcases ha' with rfl | rfl | rfl | rfl <;> rcases hb' with rfl | rfl | rfl | rfl <;> decide
theorem blk_gens (x y : Nat) : ∀ n, gens 8 12 (blk x y) n = blk x y
  | 0 => rfl
  | n + 1 => by rw [gens, blk_gens x y n, blk_gen]
/-- the tiles that the statement builds: the one, and the four -/
def oneN (x y : Nat) : Nat → T6
  | 0 => 0#64
  | m + 1 => oneN x y m ||| cellB (x - 4 + m % 2) (y - 4 + m / 2)
def fourN (x y : Nat) : Nat → Nat → T6
  | 0 => fun _ => 0#64
  | m + 1 => upd (fourN x y m) ((x + m % 2) / 8 + 2 * ((y + m / 2) / 8)) (fourN x y m ((x + m % 2) / 8 + 2 * ((y + m / 2) / 8)) ||| cellB ((x + m % 2) % 8) ((y + m / 2) % 8))
def fourOk (x y : Nat) : Bool := (List.range 16).all fun u => (List.range 16).all fun v => (fourN x y 4 (v / 8 * 2 + u / 8)).getLsbD (8 * (v % 8) + u % 8) == ((decide (u = x) || decide (u = x + 1)) && (decide (v = y) || decide (v = y + 1)))
theorem four_all : ∀ x < 7, ∀ y < 7, 4 ≤ x → 4 ≤ y → fourOk x y = true := by decide +kernel
theorem four_plane (x : Nat) (hx : x < 7) (y : Nat) (hy : y < 7) (hx4 : 4 ≤ x) (hy4 : 4 ≤ y) (u : Nat) (hu : u < 16) (v : Nat) (hv : v < 16) : (fourN x y 4 (v / 8 * 2 + u / 8)).getLsbD (8 * (v % 8) + u % 8) = ((decide (u = x) || decide (u = x + 1)) && (decide (v = y) || decide (v = y + 1))) := by
  have h := four_all x hx y hy hx4 hy4
  unfold fourOk at h
  have h1 := List.all_eq_true.1 h u (List.mem_range.2 hu)
  have h2 := List.all_eq_true.1 h1 v (List.mem_range.2 hv)
  exact beq_iff_eq.1 h2
theorem one_plane : ∀ x < 7, ∀ y < 7, 4 ≤ x → 4 ≤ y → ∀ i < 64, (oneN x y 4).getLsbD i = ((decide (4 + i % 8 = x) || decide (4 + i % 8 = x + 1)) && (decide (4 + i / 8 = y) || decide (4 + i / 8 = y + 1))) := by decide +kernel
theorem blk_nat (x y u v : Nat) : blk x y u v = ((decide (u = x) || decide (u = x + 1)) && (decide (v = y) || decide (v = y + 1))) := by
  unfold blk
  have e1 : decide ((u : Int) = (x : Int)) = decide (u = x) := by rw [Bool.eq_iff_iff, decide_eq_true_iff, decide_eq_true_iff]; omega
  have e2 : decide ((u : Int) = (x : Int) + 1) = decide (u = x + 1) := by rw [Bool.eq_iff_iff, decide_eq_true_iff, decide_eq_true_iff]; omega
  have e3 : decide ((v : Int) = (y : Int)) = decide (v = y) := by rw [Bool.eq_iff_iff, decide_eq_true_iff, decide_eq_true_iff]; omega
  have e4 : decide ((v : Int) = (y : Int) + 1) = decide (v = y + 1) := by rw [Bool.eq_iff_iff, decide_eq_true_iff, decide_eq_true_iff]; omega
  rw [e1, e2, e3, e4]
theorem four_blk (x y : Nat) (hx : x < 7) (hy : y < 7) (hx4 : 4 ≤ x) (hy4 : 4 ≤ y) (t : Nat → T6) (ht : ∀ i, i < 4 → t i = fourN x y 4 i) : tp 2 t = blk x y := by
  funext u v
  by_cases h : u < 0 ∨ v < 0 ∨ 8 * ((2 : Nat) : Int) ≤ u ∨ 8 * ((2 : Nat) : Int) ≤ v
  · rw [tp_out _ _ _ _ h]
    unfold blk
    rw [eq_comm, Bool.and_eq_false_iff]
    rcases (show (u < 0 ∨ 16 ≤ u) ∨ (v < 0 ∨ 16 ≤ v) by omega) with q | q
    · left
      rw [decide_eq_false (show ¬ u = (x : Int) by omega), decide_eq_false (show ¬ u = (x : Int) + 1 by omega)]; rfl
    · right
      rw [decide_eq_false (show ¬ v = (y : Int) by omega), decide_eq_false (show ¬ v = (y : Int) + 1 by omega)]; rfl
  · obtain ⟨u, rfl⟩ := Int.eq_ofNat_of_zero_le (show 0 ≤ u by omega)
    obtain ⟨v, rfl⟩ := Int.eq_ofNat_of_zero_le (show 0 ≤ v by omega)
    have hu : u < 16 := by omega
    have hv : v < 16 := by omega
    rw [tp_nat, blk_nat, decide_eq_true (show u < 8 * 2 by omega), decide_eq_true (show v < 8 * 2 by omega), Bool.true_and, Bool.true_and, ht _ (by omega)]
    exact four_plane x hx y hy hx4 hy4 u hu v hv
theorem still (x y n : Nat) (hx : x < 7) (hy : y < 7) (hx4 : 4 ≤ x) (hy4 : 4 ≤ y) (t : Nat → T6) (ht : ∀ i, i < 4 → t i = fourN x y 4 i) : growB 8 12 n t = oneN x y 4 := by
  apply BitVec.eq_of_getLsbD_eq
  intro i hi
  unfold growB
  rw [cutB_cuts _ _ _ i hi, four_blk x y hx hy hx4 hy4 t ht, blk_gens, one_plane x hx y hy hx4 hy4 i hi]
  rw [show (4 : Int) + ((i % 8 : Nat) : Int) = ((4 + i % 8 : Nat) : Int) by omega, show (4 : Int) + ((i / 8 : Nat) : Int) = ((4 + i / 8 : Nat) : Int) by omega, blk_nat]
end Go.Proofs.Ythbokehoibadcaa.Ti

/-
  TILES AS PLAIN DATA: a tile made of its cells, turned, mirrored, a cell alone. No condition.
-/
import Derived.Test.YtifkhmcdgmnipaaDoorE02
import Derived.Test.YtifkhmcdgmnipaaDoorE03
namespace Go.Proofs.YtifkhmcdgmnipaaDoor.Ti

def mkN (f : Nat → Bool) : Nat → Nat
  | 0 => 0
  | k + 1 => 2 ^ k * (f k).toNat + mkN f k
theorem mkN_lt (f : Nat → Bool) : ∀ k, mkN f k < 2 ^ k
  | 0 => by simp [mkN]
  | k + 1 => by
    have := mkN_lt f k
    rw [mkN, Nat.pow_succ]
    cases f k <;> simp <;> omega
theorem mkN_bit (f : Nat → Bool) : ∀ k i, (mkN f k).testBit i = (decide (i < k) && f i)
  | 0, i => by simp [mkN]
  | k + 1, i => by
    rw [mkN, Nat.testBit_two_pow_mul_add _ (mkN_lt f k), mkN_bit f k i]
    by_cases h : i < k
    · have : i < k + 1 := by omega
      simp [h, this]
    · rw [if_neg h]
      by_cases e : i = k
      · subst e
        rw [Nat.sub_self, decide_eq_true (show i < i + 1 by omega), Bool.true_and]
        cases f i <;> decide
      · have h2 : ¬ i < k + 1 := by omega
        obtain ⟨j, hj⟩ : ∃ j, i - k = j + 1 := ⟨i - k - 1, by omega⟩
        rw [hj, decide_eq_false h2, Bool.false_and]
        cases f k
        · exact Nat.zero_testBit _
        · show Nat.testBit 1 (j + 1) = false
          rw [Nat.testBit_succ]
          exact Nat.zero_testBit _
def mkT (f : Nat → Bool) : T6 := BitVec.ofNat 64 (mkN f 64)
theorem mkT_bit (f : Nat → Bool) (i : Nat) (hi : i < 64) : (mkT f).getLsbD i = f i := by
  unfold mkT
  rw [BitVec.getLsbD_ofNat, mkN_bit, decide_eq_true hi, Bool.true_and, Bool.true_and]
theorem eq_mkT {t : T6} {f : Nat → Bool} (h : ∀ i, i < 64 → t.getLsbD i = f i) : t = mkT f := by
  apply BitVec.eq_of_getLsbD_eq
  intro i hi
  rw [h i hi, mkT_bit f i hi]
def turnI (i : Nat) : Nat := 8 * (7 - i % 8) + i / 8
def flipI (i : Nat) : Nat := 8 * (i / 8) + (7 - i % 8)
def turnB (t : T6) : T6 := mkT (fun i => t.getLsbD (turnI i))
def flipB (t : T6) : T6 := mkT (fun i => t.getLsbD (flipI i))
/-- the cell alone -/
def cellB (x y : Nat) : T6 := 1#64 <<< (8 * y + x)
theorem one_bit (i : Nat) : (1#64).getLsbD i = decide (i = 0) := by
  by_cases h : i < 64
  · have q : ∀ i < 64, (1#64).getLsbD i = decide (i = 0) := by decide
    exact q i h
  · rw [BitVec.getLsbD_of_ge _ _ (by omega), decide_eq_false (by omega)]
theorem cellB_bit (x y i : Nat) (h : 8 * y + x < 64) : (cellB x y).getLsbD i = decide (i = 8 * y + x) := by
  unfold cellB
  rw [BitVec.getLsbD_shiftLeft, one_bit]
  by_cases e : i = 8 * y + x
  · subst e; simp [h]
  · rw [decide_eq_false e]
    by_cases q : i < 8 * y + x
    · simp [q]
    · have : ¬ i - (8 * y + x) = 0 := by omega
      simp [this]
theorem and_cell (t : T6) (x y : Nat) (h : 8 * y + x < 64) : (t &&& cellB x y = 0#64) ↔ t.getLsbD (8 * y + x) = false := by
  constructor
  · intro e
    have := congrArg (fun z : T6 => z.getLsbD (8 * y + x)) e
    simpa [BitVec.getLsbD_and, cellB_bit x y _ h] using this
  · intro e
    apply BitVec.eq_of_getLsbD_eq
    intro i _
    rw [BitVec.getLsbD_and, cellB_bit x y i h]
    by_cases q : i = 8 * y + x
    · subst q; simp [e]
    · simp [q]
/-- the part of a tile that moves, the cells below k -/
def MvAt (g : Nat → Nat) (t : T6) (k : Nat) (m : T6) : Prop := ∀ i, i < 64 → m.getLsbD i = (decide (i < k) && t.getLsbD (g i))
theorem MvAt.nil (g : Nat → Nat) (t : T6) : MvAt g t 0 0#64 := by intro i _; simp
theorem MvAt.on {g : Nat → Nat} {t : T6} {x y : Nat} {m : T6} (h : MvAt g t (8 * y + x) m) (hk : 8 * y + x < 64) (hg : t.getLsbD (g (8 * y + x)) = true) : MvAt g t (8 * y + (x + 1)) (m ||| cellB x y) := by
  intro i hi
  rw [BitVec.getLsbD_or, h i hi, cellB_bit x y i hk]
  by_cases e : i = 8 * y + x
  · subst e; simp [hg]
  · have e2 : decide (i < 8 * y + x) = decide (i < 8 * y + (x + 1)) := by rw [Bool.eq_iff_iff, decide_eq_true_iff, decide_eq_true_iff]; omega
    simp [e, e2]
theorem MvAt.off {g : Nat → Nat} {t : T6} {x y : Nat} {m : T6} (h : MvAt g t (8 * y + x) m) (hg : t.getLsbD (g (8 * y + x)) = false) : MvAt g t (8 * y + (x + 1)) m := by
  intro i hi
  rw [h i hi]
  by_cases e : i = 8 * y + x
  · subst e; simp [hg]
  · have e2 : decide (i < 8 * y + x) = decide (i < 8 * y + (x + 1)) := by rw [Bool.eq_iff_iff, decide_eq_true_iff, decide_eq_true_iff]; omega
    rw [e2]
theorem MvAt.row {g : Nat → Nat} {t : T6} {y : Nat} {m : T6} (h : MvAt g t (8 * y + 8) m) : MvAt g t (8 * (y + 1) + 0) m := h
theorem MvAt.all {g : Nat → Nat} {t : T6} {m : T6} (h : MvAt g t (8 * 8 + 0) m) : m = mkT (fun i => t.getLsbD (g i)) := by
  apply eq_mkT
  intro i hi
  rw [h i hi, decide_eq_true (show i < 8 * 8 + 0 by omega), Bool.true_and]
theorem or_cell (t : T6) (x y : Nat) (h : 8 * y + x < 64) (i : Nat) : (t ||| cellB x y).getLsbD i = (t.getLsbD i || decide (i = 8 * y + x)) := by
  rw [BitVec.getLsbD_or, cellB_bit x y i h]
theorem not_cell (t : T6) (x y : Nat) (h : 8 * y + x < 64) (i : Nat) : (t &&& ~~~(cellB x y)).getLsbD i = (t.getLsbD i && !decide (i = 8 * y + x)) := by
  rw [BitVec.getLsbD_and]
  by_cases hi : i < 64
  · rw [BitVec.getLsbD_not, cellB_bit x y i h]; simp [hi]
  · rw [BitVec.getLsbD_of_ge t _ (by omega)]; simp
/-- how many live -/
def liv (t : T6) : Nat := pcN t.toNat 64
theorem pcN_le (x : Nat) : ∀ k, pcN x k ≤ k
  | 0 => Nat.le_refl _
  | k + 1 => by
    have := pcN_le x k
    have h : (x.testBit k).toNat ≤ 1 := by cases x.testBit k <;> decide
    rw [pcN]
    omega
theorem pcN_succ (t : T6) (k : Nat) : pcN t.toNat (k + 1) = pcN t.toNat k + (t.getLsbD k).toNat := rfl
end Go.Proofs.YtifkhmcdgmnipaaDoor.Ti

/-
  THE WALKS of the small functions of rule: Check, has, bit, isNew, isSign; and of the document's Has, May, Next. Conditions: the parts are numbers of 16 bits.
-/


import Derived.Test.YticnhpddidaaeaaProg
import Derived.Test.YticnhpddidaaeaaRu
import Derived.WalkKit
import Derived.WalkSpells
import Derived.WalkLawsBesides
import Derived.Laws.BitsAllLaws
import Derived.Laws.Shifts
import Derived.RowKit
import Derived.IntWalk
import Derived.BigQuiet
import Derived.Deep.QuietTactic
import Derived.Lib.Hide
import Derived.Outline
namespace Go.Proofs.Yticnhpddidaaeaa
open Go.RowKit Ru

theorem alX (w : World) (o : Obj) : Below w.heap.size w (w.alloc o) := (Below.refl _ _).alloc (Nat.le_refl _) _
theorem bcell {W w1 : World} (hb : Below W.heap.size W w1) : (∀ b o, b < W.heap.size → w1.cell? ⟨b, o, none⟩ = W.cell? ⟨b, o, none⟩) ∧ (∀ b o, b < W.heap.size → w1.frozen? ⟨b, o, none⟩ = W.frozen? ⟨b, o, none⟩) :=
  ⟨fun b o h => hb.cell (p := ⟨b, o, none⟩) h, fun b o h => hb.frozen (p := ⟨b, o, none⟩) h⟩
theorem and_born (b : Nat) (hb : b < 65536) : bits .andNot .u16 (b : Int) 510 = ((b &&& 65025 : Nat) : Int) := u16_andNot_nat b 510 hb (by decide)
theorem and_live (b : Nat) (hb : b < 65536) : bits .andNot .u16 (b : Int) 511 = ((b &&& 65024 : Nat) : Int) := u16_andNot_nat b 511 hb (by decide)
theorem born_eq (b : Nat) (hb : b < 65536) : (bits .andNot .u16 (b : Int) 510 != 0) = !(decide (b < 512) && (b % 2 == 0)) := by
  rw [and_born b hb, Bool.eq_iff_iff, bne_iff_ne, Bool.not_eq_true', Bool.and_eq_false_iff, decide_eq_false_iff_not, beq_eq_false_iff_ne]
  have h := born_ok b hb
  omega
theorem live_eq (b : Nat) (hb : b < 65536) : (bits .andNot .u16 (b : Int) 511 != 0) = !decide (b < 512) := by
  rw [and_live b hb, Bool.eq_iff_iff, bne_iff_ne, Bool.not_eq_true', decide_eq_false_iff_not]
  have h := live_ok b hb
  omega
theorem mayR_true {b l : Nat} (h : mayR b l = true) : b < 512 ∧ l < 512 ∧ b % 2 = 0 := by
  unfold mayR at h
  simp at h
  exact ⟨h.1.1, h.1.2, h.2⟩
theorem mayR_false {b l : Nat} (h : mayR b l = false) : ¬ (b < 512 ∧ l < 512 ∧ b % 2 = 0) := by
  intro ⟨h1, h2, h3⟩
  unfold mayR at h
  simp [h1, h2, h3] at h
def Rv (b l : Nat) : Value := .agg #[.int .u16 b, .int .u16 l]
/-- what Check answers -/
def chk (b l : Nat) : Value := if mayR b l then .nilIface else .iface 41 (.int .i64 11)
theorem check_ok (b l : Nat) (h : mayR b l = true) (w : World) :
    Calls Try.prog 9 #[Rv b l] w fun e w' => e = .returned .nilIface ∧ Below w.heap.size w w' := by
  obtain ⟨h1, h2, h3⟩ := mayR_true h
  have g1 : (bits .andNot .u16 (b : Int) 510 != 0) = false := by rw [born_eq b (by omega)]; simp [h1, h3]
  have g2 : (bits .andNot .u16 (l : Int) 511 != 0) = false := by rw [live_eq l (by omega)]; simp [h2]
  clear h h1 h2 h3
  unfold Rv
  go_enter Try.func9, Try.ntmps9
  go_wp2
  go_ret
  exact ⟨rfl, alX _ _⟩
theorem check_bad (b l : Nat) (hb : b < 65536) (hl : l < 65536) (h : mayR b l = false) (w : World) :
    Calls Try.prog 9 #[Rv b l] w fun e w' => e = .returned (.iface 41 (.int .i64 11)) ∧ Below w.heap.size w w' := by
  have h0 := mayR_false h
  by_cases hx : b < 512 ∧ b % 2 = 0
  · have g1 : (bits .andNot .u16 (b : Int) 510 != 0) = false := by rw [born_eq b (by omega)]; simp [hx]
    have g2 : (bits .andNot .u16 (l : Int) 511 != 0) = true := by
      rw [live_eq l (by omega)]
      have : ¬ l < 512 := fun q => h0 ⟨hx.1, q, hx.2⟩
      simp [this]
    clear h h0 hx
    unfold Rv
    go_enter Try.func9, Try.ntmps9
    go_wp2
    go_ret
    exact ⟨rfl, alX _ _⟩
  · have g1 : (bits .andNot .u16 (b : Int) 510 != 0) = true := by
      rw [born_eq b (by omega)]
      have : ¬ (b < 512 ∧ b % 2 = 0) := hx
      by_cases q : b < 512 <;> simp [q] <;> omega
    clear h h0 hx
    unfold Rv
    go_enter Try.func9, Try.ntmps9
    go_wp2
    go_ret
    exact ⟨rfl, alX _ _⟩
/-- the bit, by the walk's own words -/
theorem and_one (b n : Nat) (hb : b < 65536) : (bits .and .u16 ((b / 2 ^ n : Nat) : Int) 1 == 1) = hs b n := by
  have h1 : b / 2 ^ n < 65536 := Nat.lt_of_le_of_lt (Nat.div_le_self _ _) hb
  have e := u16_and_nat (b / 2 ^ n) 1 h1 (by decide)
  rw [show ((1 : Nat) : Int) = 1 from rfl] at e
  rw [e, Nat.and_one_is_mod]
  unfold hs
  rw [Bool.eq_iff_iff, beq_iff_eq, beq_iff_eq]
  omega
theorem has_any (b n : Nat) (hb : b < 65536) (hn : n < 9) (w : World) :
    Calls Try.prog 29 #[.int .u16 b, .int .i64 n] w fun e w' => e = .returned (.bool (hs b n)) ∧ w = w' := by
  have HB := Lib.hid (and_one b n hb)
  have HB2 := Lib.hid (show ((b / 2 ^ n : Nat) : Int) = (b : Int) / 2 ^ n by simp)
  have n0 : (0 : Int) ≤ (n : Int) := by omega
  have n1 : (n : Int) < 9 := by omega
  have b0 : (0 : Int) ≤ (b : Int) := by omega
  have b1 : (b : Int) < 65536 := by omega
  have E1 := Lib.hid (show min (n : Int).toNat 16 = n by omega)
  go_enter Try.func29, Try.ntmps29
  go_wp2
  go_ret
  exact ⟨by rw [← HB.out, HB2.out]; rfl, rfl⟩
theorem isDig_true {c : Nat} (h : isDig c = true) : 48 ≤ c ∧ c ≤ 56 := by unfold isDig at h; simpa using h
theorem isDig_false {c : Nat} (h : isDig c = false) : ¬ (48 ≤ c ∧ c ≤ 56) := fun ⟨a, b⟩ => by
  unfold isDig at h; simp [a, b] at h
theorem new_and (n b : Nat) (hn : n < 9) (hb : b < 512) : (bits .andNot .u16 ((2 ^ n : Nat) : Int) (b : Int) != 0) = !hs b n := by
  have h2 : 2 ^ n < 65536 := Nat.lt_of_le_of_lt (Nat.pow_le_pow_right (by decide) (show n ≤ 8 by omega)) (by decide)
  rw [u16_andNot_nat _ b h2 (by omega), Bool.eq_iff_iff, bne_iff_ne, Bool.not_eq_true']
  have h := new_bit b hb n hn
  cases hq : hs b n
  · rw [hq] at h; simp at h ⊢; omega
  · rw [hq] at h; simp at h ⊢; omega
theorem zero_and (b : Nat) (hb : b < 65536) : (bits .andNot .u16 0 (b : Int) != 0) = false := by
  have e := u16_andNot_nat 0 b (by decide) hb
  rw [show ((0 : Nat) : Int) = 0 from rfl] at e
  rw [e, Nat.zero_and]; rfl
end Go.Proofs.Yticnhpddidaaeaa

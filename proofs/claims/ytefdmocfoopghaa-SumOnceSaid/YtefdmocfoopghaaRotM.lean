/-
  WHAT TELLS ROT: bytes that are changed, held against those that were marked. Conditions: that the bytes are bytes.
-/
import Derived.Test.YtefdmocfoopghaaIn
namespace Go.Proofs.Ytefdmocfoopghaa
open Crc

theorem upv_set (vs : List (BitVec 32)) (r v : BitVec 32) (k : Nat) (h : k < vs.length) : upv r (vs.set k (vs[k] ^^^ v)) = upv r vs ^^^ it z (vs.length - k - 1) (it stp 8 v) := by
  induction vs generalizing r k with
  | nil => simp at h
  | cons x vs ih => cases k with
    | zero =>
      show upv (byt r (x ^^^ v)) vs = upv (byt r x) vs ^^^ _
      have e : byt r (x ^^^ v) = byt r x ^^^ it stp 8 v := by
        have := byt_lin r 0#32 x v
        rw [BitVec.xor_zero] at this
        rw [this]
        simp [byt]
      rw [e, upv_split, upv_split (byt r x), lin_it lin_z]
      have e2 : (x :: vs).length - 0 - 1 = vs.length := by simp
      rw [e2, BitVec.xor_assoc, BitVec.xor_comm (it z vs.length (it stp 8 v)), ← BitVec.xor_assoc]
    | succ k =>
      show upv (byt r x) (vs.set k (vs[k]'(by simpa using h) ^^^ v)) = upv (byt r x) vs ^^^ _
      rw [ih _ k (by simpa using h)]
      congr 2
      simp
theorem map_set (xs : List Int) (k : Nat) (v b : Int) (h : k < xs.length) (hv : b8 v = b8 xs[k] ^^^ b8 b) : (xs.set k v).map b8 = (xs.map b8).set k ((xs.map b8)[k]'(by simpa using h) ^^^ b8 b) := by
  rw [List.map_set, hv]
  simp
theorem b8_nought {x : Int} (h0 : 0 ≤ x) (h1 : x < 256) (h : b8 x = 0#32) : x = 0 := by
  have e := rg_b8 x h0 (by omega)
  rw [h] at e
  exact e.symm
/-- one byte changed: good only if it is none -/
theorem good_set (xs : List Int) (k : Nat) (v b : Int) (h : k < xs.length) (hg : isGood xs = true) (hv : b8 v = b8 xs[k] ^^^ b8 b) (b0 : 0 ≤ b) (b1 : b < 256) : isGood (xs.set k v) = (b == 0) := by
  unfold isGood at hg ⊢
  rw [decide_eq_true_eq] at hg
  have e : up ones (xs.set k v) = magic ^^^ it z (xs.length - k - 1) (it stp 8 (b8 b)) := by
    unfold up at hg ⊢
    rw [map_set xs k v b h hv, upv_set _ _ _ _ (by simpa using h), hg, List.length_map]
  rw [e]
  by_cases hb : b = 0
  · subst hb
    have e0 : b8 0 = 0#32 := rfl
    rw [e0, it_at_nought, it_z, it_at_nought, BitVec.xor_zero]
    simp
  · have hne : ¬ (magic ^^^ it z (xs.length - k - 1) (it stp 8 (b8 b)) = magic) := by
      intro hq
      have h2 : it z (xs.length - k - 1) (it stp 8 (b8 b)) = 0#32 := by
        have := congrArg (magic ^^^ ·) hq
        simpa only [← BitVec.xor_assoc, BitVec.xor_self, BitVec.zero_xor] using this
      exact hb (b8_nought b0 b1 (it_nought _ _ (itz_nought _ _ h2)))
    rw [decide_eq_false hne]
    simp [hb]
end Go.Proofs.Ytefdmocfoopghaa

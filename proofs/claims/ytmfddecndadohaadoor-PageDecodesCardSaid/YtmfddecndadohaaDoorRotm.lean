/-
  WHAT TELLS ROT: bytes that are changed, held against those that were marked. Conditions: that the bytes are bytes.
-/
import Derived.Test.YtmfddecndadohaaDoorLib
namespace Go.Proofs.YtmfddecndadohaaDoor
open Crc

theorem upv_set (vs : List (BitVec 32)) (r v : BitVec 32) (k : Nat) (h : k < vs.length) : upv r (vs.set k (vs[k] ^^^ v)) = upv r vs ^^^ it z (vs.length - k - 1) (it stp 8 v) := by
  induction vs generalizing r k with
  | nil => simp at h
  | cons x vs ih => cases k with
    | zero =>
      show upv (byt r (x ^^^ v)) vs = upv (byt r x) vs ^^^ _
      have e : byt r (x ^^^ v) = byt r x ^^^ it stp 8 v := by
        have := byt_lin r 0#32 x v
        rw [BitVec.xor_zero] at this
        rw [this]
        simp [byt]
      rw [e, upv_split, upv_split (byt r x), lin_it lin_z]
      have e2 : (x :: vs).length - 0 - 1 = vs.length := by simp
      rw [e2, BitVec.xor_assoc, BitVec.xor_comm (it z vs.length (it stp 8 v)), ← BitVec.xor_assoc]
    | succ k =>
      show upv (byt r x) (vs.set k (vs[k]'(by simpa using h) ^^^ v)) = upv (byt r x) vs ^^^ _
      rw [ih _ k (by simpa using h)]
      congr 2
      simp
theorem map_set (xs : List Int) (k : Nat) (v b : Int) (h : k < xs.length) (hv : b8 v = b8 xs[k] ^^^ b8 b) : (xs.set k v).map b8 = (xs.map b8).set k ((xs.map b8)[k]'(by simpa using h) ^^^ b8 b) := by
  rw [List.map_set, hv]
  simp
theorem b8_nought {x : Int} (h0 : 0 ≤ x) (h1 : x < 256) (h : b8 x = 0#32) : x = 0 := by
  have e := rg_b8 x h0 (by omega)
  rw [h] at e
  exact e.symm
/-- one byte changed: good only if it is none -/
theorem good_set (xs : List Int) (k : Nat) (v b : Int) (h : k < xs.length) (hg : isGood xs = true) (hv : b8 v = b8 xs[k] ^^^ b8 b) (b0 : 0 ≤ b) (b1 : b < 256) : isGood (xs.set k v) = (b == 0) := by
  unfold isGood at hg ⊢
  rw [decide_eq_true_eq] at hg
  have e : up ones (xs.set k v) = magic ^^^ it z (xs.length - k - 1) (it stp 8 (b8 b)) := by
    unfold up at hg ⊢
    rw [map_set xs k v b h hv, upv_set _ _ _ _ (by simpa using h), hg, List.length_map]
  rw [e]
  by_cases hb : b = 0
  · subst hb
    have e0 : b8 0 = 0#32 := rfl
    rw [e0, it_at_nought, it_z, it_at_nought, BitVec.xor_zero]
    simp
  · have hne : ¬ (magic ^^^ it z (xs.length - k - 1) (it stp 8 (b8 b)) = magic) := by
      intro hq
      have h2 : it z (xs.length - k - 1) (it stp 8 (b8 b)) = 0#32 := by
        have := congrArg (magic ^^^ ·) hq
        simpa only [← BitVec.xor_assoc, BitVec.xor_self, BitVec.zero_xor] using this
      exact hb (b8_nought b0 b1 (it_nought _ _ (itz_nought _ _ h2)))
    rw [decide_eq_false hne]
    simp [hb]

/-! ### bits that are changed -/
def par8 (xs : List Int) : Bool := pl (xs.map b8)
theorem good_par {xs : List Int} (h : isGood xs = true) : par8 xs = false := by
  unfold isGood at h
  rw [decide_eq_true_eq] at h
  have e := congrArg pr h
  unfold up at e
  rw [pr_upv] at e
  have e2 : pr magic = pr ones := pr_it 32 ones
  rw [e2] at e
  unfold par8
  revert e
  generalize pr ones = p
  generalize pl (xs.map b8) = q
  cases p <;> cases q <;> decide
theorem odd_bad {xs : List Int} (h : par8 xs = true) : isGood xs = false := by
  cases hg : isGood xs
  · rfl
  · rw [good_par hg] at h; cases h
theorem pow8 (j : Nat) (hj : j < 8) : b8 (2 ^ j % 256) = 1#32 <<< j ∧ (0 : Int) ≤ 2 ^ j % 256 ∧ (2 : Int) ^ j % 256 < 256 := by
  have : ∀ k : Fin 8, b8 (2 ^ k.1 % 256) = 1#32 <<< k.1 ∧ (0 : Int) ≤ 2 ^ k.1 % 256 ∧ (2 : Int) ^ k.1 % 256 < 256 := by decide
  exact this ⟨j, hj⟩
theorem pr_pow (j : Nat) (hj : j < 8) : pr (1#32 <<< j) = true := by
  have : ∀ k : Fin 8, pr (1#32 <<< k.1) = true := by decide
  exact this ⟨j, hj⟩
/-- one bit of a byte changed -/
theorem flip_byte {x : Int} (h0 : 0 ≤ x) (h1 : x < 256) (j : Nat) (hj : j < 8) : b8 (bits .xor .u8 x (2 ^ j % 256)) = b8 x ^^^ (1#32 <<< j) ∧ 0 ≤ bits .xor .u8 x (2 ^ j % 256) ∧ bits .xor .u8 x (2 ^ j % 256) < 256 := by
  obtain ⟨e, p0, p1⟩ := pow8 j hj
  have := xor8_b8 x _ h0 h1 p0 p1
  rw [e] at this
  exact this
theorem par_flip {xs : List Int} {k : Nat} {x : Int} (hx : xs[k]? = some x) (h0 : 0 ≤ x) (h1 : x < 256) (j : Nat) (hj : j < 8) : par8 (xs.set k (bits .xor .u8 x (2 ^ j % 256))) = !par8 xs := by
  obtain ⟨hk, rfl⟩ := List.getElem?_eq_some_iff.1 hx
  unfold par8
  rw [List.map_set, (flip_byte h0 h1 j hj).1]
  have e := pl_set (xs.map b8) k (1#32 <<< j) (by simpa using hk)
  rw [List.getElem_map] at e
  rw [e, pr_pow j hj]
  cases pl (xs.map b8) <;> rfl
/-- the bytes of xs, changed by the bits of f -/
def Turned (f : Nat → Bool) (xs zs : List Int) : Prop :=
  ∀ j (h1 : j < xs.length) (h2 : j < zs.length) t, (b8 zs[j]).getLsbD t = ((b8 xs[j]).getLsbD t ^^ (decide (t < 8) && f (8 * j + t)))
theorem Turned.none (xs : List Int) : Turned (fun _ => false) xs xs := by
  intro j _ _ t
  simp
/-- the first i of a pattern's bits, from q on -/
def pat (p : BitVec 32) (q i : Nat) (m : Nat) : Bool := decide (q ≤ m ∧ m < q + i) && p.getLsbD (m - q)
theorem Turned.first (p : BitVec 32) (q : Nat) (xs : List Int) : Turned (pat p q 0) xs xs := by
  intro j _ _ t
  have e : pat p q 0 (8 * j + t) = false := by
    unfold pat
    have : ¬ (q ≤ 8 * j + t ∧ 8 * j + t < q + 0) := by omega
    rw [decide_eq_false this]; rfl
  rw [e]; simp
theorem Turned.skip {p : BitVec 32} {q i : Nat} {xs zs : List Int} (h : Turned (pat p q i) xs zs) (hp : p.getLsbD i = false) : Turned (pat p q (i + 1)) xs zs := by
  intro j h1 h2 t
  rw [h j h1 h2 t]
  congr 2
  unfold pat
  by_cases e : 8 * j + t = q + i
  · have e2 : 8 * j + t - q = i := by omega
    rw [e2, hp, Bool.and_false, Bool.and_false]
  · congr 1
    rw [decide_eq_decide]; omega
theorem Turned.flip {p : BitVec 32} {q i : Nat} {xs zs : List Int} (h : Turned (pat p q i) xs zs) (hp : p.getLsbD i = true) {x : Int} (hx : zs[(q + i) / 8]? = some x) (x0 : 0 ≤ x) (x1 : x < 256) :
    Turned (pat p q (i + 1)) xs (zs.set ((q + i) / 8) (bits .xor .u8 x (2 ^ ((q + i) % 8) % 256))) := by
  obtain ⟨hk, rfl⟩ := List.getElem?_eq_some_iff.1 hx
  intro j h1 h2 t
  have h2' : j < zs.length := by simpa using h2
  have hh := h j h1 h2' t
  have hm : (q + i) % 8 < 8 := Nat.mod_lt _ (by decide)
  by_cases e : (q + i) / 8 = j
  · subst e
    rw [List.getElem_set_self, (flip_byte x0 x1 _ hm).1, BitVec.getLsbD_xor, hh]
    have eb : (1#32 <<< ((q + i) % 8)).getLsbD t = decide (t = (q + i) % 8) := by
      rw [BitVec.getLsbD_shiftLeft, BitVec.getLsbD_one]
      by_cases c : t = (q + i) % 8
      · subst c; simp; omega
      · simp only [c, decide_false]
        by_cases c2 : t < (q + i) % 8
        · simp [c2]
        · have : ¬ (t - (q + i) % 8 = 0) := by omega
          simp [this]
    rw [eb]
    by_cases c : t = (q + i) % 8
    · have c8 : t < 8 := by omega
      have c9 : 8 * ((q + i) / 8) + t = q + i := by omega
      have e1 : pat p q i (q + i) = false := by
        unfold pat
        have : ¬ (q ≤ q + i ∧ q + i < q + i) := by omega
        rw [decide_eq_false this]; rfl
      have e2 : pat p q (i + 1) (q + i) = true := by
        unfold pat
        have : q ≤ q + i ∧ q + i < q + (i + 1) := by omega
        have e3 : q + i - q = i := by omega
        rw [decide_eq_true this, e3, hp]; rfl
      rw [c9, e1, e2, decide_eq_true c, decide_eq_true c8]
      generalize (b8 xs[(q + i) / 8]).getLsbD t = b
      cases b <;> rfl
    · have e1 : (decide (t < 8) && pat p q i (8 * ((q + i) / 8) + t)) = (decide (t < 8) && pat p q (i + 1) (8 * ((q + i) / 8) + t)) := by
        by_cases c8 : t < 8
        · congr 1
          unfold pat
          congr 1
          rw [decide_eq_decide]; omega
        · rw [decide_eq_false c8]; rfl
      rw [e1, decide_eq_false c, Bool.xor_false]
  · rw [List.getElem_set_ne e, hh]
    by_cases c8 : t < 8
    · congr 2
      unfold pat
      congr 1
      rw [decide_eq_decide]; omega
    · rw [decide_eq_false c8]; rfl
theorem turned_up {f : Nat → Bool} {xs zs : List Int} (hl : zs.length = xs.length) (h : Turned f xs zs) : up ones zs = up ones xs ^^^ bup 0#32 f 0 (8 * xs.length) := by
  have hd : ∀ i (hi : i < (List.zipWith (· ^^^ ·) (xs.map b8) (zs.map b8)).length) j, j < 32 → (List.zipWith (· ^^^ ·) (xs.map b8) (zs.map b8))[i].getLsbD j = (decide (j < 8) && f (0 + 8 * i + j)) := by
    intro i hi j _
    simp at hi
    simp only [List.getElem_zipWith, List.getElem_map, BitVec.getLsbD_xor]
    rw [h i (by omega) (by omega) j, Nat.zero_add]
    generalize (b8 xs[i]).getLsbD j = b
    generalize (decide (j < 8) && f (8 * i + j)) = c
    cases b <;> cases c <;> rfl
  have e1 := upv_bup _ 0#32 f 0 hd
  have e2 := upv_lin ones 0#32 (xs.map b8) (List.zipWith (· ^^^ ·) (xs.map b8) (zs.map b8)) (by simp; omega)
  have e3 : List.zipWith (· ^^^ ·) (xs.map b8) (List.zipWith (· ^^^ ·) (xs.map b8) (zs.map b8)) = zs.map b8 := by
    apply List.ext_getElem
    · simp; omega
    · intro i _ _
      simp [← BitVec.xor_assoc]
  have e4 : (List.zipWith (· ^^^ ·) (xs.map b8) (zs.map b8)).length = xs.length := by simp; omega
  rw [e3, BitVec.xor_zero, e1, e4] at e2
  exact e2
theorem burst_bad {p : BitVec 32} {q : Nat} {xs zs : List Int} (hp : p ≠ 0#32) (hq : q + 32 ≤ 8 * xs.length) (hl : zs.length = xs.length) (hg : isGood xs = true) (h : Turned (pat p q 32) xs zs) : isGood zs = false := by
  unfold isGood at hg ⊢
  rw [decide_eq_true_eq] at hg
  rw [turned_up hl h, hg]
  have hb := burst p hp (pat p q 32) q (8 * xs.length) hq
    (fun j hj => by unfold pat; rw [decide_eq_false (by omega)]; rfl)
    (fun j hj => by
      unfold pat
      have e : q + j - q = j := by omega
      rw [decide_eq_true (by omega), e]; rfl)
    (fun j hj => by unfold pat; rw [decide_eq_false (by omega)]; rfl)
  apply decide_eq_false
  intro hc
  apply hb
  have := congrArg (magic ^^^ ·) hc
  simpa only [← BitVec.xor_assoc, BitVec.xor_self, BitVec.zero_xor] using this
theorem bit_test (p : BitVec 32) (k : Nat) : (bits .and .u32 (rg p / 2 ^ k) 1 == 1) = p.getLsbD k := by
  rw [shr_rg, and_one, low_and, BitVec.getLsbD_ushiftRight, Nat.add_zero]
  cases p.getLsbD k <;> rfl
end Go.Proofs.YtmfddecndadohaaDoor

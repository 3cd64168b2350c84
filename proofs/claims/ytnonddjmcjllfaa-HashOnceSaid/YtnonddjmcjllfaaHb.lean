/-
  PLAIN: what mixes a number's bits, what turns it back, keys of numbers, first bits. No program's function in it.
-/
import Derived.Lib.Hide
namespace Go.Proofs.Ytnonddjmcjllfaa.Hb

def F1 : BitVec 64 := 0xbf58476d1ce4e5b9#64
def F2 : BitVec 64 := 0x94d049bb133111eb#64
def G1 : BitVec 64 := 0x96de1b173f119089#64
def G2 : BitVec 64 := 0x319642b2d24d8ec3#64
def gold : BitVec 64 := 0x9e3779b97f4a7c15#64
def tn (s : Nat) (x : BitVec 64) : BitVec 64 := x ^^^ (x >>> s)
def tb (s : Nat) (x : BitVec 64) : BitVec 64 := tn (2 * s) (tn s x)
def mixB (x : BitVec 64) : BitVec 64 := tn 31 (tn 27 (tn 30 x * F1) * F2)
def backB (x : BitVec 64) : BitVec 64 := tb 30 (tb 27 (tb 31 x * G2) * G1)
def stepB (k n : BitVec 64) : BitVec 64 := mixB ((k ^^^ n) + gold)
def ofB (l : List (BitVec 64)) : BitVec 64 := l.foldl stepB gold

theorem tn_two (s t : Nat) (x : BitVec 64) : tn s (tn t x) = x ^^^ x >>> t ^^^ (x >>> s ^^^ x >>> (t + s)) := by
  unfold tn
  rw [BitVec.ushiftRight_xor_distrib, ← BitVec.shiftRight_add]
theorem tn_comm (s t : Nat) (x : BitVec 64) : tn s (tn t x) = tn t (tn s x) := by
  rw [tn_two, tn_two, Nat.add_comm s t]
  rw [BitVec.xor_assoc, BitVec.xor_assoc, ← BitVec.xor_assoc (x >>> t), ← BitVec.xor_assoc (x >>> s), BitVec.xor_comm (x >>> t)]
theorem tn_self (s : Nat) (x : BitVec 64) : tn s (tn s x) = tn (2 * s) x := by
  rw [tn_two, BitVec.xor_assoc, ← BitVec.xor_assoc (x >>> s), BitVec.xor_self, BitVec.zero_xor, ← Nat.two_mul]
  rfl
theorem tn_far (s : Nat) (x : BitVec 64) (h : 64 ≤ s) : tn s x = x := by
  unfold tn
  have e : x >>> s = 0#64 := by
    apply BitVec.eq_of_toNat_eq
    rw [BitVec.toNat_ushiftRight, Nat.shiftRight_eq_div_pow]
    have h1 := x.isLt
    have h2 : 2 ^ 64 ≤ 2 ^ s := Nat.pow_le_pow_right (by decide) h
    rw [Nat.div_eq_of_lt (by omega)]
    rfl
  rw [e, BitVec.xor_zero]
theorem tb_tn (s : Nat) (x : BitVec 64) (h : 16 ≤ s) : tb s (tn s x) = x := by
  unfold tb
  rw [tn_self, tn_self, tn_far _ _ (by omega)]
theorem tn_tb (s : Nat) (x : BitVec 64) (h : 16 ≤ s) : tn s (tb s x) = x := by
  unfold tb
  rw [tn_comm, tn_self, tn_self, tn_far _ _ (by omega)]
theorem mul_back {a F G : BitVec 64} (h : F * G = 1#64) : a * F * G = a := by rw [BitVec.mul_assoc, h, BitVec.mul_one]
theorem fg1 : F1 * G1 = 1#64 := by decide
theorem fg2 : F2 * G2 = 1#64 := by decide
theorem gf1 : G1 * F1 = 1#64 := by decide
theorem gf2 : G2 * F2 = 1#64 := by decide
theorem back_mix (x : BitVec 64) : backB (mixB x) = x := by
  unfold backB mixB
  rw [tb_tn 31 _ (by decide), mul_back fg2, tb_tn 27 _ (by decide), mul_back fg1, tb_tn 30 _ (by decide)]
theorem mix_back (x : BitVec 64) : mixB (backB x) = x := by
  unfold backB mixB
  rw [tn_tb 30 _ (by decide), mul_back gf1, tn_tb 27 _ (by decide), mul_back gf2, tn_tb 31 _ (by decide)]
theorem mix_inj {x y : BitVec 64} (h : mixB x = mixB y) : x = y := by
  rw [← back_mix x, ← back_mix y, h]
theorem step_inj {a b n : BitVec 64} (h : stepB a n = stepB b n) : a = b := by
  have h1 := mix_inj h
  have h2 := BitVec.add_left_inj gold |>.1 h1
  have h3 : (a ^^^ n) ^^^ n = (b ^^^ n) ^^^ n := by rw [h2]
  rwa [BitVec.xor_assoc, BitVec.xor_self, BitVec.xor_zero, BitVec.xor_assoc, BitVec.xor_self, BitVec.xor_zero] at h3
theorem step_inj' {a n m : BitVec 64} (h : stepB a n = stepB a m) : n = m := by
  have h1 := mix_inj h
  have h2 := BitVec.add_left_inj gold |>.1 h1
  have h3 : a ^^^ (a ^^^ n) = a ^^^ (a ^^^ m) := by rw [h2]
  rwa [← BitVec.xor_assoc, BitVec.xor_self, BitVec.zero_xor, ← BitVec.xor_assoc, BitVec.xor_self, BitVec.zero_xor] at h3
theorem fold_inj : ∀ (l : List (BitVec 64)) (a b : BitVec 64), l.foldl stepB a = l.foldl stepB b → a = b := by
  intro l
  induction l with
  | nil => intro a b h; exact h
  | cons x l ih => intro a b h; exact step_inj (ih _ _ h)
theorem of_take (l : List (BitVec 64)) (k : Nat) (h : k < l.length) : ofB (l.take (k + 1)) = stepB (ofB (l.take k)) l[k] := by
  unfold ofB
  rw [List.take_succ_eq_append_getElem h, List.foldl_append]
  rfl
theorem of_snoc (l : List (BitVec 64)) (n : BitVec 64) : ofB (l ++ [n]) = stepB (ofB l) n := by simp [ofB]
theorem of_once (l : List (BitVec 64)) (k : Nat) (h : k < l.length) (d : BitVec 64) (e : ofB l = ofB (l.set k (l[k] ^^^ d))) : d = 0#64 := by
  have e1 : l.take k ++ l[k] :: l.drop (k + 1) = l := by
    rw [← List.drop_eq_getElem_cons h, List.take_append_drop]
  have e2 : l.set k (l[k] ^^^ d) = l.take k ++ (l[k] ^^^ d) :: l.drop (k + 1) := List.set_eq_take_append_cons_drop .. |>.trans (if_pos h)
  rw [e2] at e
  have e3 : ofB (l.take k ++ l[k] :: l.drop (k + 1)) = ofB (l.take k ++ (l[k] ^^^ d) :: l.drop (k + 1)) := by rw [e1]; exact e
  unfold ofB at e3
  rw [List.foldl_append, List.foldl_append] at e3
  have e4 := step_inj' (fold_inj _ _ _ e3)
  have e5 : l[k] ^^^ l[k] = l[k] ^^^ (l[k] ^^^ d) := by rw [← e4]
  rw [BitVec.xor_self, ← BitVec.xor_assoc, BitVec.xor_self, BitVec.zero_xor] at e5
  exact e5.symm
/-- so many times -/
def itB (f : BitVec 64 → BitVec 64) : Nat → BitVec 64 → BitVec 64
  | 0, x => x
  | n + 1, x => f (itB f n x)
theorem it_back (x : BitVec 64) : ∀ (n k : Nat), k ≤ n → itB backB k (itB mixB n x) = itB mixB (n - k) x := by
  intro n k
  induction k with
  | zero => intro _; rfl
  | succ k ih =>
    intro h
    show backB (itB backB k (itB mixB n x)) = _
    rw [ih (by omega), show n - k = (n - (k + 1)) + 1 by omega]
    exact back_mix _

/-- the first m bits of a key -/
def frB (x : BitVec 64) (m : Nat) : Nat := x.toNat / 2 ^ (64 - m)
theorem fr_lt (x : BitVec 64) (m : Nat) (h : m ≤ 64) : frB x m < 2 ^ m := by
  unfold frB
  rw [Nat.div_lt_iff_lt_mul (Nat.two_pow_pos _), ← Nat.pow_add, show m + (64 - m) = 64 by omega]
  exact x.isLt
theorem fr_more (x : BitVec 64) (m n : Nat) (h : m ≤ n) (hn : n ≤ 64) : frB x n / 2 ^ (n - m) = frB x m := by
  unfold frB
  rw [Nat.div_div_eq_div_mul, ← Nat.pow_add, show 64 - n + (n - m) = 64 - m by omega]
/-- what is left behind the first m bits, moved up -/
def leB (x : BitVec 64) (m : Nat) : Nat := x.toNat * 2 ^ m % 2 ^ 64
theorem le_zero (x : BitVec 64) : leB x 0 = x.toNat := by
  unfold leB
  rw [Nat.pow_zero, Nat.mul_one, Nat.mod_eq_of_lt x.isLt]
theorem le_lt (x : BitVec 64) (m : Nat) : leB x m < 2 ^ 64 := Nat.mod_lt _ (Nat.two_pow_pos _)
theorem le_next (x : BitVec 64) (m : Nat) : leB x m * 2 % 2 ^ 64 = leB x (m + 1) := by
  unfold leB
  rw [Nat.mod_mul_mod, Nat.mul_assoc, ← Nat.pow_succ]
theorem fr_zero (x : BitVec 64) : frB x 0 = 0 := Nat.div_eq_of_lt x.isLt
theorem fr_next (x : BitVec 64) (m : Nat) (h : m < 64) : frB x (m + 1) = 2 * frB x m + if 9223372036854775808 ≤ leB x m then 1 else 0 := by
  have hd : 64 - m = (63 - m) + 1 := by omega
  have hd' : 64 - (m + 1) = 63 - m := by omega
  obtain ⟨d, hD⟩ : ∃ d, 63 - m = d := ⟨_, rfl⟩
  have hmd : d + m = 63 := by omega
  unfold frB leB
  rw [hd, hd', hD]
  have e1 : (2 : Nat) ^ 64 = 2 ^ (d + 1) * 2 ^ m := by rw [← Nat.pow_add]; congr 1; omega
  have e2 : (9223372036854775808 : Nat) = 2 ^ d * 2 ^ m := by rw [← Nat.pow_add, hmd]
  generalize x.toNat = X
  have hp := Nat.two_pow_pos d
  have hr := Nat.mod_lt X hp
  have e3 : X * 2 ^ m % 2 ^ 64 = (X % 2 ^ (d + 1)) * 2 ^ m := by rw [e1, Nat.mul_mod_mul_right]
  have e4 : X % 2 ^ (d + 1) = X % 2 ^ d + 2 ^ d * (X / 2 ^ d % 2) := Nat.mod_pow_succ
  have e5 : X / 2 ^ (d + 1) = X / 2 ^ d / 2 := by rw [Nat.pow_succ, ← Nat.div_div_eq_div_mul]
  have e6 : (2 ^ d * 2 ^ m ≤ (X % 2 ^ d + 2 ^ d * (X / 2 ^ d % 2)) * 2 ^ m) ↔ (2 ^ d ≤ X % 2 ^ d + 2 ^ d * (X / 2 ^ d % 2)) := Nat.mul_le_mul_right_iff (Nat.two_pow_pos m)
  rw [e3, e2, e4, e5]
  simp only [e6]
  generalize X / 2 ^ d = q
  rcases Nat.mod_two_eq_zero_or_one q with h | h
  · rw [h, Nat.mul_zero, Nat.add_zero, if_neg (by omega)]; omega
  · rw [h, Nat.mul_one, if_pos (by omega)]; omega
end Go.Proofs.Ytnonddjmcjllfaa.Hb

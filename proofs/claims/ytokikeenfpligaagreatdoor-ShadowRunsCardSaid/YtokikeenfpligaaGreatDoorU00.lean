/-
  THE PLAIN MATHEMATICS OF CASTAGNOLI's SUM over registers of 32 bits: no program in it. No conditions but those that each lemma names.
-/
namespace Go.Proofs.YtokikeenfpligaaGreatDoor.Sm.Crc

def poly : BitVec 32 := 0x82f63b78#32
def ones : BitVec 32 := 0xffffffff#32
/-- one bit's step of a register -/
def stp (r : BitVec 32) : BitVec 32 := (r >>> 1) ^^^ ((r &&& 1#32) * poly)
def it (f : BitVec 32 → BitVec 32) : Nat → BitVec 32 → BitVec 32
  | 0, r => r
  | n + 1, r => it f n (f r)
def Lin (f : BitVec 32 → BitVec 32) : Prop := ∀ a b, f (a ^^^ b) = f a ^^^ f b

theorem it_zero (f : BitVec 32 → BitVec 32) (r : BitVec 32) : it f 0 r = r := rfl
theorem it_succ (f : BitVec 32 → BitVec 32) (n : Nat) (r : BitVec 32) : it f (n + 1) r = it f n (f r) := rfl
theorem it_add (f : BitVec 32 → BitVec 32) (m n : Nat) (r : BitVec 32) : it f (m + n) r = it f n (it f m r) := by
  induction m generalizing r with
  | zero => simp [it]
  | succ m ih => rw [Nat.succ_add, it_succ, it_succ, ih]
theorem it_succ' (f : BitVec 32 → BitVec 32) (n : Nat) (r : BitVec 32) : it f (n + 1) r = f (it f n r) := by rw [it_add]; rfl
theorem it_mul (f : BitVec 32 → BitVec 32) (m n : Nat) (r : BitVec 32) : it f (m * n) r = it (it f m) n r := by
  induction n generalizing r with
  | zero => rfl
  | succ n ih => rw [Nat.mul_succ, Nat.add_comm, it_add, ih]; rfl
theorem lin_it {f : BitVec 32 → BitVec 32} (h : Lin f) (n : Nat) : Lin (it f n) := by
  induction n with
  | zero => intro a b; rfl
  | succ n ih => intro a b; rw [it_succ, it_succ, it_succ, h, ih]
theorem lin_zero {f : BitVec 32 → BitVec 32} (h : Lin f) : f 0#32 = 0#32 := by
  have := h 0#32 0#32
  rw [BitVec.xor_self] at this
  rw [this, BitVec.xor_self]

theorem low_and (r : BitVec 32) : r &&& 1#32 = if r.getLsbD 0 then 1#32 else 0#32 := by
  apply BitVec.eq_of_getLsbD_eq
  intro i hi
  rw [BitVec.getLsbD_and]
  cases h : r.getLsbD 0 <;> cases i <;> simp_all
theorem stp_eq (r : BitVec 32) : stp r = (r >>> 1) ^^^ (if r.getLsbD 0 then poly else 0#32) := by
  unfold stp
  rw [low_and]
  cases r.getLsbD 0 <;> simp
theorem stp_bit (r : BitVec 32) (i : Nat) : (stp r).getLsbD i = (r.getLsbD (i + 1) ^^ (r.getLsbD 0 && poly.getLsbD i)) := by
  rw [stp_eq, BitVec.getLsbD_xor, BitVec.getLsbD_ushiftRight, Nat.add_comm 1 i]
  cases r.getLsbD 0 <;> simp
theorem lin_stp : Lin stp := by
  intro a b
  apply BitVec.eq_of_getLsbD_eq
  intro i _
  simp only [stp_bit, BitVec.getLsbD_xor]
  cases a.getLsbD 0 <;> cases b.getLsbD 0 <;> cases a.getLsbD (i + 1) <;> cases b.getLsbD (i + 1) <;> simp
theorem stp_nought (r : BitVec 32) (h : stp r = 0#32) : r = 0#32 := by
  have h0 : r.getLsbD 0 = false := by
    have := stp_bit r 31
    rw [h] at this
    have hp : poly.getLsbD 31 = true := by decide
    rw [hp] at this
    simpa using this
  apply BitVec.eq_of_getLsbD_eq
  intro i hi
  cases i with
  | zero => simpa using h0
  | succ i =>
    have := stp_bit r i
    rw [h, h0] at this
    simpa using this.symm
theorem it_nought (n : Nat) (r : BitVec 32) (h : it stp n r = 0#32) : r = 0#32 := by
  induction n generalizing r with
  | zero => exact h
  | succ n ih => exact stp_nought r (ih _ h)
theorem xor_nought {a b : BitVec 32} (h : a ^^^ b = 0#32) : a = b := by
  have := congrArg (· ^^^ b) h
  simpa [BitVec.xor_assoc] using this
theorem it_inj (n : Nat) {a b : BitVec 32} (h : it stp n a = it stp n b) : a = b := by
  apply xor_nought
  apply it_nought n
  rw [lin_it lin_stp n, h, BitVec.xor_self]

/-- one byte of noughts -/
def z (r : BitVec 32) : BitVec 32 := it stp 8 r
theorem lin_z : Lin z := lin_it lin_stp 8
theorem it_z (n : Nat) (r : BitVec 32) : it z n r = it stp (8 * n) r := (it_mul stp 8 n r).symm
theorem itz_nought (n : Nat) (r : BitVec 32) (h : it z n r = 0#32) : r = 0#32 := by rw [it_z] at h; exact it_nought _ _ h
/-- one byte -/
def byt (r v : BitVec 32) : BitVec 32 := it stp 8 (r ^^^ v)
theorem byt_zero (r : BitVec 32) : byt r 0#32 = z r := by simp [byt, z]
def upv (r : BitVec 32) : List (BitVec 32) → BitVec 32
  | [] => r
  | v :: vs => upv (byt r v) vs
theorem upv_append (r : BitVec 32) (xs ys : List (BitVec 32)) : upv r (xs ++ ys) = upv (upv r xs) ys := by
  induction xs generalizing r with
  | nil => rfl
  | cons x xs ih => exact ih _
theorem byt_lin (r s v u : BitVec 32) : byt (r ^^^ s) (v ^^^ u) = byt r v ^^^ byt s u := by
  unfold byt
  rw [← lin_it lin_stp 8]
  congr 1
  rw [BitVec.xor_assoc, BitVec.xor_assoc, ← BitVec.xor_assoc s v u, BitVec.xor_comm s v, BitVec.xor_assoc]
theorem upv_lin (r s : BitVec 32) (xs ys : List (BitVec 32)) (h : xs.length = ys.length) :
    upv (r ^^^ s) (List.zipWith (· ^^^ ·) xs ys) = upv r xs ^^^ upv s ys := by
  induction xs generalizing r s ys with
  | nil => cases ys with | nil => rfl | cons y ys => cases h
  | cons x xs ih => cases ys with
    | nil => cases h
    | cons y ys =>
      show upv (byt (r ^^^ s) (x ^^^ y)) _ = upv (byt r x) xs ^^^ upv (byt s y) ys
      rw [byt_lin]
      exact ih _ _ _ (by simpa using h)
theorem upv_zeros (r : BitVec 32) (n : Nat) : upv r (List.replicate n 0#32) = it z n r := by
  induction n generalizing r with
  | zero => rfl
  | succ n ih => rw [List.replicate_succ]; show upv (byt r 0#32) _ = _; rw [byt_zero, ih]; rfl
theorem zip_zeros (xs : List (BitVec 32)) : List.zipWith (· ^^^ ·) (List.replicate xs.length 0#32) xs = xs := by
  induction xs with
  | nil => rfl
  | cons x xs ih => simp only [List.length_cons, List.replicate_succ, List.zipWith_cons_cons, ih, BitVec.zero_xor]
theorem upv_split (r : BitVec 32) (xs : List (BitVec 32)) : upv r xs = it z xs.length r ^^^ upv 0#32 xs := by
  have := upv_lin r 0#32 (List.replicate xs.length 0#32) xs (by simp)
  rw [zip_zeros, upv_zeros, BitVec.xor_zero] at this
  exact this

/-- bits that a bit's step takes, from m on -/
def bup (r : BitVec 32) (f : Nat → Bool) : Nat → Nat → BitVec 32
  | _, 0 => r
  | m, n + 1 => bup (stp (r ^^^ (if f m then 1#32 else 0#32))) f (m + 1) n
theorem bup_add (r : BitVec 32) (f : Nat → Bool) (m n k : Nat) : bup r f m (n + k) = bup (bup r f m n) f (m + n) k := by
  induction n generalizing r m with
  | zero => simp [bup]
  | succ n ih => rw [Nat.succ_add]; show bup _ f (m + 1) (n + k) = bup (bup _ f (m + 1) n) f (m + (n + 1)) k; rw [ih]; congr 1; omega
theorem bit_of (b : Bool) (j : Nat) : (if b then 1#32 else 0#32 : BitVec 32).getLsbD j = (decide (j = 0) && b) := by
  cases b
  · simp
  · cases j
    · rfl
    · simp [BitVec.getLsbD_one]
theorem stp_word (r v : BitVec 32) (b : Bool) (h0 : v.getLsbD 0 = b) : stp (r ^^^ v) = stp (r ^^^ (if b then 1#32 else 0#32)) ^^^ (v >>> 1) := by
  apply BitVec.eq_of_getLsbD_eq
  intro i hi
  rw [BitVec.getLsbD_xor, stp_bit, stp_bit, BitVec.getLsbD_ushiftRight, Nat.add_comm 1 i, BitVec.getLsbD_xor, BitVec.getLsbD_xor, BitVec.getLsbD_xor, BitVec.getLsbD_xor, bit_of, bit_of, h0]
  have e : decide (i + 1 = 0) = false := by simp
  rw [e]
  generalize r.getLsbD 0 = p
  generalize poly.getLsbD i = q
  generalize r.getLsbD (i + 1) = t
  generalize v.getLsbD (i + 1) = u
  cases p <;> cases b <;> cases q <;> cases t <;> cases u <;> rfl
theorem bup_word (n : Nat) (r v : BitVec 32) (f : Nat → Bool) (m : Nat) (hn : n ≤ 32) (hv : ∀ j, j < 32 → v.getLsbD j = (decide (j < n) && f (m + j))) :
    bup r f m n = it stp n (r ^^^ v) := by
  induction n generalizing r v m with
  | zero =>
    have e : v = 0#32 := by
      apply BitVec.eq_of_getLsbD_eq
      intro i hi
      rw [hv i hi]; simp
    rw [e, BitVec.xor_zero]
    rfl
  | succ n ih =>
    have h0 : v.getLsbD 0 = f m := by rw [hv 0 (by omega)]; simp
    rw [it_succ, stp_word r v (f m) h0]
    show bup (stp (r ^^^ (if f m then 1#32 else 0#32))) f (m + 1) n = _
    apply ih _ _ _ (by omega)
    intro j hj
    rw [BitVec.getLsbD_ushiftRight]
    by_cases hj' : 1 + j < 32
    · rw [hv (1 + j) hj']
      have e : m + (1 + j) = m + 1 + j := by omega
      rw [e]
      congr 1
      rw [decide_eq_decide]; omega
    · rw [BitVec.getLsbD_of_ge v (1 + j) (by omega)]
      have e : decide (j < n) = false := decide_eq_false (by omega)
      rw [e]; rfl

/-! ### a bit's step keeps whether the number of bits is odd -/
def par : Nat → BitVec 32 → Bool
  | 0, _ => false
  | n + 1, r => par n r ^^ r.getLsbD n
theorem par_xor (n : Nat) (a b : BitVec 32) : par n (a ^^^ b) = (par n a ^^ par n b) := by
  induction n with
  | zero => rfl
  | succ n ih =>
    show (par n (a ^^^ b) ^^ (a ^^^ b).getLsbD n) = ((par n a ^^ a.getLsbD n) ^^ (par n b ^^ b.getLsbD n))
    rw [ih, BitVec.getLsbD_xor]
    generalize par n a = p
    generalize par n b = q
    generalize a.getLsbD n = t
    generalize b.getLsbD n = u
    cases p <;> cases q <;> cases t <;> cases u <;> rfl
theorem par_stp (n : Nat) (r : BitVec 32) : par n (stp r) = ((par (n + 1) r ^^ r.getLsbD 0) ^^ (r.getLsbD 0 && par n poly)) := by
  induction n with
  | zero =>
    show false = (((false ^^ r.getLsbD 0) ^^ r.getLsbD 0) ^^ (r.getLsbD 0 && false))
    cases r.getLsbD 0 <;> rfl
  | succ n ih =>
    show (par n (stp r) ^^ (stp r).getLsbD n) = (((par (n + 1) r ^^ r.getLsbD (n + 1)) ^^ r.getLsbD 0) ^^ (r.getLsbD 0 && (par n poly ^^ poly.getLsbD n)))
    rw [ih, stp_bit]
    generalize par (n + 1) r = p
    generalize r.getLsbD 0 = q
    generalize par n poly = t
    generalize r.getLsbD (n + 1) = u
    generalize poly.getLsbD n = v
    cases p <;> cases q <;> cases t <;> cases u <;> cases v <;> rfl
def pr (r : BitVec 32) : Bool := par 32 r
theorem pr_xor (a b : BitVec 32) : pr (a ^^^ b) = (pr a ^^ pr b) := par_xor 32 a b
theorem pr_stp (r : BitVec 32) : pr (stp r) = pr r := by
  unfold pr
  rw [par_stp 32 r]
  have hp : par 32 poly = true := by decide
  have hl : par (32 + 1) r = par 32 r := by
    show (par 32 r ^^ r.getLsbD 32) = par 32 r
    rw [BitVec.getLsbD_of_ge r 32 (by omega)]
    cases par 32 r <;> rfl
  rw [hp, hl]
  generalize par 32 r = p
  generalize r.getLsbD 0 = q
  cases p <;> cases q <;> rfl
theorem pr_it (n : Nat) (r : BitVec 32) : pr (it stp n r) = pr r := by
  induction n generalizing r with
  | zero => rfl
  | succ n ih => rw [it_succ, ih, pr_stp]
def pl : List (BitVec 32) → Bool
  | [] => false
  | v :: vs => pr v ^^ pl vs
theorem pr_upv (r : BitVec 32) (vs : List (BitVec 32)) : pr (upv r vs) = (pr r ^^ pl vs) := by
  induction vs generalizing r with
  | nil => show pr r = (pr r ^^ false); cases pr r <;> rfl
  | cons v vs ih =>
    show pr (upv (byt r v) vs) = (pr r ^^ (pr v ^^ pl vs))
    rw [ih, byt, pr_it, pr_xor]
    generalize pr r = p
    generalize pr v = q
    generalize pl vs = t
    cases p <;> cases q <;> cases t <;> rfl
theorem pl_append (xs ys : List (BitVec 32)) : pl (xs ++ ys) = (pl xs ^^ pl ys) := by
  induction xs with
  | nil => show pl ys = (false ^^ pl ys); cases pl ys <;> rfl
  | cons x xs ih =>
    show (pr x ^^ pl (xs ++ ys)) = ((pr x ^^ pl xs) ^^ pl ys)
    rw [ih]
    generalize pr x = p
    generalize pl xs = q
    generalize pl ys = t
    cases p <;> cases q <;> cases t <;> rfl
theorem pl_set (xs : List (BitVec 32)) (k : Nat) (v : BitVec 32) (h : k < xs.length) : pl (xs.set k (xs[k] ^^^ v)) = (pl xs ^^ pr v) := by
  induction xs generalizing k with
  | nil => simp at h
  | cons x xs ih => cases k with
    | zero =>
      show (pr (x ^^^ v) ^^ pl xs) = ((pr x ^^ pl xs) ^^ pr v)
      rw [pr_xor]
      generalize pr x = p
      generalize pr v = q
      generalize pl xs = t
      cases p <;> cases q <;> cases t <;> rfl
    | succ k =>
      show (pr x ^^ pl (xs.set k (xs[k]'(by simpa using h) ^^^ v))) = ((pr x ^^ pl xs) ^^ pr v)
      rw [ih k (by simpa using h)]
      generalize pr x = p
      generalize pr v = q
      generalize pl xs = t
      cases p <;> cases q <;> cases t <;> rfl

/-! ### what noughts do, bit by bit -/
def bh (m : Nat → BitVec 32) (r : BitVec 32) : Nat → BitVec 32
  | 0 => 0#32
  | n + 1 => bh m r n ^^^ ((r >>> n &&& 1#32) * m n)
theorem bit_times (r : BitVec 32) (n : Nat) (v : BitVec 32) : (r >>> n &&& 1#32) * v = if r.getLsbD n then v else 0#32 := by
  rw [low_and, BitVec.getLsbD_ushiftRight, Nat.add_zero]
  cases r.getLsbD n <;> simp
theorem bh_lin {L : BitVec 32 → BitVec 32} (h : Lin L) (m : Nat → BitVec 32) (r : BitVec 32) (n : Nat) : L (bh m r n) = bh (fun i => L (m i)) r n := by
  induction n with
  | zero => exact lin_zero h
  | succ n ih =>
    show L (bh m r n ^^^ _) = bh _ r n ^^^ _
    rw [h, ih, bit_times, bit_times]
    cases r.getLsbD n
    · simp [lin_zero h]
    · simp
theorem bh_congr (m m' : Nat → BitVec 32) (r : BitVec 32) (n : Nat) (h : ∀ i, i < n → m i = m' i) : bh m r n = bh m' r n := by
  induction n with
  | zero => rfl
  | succ n ih =>
    show bh m r n ^^^ _ = bh m' r n ^^^ _
    rw [ih (fun i hi => h i (by omega)), h n (by omega)]
theorem bh_bit (r : BitVec 32) (n j : Nat) (hn : n ≤ 32) : (bh (fun i => 1#32 <<< i) r n).getLsbD j = (decide (j < n) && r.getLsbD j) := by
  induction n with
  | zero => simp [bh]
  | succ n ih =>
    show (bh _ r n ^^^ _).getLsbD j = _
    rw [BitVec.getLsbD_xor, ih (by omega), bit_times]
    have e : (1#32 <<< n).getLsbD j = decide (j = n) := by
      rw [BitVec.getLsbD_shiftLeft, BitVec.getLsbD_one]
      by_cases h : j = n
      · subst h; simp; omega
      · simp only [h, decide_false]
        by_cases h2 : j < n
        · simp [h2]
        · have : ¬ (j - n = 0) := by omega
          simp [this]
    by_cases hj : j = n
    · subst hj
      cases hr : r.getLsbD j <;> simp [e]
    · have e2 : decide (j < n + 1) = decide (j < n) := by rw [decide_eq_decide]; omega
      rw [e2]
      cases hr : r.getLsbD n <;> simp [e, hj]
theorem bh_self (r : BitVec 32) : bh (fun i => 1#32 <<< i) r 32 = r := by
  apply BitVec.eq_of_getLsbD_eq
  intro i hi
  rw [bh_bit r 32 i (by omega)]
  simp [hi]
/-- a whole register becomes what its bits become -/
theorem bh_of {L : BitVec 32 → BitVec 32} (h : Lin L) (m : Nat → BitVec 32) (r : BitVec 32) (hm : ∀ i, i < 32 → m i = L (1#32 <<< i)) : bh m r 32 = L r := by
  rw [bh_congr m (fun i => L (1#32 <<< i)) r 32 hm, ← bh_lin h, bh_self]

/-! ### the last four bytes -/
def tb (s : BitVec 32) (i : Nat) : BitVec 32 := (s >>> (8 * i)) &&& 255#32
theorem bit_255 (j : Nat) : (255#32).getLsbD j = decide (j < 8) := by
  by_cases h : j < 32
  · have : ∀ k : Fin 32, (255#32).getLsbD k.1 = decide (k.1 < 8) := by decide
    exact this ⟨j, h⟩
  · rw [BitVec.getLsbD_of_ge _ _ (by omega)]
    exact (decide_eq_false (by omega)).symm
theorem tb_bit (s : BitVec 32) (i j : Nat) : (tb s i).getLsbD j = (decide (j < 8) && s.getLsbD (8 * i + j)) := by
  rw [tb, BitVec.getLsbD_and, BitVec.getLsbD_ushiftRight, bit_255, Bool.and_comm]
def tl (s : BitVec 32) : List (BitVec 32) := [tb s 0, tb s 1, tb s 2, tb s 3]
theorem byt_bup (r v : BitVec 32) (f : Nat → Bool) (m : Nat) (h : ∀ j, j < 32 → v.getLsbD j = (decide (j < 8) && f (m + j))) : byt r v = bup r f m 8 :=
  (bup_word 8 r v f m (by omega) h).symm
theorem upv_bup (vs : List (BitVec 32)) (r : BitVec 32) (f : Nat → Bool) (m : Nat)
    (h : ∀ i (hi : i < vs.length) j, j < 32 → vs[i].getLsbD j = (decide (j < 8) && f (m + 8 * i + j))) : upv r vs = bup r f m (8 * vs.length) := by
  induction vs generalizing r m with
  | nil => rfl
  | cons v vs ih =>
    show upv (byt r v) vs = bup r f m (8 * (vs.length + 1))
    rw [Nat.mul_succ, Nat.add_comm, bup_add, ← byt_bup r v f m (fun j hj => h 0 (by simp) j hj)]
    apply ih
    intro i hi j hj
    have := h (i + 1) (by simpa using hi) j hj
    rw [List.getElem_cons_succ] at this
    rw [this]
    congr 2
    omega
theorem upv_tl (r s : BitVec 32) : upv r (tl s) = it stp 32 (r ^^^ s) := by
  rw [upv_bup (tl s) r (fun j => s.getLsbD j) 0]
  · show bup r _ 0 32 = _
    apply bup_word 32 r s _ 0 (by omega)
    intro j hj
    simp [hj]
  · intro i hi j _
    have hi' : i < 4 := hi
    match i, hi' with
    | 0, _ => show (tb s 0).getLsbD j = (decide (j < 8) && s.getLsbD (0 + 8 * 0 + j)); rw [tb_bit, Nat.zero_add]
    | 1, _ => show (tb s 1).getLsbD j = (decide (j < 8) && s.getLsbD (0 + 8 * 1 + j)); rw [tb_bit, Nat.zero_add]
    | 2, _ => show (tb s 2).getLsbD j = (decide (j < 8) && s.getLsbD (0 + 8 * 2 + j)); rw [tb_bit, Nat.zero_add]
    | 3, _ => show (tb s 3).getLsbD j = (decide (j < 8) && s.getLsbD (0 + 8 * 3 + j)); rw [tb_bit, Nat.zero_add]
/-- four bytes are those of one word -/
theorem tl_of (a b c d : BitVec 32) (ha : a.toNat < 256) (hb : b.toNat < 256) (hc : c.toNat < 256) (hd : d.toNat < 256) : ∃ s, tl s = [a, b, c, d] := by
  have hs : ∀ (x : BitVec 32), x.toNat < 256 → ∀ j, 8 ≤ j → x.getLsbD j = false := by
    intro x hx j hj
    apply Nat.testBit_lt_two_pow
    exact Nat.lt_of_lt_of_le hx (Nat.pow_le_pow_right (n := 2) (by omega) hj)
  refine ⟨a ||| b <<< 8 ||| c <<< 16 ||| d <<< 24, ?_⟩
  have key : ∀ i j, (tb (a ||| b <<< 8 ||| c <<< 16 ||| d <<< 24) i).getLsbD j = (decide (j < 8) && (((a.getLsbD (8 * i + j) || (decide (8 * i + j < 32) && !decide (8 * i + j < 8) && b.getLsbD (8 * i + j - 8))) || (decide (8 * i + j < 32) && !decide (8 * i + j < 16) && c.getLsbD (8 * i + j - 16))) || (decide (8 * i + j < 32) && !decide (8 * i + j < 24) && d.getLsbD (8 * i + j - 24)))) := by
    intro i j
    rw [tb_bit, BitVec.getLsbD_or, BitVec.getLsbD_or, BitVec.getLsbD_or, BitVec.getLsbD_shiftLeft, BitVec.getLsbD_shiftLeft, BitVec.getLsbD_shiftLeft]
  have yes : ∀ {q : Prop} [Decidable q], q → decide q = true := fun h => decide_eq_true h
  have no : ∀ {q : Prop} [Decidable q], ¬ q → decide q = false := fun h => decide_eq_false h
  have e0 : tb (a ||| b <<< 8 ||| c <<< 16 ||| d <<< 24) 0 = a := by
    apply BitVec.eq_of_getLsbD_eq
    intro j _
    rw [key]
    by_cases h : j < 8
    · rw [yes h, yes (q := 8 * 0 + j < 32) (by omega), yes (q := 8 * 0 + j < 8) (by omega), yes (q := 8 * 0 + j < 16) (by omega), yes (q := 8 * 0 + j < 24) (by omega), Nat.mul_zero, Nat.zero_add]
      cases a.getLsbD j <;> rfl
    · rw [no h, hs a ha j (by omega)]; rfl
  have e1 : tb (a ||| b <<< 8 ||| c <<< 16 ||| d <<< 24) 1 = b := by
    apply BitVec.eq_of_getLsbD_eq
    intro j _
    rw [key]
    by_cases h : j < 8
    · have e : 8 * 1 + j - 8 = j := by omega
      rw [yes h, yes (q := 8 * 1 + j < 32) (by omega), no (q := 8 * 1 + j < 8) (by omega), yes (q := 8 * 1 + j < 16) (by omega), yes (q := 8 * 1 + j < 24) (by omega), e, hs a ha _ (by omega)]
      cases b.getLsbD j <;> rfl
    · rw [no h, hs b hb j (by omega)]; rfl
  have e2 : tb (a ||| b <<< 8 ||| c <<< 16 ||| d <<< 24) 2 = c := by
    apply BitVec.eq_of_getLsbD_eq
    intro j _
    rw [key]
    by_cases h : j < 8
    · have e : 8 * 2 + j - 16 = j := by omega
      rw [yes h, yes (q := 8 * 2 + j < 32) (by omega), no (q := 8 * 2 + j < 8) (by omega), no (q := 8 * 2 + j < 16) (by omega), yes (q := 8 * 2 + j < 24) (by omega), e, hs a ha _ (by omega), hs b hb _ (by omega)]
      cases c.getLsbD j <;> rfl
    · rw [no h, hs c hc j (by omega)]; rfl
  have e3 : tb (a ||| b <<< 8 ||| c <<< 16 ||| d <<< 24) 3 = d := by
    apply BitVec.eq_of_getLsbD_eq
    intro j _
    rw [key]
    by_cases h : j < 8
    · have e : 8 * 3 + j - 24 = j := by omega
      rw [yes h, yes (q := 8 * 3 + j < 32) (by omega), no (q := 8 * 3 + j < 8) (by omega), no (q := 8 * 3 + j < 16) (by omega), no (q := 8 * 3 + j < 24) (by omega), e, hs a ha _ (by omega), hs b hb _ (by omega), hs c hc _ (by omega)]
      cases d.getLsbD j <;> rfl
    · rw [no h, hs d hd j (by omega)]; rfl
  unfold tl
  rw [e0, e1, e2, e3]
def magic : BitVec 32 := it stp 32 ones
theorem ones_xor (r : BitVec 32) : r ^^^ ~~~r = ones := by
  apply BitVec.eq_of_getLsbD_eq
  intro i hi
  have : ∀ k : Fin 32, ones.getLsbD k.1 = true := by decide
  rw [BitVec.getLsbD_xor, BitVec.getLsbD_not, this ⟨i, hi⟩]
  cases r.getLsbD i <;> simp [hi]
theorem good_of (R : BitVec 32) : upv R (tl (~~~R)) = magic := by rw [upv_tl, ones_xor]; rfl
theorem tl_good (R s : BitVec 32) (h : upv R (tl s) = magic) : s = ~~~R := by
  rw [upv_tl] at h
  have e := it_inj 32 h
  rw [← ones_xor R] at e
  have e2 := congrArg (R ^^^ ·) e
  simpa only [← BitVec.xor_assoc, BitVec.xor_self, BitVec.zero_xor] using e2

/-! ### a burst -/
theorem bup_quiet (r : BitVec 32) (f : Nat → Bool) (m n : Nat) (h : ∀ j, j < n → f (m + j) = false) : bup r f m n = it stp n r := by
  induction n generalizing r m with
  | zero => rfl
  | succ n ih =>
    show bup (stp (r ^^^ (if f m then 1#32 else 0#32))) f (m + 1) n = it stp n (stp r)
    have h0 : f m = false := h 0 (by omega)
    rw [h0]
    have e : (if false = true then 1#32 else 0#32 : BitVec 32) = 0#32 := rfl
    rw [e, BitVec.xor_zero]
    apply ih
    intro j hj
    have := h (j + 1) (by omega)
    rw [← this]; congr 1; omega
theorem it_at_nought (n : Nat) : it stp n 0#32 = 0#32 := lin_zero (lin_it lin_stp n)
theorem burst (p : BitVec 32) (hp : p ≠ 0#32) (f : Nat → Bool) (k n : Nat) (hk : k + 32 ≤ n)
    (h1 : ∀ j, j < k → f j = false) (h2 : ∀ j, j < 32 → f (k + j) = p.getLsbD j) (h3 : ∀ j, k + 32 ≤ j → f j = false) : bup 0#32 f 0 n ≠ 0#32 := by
  obtain ⟨m, rfl⟩ : ∃ m, n = k + (32 + m) := ⟨n - k - 32, by omega⟩
  rw [bup_add, bup_add, Nat.zero_add]
  rw [bup_quiet 0#32 f 0 k (fun j hj => by rw [Nat.zero_add]; exact h1 j hj), it_at_nought]
  rw [bup_word 32 0#32 p f k (by omega) (fun j hj => by rw [h2 j hj]; simp [hj]), BitVec.zero_xor]
  rw [bup_quiet _ f (k + 32) m (fun j _ => h3 _ (by omega))]
  intro h
  exact hp (it_nought _ _ (it_nought _ _ h))
end Go.Proofs.YtokikeenfpligaaGreatDoor.Sm.Crc

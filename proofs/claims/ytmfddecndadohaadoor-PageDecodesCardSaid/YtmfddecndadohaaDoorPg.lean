/-
  PAGES AS PLAIN MATHEMATICS: how many records there is room for, and which pages may be. No program in it.
-/
import Derived.Test.YtmfddecndadohaaDoorLib
namespace Go.Proofs.YtmfddecndadohaaDoor
open Go.RowKit Crc

/-- how many records of a size there is room for -/
def room (s : Int) : Int := if s < 1 then 0 else min (492 / s) 255
theorem room_small {s : Int} (h : s < 1) : room s = 0 := by unfold room; rw [if_pos h]
theorem room_big {s : Int} (h : 1 ≤ s) : room s = min (492 / s) 255 := by unfold room; rw [if_neg (by omega)]
theorem room_bd (s : Int) : 0 ≤ room s ∧ room s ≤ 255 := by
  by_cases h : s < 1
  · rw [room_small h]; omega
  · rw [room_big (by omega)]
    have : 0 ≤ 492 / s := Int.ediv_nonneg (by omega) (by omega)
    omega
theorem room_mul {s : Int} (h : 1 ≤ s) : room s * s ≤ 492 := by
  rw [room_big h]
  have h1 : 492 / s * s ≤ 492 := Int.ediv_mul_le 492 (by omega)
  have h2 : min (492 / s) 255 ≤ 492 / s := by omega
  exact Int.le_trans (Int.mul_le_mul_of_nonneg_right h2 (by omega)) h1
theorem room_pos {s : Int} (h1 : 1 ≤ s) (h2 : s ≤ 492) : 1 ≤ room s := by
  rw [room_big h1]
  have : 1 ≤ 492 / s := by
    rw [Int.le_ediv_iff_mul_le (by omega)]
    omega
  omega
theorem room_out {s : Int} (h : 492 < s) : room s = 0 := by
  rw [room_big (by omega)]
  have : 492 / s = 0 := Int.ediv_eq_zero_of_lt (by omega) h
  omega
theorem room_size {s : Int} (h : 0 < room s) : 1 ≤ s ∧ s ≤ 492 := by
  by_cases h1 : s < 1
  · rw [room_small h1] at h; omega
  · by_cases h2 : 492 < s
    · rw [room_out h2] at h; omega
    · omega
/-- may there be so many of a size? -/
def fitsB (s n : Int) : Bool := decide (0 < room s) && decide (n ≤ room s)
theorem fits_no0 {s n : Int} (h : ¬ 0 < room s) : fitsB s n = false := by unfold fitsB; rw [decide_eq_false h]; rfl
theorem fits_yes {s n : Int} (h : 0 < room s) : fitsB s n = decide (n ≤ room s) := by unfold fitsB; rw [decide_eq_true h]; rfl
theorem fits_iff {s n : Int} : fitsB s n = true ↔ 0 < room s ∧ n ≤ room s := by unfold fitsB; simp
/-- a page -/
structure Pg where
  mkPg ::
  kind : Int
  number : Int
  epoch : Int
  size : Int
  recs : List (List Int)
/-- is a record not of the size? -/
def badB (s : Int) (r : List Int) : Bool := (r.length : Int) != s
def Pg.may (p : Pg) : Bool := fitsB p.size p.recs.length && !(p.recs.any (badB p.size))
theorem may_size {p : Pg} (h : p.may = true) : 1 ≤ p.size ∧ p.size ≤ 492 ∧ (p.recs.length : Int) ≤ room p.size ∧ ∀ r ∈ p.recs, (r.length : Int) = p.size := by
  unfold Pg.may at h
  rw [Bool.and_eq_true, fits_iff] at h
  obtain ⟨⟨h1, h2⟩, h3⟩ := h
  have := room_size h1
  refine ⟨this.1, this.2, h2, ?_⟩
  intro r hr
  simp only [Bool.not_eq_true', List.any_eq_false] at h3
  have := h3 r hr
  simpa [badB] using this
theorem snoc_ind {P : List Int → Prop} (h0 : P []) (h1 : ∀ xs x, P xs → P (xs ++ [x])) (xs : List Int) : P xs := by
  have : ∀ ys : List Int, P ys.reverse := by
    intro ys
    induction ys with
    | nil => exact h0
    | cons y ys ih => rw [List.reverse_cons]; exact h1 _ _ ih
  have := this xs.reverse
  rwa [List.reverse_reverse] at this
/-! ### numbers as bytes, the highest first -/
def be : Nat → Int → List Int
  | 0, _ => []
  | k + 1, n => be k (n / 256) ++ [n % 256]
theorem be_len (k : Nat) (n : Int) : (be k n).length = k := by
  induction k generalizing n with
  | zero => rfl
  | succ k ih => simp [be, ih]
theorem be_byte (k : Nat) (n : Int) : Byte (be k n) := by
  induction k generalizing n with
  | zero => intro i hi; exact absurd hi (by simp [be])
  | succ k ih =>
    refine Byte.append (ih _) ?_
    intro i hi
    have : i = 0 := by simpa using hi
    subst this
    simp only [List.getElem_cons_zero]
    omega
/-- the number of bytes -/
def num256 (xs : List Int) : Int := xs.foldl (fun v x => 256 * v + x) 0
theorem num256_snoc (xs : List Int) (x : Int) : num256 (xs ++ [x]) = 256 * num256 xs + x := by simp [num256, List.foldl_append]
theorem num256_bd (xs : List Int) (h : Byte xs) : 0 ≤ num256 xs ∧ num256 xs < 256 ^ xs.length := by
  revert h
  induction xs using snoc_ind with
  | h0 => intro _; simp [num256]
  | h1 xs x ih =>
    intro h
    have h1 := ih h.front
    have h2 := h xs.length (by simp)
    simp at h2
    rw [num256_snoc, List.length_append, List.length_singleton, Int.pow_succ]
    omega
theorem num_be (k : Nat) (n : Int) (h0 : 0 ≤ n) (h1 : n < 256 ^ k) : num256 (be k n) = n := by
  induction k generalizing n with
  | zero => simp at h1; simp [be, num256]; omega
  | succ k ih =>
    rw [be, num256_snoc, ih (n / 256) (by omega) (by rw [Int.pow_succ] at h1; omega)]
    omega
theorem be_num (xs : List Int) (h : Byte xs) : be xs.length (num256 xs) = xs := by
  revert h
  induction xs using snoc_ind with
  | h0 => intro _; rfl
  | h1 xs x ih =>
    intro h
    have h1 := ih h.front
    have h2 := h xs.length (by simp)
    simp at h2
    rw [List.length_append, List.length_singleton, num256_snoc, be]
    have e1 : (256 * num256 xs + x) / 256 = num256 xs := by omega
    have e2 : (256 * num256 xs + x) % 256 = x := by omega
    rw [e1, e2, h1]
theorem be_inj {k : Nat} {m n : Int} (h : be k m = be k n) (m0 : 0 ≤ m) (m1 : m < 256 ^ k) (n0 : 0 ≤ n) (n1 : n < 256 ^ k) : m = n := by
  rw [← num_be k m m0 m1, h, num_be k n n0 n1]
/-! ### a page as bytes -/
def Pg.head (p : Pg) : List Int := be 1 p.kind ++ be 4 p.number ++ be 8 p.epoch ++ be 2 p.size ++ be 1 p.recs.length
theorem head_len (p : Pg) : p.head.length = 16 := by simp [Pg.head, be_len]
def Pg.front (p : Pg) : List Int := p.head ++ p.recs.flatten
def pad (n : Nat) (xs : List Int) : List Int := xs ++ List.replicate (n - xs.length) 0
def Pg.bytes (p : Pg) : List Int := mk (pad 508 p.front)
theorem pad_len {n : Nat} {xs : List Int} (h : xs.length ≤ n) : (pad n xs).length = n := by simp [pad]; omega
theorem flat_len (s : Nat) (rs : List (List Int)) (h : ∀ r ∈ rs, r.length = s) : rs.flatten.length = rs.length * s := by
  induction rs with
  | nil => simp
  | cons r rs ih =>
    rw [List.flatten_cons, List.length_append, ih (fun q hq => h q (by simp [hq])), h r (by simp), List.length_cons, Nat.succ_mul]
    omega
theorem may_nat {p : Pg} (h : p.may = true) : ∃ s : Nat, p.size = s ∧ 1 ≤ s ∧ s ≤ 492 ∧ p.recs.length ≤ 255 ∧ p.recs.length * s ≤ 492 ∧ ∀ r ∈ p.recs, r.length = s := by
  obtain ⟨h1, h2, h3, h4⟩ := may_size h
  obtain ⟨s, hs⟩ := Int.eq_ofNat_of_zero_le (show 0 ≤ p.size by omega)
  have hb := room_bd p.size
  have hm := room_mul h1
  refine ⟨s, hs, by omega, by omega, by omega, ?_, fun r hr => by have := h4 r hr; omega⟩
  have : (p.recs.length : Int) * p.size ≤ room p.size * p.size := Int.mul_le_mul_of_nonneg_right h3 (by omega)
  rw [hs] at this hm
  have e : ((p.recs.length * s : Nat) : Int) = (p.recs.length : Int) * (s : Int) := Int.natCast_mul _ _
  rw [hs] at *
  omega
theorem front_len {p : Pg} (h : p.may = true) : p.front.length ≤ 508 := by
  obtain ⟨s, _, _, _, _, hm, hr⟩ := may_nat h
  rw [Pg.front, List.length_append, head_len, flat_len s _ hr]
  omega
theorem bytes_len {p : Pg} (h : p.may = true) : p.bytes.length = 512 := by
  rw [Pg.bytes, mk_len, pad_len (front_len h)]
theorem byte_zeros (n : Nat) : Byte (List.replicate n 0) := by intro i hi; simp
theorem byte_head (p : Pg) : Byte p.head := ((((be_byte _ _).append (be_byte _ _)).append (be_byte _ _)).append (be_byte _ _)).append (be_byte _ _)
theorem byte_pad {n : Nat} {xs : List Int} (h : Byte xs) : Byte (pad n xs) := h.append (byte_zeros _)
theorem byte_mk {xs : List Int} (h : Byte xs) : Byte (mk xs) := h.append (byte_tls _)
theorem byte_flat {rs : List (List Int)} (h : ∀ r ∈ rs, Byte r) : Byte rs.flatten := by
  induction rs with
  | nil => intro i hi; exact absurd hi (by simp)
  | cons r rs ih => rw [List.flatten_cons]; exact (h r (by simp)).append (ih fun q hq => h q (by simp [hq]))
theorem byte_bytes {p : Pg} (h : ∀ r ∈ p.recs, Byte r) : Byte p.bytes := byte_mk (byte_pad ((byte_head p).append (byte_flat h)))
end Go.Proofs.YtmfddecndadohaaDoor

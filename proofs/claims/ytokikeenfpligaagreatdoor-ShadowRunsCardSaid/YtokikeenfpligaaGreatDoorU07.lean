/-
  THE CONTRACTS OF THE SUMS AS THE STATEMENTS MEET THEM, and small laws on bytes that lie in memory. Conditions: those that each lemma names.
  PAGES AS PLAIN MATHEMATICS: how many records there is room for, and which pages may be. No program in it.
-/
import Derived.IntWalk
import Derived.Deep.AppendLies
import Derived.Laws.BytesArg
import Derived.Laws.OwnMore
import Derived.Test.YtokikeenfpligaaGreatDoorU06
namespace Go.Proofs.YtokikeenfpligaaGreatDoor.Sm
open Go.RowKit Crc

theorem beq_of {a b : Int} (h : a = b) : (a == b) = true := by rw [h]; exact beq_self_eq_true b
/-- int(uint(a) % m) -/
theorem red_bd (a m : Int) (hm : 0 < m) (hm2 : m ≤ 9223372036854775807) : 0 ≤ wrap64 ((IntKind.u64.wrap a).tmod m) ∧ wrap64 ((IntKind.u64.wrap a).tmod m) < m := by
  have h0 := wrap_u64_nonneg a
  rw [Int.tmod_eq_emod_of_nonneg h0]
  have h1 := Int.emod_nonneg (IntKind.u64.wrap a) (show m ≠ 0 by omega)
  have h2 := Int.emod_lt_of_pos (IntKind.u64.wrap a) hm
  rw [IntWalk.wrap64_in _ ⟨by omega, by omega⟩]
  exact ⟨h1, h2⟩

theorem xor8_b8 (a b : Int) (a0 : 0 ≤ a) (a1 : a < 256) (b0 : 0 ≤ b) (b1 : b < 256) : b8 (bits .xor .u8 a b) = b8 a ^^^ b8 b ∧ 0 ≤ bits .xor .u8 a b ∧ bits .xor .u8 a b < 256 := by
  obtain ⟨A, rfl⟩ := Int.eq_ofNat_of_zero_le a0
  obtain ⟨B, rfl⟩ := Int.eq_ofNat_of_zero_le b0
  have hA : A < 2 ^ 8 := by omega
  have hB : B < 2 ^ 8 := by omega
  have h := u8_xor_nat A B (by omega) (by omega)
  have hlt : A ^^^ B < 2 ^ 8 := Nat.xor_lt_two_pow hA hB
  rw [h]
  refine ⟨?_, by omega, by omega⟩
  unfold b8
  show BitVec.ofInt 32 ((A ^^^ B : Nat) : Int) = BitVec.ofInt 32 ((A : Nat) : Int) ^^^ BitVec.ofInt 32 ((B : Nat) : Int)
  rw [BitVec.ofInt_natCast, BitVec.ofInt_natCast, BitVec.ofInt_natCast]
  apply BitVec.eq_of_toNat_eq
  simp only [BitVec.toNat_ofNat, BitVec.toNat_xor]
  rw [Nat.mod_eq_of_lt (show A ^^^ B < 2 ^ 32 by omega), Nat.mod_eq_of_lt (show A < 2 ^ 32 by omega), Nat.mod_eq_of_lt (show B < 2 ^ 32 by omega)]
theorem getD_byte {xs : List Int} (h : Byte xs) (i : Nat) : 0 ≤ xs.getD i 0 ∧ xs.getD i 0 < 256 := by
  by_cases hi : i < xs.length
  · have := h i hi
    simpa [List.getD_eq_getElem?_getD, hi] using this
  · simp [List.getD_eq_getElem?_getD, hi]
theorem own_lies {w : World} {B n : Nat} {v : Value} {xs : List Int} (h : w.ownsRow B 5 1 v n (bl xs)) (hb : Byte xs) : ∃ ao cap, v = .slice ao n cap ∧ Lies w ao xs ∧ n ≤ cap ∧ xs.length = n := by
  obtain ⟨hl, h⟩ := h
  have hn : xs.length = n := by rw [bl_len] at hl; omega
  rcases h with ⟨rfl, h0⟩ | ⟨g, cap, cur, rfl, _, hg, hnc, _, hcs, ht⟩
  · obtain rfl : xs = [] := List.eq_nil_of_length_eq_zero (by omega)
    exact ⟨none, 0, by rw [h0], fun i hi => absurd hi (by simp), by omega, by omega⟩
  · refine ⟨_, cap, rfl, ?_, by omega, hn⟩
    intro i hi
    refine ⟨g, 0, rfl, ?_, (hb i hi).1, (hb i hi).2⟩
    rw [Nat.zero_add, cell_of_row w g i _ _ _ hg]
    have e : (bl xs)[i]? = some (Value.int .u8 xs[i]) := by simp [bl, hi]
    rw [← ht, List.getElem?_take] at e
    have hi' : i < n * 1 := by omega
    rw [if_pos hi'] at e
    simpa using e
theorem sum_n (a : Option Addr) (c n : Nat) (xs : List Int) (w : World) (hx : Lies w a xs) (hn : xs.length = n) (hm : n ≤ 9223372036854775807) :
    Calls Tryz.prog 127 #[.slice a n c] w fun e w' => e = .returned (.int .u32 (rg (more 0#32 xs))) ∧ w = w' := by
  subst hn
  exact sum_any a c xs w hx hm
theorem more_n (s : BitVec 32) (a : Option Addr) (c n : Nat) (xs : List Int) (w : World) (hx : Lies w a xs) (hn : xs.length = n) (hm : n ≤ 9223372036854775807) :
    Calls Tryz.prog 146 #[.int .u32 (rg s), .slice a n c] w fun e w' => e = .returned (.int .u32 (rg (more s xs))) ∧ w = w' := by
  subst hn
  exact more_any s a c xs w hx hm
theorem ref_n (s : BitVec 32) (a : Option Addr) (c n : Nat) (xs : List Int) (w : World) (hx : Lies w a xs) (hn : xs.length = n) (hm : n ≤ 9223372036854775807) :
    Calls Tryz.prog 101 #[.int .u32 (rg s), .slice a n c] w fun e w' => e = .returned (.int .u32 (rg (more s xs))) ∧ w = w' := by
  subst hn
  exact ref_any s a c xs w hx hm
theorem ref_0 (a : Option Addr) (c n : Nat) (xs : List Int) (w : World) (hx : Lies w a xs) (hn : xs.length = n) (hm : n ≤ 9223372036854775807) :
    Calls Tryz.prog 101 #[.int .u32 0, .slice a n c] w fun e w' => e = .returned (.int .u32 (rg (more 0#32 xs))) ∧ w = w' :=
  ref_n 0#32 a c n xs w hx hn hm
theorem lies_zeros (w : World) (n : Nat) : Lies (w.alloc (.cells (List.replicate n (Value.int .u8 0)).toArray 5)) (some ⟨w.heap.size, 0, none⟩) (List.replicate n 0) := by
  have e : List.replicate n (Value.int .u8 0) = bl (List.replicate n 0) := by simp [bl]
  rw [e]
  exact lies_block (heap_alloc_new _ _) (by intro i hi; simp)

theorem mark_n (a : Option Addr) (c n : Nat) (xs : List Int) (w : World) (hn : xs.length = n) (h4 : 4 ≤ n) (hx : Lies w a xs) (hm : n ≤ 281474976710656) (hc : n ≤ c) :
    Calls Tryz.prog 117 #[.slice a n c] w fun e w' => e = .returned (.tuple #[.slice (some ⟨w.heap.size, 0, none⟩) n n, .nilIface]) ∧ Lies w' (some ⟨w.heap.size, 0, none⟩) (mkd xs) ∧ Below w.heap.size w w' ∧ w.heap.size < w'.heap.size := by
  subst hn
  exact (mark_any a c xs w h4 hx hm hc).mono fun e w' ⟨h1, h2, h3⟩ => ⟨h1, lies_block h2 (byte_mkd hx.byte), h3, lt_of_block h2⟩
theorem good_n (a : Option Addr) (c n : Nat) (xs : List Int) (w : World) (hn : xs.length = n) (h4 : 4 ≤ n) (hx : Lies w a xs) (hm : n ≤ 9223372036854775807) (hc : n ≤ c) :
    Calls Tryz.prog 108 #[.slice a n c] w fun e w' => e = .returned (.bool (isGood xs)) ∧ Below w.heap.size w w' := by
  subst hn
  exact good_any a c xs w h4 hx hm hc
theorem mkd_take {xs : List Int} (h : 4 ≤ xs.length) : (mkd xs).take (xs.length - 4) = xs.take (xs.length - 4) := by
  unfold mkd mk
  rw [List.take_append_of_le_length (by rw [List.length_take]; omega), List.take_of_length_le (by rw [List.length_take]; omega)]
theorem mkd_mkd {xs : List Int} (h : 4 ≤ xs.length) : mkd (mkd xs) = mkd xs := by
  have e : mkd (mkd xs) = mk ((mkd xs).take ((mkd xs).length - 4)) := rfl
  rw [e, mkd_len h, mkd_take h]
  rfl
theorem conv_lies {w : World} {b off n c : Nat} {xs : List Int} (h : Lies w (some ⟨b, off, none⟩) xs) (hn : xs.length = n) :
    (convert 72 9 (.slice (some ⟨b, off, none⟩) n c)).run Tryz.prog w = .ok (.string (strOfNums xs)) w := by
  refine run_convert_bytes_arg w 72 5 Tryz.underlying72 Tryz.underlying5 b off n c xs hn (fun i hi => ?_) 9 Tryz.underlying9
  obtain ⟨b', off', ha, h1, _⟩ := h i (by omega)
  obtain ⟨rfl, rfl⟩ : b = b' ∧ off = off' := by simpa using ha
  rw [h1]
  simp [show i < xs.length by omega]
theorem lies_set {w : World} {g off : Nat} {xs : List Int} (h : Lies w (some ⟨g, off, none⟩) xs) (k : Nat) (v : Int) (v0 : 0 ≤ v) (v1 : v < 256) : Lies (w.setCell ⟨g, off + k, none⟩ (.int .u8 v)) (some ⟨g, off, none⟩) (xs.set k v) := by
  intro i hi
  have hi' : i < xs.length := by simpa using hi
  obtain ⟨b', off', ha, h1, h2, h3⟩ := h i hi'
  obtain ⟨rfl, rfl⟩ : g = b' ∧ off = off' := by simpa using ha
  refine ⟨g, off, rfl, ?_, ?_⟩
  · by_cases e : k = i
    · subst e
      rw [World.cell?_setCell_same _ _ _ h1]
      simp
    · rw [World.cell?_setCell_other _ _ _ _ (by intro q; simp only [Addr.mk.injEq] at q; omega), h1]
      simp [e]
  · by_cases e : k = i
    · subst e; simp [v0, v1]
    · simp [e, h2, h3]
theorem own_lies_at {w : World} {B n g cap : Nat} {xs : List Int} (h : w.ownsRow B 5 1 (.slice (some ⟨g, 0, none⟩) n cap) n (bl xs)) (hb : Byte xs) : Lies w (some ⟨g, 0, none⟩) xs ∧ n ≤ cap := by
  obtain ⟨ao, c, hv, hl, hc, _⟩ := own_lies h hb
  simp at hv
  obtain ⟨rfl, rfl⟩ := hv
  exact ⟨hl, hc⟩

theorem lies_cell {w : World} {g : Nat} {xs : List Int} (h : Lies w (some ⟨g, 0, none⟩) xs) {k : Nat} {x : Int} (hx : xs[k]? = some x) : w.cell? ⟨g, k, none⟩ = some (.int .u8 x) := by
  obtain ⟨hk, rfl⟩ := List.getElem?_eq_some_iff.1 hx
  obtain ⟨b', off', ha, h1, _⟩ := h k hk
  obtain ⟨rfl, rfl⟩ : g = b' ∧ 0 = off' := by simpa using ha
  rw [Nat.zero_add] at h1
  exact h1

theorem mark_h (a : Option Addr) (c n : Nat) (xs : List Int) (w : World) (H : Nat) (hH : w.heap.size = H) (hn : xs.length = n) (h4 : 4 ≤ n) (hx : Lies w a xs) (hm : n ≤ 281474976710656) (hc : n ≤ c) :
    Calls Tryz.prog 117 #[.slice a n c] w fun e w' => e = .returned (.tuple #[.slice (some ⟨H, 0, none⟩) n n, .nilIface]) ∧ Lies w' (some ⟨H, 0, none⟩) (mkd xs) ∧ Below H w w' ∧ H < w'.heap.size := by
  subst hH
  exact mark_n a c n xs w hn h4 hx hm hc

end Go.Proofs.YtokikeenfpligaaGreatDoor.Sm
namespace Go.Proofs.YtokikeenfpligaaGreatDoor.Sm
open Go.RowKit Crc

/-- how many records of a size there is room for -/
def room (s : Int) : Int := if s < 1 then 0 else min (492 / s) 255
theorem room_small {s : Int} (h : s < 1) : room s = 0 := by unfold room; rw [if_pos h]
theorem room_big {s : Int} (h : 1 ≤ s) : room s = min (492 / s) 255 := by unfold room; rw [if_neg (by omega)]
theorem room_bd (s : Int) : 0 ≤ room s ∧ room s ≤ 255 := by
  by_cases h : s < 1
  · rw [room_small h]; omega
  · rw [room_big (by omega)]
    have : 0 ≤ 492 / s := Int.ediv_nonneg (by omega) (by omega)
    omega
theorem room_mul {s : Int} (h : 1 ≤ s) : room s * s ≤ 492 := by
  rw [room_big h]
  have h1 : 492 / s * s ≤ 492 := Int.ediv_mul_le 492 (by omega)
  have h2 : min (492 / s) 255 ≤ 492 / s := by omega
  exact Int.le_trans (Int.mul_le_mul_of_nonneg_right h2 (by omega)) h1
theorem room_pos {s : Int} (h1 : 1 ≤ s) (h2 : s ≤ 492) : 1 ≤ room s := by
  rw [room_big h1]
  have : 1 ≤ 492 / s := by
    rw [Int.le_ediv_iff_mul_le (by omega)]
    omega
  omega
theorem room_out {s : Int} (h : 492 < s) : room s = 0 := by
  rw [room_big (by omega)]
  have : 492 / s = 0 := Int.ediv_eq_zero_of_lt (by omega) h
  omega
theorem room_size {s : Int} (h : 0 < room s) : 1 ≤ s ∧ s ≤ 492 := by
  by_cases h1 : s < 1
  · rw [room_small h1] at h; omega
  · by_cases h2 : 492 < s
    · rw [room_out h2] at h; omega
    · omega
/-- may there be so many of a size? -/
def fitsB (s n : Int) : Bool := decide (0 < room s) && decide (n ≤ room s)
theorem fits_no0 {s n : Int} (h : ¬ 0 < room s) : fitsB s n = false := by unfold fitsB; rw [decide_eq_false h]; rfl
theorem fits_yes {s n : Int} (h : 0 < room s) : fitsB s n = decide (n ≤ room s) := by unfold fitsB; rw [decide_eq_true h]; rfl
theorem fits_iff {s n : Int} : fitsB s n = true ↔ 0 < room s ∧ n ≤ room s := by unfold fitsB; simp
/-- a page -/
structure Pg where
  mkPg ::
  kind : Int
  number : Int
  epoch : Int
  size : Int
  recs : List (List Int)
/-- is a record not of the size? -/
def badB (s : Int) (r : List Int) : Bool := (r.length : Int) != s
def Pg.may (p : Pg) : Bool := fitsB p.size p.recs.length && !(p.recs.any (badB p.size))
theorem may_size {p : Pg} (h : p.may = true) : 1 ≤ p.size ∧ p.size ≤ 492 ∧ (p.recs.length : Int) ≤ room p.size ∧ ∀ r ∈ p.recs, (r.length : Int) = p.size := by
  unfold Pg.may at h
  rw [Bool.and_eq_true, fits_iff] at h
  obtain ⟨⟨h1, h2⟩, h3⟩ := h
  have := room_size h1
  refine ⟨this.1, this.2, h2, ?_⟩
  intro r hr
  simp only [Bool.not_eq_true', List.any_eq_false] at h3
  have := h3 r hr
  simpa [badB] using this
theorem snoc_ind {P : List Int → Prop} (h0 : P []) (h1 : ∀ xs x, P xs → P (xs ++ [x])) (xs : List Int) : P xs := by
  have : ∀ ys : List Int, P ys.reverse := by
    intro ys
    induction ys with
    | nil => exact h0
    | cons y ys ih => rw [List.reverse_cons]; exact h1 _ _ ih
  have := this xs.reverse
  rwa [List.reverse_reverse] at this
/-! ### numbers as bytes, the highest first -/
def be : Nat → Int → List Int
  | 0, _ => []
  | k + 1, n => be k (n / 256) ++ [n % 256]
theorem be_len (k : Nat) (n : Int) : (be k n).length = k := by
  induction k generalizing n with
  | zero => rfl
  | succ k ih => simp [be, ih]
theorem be_byte (k : Nat) (n : Int) : Byte (be k n) := by
  induction k generalizing n with
  | zero => intro i hi; exact absurd hi (by simp [be])
  | succ k ih =>
    refine Byte.append (ih _) ?_
    intro i hi
    have : i = 0 := by simpa using hi
    subst this
    simp only [List.getElem_cons_zero]
    omega
/-- the number of bytes -/
def num256 (xs : List Int) : Int := xs.foldl (fun v x => 256 * v + x) 0
theorem num256_snoc (xs : List Int) (x : Int) : num256 (xs ++ [x]) = 256 * num256 xs + x := by simp [num256, List.foldl_append]
theorem num256_bd (xs : List Int) (h : Byte xs) : 0 ≤ num256 xs ∧ num256 xs < 256 ^ xs.length := by
  revert h
  induction xs using snoc_ind with
  | h0 => intro _; simp [num256]
  | h1 xs x ih =>
    intro h
    have h1 := ih h.front
    have h2 := h xs.length (by simp)
    simp at h2
    rw [num256_snoc, List.length_append, List.length_singleton, Int.pow_succ]
    omega
theorem num_be (k : Nat) (n : Int) (h0 : 0 ≤ n) (h1 : n < 256 ^ k) : num256 (be k n) = n := by
  induction k generalizing n with
  | zero => simp at h1; simp [be, num256]; omega
  | succ k ih =>
    rw [be, num256_snoc, ih (n / 256) (by omega) (by rw [Int.pow_succ] at h1; omega)]
    omega
theorem be_num (xs : List Int) (h : Byte xs) : be xs.length (num256 xs) = xs := by
  revert h
  induction xs using snoc_ind with
  | h0 => intro _; rfl
  | h1 xs x ih =>
    intro h
    have h1 := ih h.front
    have h2 := h xs.length (by simp)
    simp at h2
    rw [List.length_append, List.length_singleton, num256_snoc, be]
    have e1 : (256 * num256 xs + x) / 256 = num256 xs := by omega
    have e2 : (256 * num256 xs + x) % 256 = x := by omega
    rw [e1, e2, h1]
theorem be_inj {k : Nat} {m n : Int} (h : be k m = be k n) (m0 : 0 ≤ m) (m1 : m < 256 ^ k) (n0 : 0 ≤ n) (n1 : n < 256 ^ k) : m = n := by
  rw [← num_be k m m0 m1, h, num_be k n n0 n1]
/-! ### a page as bytes -/
def Pg.head (p : Pg) : List Int := be 1 p.kind ++ be 4 p.number ++ be 8 p.epoch ++ be 2 p.size ++ be 1 p.recs.length
theorem head_len (p : Pg) : p.head.length = 16 := by simp [Pg.head, be_len]
def Pg.front (p : Pg) : List Int := p.head ++ p.recs.flatten
def pad (n : Nat) (xs : List Int) : List Int := xs ++ List.replicate (n - xs.length) 0
def Pg.bytes (p : Pg) : List Int := mk (pad 508 p.front)
theorem pad_len {n : Nat} {xs : List Int} (h : xs.length ≤ n) : (pad n xs).length = n := by simp [pad]; omega
theorem flat_len (s : Nat) (rs : List (List Int)) (h : ∀ r ∈ rs, r.length = s) : rs.flatten.length = rs.length * s := by
  induction rs with
  | nil => simp
  | cons r rs ih =>
    rw [List.flatten_cons, List.length_append, ih (fun q hq => h q (by simp [hq])), h r (by simp), List.length_cons, Nat.succ_mul]
    omega
theorem may_nat {p : Pg} (h : p.may = true) : ∃ s : Nat, p.size = s ∧ 1 ≤ s ∧ s ≤ 492 ∧ p.recs.length ≤ 255 ∧ p.recs.length * s ≤ 492 ∧ ∀ r ∈ p.recs, r.length = s := by
  obtain ⟨h1, h2, h3, h4⟩ := may_size h
  obtain ⟨s, hs⟩ := Int.eq_ofNat_of_zero_le (show 0 ≤ p.size by omega)
  have hb := room_bd p.size
  have hm := room_mul h1
  refine ⟨s, hs, by omega, by omega, by omega, ?_, fun r hr => by have := h4 r hr; omega⟩
  have : (p.recs.length : Int) * p.size ≤ room p.size * p.size := Int.mul_le_mul_of_nonneg_right h3 (by omega)
  rw [hs] at this hm
  have e : ((p.recs.length * s : Nat) : Int) = (p.recs.length : Int) * (s : Int) := Int.natCast_mul _ _
  rw [hs] at *
  omega
theorem front_len {p : Pg} (h : p.may = true) : p.front.length ≤ 508 := by
  obtain ⟨s, _, _, _, _, hm, hr⟩ := may_nat h
  rw [Pg.front, List.length_append, head_len, flat_len s _ hr]
  omega
theorem bytes_len {p : Pg} (h : p.may = true) : p.bytes.length = 512 := by
  rw [Pg.bytes, mk_len, pad_len (front_len h)]
theorem byte_zeros (n : Nat) : Byte (List.replicate n 0) := by intro i hi; simp
theorem byte_head (p : Pg) : Byte p.head := ((((be_byte _ _).append (be_byte _ _)).append (be_byte _ _)).append (be_byte _ _)).append (be_byte _ _)
theorem byte_pad {n : Nat} {xs : List Int} (h : Byte xs) : Byte (pad n xs) := h.append (byte_zeros _)
theorem byte_mk {xs : List Int} (h : Byte xs) : Byte (mk xs) := h.append (byte_tls _)
theorem byte_flat {rs : List (List Int)} (h : ∀ r ∈ rs, Byte r) : Byte rs.flatten := by
  induction rs with
  | nil => intro i hi; exact absurd hi (by simp)
  | cons r rs ih => rw [List.flatten_cons]; exact (h r (by simp)).append (ih fun q hq => h q (by simp [hq]))
theorem byte_bytes {p : Pg} (h : ∀ r ∈ p.recs, Byte r) : Byte p.bytes := byte_mk (byte_pad ((byte_head p).append (byte_flat h)))
end Go.Proofs.YtokikeenfpligaaGreatDoor.Sm

/-
  RULES AS PLAIN DATA: a rule's parts as numbers, a text as a list of bytes. No condition.
  TILES AS PLAIN DATA: rows of cells as numbers of 32 bits, a generation by whole rows, and the plane, cell by cell. No condition.
-/
import Derived.Lib.Hide
namespace Go.Proofs.YtlejohclijjhnaaGreatDoor.Ru

/-- the bit of a number -/
def hs (b n : Nat) : Bool := b / 2 ^ n % 2 == 1
def mayR (b l : Nat) : Bool := decide (b < 512) && decide (l < 512) && (b % 2 == 0)
def isDig (c : Nat) : Bool := decide (48 ≤ c) && decide (c ≤ 56)
def nw (c b : Nat) : Bool := isDig c && !hs b (c - 48)
def sgn (c : Nat) : Nat → Bool
  | 0 => c == 66 || c == 98
  | 1 => c == 47
  | 2 => c == 83 || c == 115
  | _ => false
/-- what comes of the bytes that are left, behind so many signs -/
def R : List Nat → Nat → Nat → Nat → Option (Nat × Nat)
  | [], s, b, l => if s = 3 then some (b, l) else none
  | c :: t, s, b, l =>
    if sgn c s then R t (s + 1) b l
    else if s = 1 ∧ nw c b = true then R t s (b + 2 ^ (c - 48)) l
    else if s = 3 ∧ nw c l = true then R t s b (l + 2 ^ (c - 48))
    else none
/-- digits from the head on: the bits, and what is left; none: one is there twice -/
def nums : List Nat → Nat → Option (Nat × List Nat)
  | [], a => some (a, [])
  | c :: t, a => if isDig c then (if hs a (c - 48) then none else nums t (a + 2 ^ (c - 48))) else some (a, c :: t)
def P3 (b : Nat) : Option (Nat × List Nat) → Option (Nat × Nat)
  | some (l, []) => some (b, l)
  | _ => none
def P2 (b : Nat) : List Nat → Option (Nat × Nat)
  | s :: u => if s = 83 ∨ s = 115 then P3 b (nums u 0) else none
  | [] => none
def P1 : Option (Nat × List Nat) → Option (Nat × Nat)
  | some (b, s :: u) => if s = 47 then P2 b u else none
  | _ => none
/-- the rule of a text, if it has the form of one -/
def P : List Nat → Option (Nat × Nat)
  | c :: t => if c = 66 ∨ c = 98 then P1 (nums t 0) else none
  | [] => none

/-- the numbers of a part below k, ascending -/
def dgs (b k : Nat) : List Nat := ((List.range k).filter (hs b)).map (48 + ·)
def dg (b : Nat) : List Nat := dgs b 9
theorem dgs_succ (b k : Nat) : dgs b (k + 1) = if hs b k then dgs b k ++ [48 + k] else dgs b k := by
  unfold dgs
  rw [List.range_succ, List.filter_append, List.map_append]
  cases h : hs b k <;> simp [h]
theorem dgs_lt (b k : Nat) (hk : k ≤ 9) : ∀ c ∈ dgs b k, 48 ≤ c ∧ c ≤ 56 := by
  intro c hc
  unfold dgs at hc
  obtain ⟨n, hn, rfl⟩ := List.mem_map.1 hc
  have := List.mem_range.1 (List.mem_filter.1 hn).1
  omega
theorem dgs_len (b k : Nat) : (dgs b k).length ≤ k := by
  unfold dgs
  rw [List.length_map]
  exact Nat.le_trans (List.length_filter_le _ _) (by simp)
/-- a rule's text -/
def txt (b l : Nat) : List Nat := 66 :: (dg b ++ 47 :: 83 :: dg l)

theorem add_lt : ∀ b < 512, ∀ n < 9, hs b n = false → b + 2 ^ n < 512 := by decide +kernel
theorem or_eq : ∀ b < 512, ∀ n < 9, hs b n = false → b ||| 2 ^ n = b + 2 ^ n := by decide +kernel
theorem dg_add : ∀ b < 512, ∀ n < 9, hs b n = false → (dg (b + 2 ^ n)).length = (dg b).length + 1 := by decide +kernel
theorem nums_dg : ∀ b < 512, nums (dg b) 0 = some (b, []) := by decide +kernel
theorem nums_rev : ∀ b < 512, nums (dg b).reverse 0 = some (b, []) := by decide +kernel
theorem nums_twice : ∀ b < 512, ∀ n < 9, hs b n = true → nums ((48 + n) :: (dg b).reverse) 0 = none := by decide +kernel
theorem new_bit : ∀ b < 512, ∀ n < 9, (2 ^ n &&& (65535 - b) = 0) = (hs b n = true) := by
  have h : ∀ b < 512, ∀ n < 9, (2 ^ n &&& (65535 - b) = 0) ↔ (hs b n = true) := by decide +kernel
  intro b hb n hn; exact propext (h b hb n hn)
theorem hi_b : ∀ h < 128, (h <<< 9 &&& 65025) = h <<< 9 := by decide +kernel
theorem hi_l : ∀ h < 128, (h <<< 9 &&& 65024) = h <<< 9 := by decide +kernel
theorem lo_b : ∀ l < 512, (l &&& 65025) = l % 2 := by decide +kernel
theorem lo_l : ∀ l < 512, (l &&& 65024) = 0 := by decide +kernel
theorem two_or (h l : Nat) (hl : l < 512) : h * 512 + l = h <<< 9 ||| l := by
  rw [← Nat.shiftLeft_add_eq_or_of_lt (show l < 2 ^ 9 from hl), Nat.shiftLeft_eq]
theorem may_b (h : Nat) (hh : h < 128) (l : Nat) (hl : l < 512) : ((h * 512 + l) &&& 65025 = 0) ↔ (h = 0 ∧ l % 2 = 0) := by
  rw [two_or h l hl, Nat.and_or_distrib_right, hi_b h hh, lo_b l hl, Nat.or_eq_zero_iff, Nat.shiftLeft_eq]
  omega
theorem may_l (h : Nat) (hh : h < 128) (l : Nat) (hl : l < 512) : ((h * 512 + l) &&& 65024 = 0) ↔ h = 0 := by
  rw [two_or h l hl, Nat.and_or_distrib_right, hi_l h hh, lo_l l hl, Nat.or_zero, Nat.shiftLeft_eq]
  omega
theorem dg_zero : dg 0 = [] := by decide +kernel
end Go.Proofs.YtlejohclijjhnaaGreatDoor.Ru
namespace Go.Proofs.YtlejohclijjhnaaGreatDoor.Ti
open Ru

abbrev R3 := BitVec 32
abbrev T6 := BitVec 64
/-- what becomes of a cell -/
def nx (b l : Nat) (c : Bool) (n : Nat) : Bool := if c then hs l n else hs b n
/-- all bits, or none -/
def wh (c : Bool) : R3 := if c then 4294967295#32 else 0#32
/-- how many, bit by bit, one more -/
structure Cn where
  a : R3
  b : R3
  c : R3
  d : R3
def Cn.add (k : Cn) (x : R3) : Cn := ⟨k.a ^^^ x, k.b ^^^ (k.a &&& x), k.c ^^^ (k.b &&& (k.a &&& x)), k.d ^^^ (k.c &&& (k.b &&& (k.a &&& x)))⟩
def Cn.at_ (k : Cn) (i : Nat) : Nat := (k.a.getLsbD i).toNat + 2 * (k.b.getLsbD i).toNat + 4 * (k.c.getLsbD i).toNat + 8 * (k.d.getLsbD i).toNat
def Cn.where_ (k : Cn) (n : Nat) : R3 := (((4294967295#32 &&& (k.a ^^^ wh (n / 1 % 2 == 0))) &&& (k.b ^^^ wh (n / 2 % 2 == 0))) &&& (k.c ^^^ wh (n / 4 % 2 == 0))) &&& (k.d ^^^ wh (n / 8 % 2 == 0))
def Cn.nil : Cn := ⟨0#32, 0#32, 0#32, 0#32⟩
theorem Cn.at_add (k : Cn) (x : R3) (i : Nat) : (k.add x).at_ i = (k.at_ i + (x.getLsbD i).toNat) % 16 := by
  unfold Cn.at_ Cn.add
  simp only [BitVec.getLsbD_xor, BitVec.getLsbD_and]
  generalize k.a.getLsbD i = p
  generalize k.b.getLsbD i = q
  generalize k.c.getLsbD i = r
  generalize k.d.getLsbD i = s
  generalize x.getLsbD i = y
  revert p q r s y
  decide
theorem wh_bit (c : Bool) (i : Nat) (hi : i < 32) : (wh c).getLsbD i = c := by
  unfold wh
  cases c
  · simp
  · have h : ∀ i < 32, (4294967295#32).getLsbD i = true := by decide
    simpa using h i hi
theorem Cn.where_bit (k : Cn) (n i : Nat) (hn : n < 9) (hi : i < 32) : (k.where_ n).getLsbD i = (k.at_ i == n) := by
  unfold Cn.where_ Cn.at_
  have h1 := wh_bit true i hi
  have h1' : (4294967295#32).getLsbD i = true := h1
  simp only [BitVec.getLsbD_xor, BitVec.getLsbD_and, wh_bit _ i hi, h1', Bool.true_and]
  generalize k.a.getLsbD i = p
  generalize k.b.getLsbD i = q
  generalize k.c.getLsbD i = r
  generalize k.d.getLsbD i = s
  revert n p q r s
  decide
/-- all that is counted for a row -/
def cnt (a r b : R3) : Cn := (((((((Cn.nil.add (a <<< 1)).add a).add (a >>> 1)).add (b <<< 1)).add b).add (b >>> 1)).add (r <<< 1)).add (r >>> 1)
def lf (r : R3) (i : Nat) : Nat := (0 < i && r.getLsbD (i - 1)).toNat
def md (r : R3) (i : Nat) : Nat := (r.getLsbD i).toNat
def rt (r : R3) (i : Nat) : Nat := (r.getLsbD (i + 1)).toNat
theorem toNat_le (c : Bool) : c.toNat ≤ 1 := by cases c <;> decide
theorem shl1_bit (r : R3) (i : Nat) (hi : i < 32) : ((r <<< 1).getLsbD i).toNat = lf r i := by
  unfold lf
  rw [BitVec.getLsbD_shiftLeft]
  by_cases h : i = 0
  · subst h; simp
  · have h1 : ¬ i < 1 := by omega
    have h2 : 0 < i := by omega
    simp [hi, h1, h2]
theorem shr1_bit (r : R3) (i : Nat) : ((r >>> 1).getLsbD i).toNat = rt r i := by
  unfold rt
  rw [BitVec.getLsbD_ushiftRight, Nat.add_comm]
theorem cnt_at (a r b : R3) (i : Nat) (hi : i < 32) : (cnt a r b).at_ i = lf a i + md a i + rt a i + lf b i + md b i + rt b i + lf r i + rt r i := by
  unfold cnt
  simp only [Cn.at_add, shl1_bit _ i hi, shr1_bit]
  have h0 : Cn.nil.at_ i = 0 := by simp [Cn.nil, Cn.at_]
  rw [h0]
  have g1 : lf a i ≤ 1 := toNat_le _
  have g2 : rt a i ≤ 1 := toNat_le _
  have g3 : lf b i ≤ 1 := toNat_le _
  have g4 : rt b i ≤ 1 := toNat_le _
  have g5 : lf r i ≤ 1 := toNat_le _
  have g6 : rt r i ≤ 1 := toNat_le _
  have g7 : md a i ≤ 1 := toNat_le _
  have g8 : md b i ≤ 1 := toNat_le _
  have e7 : (a.getLsbD i).toNat = md a i := rfl
  have e8 : (b.getLsbD i).toNat = md b i := rfl
  rw [e7, e8]
  omega
/-- what a row has of one number of neighbours -/
def part (b l : Nat) (k : Cn) (r : R3) (n : Nat) : R3 := k.where_ n &&& ((r &&& wh (hs l n)) ||| ((r ^^^ 4294967295#32) &&& wh (hs b n)))
/-- the row's next one, of the numbers below m -/
def rowN (b l : Nat) (k : Cn) (r : R3) : Nat → R3
  | 0 => 0#32
  | m + 1 => rowN b l k r m ||| part b l k r m
def rowM (b l : Nat) (a r c : R3) : R3 := rowN b l (cnt a r c) r 9
theorem part_bit (b l : Nat) (k : Cn) (r : R3) (n i : Nat) (hn : n < 9) (hi : i < 32) : (part b l k r n).getLsbD i = ((k.at_ i == n) && nx b l (r.getLsbD i) n) := by
  have h1' : (4294967295#32).getLsbD i = true := wh_bit true i hi
  unfold part nx
  simp only [BitVec.getLsbD_and, BitVec.getLsbD_or, BitVec.getLsbD_xor, k.where_bit n i hn hi, wh_bit _ i hi, h1']
  cases r.getLsbD i <;> simp
theorem rowN_bit (b l : Nat) (k : Cn) (r : R3) (i : Nat) (hi : i < 32) : ∀ m, m ≤ 9 → (rowN b l k r m).getLsbD i = (decide (k.at_ i < m) && nx b l (r.getLsbD i) (k.at_ i))
  | 0, _ => by simp [rowN]
  | m + 1, h => by
    rw [rowN, BitVec.getLsbD_or, rowN_bit b l k r i hi m (by omega), part_bit b l k r m i (by omega) hi]
    by_cases h1 : k.at_ i = m
    · rw [h1]; simp
    · have h2 : (k.at_ i == m) = false := by simpa using h1
      by_cases h3 : k.at_ i < m
      · have : k.at_ i < m + 1 := by omega
        simp [h2, h3, this]
      · have : ¬ k.at_ i < m + 1 := by omega
        simp [h2, h3, this]
theorem rowM_bit (b l : Nat) (a r c : R3) (i : Nat) (hi : i < 32) :
    (rowM b l a r c).getLsbD i = nx b l (r.getLsbD i) (lf a i + md a i + rt a i + lf c i + md c i + rt c i + lf r i + rt r i) := by
  unfold rowM
  rw [rowN_bit b l _ r i hi 9 (by omega), cnt_at a r c i hi]
  have g1 : lf a i ≤ 1 := toNat_le _
  have g2 : rt a i ≤ 1 := toNat_le _
  have g3 : lf c i ≤ 1 := toNat_le _
  have g4 : rt c i ≤ 1 := toNat_le _
  have g5 : lf r i ≤ 1 := toNat_le _
  have g6 : rt r i ≤ 1 := toNat_le _
  have g7 : md a i ≤ 1 := toNat_le _
  have g8 : md c i ≤ 1 := toNat_le _
  rw [decide_eq_true (by omega), Bool.true_and]

/-- a field one generation on -/
def stM (b l h : Nat) (F : Nat → R3) : Nat → R3 := fun y => rowM b l (if 0 < y then F (y - 1) else 0#32) (F y) (if y + 1 < h then F (y + 1) else 0#32)
def stsM (b l h : Nat) (F : Nat → R3) : Nat → Nat → R3
  | 0 => F
  | n + 1 => stM b l h (stsM b l h F n)

/-- the plane -/
abbrev Pl := Int → Int → Bool
def nbr (p : Pl) (x y : Int) : Nat := (p (x - 1) (y - 1)).toNat + (p x (y - 1)).toNat + (p (x + 1) (y - 1)).toNat + (p (x - 1) (y + 1)).toNat + (p x (y + 1)).toNat + (p (x + 1) (y + 1)).toNat + (p (x - 1) y).toNat + (p (x + 1) y).toNat
def gen (b l : Nat) (p : Pl) : Pl := fun x y => nx b l (p x y) (nbr p x y)
def gens (b l : Nat) (p : Pl) : Nat → Pl
  | 0 => p
  | n + 1 => gen b l (gens b l p n)
/-- the same between lines -/
def Ag (p q : Pl) (x0 x1 y0 y1 : Int) : Prop := ∀ x y : Int, x0 ≤ x → x ≤ x1 → y0 ≤ y → y ≤ y1 → p x y = q x y
theorem Ag.symm {p q : Pl} {x0 x1 y0 y1 : Int} (h : Ag p q x0 x1 y0 y1) : Ag q p x0 x1 y0 y1 := fun x y a b c d => (h x y a b c d).symm
theorem Ag.trans {p q r : Pl} {x0 x1 y0 y1 : Int} (h : Ag p q x0 x1 y0 y1) (k : Ag q r x0 x1 y0 y1) : Ag p r x0 x1 y0 y1 := fun x y a b c d => (h x y a b c d).trans (k x y a b c d)
theorem Ag.sub {p q : Pl} {x0 x1 y0 y1 x2 x3 y2 y3 : Int} (h : Ag p q x0 x1 y0 y1) (a : x0 ≤ x2) (b : x3 ≤ x1) (c : y0 ≤ y2) (d : y3 ≤ y1) : Ag p q x2 x3 y2 y3 :=
  fun x y h1 h2 h3 h4 => h x y (by omega) (by omega) (by omega) (by omega)
theorem gen_ag {p q : Pl} {x0 x1 y0 y1 : Int} (b l : Nat) (h : Ag p q x0 x1 y0 y1) : Ag (gen b l p) (gen b l q) (x0 + 1) (x1 - 1) (y0 + 1) (y1 - 1) := by
  intro x y h1 h2 h3 h4
  unfold gen nbr
  rw [h x y (by omega) (by omega) (by omega) (by omega), h (x - 1) (y - 1) (by omega) (by omega) (by omega) (by omega), h x (y - 1) (by omega) (by omega) (by omega) (by omega), h (x + 1) (y - 1) (by omega) (by omega) (by omega) (by omega), h (x - 1) (y + 1) (by omega) (by omega) (by omega) (by omega), h x (y + 1) (by omega) (by omega) (by omega) (by omega), h (x + 1) (y + 1) (by omega) (by omega) (by omega) (by omega), h (x - 1) y (by omega) (by omega) (by omega) (by omega), h (x + 1) y (by omega) (by omega) (by omega) (by omega)]
theorem gens_ag {p q : Pl} {x0 x1 y0 y1 : Int} (b l : Nat) (h : Ag p q x0 x1 y0 y1) : ∀ n : Nat, Ag (gens b l p n) (gens b l q n) (x0 + n) (x1 - n) (y0 + n) (y1 - n)
  | 0 => h.sub (by omega) (by omega) (by omega) (by omega)
  | n + 1 => (gen_ag b l (gens_ag b l h n)).sub (by omega) (by omega) (by omega) (by omega)
/-- a field as a plane -/
def fp (h : Nat) (F : Nat → R3) : Pl := fun x y => decide (0 ≤ x) && decide (0 ≤ y) && decide (y < (h : Int)) && (F y.toNat).getLsbD x.toNat
theorem fp_nat (h : Nat) (F : Nat → R3) (x y : Nat) : fp h F x y = (decide (y < h) && (F y).getLsbD x) := by
  simp [fp]
theorem fp_neg (h : Nat) (F : Nat → R3) (x y : Int) (hn : x < 0 ∨ y < 0 ∨ (h : Int) ≤ y) : fp h F x y = false := by
  unfold fp
  rcases hn with q | q | q
  · rw [decide_eq_false (show ¬ 0 ≤ x by omega)]; simp
  · rw [decide_eq_false (show ¬ 0 ≤ y by omega)]; simp
  · rw [decide_eq_false (show ¬ y < (h : Int) by omega)]; simp
theorem fp_row (h : Nat) (F : Nat → R3) (x y : Nat) (hy : y < h) : ((fp h F ((x : Int) - 1) (y : Int)).toNat = lf (F y) x) ∧ ((fp h F (x : Int) (y : Int)).toNat = md (F y) x) ∧ ((fp h F ((x : Int) + 1) (y : Int)).toNat = rt (F y) x) := by
  refine ⟨?_, ?_, ?_⟩
  · unfold lf
    by_cases h0 : x = 0
    · subst h0; rw [fp_neg _ _ _ _ (.inl (by omega))]; simp
    · rw [show ((x : Int) - 1) = ((x - 1 : Nat) : Int) by omega, fp_nat, decide_eq_true hy, decide_eq_true (show 0 < x by omega)]
  · unfold md; rw [fp_nat, decide_eq_true hy, Bool.true_and]
  · unfold rt; rw [show ((x : Int) + 1) = ((x + 1 : Nat) : Int) by omega, fp_nat, decide_eq_true hy, Bool.true_and]
theorem fp_above (h : Nat) (F : Nat → R3) (x y : Nat) (hy : y < h) (G : R3) (hG : G = if 0 < y then F (y - 1) else 0#32) : ((fp h F ((x : Int) - 1) ((y : Int) - 1)).toNat = lf G x) ∧ ((fp h F (x : Int) ((y : Int) - 1)).toNat = md G x) ∧ ((fp h F ((x : Int) + 1) ((y : Int) - 1)).toNat = rt G x) := by
  by_cases h0 : y = 0
  · subst h0 hG
    refine ⟨?_, ?_, ?_⟩ <;> rw [fp_neg _ _ _ _ (.inr (.inl (by omega)))] <;> simp [lf, md, rt]
  · rw [if_pos (by omega)] at hG
    subst hG
    rw [show ((y : Int) - 1) = ((y - 1 : Nat) : Int) by omega]
    exact fp_row h F x (y - 1) (by omega)
theorem fp_below (h : Nat) (F : Nat → R3) (x y : Nat) (G : R3) (hG : G = if y + 1 < h then F (y + 1) else 0#32) : ((fp h F ((x : Int) - 1) ((y : Int) + 1)).toNat = lf G x) ∧ ((fp h F (x : Int) ((y : Int) + 1)).toNat = md G x) ∧ ((fp h F ((x : Int) + 1) ((y : Int) + 1)).toNat = rt G x) := by
  by_cases h0 : y + 1 < h
  · rw [if_pos h0] at hG
    subst hG
    rw [show ((y : Int) + 1) = ((y + 1 : Nat) : Int) by omega]
    exact fp_row h F x (y + 1) h0
  · rw [if_neg h0] at hG
    subst hG
    refine ⟨?_, ?_, ?_⟩ <;> rw [fp_neg _ _ _ _ (.inr (.inr (by omega)))] <;> simp [lf, md, rt]
theorem st_gen (b l h : Nat) (F : Nat → R3) : Ag (fp h (stM b l h F)) (gen b l (fp h F)) 0 31 0 ((h : Int) - 1) := by
  intro x y x0 x1 y0 y1
  obtain ⟨x, rfl⟩ := Int.eq_ofNat_of_zero_le x0
  obtain ⟨y, rfl⟩ := Int.eq_ofNat_of_zero_le y0
  have hy : y < h := by omega
  rw [fp_nat, decide_eq_true hy, Bool.true_and]
  unfold stM
  rw [rowM_bit b l _ _ _ x (by omega)]
  unfold gen nbr
  obtain ⟨a1, a2, a3⟩ := fp_above h F x y hy _ rfl
  obtain ⟨b1, b2, b3⟩ := fp_below h F x y _ rfl
  obtain ⟨c1, c2, c3⟩ := fp_row h F x y hy
  rw [a1, a2, a3, b1, b2, b3, c1, c3]
  rw [fp_nat, decide_eq_true hy, Bool.true_and]
theorem sts_gens (b l h : Nat) (F : Nat → R3) : ∀ n : Nat, Ag (fp h (stsM b l h F n)) (gens b l (fp h F) n) (n : Int) (31 - n) (n : Int) ((h : Int) - 1 - n)
  | 0 => fun _ _ _ _ _ _ => rfl
  | n + 1 => by
    have h1 : Ag (fp h (stM b l h (stsM b l h F n))) (gen b l (fp h (stsM b l h F n))) ((n + 1 : Nat) : Int) (31 - ((n + 1 : Nat) : Int)) ((n + 1 : Nat) : Int) ((h : Int) - 1 - ((n + 1 : Nat) : Int)) := (st_gen b l h (stsM b l h F n)).sub (by omega) (by omega) (by omega) (by omega)
    exact h1.trans ((gen_ag b l (sts_gens b l h F n)).sub (by omega) (by omega) (by omega) (by omega))
end Go.Proofs.YtlejohclijjhnaaGreatDoor.Ti

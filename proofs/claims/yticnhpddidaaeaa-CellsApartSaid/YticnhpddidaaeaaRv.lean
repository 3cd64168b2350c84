/-
  RULES AS PLAIN DATA: a rule's parts as numbers, a text as a list of bytes. No condition.
-/

import Derived.Lib.Hide
namespace Go.Proofs.Yticnhpddidaaeaa.Ru

/-- the bit of a number -/
def hs (b n : Nat) : Bool := b / 2 ^ n % 2 == 1
def mayR (b l : Nat) : Bool := decide (b < 512) && decide (l < 512) && (b % 2 == 0)
def isDig (c : Nat) : Bool := decide (48 ≤ c) && decide (c ≤ 56)
def nw (c b : Nat) : Bool := isDig c && !hs b (c - 48)
def sgn (c : Nat) : Nat → Bool
  | 0 => c == 66 || c == 98
  | 1 => c == 47
  | 2 => c == 83 || c == 115
  | _ => false
/-- what comes of the bytes that are left, behind so many signs -/
def R : List Nat → Nat → Nat → Nat → Option (Nat × Nat)
  | [], s, b, l => if s = 3 then some (b, l) else none
  | c :: t, s, b, l =>
    if sgn c s then R t (s + 1) b l
    else if s = 1 ∧ nw c b = true then R t s (b + 2 ^ (c - 48)) l
    else if s = 3 ∧ nw c l = true then R t s b (l + 2 ^ (c - 48))
    else none
/-- digits from the head on: the bits, and what is left; none: one is there twice -/
def nums : List Nat → Nat → Option (Nat × List Nat)
  | [], a => some (a, [])
  | c :: t, a => if isDig c then (if hs a (c - 48) then none else nums t (a + 2 ^ (c - 48))) else some (a, c :: t)
def P3 (b : Nat) : Option (Nat × List Nat) → Option (Nat × Nat)
  | some (l, []) => some (b, l)
  | _ => none
def P2 (b : Nat) : List Nat → Option (Nat × Nat)
  | s :: u => if s = 83 ∨ s = 115 then P3 b (nums u 0) else none
  | [] => none
def P1 : Option (Nat × List Nat) → Option (Nat × Nat)
  | some (b, s :: u) => if s = 47 then P2 b u else none
  | _ => none
/-- the rule of a text, if it has the form of one -/
def P : List Nat → Option (Nat × Nat)
  | c :: t => if c = 66 ∨ c = 98 then P1 (nums t 0) else none
  | [] => none

/-- the numbers of a part below k, ascending -/
def dgs (b k : Nat) : List Nat := ((List.range k).filter (hs b)).map (48 + ·)
def dg (b : Nat) : List Nat := dgs b 9
theorem dgs_succ (b k : Nat) : dgs b (k + 1) = if hs b k then dgs b k ++ [48 + k] else dgs b k := by
  unfold dgs
  rw [List.range_succ, List.filter_append, List.map_append]
  cases h : hs b k <;> simp [h]
theorem dgs_lt (b k : Nat) (hk : k ≤ 9) : ∀ c ∈ dgs b k, 48 ≤ c ∧ c ≤ 56 := by
  intro c hc
  unfold dgs at hc
  obtain ⟨n, hn, rfl⟩ := List.mem_map.1 hc
  have := List.mem_range.1 (List.mem_filter.1 hn).1
  omega
theorem dgs_len (b k : Nat) : (dgs b k).length ≤ k := by
  unfold dgs
  rw [List.length_map]
  exact Nat.le_trans (List.length_filter_le _ _) (by simp)
/-- a rule's text -/
def txt (b l : Nat) : List Nat := 66 :: (dg b ++ 47 :: 83 :: dg l)

theorem add_lt : ∀ b < 512, ∀ n < 9, hs b n = false → b + 2 ^ n < 512 := by decide +kernel
theorem or_eq : ∀ b < 512, ∀ n < 9, hs b n = false → b ||| 2 ^ n = b + 2 ^ n := by decide +kernel
theorem dg_add : ∀ b < 512, ∀ n < 9, hs b n = false → (dg (b + 2 ^ n)).length = (dg b).length + 1 := by decide +kernel
theorem nums_dg : ∀ b < 512, nums (dg b) 0 = some (b, []) := by decide +kernel
theorem nums_rev : ∀ b < 512, nums (dg b).reverse 0 = some (b, []) := by decide +kernel
theorem nums_twice : ∀ b < 512, ∀ n < 9, hs b n = true → nums ((48 + n) :: (dg b).reverse) 0 = none := by decide +kernel
theorem new_bit : ∀ b < 512, ∀ n < 9, (2 ^ n &&& (65535 - b) = 0) = (hs b n = true) := by
  have h : ∀ b < 512, ∀ n < 9, (2 ^ n &&& (65535 - b) = 0) ↔ (hs b n = true) := by decide +kernel
  intro b hb n hn; exact propext (h b hb n hn)
theorem hi_b : ∀ h < 128, (h <<< 9 &&& 65025) = h <<< 9 := by decide +kernel
theorem hi_l : ∀ h < 128, (h <<< 9 &&& 65024) = h <<< 9 := by decide +kernel
theorem lo_b : ∀ l < 512, (l &&& 65025) = l % 2 := by decide +kernel
theorem lo_l : ∀ l < 512, (l &&& 65024) = 0 := by decide +kernel
theorem two_or (h l : Nat) (hl : l < 512) : h * 512 + l = h <<< 9 ||| l := by
  rw [← Nat.shiftLeft_add_eq_or_of_lt (show l < 2 ^ 9 from hl), Nat.shiftLeft_eq]
theorem may_b (h : Nat) (hh : h < 128) (l : Nat) (hl : l < 512) : ((h * 512 + l) &&& 65025 = 0) ↔ (h = 0 ∧ l % 2 = 0) := by
  rw [two_or h l hl, Nat.and_or_distrib_right, hi_b h hh, lo_b l hl, Nat.or_eq_zero_iff, Nat.shiftLeft_eq]
  omega
theorem may_l (h : Nat) (hh : h < 128) (l : Nat) (hl : l < 512) : ((h * 512 + l) &&& 65024 = 0) ↔ h = 0 := by
  rw [two_or h l hl, Nat.and_or_distrib_right, hi_l h hh, lo_l l hl, Nat.or_zero, Nat.shiftLeft_eq]
  omega
theorem dg_zero : dg 0 = [] := by decide +kernel
end Go.Proofs.Yticnhpddidaaeaa.Ru

/-
  TILES AS PLAIN DATA: tiles laid side by side as rows, a tile cut out of rows, and the plane of both. No condition.
  HOW MANY BITS OF A NUMBER ARE SET, by halves, quarters, bytes. No condition.
-/
import Derived.Test.YtlejohclijjhnaaGreatDoorL00
namespace Go.Proofs.YtlejohclijjhnaaGreatDoor.Ti
open Ru

/-- the plane of tiles, so many in a row -/
def tp (k : Nat) (t : Nat → T6) : Pl := fun x y => decide (0 ≤ x) && decide (x < 8 * (k : Int)) && (decide (0 ≤ y) && decide (y < 8 * (k : Int))) && (t (y.toNat / 8 * k + x.toNat / 8)).getLsbD (8 * (y.toNat % 8) + x.toNat % 8)
/-- a tile's row -/
def rowB (t : T6) (j : Nat) : R3 := ((t >>> (8 * j)) &&& 255#64).setWidth 32
theorem bit255 (i : Nat) (hi : i < 64) : (255#64).getLsbD i = decide (i < 8) := by
  have h : ∀ i < 64, (255#64).getLsbD i = decide (i < 8) := by decide
  exact h i hi
theorem bit255' (i : Nat) (hi : i < 32) : (255#32).getLsbD i = decide (i < 8) := by
  have h : ∀ i < 32, (255#32).getLsbD i = decide (i < 8) := by decide
  exact h i hi
theorem rowB_bit (t : T6) (j i : Nat) : (rowB t j).getLsbD i = (decide (i < 8) && t.getLsbD (8 * j + i)) := by
  unfold rowB
  rw [BitVec.getLsbD_setWidth, BitVec.getLsbD_and, BitVec.getLsbD_ushiftRight]
  by_cases h : i < 32
  · rw [bit255 i (by omega)]; simp [h, Bool.and_comm]
  · have : ¬ i < 8 := by omega
    simp [h, this]
def upd {α : Type} (F : Nat → α) (n : Nat) (x : α) : Nat → α := fun y => if y = n then x else F y
/-- so many tiles, and so many rows of the next, are laid -/
def LayAt (t : Nat → T6) (k i j : Nat) (F : Nat → R3) : Prop := ∀ y x, y < 8 * k → x < 32 → (F y).getLsbD x = (decide (x < 8 * k) && (decide (y / 8 * k + x / 8 < i) || (decide (y / 8 * k + x / 8 = i) && decide (y % 8 < j))) && (t (y / 8 * k + x / 8)).getLsbD (8 * (y % 8) + x % 8))
theorem LayAt.nil (t : Nat → T6) (k : Nat) : LayAt t k 0 0 (fun _ => 0#32) := by
  intro y x _ _
  simp
theorem LayAt.next {t : Nat → T6} {k i : Nat} {F : Nat → R3} (h : LayAt t k i 8 F) : LayAt t k (i + 1) 0 F := by
  intro y x hy hx
  rw [h y x hy hx]
  have h1 : decide (y % 8 < 8) = true := by simp; omega
  have h2 : decide (y % 8 < 0) = false := by simp
  rw [h1, h2, Bool.and_true, Bool.and_false, Bool.or_false]
  congr 2
  rw [Bool.eq_iff_iff, Bool.or_eq_true, decide_eq_true_iff, decide_eq_true_iff, decide_eq_true_iff]
  omega
theorem LayAt.row {t : Nat → T6} {k i j : Nat} {F : Nat → R3} (hk : k = 2 ∨ k = 3) (h : LayAt t k i j F) (hj : j < 8) (_hi : i < k * k) :
    LayAt t k i (j + 1) (upd F (i / k * 8 + j) (F (i / k * 8 + j) ||| (rowB (t i) j) <<< (i % k * 8))) := by
  intro y x hy hx
  unfold upd
  by_cases hY : y = i / k * 8 + j
  · rw [if_pos hY, BitVec.getLsbD_or, BitVec.getLsbD_shiftLeft, ← hY, h y x hy hx]
    by_cases hT : y / 8 * k + x / 8 = i ∧ x < 8 * k
    · have e1 : 8 * j + (x - i % k * 8) = 8 * (y % 8) + x % 8 := by rcases hk with rfl | rfl <;> omega
      have e2 : ¬ x < i % k * 8 := by rcases hk with rfl | rfl <;> omega
      have e3 : x - i % k * 8 < 8 := by rcases hk with rfl | rfl <;> omega
      have e4 : ¬ y % 8 < j := by rcases hk with rfl | rfl <;> omega
      have e5 : y % 8 < j + 1 := by rcases hk with rfl | rfl <;> omega
      rw [rowB_bit, e1]
      simp [hT.1, hT.2, hx, e2, e3, e4, e5]
    · have e0 : (decide (x < 8 * k) && decide (y / 8 * k + x / 8 = i)) = false := by
        rw [Bool.and_eq_false_iff, decide_eq_false_iff_not, decide_eq_false_iff_not]
        by_cases q : x < 8 * k
        · exact .inr (fun e => hT ⟨e, q⟩)
        · exact .inl q
      have e1 : (decide (x < 32) && !decide (x < i % k * 8) && (rowB (t i) j).getLsbD (x - i % k * 8)) = false := by
        rw [rowB_bit]
        by_cases q : x < i % k * 8
        · simp [q]
        · have : ¬ x - i % k * 8 < 8 := by
            intro q2
            apply hT
            rcases hk with rfl | rfl <;> constructor <;> omega
          simp [this]
      rw [e1, Bool.or_false]
      rcases Bool.and_eq_false_iff.1 e0 with q | q
      · rw [q]; simp
      · rw [q]; simp
  · rw [if_neg hY, h y x hy hx]
    by_cases hx8 : x < 8 * k
    · by_cases hT : y / 8 * k + x / 8 = i
      · have : decide (y % 8 < j) = decide (y % 8 < j + 1) := by
          rw [Bool.eq_iff_iff, decide_eq_true_iff, decide_eq_true_iff]
          rcases hk with rfl | rfl <;> omega
        rw [this]
      · simp [hT]
    · simp [hx8]
theorem LayAt.plane {t : Nat → T6} {k : Nat} {F : Nat → R3} (hk : k = 2 ∨ k = 3) (h : LayAt t k (k * k) 0 F) : fp (8 * k) F = tp k t := by
  funext x y
  by_cases hn : x < 0 ∨ y < 0 ∨ ((8 * k : Nat) : Int) ≤ y
  · rw [fp_neg _ _ _ _ hn]
    unfold tp
    rcases hn with q | q | q
    · rw [decide_eq_false (show ¬ 0 ≤ x by omega)]; simp
    · rw [decide_eq_false (show ¬ 0 ≤ y by omega)]; simp
    · rw [decide_eq_false (show ¬ y < 8 * (k : Int) by omega)]; simp
  · obtain ⟨x, rfl⟩ := Int.eq_ofNat_of_zero_le (show 0 ≤ x by omega)
    obtain ⟨y, rfl⟩ := Int.eq_ofNat_of_zero_le (show 0 ≤ y by omega)
    have hy : y < 8 * k := by omega
    rw [fp_nat, decide_eq_true hy, Bool.true_and]
    unfold tp
    have e1 : decide ((0 : Int) ≤ (x : Int)) = true := by simp
    have e2 : decide ((0 : Int) ≤ (y : Int)) = true := by simp
    have e3 : decide ((y : Int) < 8 * (k : Int)) = true := by simp; omega
    have e4 : decide ((x : Int) < 8 * (k : Int)) = decide (x < 8 * k) := by rw [Bool.eq_iff_iff, decide_eq_true_iff, decide_eq_true_iff]; omega
    rw [e1, e2, e3, e4, Bool.true_and, Bool.true_and, Bool.and_true]
    by_cases hx : x < 32
    · rw [h y x hy hx]
      by_cases hx8 : x < 8 * k
      · have : y / 8 * k + x / 8 < k * k := by rcases hk with rfl | rfl <;> omega
        simp [hx8, this]
      · simp [hx8]
    · have : ¬ x < 8 * k := by rcases hk with rfl | rfl <;> omega
      simp only [this, decide_false, Bool.false_and]
      exact BitVec.getLsbD_of_ge _ _ (by omega)

/-- so many rows are cut -/
def CutAt (F : Nat → R3) (x y j : Nat) (t : T6) : Prop := ∀ i, i < 64 → t.getLsbD i = (decide (i / 8 < j) && (F (y + i / 8)).getLsbD (x + i % 8))
theorem CutAt.nil (F : Nat → R3) (x y : Nat) : CutAt F x y 0 0#64 := by
  intro i _
  simp
theorem CutAt.row {F : Nat → R3} {x y j : Nat} {t : T6} (h : CutAt F x y j t) :
    CutAt F x y (j + 1) (t ||| ((((F (y + j)) >>> x) &&& 255#32).setWidth 64) <<< (8 * j)) := by
  intro i hi
  rw [BitVec.getLsbD_or, BitVec.getLsbD_shiftLeft, BitVec.getLsbD_setWidth, BitVec.getLsbD_and, BitVec.getLsbD_ushiftRight, h i hi]
  by_cases e : i / 8 = j
  · have e1 : ¬ i < 8 * j := by omega
    have e2 : i - 8 * j = i % 8 := by omega
    have e3 : ¬ i / 8 < j := by omega
    have e4 : i / 8 < j + 1 := by omega
    have e5 : i % 8 < 64 := by omega
    rw [e2, bit255' _ (by omega), e]
    have e6 : i % 8 < 8 := by omega
    simp [hi, e1, e5, e6]
  · by_cases e1 : i < 8 * j
    · have e3 : i / 8 < j := by omega
      have e4 : i / 8 < j + 1 := by omega
      simp [e1, e3, e4]
    · have e3 : ¬ i / 8 < j := by omega
      have e4 : ¬ i / 8 < j + 1 := by omega
      have e5 : ¬ i - 8 * j < 8 := by omega
      have e6 : (255#32).getLsbD (i - 8 * j) = false := by
        by_cases q : i - 8 * j < 32
        · rw [bit255' _ q]; simp [e5]
        · exact BitVec.getLsbD_of_ge _ _ (by omega)
      simp [e3, e4, e6]
/-- a tile is what a plane has there -/
def Cuts (p : Pl) (x y : Int) (t : T6) : Prop := ∀ i : Nat, i < 64 → t.getLsbD i = p (x + (i % 8 : Nat)) (y + (i / 8 : Nat))
theorem Cuts.inj {p q : Pl} {x y u v : Int} {s t : T6} (h : Cuts p x y s) (k : Cuts q u v t) (he : ∀ i j : Nat, i < 8 → j < 8 → p (x + i) (y + j) = q (u + i) (v + j)) : s = t := by
  apply BitVec.eq_of_getLsbD_eq
  intro i hi
  rw [h i hi, k i hi]
  exact he _ _ (by omega) (by omega)
theorem Cuts.ag {p q : Pl} {x y : Int} {t : T6} (h : Cuts p x y t) {x0 x1 y0 y1 : Int} (a : Ag p q x0 x1 y0 y1) (h0 : x0 ≤ x) (h1 : x + 7 ≤ x1) (h2 : y0 ≤ y) (h3 : y + 7 ≤ y1) : Cuts q x y t := by
  intro i hi
  rw [h i hi]
  exact a _ _ (by omega) (by omega) (by omega) (by omega)
theorem CutAt.cuts {F : Nat → R3} {x y : Nat} {t : T6} (h : CutAt F x y 8 t) (H : Nat) (hH : y + 8 ≤ H) : Cuts (fp H F) x y t := by
  intro i hi
  have e1 : i / 8 < 8 := by omega
  rw [h i hi, decide_eq_true e1, Bool.true_and, show ((x : Int) + (i % 8 : Nat)) = ((x + i % 8 : Nat) : Int) by omega, show ((y : Int) + (i / 8 : Nat)) = ((y + i / 8 : Nat) : Int) by omega, fp_nat, decide_eq_true (by omega), Bool.true_and]
/-- the middle of four, so many generations on -/
theorem grown_cuts {t : Nat → T6} {F : Nat → R3} {A : T6} (b l n : Nat) (hn : n ≤ 4) (h : LayAt t 2 4 0 F) (k : CutAt (stsM b l 16 F n) 4 4 8 A) : Cuts (gens b l (tp 2 t) n) 4 4 A := by
  have h1 := k.cuts 16 (by omega)
  have h2 := sts_gens b l 16 F n
  rw [show (16 : Nat) = 8 * 2 from rfl, LayAt.plane (.inl rfl) h] at h2
  exact h1.ag (q := gens b l (tp 2 t) n) h2 (by omega) (by omega) (by omega) (by omega)
theorem next_cuts {t : Nat → T6} {F : Nat → R3} {A : T6} (b l : Nat) (h : LayAt t 3 9 0 F) (k : CutAt (stM b l 24 F) 8 8 8 A) : Cuts (gen b l (tp 3 t)) 8 8 A := by
  have h1 := k.cuts 24 (by omega)
  have h2 := st_gen b l 24 F
  rw [show (24 : Nat) = 8 * 3 from rfl, LayAt.plane (.inr rfl) h] at h2
  exact h1.ag (q := gen b l (tp 3 t)) h2 (by omega) (by omega) (by omega) (by omega)
end Go.Proofs.YtlejohclijjhnaaGreatDoor.Ti
namespace Go.Proofs.YtlejohclijjhnaaGreatDoor.Ti

def pcN (x : Nat) : Nat → Nat
  | 0 => 0
  | k + 1 => pcN x k + (x.testBit k).toNat
def cat : List Nat → Nat
  | [] => 0
  | b :: l => b + 256 * cat l
def mk (p : Nat) : Nat → Nat
  | 0 => 0
  | n + 1 => p + 256 * mk p n
theorem and_dig (a c p q : Nat) (ha : a < 256) (hp : p < 256) : (a + 256 * c) &&& (p + 256 * q) = (a &&& p) + 256 * (c &&& q) := by
  have h1 := @Nat.and_div_two_pow (a + 256 * c) (p + 256 * q) 8
  have h2 := @Nat.and_mod_two_pow (a + 256 * c) (p + 256 * q) 8
  have e1 : (a + 256 * c) / 2 ^ 8 = c := by omega
  have e2 : (p + 256 * q) / 2 ^ 8 = q := by omega
  have e3 : (a + 256 * c) % 2 ^ 8 = a := by omega
  have e4 : (p + 256 * q) % 2 ^ 8 = p := by omega
  rw [e1, e2] at h1
  rw [e3, e4] at h2
  omega
def t1 (b : Nat) : Nat := (b / 2 &&& 85) + (b &&& 85)
def t2 (b : Nat) : Nat := (b / 4 &&& 51) + (b &&& 51)
def t3 (b : Nat) : Nat := (b / 16 + b) &&& 15
theorem m1 : ∀ b < 256, ∀ c < 2, (b / 2 + 128 * c) &&& 85 = b / 2 &&& 85 := by decide +kernel
theorem m2 : ∀ b < 256, ∀ c < 4, (b / 4 + 64 * c) &&& 51 = b / 4 &&& 51 := by decide +kernel
theorem m3 : ∀ b < 69, ∀ c < 5, (b / 16 + b + 16 * c) &&& 15 = (b / 16 + b) &&& 15 := by decide +kernel
theorem t1_lt : ∀ b < 256, t1 b < 256 := by decide +kernel
theorem t2_lt : ∀ b < 256, t2 (t1 b) < 256 ∧ t2 (t1 b) % 16 ≤ 4 ∧ t2 (t1 b) / 16 ≤ 4 := by decide +kernel
theorem t3_is : ∀ b < 256, t3 (t2 (t1 b)) = pcN b 8 := by decide +kernel
theorem pc8_le : ∀ b < 256, pcN b 8 ≤ 8 := by decide +kernel
theorem T1_cat : ∀ l : List Nat, (∀ b ∈ l, b < 256) → (cat l / 2 &&& mk 85 l.length) + (cat l &&& mk 85 l.length) = cat (l.map t1)
  | [], _ => by simp [cat, mk]
  | b :: l, h => by
    have hb := h b (List.mem_cons_self ..)
    have ih := T1_cat l (fun x hx => h x (List.mem_cons_of_mem _ hx))
    show ((b + 256 * cat l) / 2 &&& (85 + 256 * mk 85 l.length)) + ((b + 256 * cat l) &&& (85 + 256 * mk 85 l.length)) = t1 b + 256 * cat (l.map t1)
    have e1 : (b + 256 * cat l) / 2 = (b / 2 + 128 * (cat l % 2)) + 256 * (cat l / 2) := by omega
    rw [e1, and_dig _ _ _ _ (by omega) (by decide), and_dig _ _ _ _ hb (by decide), m1 b hb _ (by omega), ← ih]
    unfold t1
    omega
theorem T2_cat : ∀ l : List Nat, (∀ b ∈ l, b < 256) → (cat l / 4 &&& mk 51 l.length) + (cat l &&& mk 51 l.length) = cat (l.map t2)
  | [], _ => by simp [cat, mk]
  | b :: l, h => by
    have hb := h b (List.mem_cons_self ..)
    have ih := T2_cat l (fun x hx => h x (List.mem_cons_of_mem _ hx))
    show ((b + 256 * cat l) / 4 &&& (51 + 256 * mk 51 l.length)) + ((b + 256 * cat l) &&& (51 + 256 * mk 51 l.length)) = t2 b + 256 * cat (l.map t2)
    have e1 : (b + 256 * cat l) / 4 = (b / 4 + 64 * (cat l % 4)) + 256 * (cat l / 4) := by omega
    rw [e1, and_dig _ _ _ _ (by omega) (by decide), and_dig _ _ _ _ hb (by decide), m2 b hb _ (by omega), ← ih]
    unfold t2
    omega
theorem T3_cat : ∀ l : List Nat, (∀ b ∈ l, b < 256 ∧ b % 16 ≤ 4 ∧ b / 16 ≤ 4) → (cat l / 16 + cat l) &&& mk 15 l.length = cat (l.map t3)
  | [], _ => by simp [cat, mk]
  | b :: l, h => by
    have hb := h b (List.mem_cons_self ..)
    have ih := T3_cat l (fun x hx => h x (List.mem_cons_of_mem _ hx))
    have hl : cat l % 16 ≤ 4 := by
      cases l with
      | nil => simp [cat]
      | cons c l =>
        have := h c (by simp)
        show (c + 256 * cat l) % 16 ≤ 4
        omega
    show ((b + 256 * cat l) / 16 + (b + 256 * cat l)) &&& (15 + 256 * mk 15 l.length) = t3 b + 256 * cat (l.map t3)
    have e1 : (b + 256 * cat l) / 16 + (b + 256 * cat l) = (b / 16 + b + 16 * (cat l % 16)) + 256 * (cat l / 16 + cat l) := by omega
    rw [e1, and_dig _ _ _ _ (by omega) (by decide), m3 b (by omega) _ (by omega), ← ih]
    rfl
def ty (x : Nat) : List Nat := [x % 256, x / 256 % 256, x / 65536 % 256, x / 16777216 % 256, x / 4294967296 % 256, x / 1099511627776 % 256, x / 281474976710656 % 256, x / 72057594037927936 % 256]
theorem cat_ty (x : Nat) (h : x < 18446744073709551616) : cat (ty x) = x := by
  simp only [cat, ty]
  omega
theorem ty_lt (x : Nat) : ∀ b ∈ ty x, b < 256 := by
  intro b hb
  simp only [ty, List.mem_cons, List.not_mem_nil, or_false] at hb
  omega
theorem mk85 : mk 85 8 = 6148914691236517205 := by decide
theorem mk51 : mk 51 8 = 3689348814741910323 := by decide
theorem mk15 : mk 15 8 = 1085102592571150095 := by decide
def s1 (x : Nat) : Nat := (x / 2 &&& 6148914691236517205) + (x &&& 6148914691236517205)
def s2 (x : Nat) : Nat := (x / 4 &&& 3689348814741910323) + (x &&& 3689348814741910323)
def s3 (x : Nat) : Nat := (x / 16 + x) &&& 1085102592571150095
theorem s3_is (x : Nat) (h : x < 18446744073709551616) : s3 (s2 (s1 x)) = cat ((ty x).map (fun b => pcN b 8)) := by
  have h1 := T1_cat (ty x) (ty_lt x)
  rw [show (ty x).length = 8 from rfl, mk85, cat_ty x h] at h1
  have hl1 : ∀ b ∈ (ty x).map t1, b < 256 := by
    intro b hb
    obtain ⟨c, hc, rfl⟩ := List.mem_map.1 hb
    exact t1_lt c (ty_lt x c hc)
  have h2 := T2_cat ((ty x).map t1) hl1
  rw [show ((ty x).map t1).length = 8 from rfl, mk51, ← h1] at h2
  have hl2 : ∀ b ∈ ((ty x).map t1).map t2, b < 256 ∧ b % 16 ≤ 4 ∧ b / 16 ≤ 4 := by
    intro b hb
    rw [List.map_map] at hb
    obtain ⟨c, hc, rfl⟩ := List.mem_map.1 hb
    exact t2_lt c (ty_lt x c hc)
  have h3 := T3_cat (((ty x).map t1).map t2) hl2
  rw [show (((ty x).map t1).map t2).length = 8 from rfl, mk15, ← h2] at h3
  show s3 (s2 (s1 x)) = _
  unfold s3 s2 s1
  rw [h3, List.map_map, List.map_map]
  apply List.map_congr_left ?_ |> congrArg cat
  intro b hb
  exact t3_is b (ty_lt x b hb)
theorem dv (a r : Nat) (h : a < 256) : (a + 256 * r) / 256 = r := by omega
theorem sum2 (a b r s : Nat) : (a + 256 * r) + (b + 256 * s) = (a + b) + 256 * (r + s) := by omega
theorem fold8 (p0 p1 p2 p3 p4 p5 p6 p7 x : Nat) (h0 : p0 ≤ 8) (h1 : p1 ≤ 8) (h2 : p2 ≤ 8) (h3 : p3 ≤ 8) (h4 : p4 ≤ 8) (h5 : p5 ≤ 8) (h6 : p6 ≤ 8) (h7 : p7 ≤ 8)
    (hx : x = cat [p0, p1, p2, p3, p4, p5, p6, p7]) :
    let y := x + x / 256
    let z := y + y / 65536
    let v := z + z / 4294967296
    x < 1000000000000000000 ∧ y < 2000000000000000000 ∧ z < 4000000000000000000 ∧ v < 8000000000000000000 ∧ v % 128 = p0 + p1 + p2 + p3 + p4 + p5 + p6 + p7 := by
  obtain ⟨r7, e7⟩ : ∃ r, r = p7 + 256 * 0 := ⟨_, rfl⟩
  obtain ⟨r6, e6⟩ : ∃ r, r = p6 + 256 * r7 := ⟨_, rfl⟩
  obtain ⟨r5, e5⟩ : ∃ r, r = p5 + 256 * r6 := ⟨_, rfl⟩
  obtain ⟨r4, e4⟩ : ∃ r, r = p4 + 256 * r5 := ⟨_, rfl⟩
  obtain ⟨r3, e3⟩ : ∃ r, r = p3 + 256 * r4 := ⟨_, rfl⟩
  obtain ⟨r2, e2⟩ : ∃ r, r = p2 + 256 * r3 := ⟨_, rfl⟩
  obtain ⟨r1, e1⟩ : ∃ r, r = p1 + 256 * r2 := ⟨_, rfl⟩
  have e0 : x = p0 + 256 * r1 := by rw [hx, e1, e2, e3, e4, e5, e6, e7]; rfl
  clear hx
  have b7 : r7 ≤ 8 := by omega
  have b6 : r6 ≤ 2056 := by omega
  have b5 : r5 ≤ 526344 := by omega
  have b4 : r4 ≤ 134744072 := by omega
  have b3 : r3 ≤ 34494482440 := by omega
  have b2 : r2 ≤ 8830587504648 := by omega
  have b1 : r1 ≤ 2260630401189896 := by omega
  have b0 : x ≤ 578721382704613384 := by omega
  have hy : x / 256 = r1 := by rw [e0]; exact dv _ _ (by omega)
  have y0 : x + r1 = (p0 + p1) + 256 * (r1 + r2) := by rw [e0]; conv => { lhs; rhs; rw [e1] }; exact sum2 _ _ _ _
  have y1 : r1 + r2 = (p1 + p2) + 256 * (r2 + r3) := by conv => { lhs; rw [e1]; rhs; rw [e2] }; exact sum2 _ _ _ _
  have y2 : r2 + r3 = (p2 + p3) + 256 * (r3 + r4) := by conv => { lhs; rw [e2]; rhs; rw [e3] }; exact sum2 _ _ _ _
  have y3 : r3 + r4 = (p3 + p4) + 256 * (r4 + r5) := by conv => { lhs; rw [e3]; rhs; rw [e4] }; exact sum2 _ _ _ _
  have y4 : r4 + r5 = (p4 + p5) + 256 * (r5 + r6) := by conv => { lhs; rw [e4]; rhs; rw [e5] }; exact sum2 _ _ _ _
  have y5 : r5 + r6 = (p5 + p6) + 256 * (r6 + r7) := by conv => { lhs; rw [e5]; rhs; rw [e6] }; exact sum2 _ _ _ _
  have c0 : (x + r1) / 65536 = r2 + r3 := by
    rw [show (65536 : Nat) = 256 * 256 from rfl, ← Nat.div_div_eq_div_mul, y0, dv _ _ (by omega), y1, dv _ _ (by omega)]
  have z0 : x + r1 + (r2 + r3) = (p0 + p1 + (p2 + p3)) + 256 * (r1 + r2 + (r3 + r4)) := by rw [y0]; conv => { lhs; rhs; rw [y2] }; exact sum2 _ _ _ _
  have z1 : r1 + r2 + (r3 + r4) = (p1 + p2 + (p3 + p4)) + 256 * (r2 + r3 + (r4 + r5)) := by rw [y1]; conv => { lhs; rhs; rw [y3] }; exact sum2 _ _ _ _
  have z2 : r2 + r3 + (r4 + r5) = (p2 + p3 + (p4 + p5)) + 256 * (r3 + r4 + (r5 + r6)) := by rw [y2]; conv => { lhs; rhs; rw [y4] }; exact sum2 _ _ _ _
  have z3 : r3 + r4 + (r5 + r6) = (p3 + p4 + (p5 + p6)) + 256 * (r4 + r5 + (r6 + r7)) := by rw [y3]; conv => { lhs; rhs; rw [y5] }; exact sum2 _ _ _ _
  have c1 : (x + r1 + (r2 + r3)) / 4294967296 = r4 + r5 + (r6 + r7) := by
    rw [show (4294967296 : Nat) = 256 * 256 * 256 * 256 from rfl, ← Nat.div_div_eq_div_mul, ← Nat.div_div_eq_div_mul, ← Nat.div_div_eq_div_mul, z0, dv _ _ (by omega), z1, dv _ _ (by omega), z2, dv _ _ (by omega), z3, dv _ _ (by omega)]
  have w : r4 + r5 + (r6 + r7) = (p4 + p5 + (p6 + p7)) + 256 * (r5 + r6 + r7) := by omega
  intro y z v
  have hv : v = x + r1 + (r2 + r3) + (r4 + r5 + (r6 + r7)) := by
    show x + x / 256 + (x + x / 256) / 65536 + (x + x / 256 + (x + x / 256) / 65536) / 4294967296 = _
    rw [hy, c0, c1]
  have hz : z = x + r1 + (r2 + r3) := by
    show x + x / 256 + (x + x / 256) / 65536 = _
    rw [hy, c0]
  have hyy : y = x + r1 := by
    show x + x / 256 = _
    rw [hy]
  clear_value v z y
  have m : v % 128 = (p0 + p1 + (p2 + p3) + (p4 + p5 + (p6 + p7))) % 128 := by
    rw [hv, z0, w]
    generalize r1 + r2 + (r3 + r4) = A
    generalize r5 + r6 + r7 = B
    omega
  refine ⟨by omega, by omega, by omega, by omega, ?_⟩
  rw [m]
  clear m hv hz hyy w c0 c1 y0 y1 y2 y3 y4 y5 z0 z1 z2 z3 e0 e1 e2 e3 e4 e5 e6 e7 b0 b1 b2 b3 b4 b5 b6 b7 hy
  omega
theorem pc_bytes (x : Nat) : pcN x 64 = pcN (x % 256) 8 + pcN (x / 256 % 256) 8 + pcN (x / 65536 % 256) 8 + pcN (x / 16777216 % 256) 8 + pcN (x / 4294967296 % 256) 8 + pcN (x / 1099511627776 % 256) 8 + pcN (x / 281474976710656 % 256) 8 + pcN (x / 72057594037927936 % 256) 8 := by
  have hb : ∀ k j, j < 8 → (x / 2 ^ k % 256).testBit j = x.testBit (k + j) := by
    intro k j hj
    rw [show (256 : Nat) = 2 ^ 8 from rfl, Nat.testBit_mod_two_pow, Nat.testBit_div_two_pow, decide_eq_true hj, Bool.true_and, Nat.add_comm]
  have hc : ∀ k, pcN (x / 2 ^ k % 256) 8 = (x.testBit k).toNat + (x.testBit (k + 1)).toNat + (x.testBit (k + 2)).toNat + (x.testBit (k + 3)).toNat + (x.testBit (k + 4)).toNat + (x.testBit (k + 5)).toNat + (x.testBit (k + 6)).toNat + (x.testBit (k + 7)).toNat := by
    intro k
    simp only [pcN, hb k 0 (by omega), hb k 1 (by omega), hb k 2 (by omega), hb k 3 (by omega), hb k 4 (by omega), hb k 5 (by omega), hb k 6 (by omega), hb k 7 (by omega), Nat.zero_add, Nat.add_zero]
  have h0 := hc 0
  have h1 := hc 8
  have h2 := hc 16
  have h3 := hc 24
  have h4 := hc 32
  have h5 := hc 40
  have h6 := hc 48
  have h7 := hc 56
  simp only [Nat.reducePow, Nat.div_one, Nat.reduceAdd, Nat.zero_add] at h0 h1 h2 h3 h4 h5 h6 h7
  rw [h0, h1, h2, h3, h4, h5, h6, h7]
  simp only [pcN, Nat.zero_add]
  omega
/-- the whole -/
theorem ones_is (x : Nat) (h : x < 18446744073709551616) :
    let a := s3 (s2 (s1 x))
    let y := a + a / 256
    let z := y + y / 65536
    let v := z + z / 4294967296
    a < 1000000000000000000 ∧ y < 2000000000000000000 ∧ z < 4000000000000000000 ∧ v < 8000000000000000000 ∧ v % 128 = pcN x 64 := by
  have q : ∀ b, b < 256 → pcN b 8 ≤ 8 := pc8_le
  have e := s3_is x h
  rw [pc_bytes]
  exact fold8 _ _ _ _ _ _ _ _ _ (q _ (by omega)) (q _ (by omega)) (q _ (by omega)) (q _ (by omega)) (q _ (by omega)) (q _ (by omega)) (q _ (by omega)) (q _ (by omega)) e
theorem s1_lt (x : Nat) : (x / 2 &&& 6148914691236517205) ≤ 6148914691236517205 ∧ (x &&& 6148914691236517205) ≤ 6148914691236517205 := ⟨Nat.and_le_right, Nat.and_le_right⟩
theorem s2_lt (x : Nat) : (x / 4 &&& 3689348814741910323) ≤ 3689348814741910323 ∧ (x &&& 3689348814741910323) ≤ 3689348814741910323 := ⟨Nat.and_le_right, Nat.and_le_right⟩
end Go.Proofs.YtlejohclijjhnaaGreatDoor.Ti

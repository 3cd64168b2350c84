/-
  A BLOCK THAT STAYS, AS PLAIN DATA: which squares can come of it, and how many. Conditions: those that each lemma names.
-/
import Derived.Test.YtgimphkamjojpaaS46
namespace Go.Proofs.Ytgimphkamjojpaa.Qd
open Ti Ru

/-- a multiple of a power of two -/
def Dv (n : Nat) (x : Int) : Prop := ((2 ^ n : Nat) : Int) ∣ x
theorem Dv.le {m n : Nat} {x : Int} (h : Dv n x) (hm : m ≤ n) : Dv m x := Int.dvd_trans (Int.natCast_dvd_natCast.2 (Nat.pow_dvd_pow 2 hm)) h
theorem Dv.add {n : Nat} {x y : Int} (h : Dv n x) (k : Dv n y) : Dv n (x + y) := Int.dvd_add h k
theorem dv_mul (u n k : Nat) (h : n ≤ k) : Dv n ((u * 2 ^ k : Nat) : Int) := Int.natCast_dvd_natCast.2 (Nat.dvd_trans (Nat.pow_dvd_pow 2 h) (Nat.dvd_mul_left _ _))
theorem dv_sum (u n k i : Nat) (h : n ≤ k) (h2 : n ≤ i) : Dv n ((2 ^ k + u * 2 ^ i : Nat) : Int) := Int.natCast_dvd_natCast.2 (Nat.dvd_add (Nat.pow_dvd_pow 2 h) (Nat.dvd_trans (Nat.pow_dvd_pow 2 h2) (Nat.dvd_mul_left _ _)))
theorem dv_pow (n k : Nat) (h : n ≤ k) : Dv n ((2 ^ k : Nat) : Int) := Int.natCast_dvd_natCast.2 (Nat.pow_dvd_pow 2 h)
theorem dv_zero (n : Nat) : Dv n 0 := Int.dvd_zero _
/-- nothing lives -/
def zr : Pl := fun _ _ => false
theorem zr_gens {b l : Nat} (h : mayR b l = true) : ∀ n, gens b l zr n = zr
  | 0 => rfl
  | n + 1 => by
    show gen b l (gens b l zr n) = zr
    rw [zr_gens h n]
    funext x y
    show nx b l false 0 = false
    have hb : b % 2 = 0 := by
      unfold mayR at h
      simp only [Bool.and_eq_true, beq_iff_eq] at h
      exact h.2
    show hs b 0 = false
    unfold hs
    simp [hb]
/-- the windows that there can be -/
def BA (N : Nat) (a c : Int) : Nat → Pl → Int → Int → Prop := fun n p ox oy => n ≤ N ∧ ((p = blk a c ∧ Dv (n + 1) ox ∧ Dv (n + 1) oy) ∨ p = zr)
def BG (N : Nat) (a c : Int) : Nat → Pl → Int → Int → Nat → Prop := fun m p ox oy _ => m + 1 ≤ N ∧ p = blk a c ∧ Dv (m + 2) ox ∧ Dv (m + 2) oy
def ZG (N : Nat) : Nat → Pl → Int → Int → Nat → Prop := fun m p _ _ _ => m + 1 ≤ N ∧ p = zr
theorem blk_uni (N : Nat) (a c : Int) : Uni 8 12 (BA N a c) (BG N a c) := by
  constructor
  · rintro m p ox oy j ⟨h1, rfl, h2, h3⟩
    exact ⟨by omega, .inl ⟨blk_gens a c _, (h2.le (by omega)).add (dv_pow _ _ (by omega)), (h3.le (by omega)).add (dv_pow _ _ (by omega))⟩⟩
  · rintro m p ox oy u v ⟨h1, rfl, h2, h3⟩ _ _
    exact ⟨⟨by omega, .inl ⟨rfl, (h2.le (by omega)).add (dv_mul _ _ _ (by omega)), (h3.le (by omega)).add (dv_mul _ _ _ (by omega))⟩⟩, by omega, rfl, (h2.le (by omega)).add (dv_mul _ _ _ (by omega)), (h3.le (by omega)).add (dv_mul _ _ _ (by omega))⟩
  · rintro m p ox oy u v ⟨h1, rfl, h2, h3⟩ _ _
    exact ⟨⟨by omega, .inl ⟨blk_gens a c _, (h2.le (by omega)).add (dv_sum _ _ _ _ (by omega) (by omega)), (h3.le (by omega)).add (dv_sum _ _ _ _ (by omega) (by omega))⟩⟩, by omega, blk_gens a c _, (h2.le (by omega)).add (dv_sum _ _ _ _ (by omega) (by omega)), (h3.le (by omega)).add (dv_sum _ _ _ _ (by omega) (by omega))⟩
  · rintro m p ox oy j u v ⟨h1, rfl, h2, h3⟩ _ _ _
    exact ⟨by omega, .inl ⟨rfl, (h2.le (by omega)).add (dv_sum _ _ _ _ (by omega) (by omega)), (h3.le (by omega)).add (dv_sum _ _ _ _ (by omega) (by omega))⟩⟩
  · rintro m p ox oy j u v ⟨h1, rfl, h2, h3⟩ _ _ _
    exact ⟨⟨by omega, .inl ⟨rfl, (h2.le (by omega)).add (dv_sum _ _ _ _ (by omega) (by omega)), (h3.le (by omega)).add (dv_sum _ _ _ _ (by omega) (by omega))⟩⟩, by omega, rfl, (h2.le (by omega)).add (dv_sum _ _ _ _ (by omega) (by omega)), (h3.le (by omega)).add (dv_sum _ _ _ _ (by omega) (by omega))⟩
theorem zr_uni (b l : Nat) (h : mayR b l = true) (N : Nat) (a c : Int) : Uni b l (BA N a c) (ZG N) := by
  constructor
  · rintro m p ox oy j ⟨h1, rfl⟩
    exact ⟨by omega, .inr (zr_gens h _)⟩
  · rintro m p ox oy u v ⟨h1, rfl⟩ _ _
    exact ⟨⟨by omega, .inr rfl⟩, by omega, rfl⟩
  · rintro m p ox oy u v ⟨h1, rfl⟩ _ _
    exact ⟨⟨by omega, .inr (zr_gens h _)⟩, by omega, zr_gens h _⟩
  · rintro m p ox oy j u v ⟨h1, rfl⟩ _ _ _
    exact ⟨by omega, .inr rfl⟩
  · rintro m p ox oy j u v ⟨h1, rfl⟩ _ _ _
    exact ⟨⟨by omega, .inr rfl⟩, by omega, rfl⟩
/-- a code of a square: none in it, or where the block is -/
def BP (N : Nat) (a c : Int) (M : List Sq) (k : Nat) (id : Int) : Prop := ∃ n, n ≤ N ∧ ((k = n * 26 ∧ Lv M n id ∧ ∀ x y, x < 2 ^ (n + 3) → y < 2 ^ (n + 3) → cel M n id x y = false) ∨
  ∃ ix iy : Nat, ix ≤ 4 ∧ iy ≤ 4 ∧ k = n * 26 + 1 + 5 * ix + iy ∧ Wn M n id (blk a c) ((2 ^ (n + 1) : Nat) * ((a + 1) / (2 ^ (n + 1) : Nat) - ix)) ((2 ^ (n + 1) : Nat) * ((c + 1) / (2 ^ (n + 1) : Nat) - iy)))
theorem bp_inj {N : Nat} {a c : Int} {M : List Sq} (hi : Inv M) (k : Nat) (x y : Int) (_ : Ok M x) (_ : Ok M y) (hx : BP N a c M k x) (hy : BP N a c M k y) : x = y := by
  obtain ⟨n, hn, h⟩ := hx
  obtain ⟨m, hm, g⟩ := hy
  rcases h with ⟨h1, h2, h3⟩ | ⟨ix, iy, h1, h2, h3, h4⟩ <;> rcases g with ⟨g1, g2, g3⟩ | ⟨jx, jy, g1, g2, g3, g4⟩
  · obtain rfl : n = m := by omega
    exact Qd.uniq hi n x y h2 g2 fun u v hu hv => by rw [h3 u v hu hv, g3 u v hu hv]
  · exfalso
    rcases Nat.lt_trichotomy n m with q | q | q <;> omega
  · exfalso
    rcases Nat.lt_trichotomy n m with q | q | q <;> omega
  · obtain rfl : n = m := by rcases Nat.lt_trichotomy n m with q | q | q <;> omega
    obtain rfl : ix = jx := by omega
    obtain rfl : iy = jy := by omega
    exact Wn.uniq hi h4 g4
/-- far from a block nothing lives -/
theorem off_line {q a ox : Int} (hq : 0 < q) (t : Int) (ht : ox = q * t) (h : ¬ (0 ≤ (a + 1) / q - t ∧ (a + 1) / q - t ≤ 4)) : a + 1 < ox ∨ ox + 4 * q ≤ a := by
  have h1 := Int.mul_ediv_add_emod (a + 1) q
  have h2 := Int.emod_nonneg (a + 1) (show q ≠ 0 by omega)
  have h3 := Int.emod_lt_of_pos (a + 1) hq
  generalize (a + 1) / q = X at *
  generalize (a + 1) % q = R at *
  by_cases hlt : X < t
  · left
    have : q * (X + 1) ≤ q * t := Int.mul_le_mul_of_nonneg_left (by omega) (by omega)
    rw [Int.mul_add, Int.mul_one] at this
    omega
  · right
    have : q * t ≤ q * (X - 5) := Int.mul_le_mul_of_nonneg_left (by omega) (by omega)
    rw [Int.mul_sub] at this
    omega
theorem bp_all {N : Nat} {a c : Int} {L M : List Sq} (h : New (BA N a c) L M) (id : Int) (ho : Ok M id) (hn : ¬ Ok L id) : ∃ k, k < (N + 1) * 26 ∧ BP N a c M k id := by
  obtain ⟨n, p, ox, oy, ⟨hN, hA⟩, hw⟩ := h id ho hn
  have hb : ∀ r, r < 26 → n * 26 + r < (N + 1) * 26 := fun r hr => by
    have : n * 26 ≤ N * 26 := Nat.mul_le_mul_right _ hN
    rw [Nat.succ_mul]
    omega
  rcases hA with ⟨rfl, ⟨t, ht⟩, ⟨u, hu⟩⟩ | rfl
  · have e4 : 2 ^ (n + 3) = 4 * 2 ^ (n + 1) := by rw [show n + 3 = (n + 1) + 2 by omega, Nat.pow_add]; omega
    have hq : (0 : Int) < ((2 ^ (n + 1) : Nat) : Int) := by have := Nat.two_pow_pos (n + 1); omega
    by_cases hin : (0 ≤ (a + 1) / ((2 ^ (n + 1) : Nat) : Int) - t ∧ (a + 1) / ((2 ^ (n + 1) : Nat) : Int) - t ≤ 4) ∧ (0 ≤ (c + 1) / ((2 ^ (n + 1) : Nat) : Int) - u ∧ (c + 1) / ((2 ^ (n + 1) : Nat) : Int) - u ≤ 4)
    · obtain ⟨⟨a1, a2⟩, b1, b2⟩ := hin
      refine ⟨n * 26 + (1 + 5 * ((a + 1) / ((2 ^ (n + 1) : Nat) : Int) - t).toNat + ((c + 1) / ((2 ^ (n + 1) : Nat) : Int) - u).toNat), hb _ (by omega), n, hN, .inr ⟨((a + 1) / ((2 ^ (n + 1) : Nat) : Int) - t).toNat, ((c + 1) / ((2 ^ (n + 1) : Nat) : Int) - u).toNat, by omega, by omega, by omega, ?_⟩⟩
      rw [show (a + 1) / ((2 ^ (n + 1) : Nat) : Int) - ((((a + 1) / ((2 ^ (n + 1) : Nat) : Int) - t).toNat : Nat) : Int) = t by omega, show (c + 1) / ((2 ^ (n + 1) : Nat) : Int) - ((((c + 1) / ((2 ^ (n + 1) : Nat) : Int) - u).toNat : Nat) : Int) = u by omega, ← ht, ← hu]
      exact hw
    · refine ⟨n * 26 + 0, hb 0 (by omega), n, hN, .inl ⟨by omega, hw.1, fun x y hx hy => ?_⟩⟩
      rw [hw.2 x y hx hy]
      unfold blk
      refine decide_eq_false ?_
      rw [e4] at hx hy
      rw [Decidable.not_and_iff_or_not] at hin
      rcases hin with hin | hin
      · have := off_line hq t ht hin
        omega
      · have := off_line hq u hu hin
        omega
  · exact ⟨n * 26 + 0, hb 0 (by omega), n, hN, .inl ⟨by omega, hw.1, fun x y hx hy => hw.2 x y hx hy⟩⟩
theorem blk_len {N : Nat} {a c : Int} {L M : List Sq} (hi : Inv M) (he : L <+: M) (h : New (BA N a c) L M) : M.length ≤ L.length + (N + 1) * 26 :=
  count_new he _ (BP N a c M) (fun id ho hn => bp_all h id ho hn) (bp_inj hi)
/-- a cell set in a window -/
theorem set_wn {L : List Sq} (hi : Inv L) {n : Nat} (hn : n ≤ 37) {id : Int} {p : Pl} (hw : Wn L n id p 0 0) (x y : Nat) (hx : x < 2 ^ (n + 3)) (hy : y < 2 ^ (n + 3)) : Wn (setQ L n id x y true).1 n (setQ L n id x y true).2 (addP p x y) 0 0 := by
  have so := set_ok hi n id x y true hw.1 hn hx hy
  refine ⟨so.lv, fun u v hu hv => ?_⟩
  rw [so.cel u v hu hv, hw.2 u v hu hv]
  unfold addP
  by_cases e : u = x ∧ v = y
  · rw [if_pos e, if_pos (by omega)]
  · rw [if_neg e, if_neg (by omega)]
theorem emp_wn {L : List Sq} (hi : Inv L) {n : Nat} (hn : n ≤ 37) : Wn (emp L n).1 n (emp L n).2 zr 0 0 := by
  have he := emp_ok hi n hn
  exact ⟨he.lv, fun u v _ _ => he.cel u v⟩
/-- a block, cell by cell -/
def bq (a c : Nat) : Nat → Pl
  | 0 => zr
  | k + 1 => addP (bq a c k) ((a + k % 2 : Nat) : Int) ((c + k / 2 : Nat) : Int)
theorem bq_4 (a c : Nat) : bq a c 4 = blk a c := by
  funext x y
  unfold bq bq bq bq bq addP blk zr
  simp only [Nat.zero_div, Nat.zero_mod, Nat.reduceDiv, Nat.reduceMod]
  by_cases h : (a : Int) ≤ x ∧ x ≤ a + 1 ∧ (c : Int) ≤ y ∧ y ≤ c + 1
  · rw [decide_eq_true h]
    split
    · rfl
    split
    · rfl
    split
    · rfl
    split
    · rfl
    omega
  · rw [decide_eq_false h, if_neg (by omega), if_neg (by omega), if_neg (by omega), if_neg (by omega)]
/-- all that a block, and nothing, come to in a store -/
structure StI (N : Nat) (L0 : List Sq) (a c : Int) (id none_ : Int) (S : List Sq) : Prop where
  inv : Inv S
  ext : L0 <+: S
  new : New (BA N a c) L0 S
  blk : Wn S N id (blk a c) 0 0
  zr : Wn S N none_ zr 0 0
theorem StI.len {N : Nat} {L0 S : List Sq} {a c id none_ : Int} (h : StI N L0 a c id none_ S) : S.length ≤ L0.length + (N + 1) * 26 := blk_len h.inv h.ext h.new
theorem StI.on {N : Nat} {L0 S T : List Sq} {a c id none_ : Int} (h : StI N L0 a c id none_ S) (hi : Inv T) (he : S <+: T) (hn : New (BA N a c) S T) : StI N L0 a c id none_ T :=
  ⟨hi, h.ext.trans he, h.new.trans h.inv he hn, h.blk.ext h.inv he, h.zr.ext h.inv he⟩
/-- a generation or more on, and the middle -/
theorem still_step {N : Nat} {L0 : List Sq} {a c id none_ : Int} {s : GS} (h : StI (N + 1) L0 a c id none_ s.1) (hk : GOk 8 12 s) (hN : N ≤ 30) (j : Nat) (hj : j ≤ N + 2) (A B : GS × Int) (hA : A = growQ 8 12 N s id j) (hB : B = ctrG A.1 id) :
    GOk 8 12 A.1 ∧ StI (N + 1) L0 a c id none_ A.1.1 ∧ GOk 8 12 B.1 ∧ StI (N + 1) L0 a c id none_ B.1.1 ∧ B.2 = A.2 := by
  have ra := grow_ok 8 12 N _ _ (blk_uni (N + 1) a c) s id j (blk a c) 0 0 hk (by omega) hj h.blk ⟨by omega, rfl, dv_zero _, dv_zero _⟩
  rw [← hA] at ra
  have sa := h.on ra.ok.inv ra.ext ra.new
  have rb := mid_res (A := BA (N + 1) a c) (f := kid (at' A.1.1 id)) ra.ok (n := N) (by omega) (fun i h4 => sa.blk.kid ra.ok.inv i h4) ⟨by omega, .inl ⟨rfl, (dv_zero _).add (dv_pow _ _ (by omega)), (dv_zero _).add (dv_pow _ _ (by omega))⟩⟩
  rw [show midG A.1 _ _ _ _ = B from hB.symm] at rb
  refine ⟨ra.ok, sa, rb.ok, sa.on rb.ok.inv rb.ext rb.new, ?_⟩
  have w := ra.win.ext ra.ok.inv rb.ext
  rw [blk_gens] at w
  exact Wn.uniq rb.ok.inv rb.win w
/-- nothing goes on -/
theorem none_step {N : Nat} {L0 : List Sq} {a c id none_ : Int} {s : GS} {b l : Nat} (hm : mayR b l = true) (h : StI (N + 1) L0 a c id none_ s.1) (hk : GOk b l s) (hN : N ≤ 26) (j : Nat) (hj : j ≤ N + 2) (A : GS × Int) (hA : A = growQ b l N s none_ j) :
    GOk b l A.1 ∧ StI (N + 1) L0 a c id none_ A.1.1 ∧ Ok A.1.1 A.2 ∧ (at' A.1.1 A.2).cnt = 0 := by
  have ra := grow_ok b l N _ _ (zr_uni b l hm (N + 1) a c) s none_ j zr 0 0 hk (by omega) hj h.zr ⟨by omega, rfl⟩
  rw [← hA] at ra
  refine ⟨ra.ok, h.on ra.ok.inv ra.ext ra.new, ra.win.1.1, ?_⟩
  have w := cnt_wn ra.ok.inv N A.2 _ _ _ (by omega) ra.win
  rw [w, zr_gens hm]
  have : fldC zr (0 + (2 ^ (N + 2) : Nat)) (0 + (2 ^ (N + 2) : Nat)) (2 ^ (N + 3)) (2 ^ (N + 3)) = 0 := fldC_zero _ _ _ _ _ fun _ _ _ _ => rfl
  rw [this]
  rfl
end Go.Proofs.Ytgimphkamjojpaa.Qd

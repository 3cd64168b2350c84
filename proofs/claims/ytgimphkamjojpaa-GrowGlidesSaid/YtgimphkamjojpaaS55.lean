/-
  A GLIDER, AS PLAIN DATA: it glides; which squares can come of it, and how many. Conditions: those that each lemma names.
-/
import Derived.Test.YtgimphkamjojpaaS49
namespace Go.Proofs.Ytgimphkamjojpaa.Qd
open Ti Ru

/-- cells alone -/
def pls (l : List (Int × Int)) : Pl := fun x y => l.any (fun c => decide (c.1 = x ∧ c.2 = y))
theorem pls_off {l : List (Int × Int)} (h : ∀ c ∈ l, (0 ≤ c.1 ∧ c.1 ≤ 4) ∧ 0 ≤ c.2 ∧ c.2 ≤ 4) {x y : Int} (ho : x < 0 ∨ 4 < x ∨ y < 0 ∨ 4 < y) : pls l x y = false := by
  unfold pls
  rw [List.any_eq_false]
  intro c hc
  have := h c hc
  rw [decide_eq_true_iff]
  omega
theorem pls_gen (l k : List (Int × Int)) (h : ∀ c ∈ l, (0 ≤ c.1 ∧ c.1 ≤ 4) ∧ 0 ≤ c.2 ∧ c.2 ≤ 4) (g : ∀ c ∈ k, (0 ≤ c.1 ∧ c.1 ≤ 4) ∧ 0 ≤ c.2 ∧ c.2 ≤ 4)
    (hd : ∀ u < 8, ∀ v < 8, gen 8 12 (pls l) ((u : Nat) - 2 : Int) ((v : Nat) - 2 : Int) = pls k ((u : Nat) - 2 : Int) ((v : Nat) - 2 : Int)) : gen 8 12 (pls l) = pls k := by
  funext x y
  by_cases q : -2 ≤ x ∧ x ≤ 5 ∧ -2 ≤ y ∧ y ≤ 5
  · have := hd (x + 2).toNat (by omega) (y + 2).toNat (by omega)
    rw [show (((x + 2).toNat : Nat) : Int) - 2 = x by omega, show (((y + 2).toNat : Nat) : Int) - 2 = y by omega] at this
    exact this
  · rw [pls_off g (by omega)]
    unfold gen nbr
    rw [pls_off h (show x < 0 ∨ 4 < x ∨ y < 0 ∨ 4 < y by omega), pls_off h (show x - 1 < 0 ∨ 4 < x - 1 ∨ y - 1 < 0 ∨ 4 < y - 1 by omega), pls_off h (show x < 0 ∨ 4 < x ∨ y - 1 < 0 ∨ 4 < y - 1 by omega), pls_off h (show x + 1 < 0 ∨ 4 < x + 1 ∨ y - 1 < 0 ∨ 4 < y - 1 by omega), pls_off h (show x - 1 < 0 ∨ 4 < x - 1 ∨ y + 1 < 0 ∨ 4 < y + 1 by omega), pls_off h (show x < 0 ∨ 4 < x ∨ y + 1 < 0 ∨ 4 < y + 1 by omega), pls_off h (show x + 1 < 0 ∨ 4 < x + 1 ∨ y + 1 < 0 ∨ 4 < y + 1 by omega), pls_off h (show x - 1 < 0 ∨ 4 < x - 1 ∨ y < 0 ∨ 4 < y by omega), pls_off h (show x + 1 < 0 ∨ 4 < x + 1 ∨ y < 0 ∨ 4 < y by omega)]
    exact nx_dead
def g0 : List (Int × Int) := [(1, 0), (2, 1), (0, 2), (1, 2), (2, 2)]
def g1 : List (Int × Int) := [(0, 1), (2, 1), (1, 2), (2, 2), (1, 3)]
def g2 : List (Int × Int) := [(2, 1), (0, 2), (2, 2), (1, 3), (2, 3)]
def g3 : List (Int × Int) := [(1, 1), (2, 2), (3, 2), (1, 3), (2, 3)]
def g4 : List (Int × Int) := [(2, 1), (3, 2), (1, 3), (2, 3), (3, 3)]
theorem g01 : gen 8 12 (pls g0) = pls g1 := pls_gen _ _ (by decide) (by decide) (by decide +kernel)
theorem g12 : gen 8 12 (pls g1) = pls g2 := pls_gen _ _ (by decide) (by decide) (by decide +kernel)
theorem g23 : gen 8 12 (pls g2) = pls g3 := pls_gen _ _ (by decide) (by decide) (by decide +kernel)
theorem g34 : gen 8 12 (pls g3) = pls g4 := pls_gen _ _ (by decide) (by decide) (by decide +kernel)
/-- a glider, so far along the line -/
def gl (s : Int) : Pl := fun x y => pls g0 (-s + x) (-s + y)
theorem gl_4 (s : Int) : gens 8 12 (gl s) 4 = gl (s + 1) := by
  show gens 8 12 (fun x y => pls g0 (-s + x) (-s + y)) 4 = _
  rw [gens_shift]
  show (fun x y => gen 8 12 (gen 8 12 (gen 8 12 (gen 8 12 (pls g0)))) (-s + x) (-s + y)) = _
  rw [g01, g12, g23, g34]
  funext x y
  show pls g4 (-s + x) (-s + y) = pls g0 (-(s + 1) + x) (-(s + 1) + y)
  unfold pls g4 g0
  simp only [List.any_cons, List.any_nil]
  rw [show decide (2 = -s + x ∧ 1 = -s + y) = decide (1 = -(s + 1) + x ∧ 0 = -(s + 1) + y) from decide_eq_decide.2 (by omega), show decide (3 = -s + x ∧ 2 = -s + y) = decide (2 = -(s + 1) + x ∧ 1 = -(s + 1) + y) from decide_eq_decide.2 (by omega), show decide (1 = -s + x ∧ 3 = -s + y) = decide (0 = -(s + 1) + x ∧ 2 = -(s + 1) + y) from decide_eq_decide.2 (by omega), show decide (2 = -s + x ∧ 3 = -s + y) = decide (1 = -(s + 1) + x ∧ 2 = -(s + 1) + y) from decide_eq_decide.2 (by omega), show decide (3 = -s + x ∧ 3 = -s + y) = decide (2 = -(s + 1) + x ∧ 2 = -(s + 1) + y) from decide_eq_decide.2 (by omega)]
theorem gl_4k (s : Int) : ∀ k : Nat, gens 8 12 (gl s) (4 * k) = gl (s + k)
  | 0 => by rw [show s + ((0 : Nat) : Int) = s by omega]; rfl
  | k + 1 => by
    rw [show 4 * (k + 1) = 4 * k + 4 by omega, ← gens_add, gl_4k s k, gl_4, show s + ((k + 1 : Nat) : Int) = s + (k : Int) + 1 by omega]
theorem gl_gens (s : Int) (j : Nat) (h : 2 ≤ j) : gens 8 12 (gl s) (2 ^ j) = gl (s + (2 ^ (j - 2) : Nat)) := by
  rw [show 2 ^ j = 4 * 2 ^ (j - 2) by rw [show j = (j - 2) + 2 by omega, Nat.pow_add]; rw [show j - 2 + 2 - 2 = j - 2 by omega]; omega]
  exact gl_4k s _
/-- when a square of that level can be met -/
def TG (p n : Nat) (i : Int) : Prop := (n < p → Dv (n - 1) i) ∧ (p ≤ n → i = 0 ∨ i = ((2 ^ (p - 2) : Nat) : Int))
def GA (N p : Nat) (s : Int) : Nat → Pl → Int → Int → Prop := fun n P ox oy => n ≤ N ∧ Dv (n + 1) ox ∧ Dv (n + 1) oy ∧ ∃ i, P = gl (s + i) ∧ TG p n i
def GG (N p : Nat) (s : Int) : Nat → Pl → Int → Int → Nat → Prop := fun m P ox oy j => m + 1 ≤ N ∧ Dv (m + 2) ox ∧ Dv (m + 2) oy ∧ ∃ i, P = gl (s + i) ∧ ((j = p ∧ p ≤ m + 2 ∧ i = 0) ∨ (j = m + 2 ∧ m + 2 ≤ p ∧ Dv m i))
theorem gl_uni (N p : Nat) (hp : 2 ≤ p) (s : Int) : Uni 8 12 (GA N p s) (GG N p s) := by
  constructor
  · rintro m P ox oy j ⟨h1, h2, h3, i, rfl, h⟩
    refine ⟨by omega, (h2.le (by omega)).add (dv_pow _ _ (by omega)), (h3.le (by omega)).add (dv_pow _ _ (by omega)), i + (2 ^ (j - 2) : Nat), ?_, ?_⟩
    · rw [gl_gens _ j (by omega), Int.add_assoc]
    · rcases h with ⟨rfl, e2, rfl⟩ | ⟨rfl, e2, e3⟩
      · exact ⟨fun q => by rw [Int.zero_add]; exact dv_pow _ _ (by omega), fun q => .inr (by rw [Int.zero_add])⟩
      · exact ⟨fun q => (e3.le (by omega)).add (dv_pow _ _ (by omega)), fun q => by omega⟩
  · rintro m P ox oy u v ⟨h1, h2, h3, i, rfl, h⟩ _ _
    have hd : Dv m i ∧ m + 3 ≤ p := by
      rcases h with ⟨e1, e2, rfl⟩ | ⟨e1, e2, e3⟩
      · exact ⟨dv_zero _, by omega⟩
      · exact ⟨e3.le (by omega), by omega⟩
    exact ⟨⟨by omega, (h2.le (by omega)).add (dv_mul _ _ _ (by omega)), (h3.le (by omega)).add (dv_mul _ _ _ (by omega)), i, rfl, fun q => hd.1.le (by omega), fun q => by omega⟩, by omega, (h2.le (by omega)).add (dv_mul _ _ _ (by omega)), (h3.le (by omega)).add (dv_mul _ _ _ (by omega)), i, rfl, .inr ⟨rfl, by omega, hd.1⟩⟩
  · rintro m P ox oy u v ⟨h1, h2, h3, i, rfl, h⟩ _ _
    have hd : Dv m (i + (2 ^ m : Nat)) ∧ m + 3 ≤ p := by
      rcases h with ⟨e1, e2, rfl⟩ | ⟨e1, e2, e3⟩
      · exact ⟨(dv_zero _).add (dv_pow _ _ (by omega)), by omega⟩
      · exact ⟨(e3.le (by omega)).add (dv_pow _ _ (by omega)), by omega⟩
    have e : gens 8 12 (gl (s + i)) (2 ^ (m + 2)) = gl (s + (i + (2 ^ m : Nat))) := by rw [gl_gens _ _ (by omega), Int.add_assoc]; rfl
    exact ⟨⟨by omega, (h2.le (by omega)).add (dv_sum _ _ _ _ (by omega) (by omega)), (h3.le (by omega)).add (dv_sum _ _ _ _ (by omega) (by omega)), _, e, fun q => hd.1.le (by omega), fun q => by omega⟩, by omega, (h2.le (by omega)).add (dv_sum _ _ _ _ (by omega) (by omega)), (h3.le (by omega)).add (dv_sum _ _ _ _ (by omega) (by omega)), _, e, .inr ⟨rfl, by omega, hd.1⟩⟩
  · rintro m P ox oy j u v ⟨h1, h2, h3, i, rfl, h⟩ hj _ _
    have hi : i = 0 := by omega
    exact ⟨by omega, (h2.le (by omega)).add (dv_sum _ _ _ _ (by omega) (by omega)), (h3.le (by omega)).add (dv_sum _ _ _ _ (by omega) (by omega)), i, rfl, fun q => by rw [hi]; exact dv_zero _, fun q => .inl hi⟩
  · rintro m P ox oy j u v ⟨h1, h2, h3, i, rfl, h⟩ hj _ _
    have hi : j = p ∧ i = 0 := by omega
    exact ⟨⟨by omega, (h2.le (by omega)).add (dv_sum _ _ _ _ (by omega) (by omega)), (h3.le (by omega)).add (dv_sum _ _ _ _ (by omega) (by omega)), i, rfl, fun q => by rw [hi.2]; exact dv_zero _, fun q => .inl hi.2⟩, by omega, (h2.le (by omega)).add (dv_sum _ _ _ _ (by omega) (by omega)), (h3.le (by omega)).add (dv_sum _ _ _ _ (by omega) (by omega)), i, rfl, .inl ⟨hi.1, by omega, hi.2⟩⟩
/-- where in a square a glider can be -/
def ps (p n g : Nat) : Int := if n = 0 then (g : Int) - 2 else if n < p then 4 + ((2 ^ (n - 1) : Nat) : Int) * ((g : Int) - 6) else 4 + (if 5 ≤ g then ((2 ^ (p - 2) : Nat) : Int) else 0) + ((2 ^ (n + 1) : Nat) : Int) * ((g % 5 : Nat) - 1 : Int)
theorem ps_all {N p n : Nat} (hp : 2 ≤ p) (hn : n ≤ N) {i ox : Int} (ho : Dv (n + 1) ox) (ht : TG p n i) (a : Int) (ha : a = ((2 ^ (N + 1) : Nat) : Int) + 4 + i - ox) (h0 : -2 ≤ a) (h1 : a < ((2 ^ (n + 3) : Nat) : Int)) : ∃ g, g < 22 ∧ a = ps p n g := by
  unfold ps
  by_cases e0 : n = 0
  · subst e0
    have : 2 ^ (0 + 3) = 8 := rfl
    exact ⟨(a + 2).toNat, by omega, by rw [if_pos rfl]; omega⟩
  have hb : Dv (n + 1) (((2 ^ (N + 1) : Nat) : Int) - ox) := Int.dvd_sub (dv_pow _ _ (by omega)) ho
  by_cases e1 : n < p
  · have hd : Dv (n - 1) (((2 ^ (N + 1) : Nat) : Int) - ox + i) := (hb.le (by omega)).add (ht.1 e1)
    obtain ⟨t, ht⟩ := hd
    have e4 : 2 ^ (n + 3) = 16 * 2 ^ (n - 1) := by rw [show n + 3 = (n - 1) + 4 by omega, Nat.pow_add]; omega
    rw [e4] at h1
    have hq := Nat.two_pow_pos (n - 1)
    obtain ⟨q, hqq⟩ : ∃ q : Int, q = ((2 ^ (n - 1) : Nat) : Int) := ⟨_, rfl⟩
    rw [← hqq] at ht
    have hq1 : 1 ≤ q := by omega
    have t0 : -6 ≤ t := by
      rcases Int.lt_or_le t (-6) with h | h
      · have : q * t ≤ q * (-7) := Int.mul_le_mul_of_nonneg_left (by omega) (by omega)
        omega
      · exact h
    have t1 : t ≤ 15 := by
      rcases Int.lt_or_le 15 t with h | h
      · have : q * 16 ≤ q * t := Int.mul_le_mul_of_nonneg_left (by omega) (by omega)
        omega
      · exact h
    refine ⟨(t + 6).toNat, by omega, ?_⟩
    rw [if_neg e0, if_pos e1, show (((t + 6).toNat : Nat) : Int) - 6 = t by omega, ← hqq, ← ht]
    omega
  · obtain ⟨t, ht2⟩ := hb
    have e4 : 2 ^ (n + 3) = 4 * 2 ^ (n + 1) := by rw [show n + 3 = (n + 1) + 2 by omega, Nat.pow_add]; omega
    have e8 : 2 ^ (n + 1) = 8 * 2 ^ (n - 2) := by rw [show n + 1 = (n - 2) + 3 by omega, Nat.pow_add]; omega
    have le : 2 ^ (p - 2) ≤ 2 ^ (n - 2) := Nat.pow_le_pow_right (by decide) (by omega)
    have hq := Nat.two_pow_pos (n - 2)
    rw [e4] at h1
    obtain ⟨q, hqq⟩ : ∃ q : Int, q = ((2 ^ (n + 1) : Nat) : Int) := ⟨_, rfl⟩
    rw [← hqq] at ht2
    have hi := ht.2 (by omega)
    obtain ⟨f, hf⟩ : ∃ f : Int, f = ((2 ^ (p - 2) : Nat) : Int) := ⟨_, rfl⟩
    rw [← hf] at hi
    have hq1 : 8 ≤ q := by omega
    have hf0 := Nat.two_pow_pos (p - 2)
    have hf1 : 0 ≤ f ∧ 8 * f ≤ q := by omega
    have t0 : -1 ≤ t := by
      rcases Int.lt_or_le t (-1) with h | h
      · have : q * t ≤ q * (-2) := Int.mul_le_mul_of_nonneg_left (by omega) (by omega)
        omega
      · exact h
    have t1 : t ≤ 3 := by
      rcases Int.lt_or_le 3 t with h | h
      · have : q * 4 ≤ q * t := Int.mul_le_mul_of_nonneg_left (by omega) (by omega)
        omega
      · exact h
    rcases hi with hi | hi
    · refine ⟨(t + 1).toNat, by omega, ?_⟩
      rw [if_neg e0, if_neg e1, if_neg (by omega), show (((t + 1).toNat % 5 : Nat) : Int) - 1 = t by omega, ← hqq, ← ht2]
      omega
    · refine ⟨5 + (t + 1).toNat, by omega, ?_⟩
      rw [if_neg e0, if_neg e1, if_pos (by omega), show (((5 + (t + 1).toNat) % 5 : Nat) : Int) - 1 = t by omega, ← hqq, ← ht2, ← hf]
      omega
theorem gl_off {s x y : Int} (h : x < s ∨ s + 4 < x ∨ y < s ∨ s + 4 < y) : gl s x y = false := pls_off (l := g0) (by decide) (by omega)
theorem gl_off2 {s x y : Int} (h : x < s ∨ s + 2 < x ∨ y < s ∨ s + 2 < y) : gl s x y = false := by
  show pls g0 (-s + x) (-s + y) = false
  unfold pls g0
  simp only [List.any_cons, List.any_nil, Bool.or_false, Bool.or_eq_false_iff, decide_eq_false_iff_not]
  omega
/-- a code of a square: none in it, or where the glider is -/
def GP (N p : Nat) (M : List Sq) (k : Nat) (id : Int) : Prop := ∃ n, n ≤ N ∧ ((k = n * 485 ∧ Lv M n id ∧ ∀ x y, x < 2 ^ (n + 3) → y < 2 ^ (n + 3) → cel M n id x y = false) ∨
  ∃ ix iy : Nat, ix < 22 ∧ iy < 22 ∧ k = n * 485 + 1 + 22 * ix + iy ∧ Lv M n id ∧ ∀ x y : Nat, x < 2 ^ (n + 3) → y < 2 ^ (n + 3) → cel M n id x y = pls g0 ((x : Int) - ps p n ix) ((y : Int) - ps p n iy))
theorem gp_inj {N p : Nat} {M : List Sq} (hi : Inv M) (k : Nat) (x y : Int) (_ : Ok M x) (_ : Ok M y) (hx : GP N p M k x) (hy : GP N p M k y) : x = y := by
  obtain ⟨n, hn, h⟩ := hx
  obtain ⟨m, hm, g⟩ := hy
  rcases h with ⟨h1, h2, h3⟩ | ⟨ix, iy, h1, h2, h3, h4, h5⟩ <;> rcases g with ⟨g1, g2, g3⟩ | ⟨jx, jy, g1, g2, g3, g4, g5⟩
  · obtain rfl : n = m := by omega
    exact Qd.uniq hi n x y h2 g2 fun u v hu hv => by rw [h3 u v hu hv, g3 u v hu hv]
  · exfalso
    rcases Nat.lt_trichotomy n m with q | q | q <;> omega
  · exfalso
    rcases Nat.lt_trichotomy n m with q | q | q <;> omega
  · obtain rfl : n = m := by rcases Nat.lt_trichotomy n m with q | q | q <;> omega
    obtain rfl : ix = jx := by omega
    obtain rfl : iy = jy := by omega
    exact Qd.uniq hi n x y h4 g4 fun u v hu hv => by rw [h5 u v hu hv, g5 u v hu hv]
theorem gp_all {N p : Nat} (hp : 2 ≤ p) {L M : List Sq} (h : New (GA N p (((2 ^ (N + 1) : Nat) : Int) + 4)) L M) (id : Int) (ho : Ok M id) (hn : ¬ Ok L id) : ∃ k, k < (N + 1) * 485 ∧ GP N p M k id := by
  obtain ⟨n, P, ox, oy, ⟨hN, dx, dy, i, rfl, ht⟩, hw⟩ := h id ho hn
  have hb : ∀ r, r < 485 → n * 485 + r < (N + 1) * 485 := fun r hr => by
    have : n * 485 ≤ N * 485 := Nat.mul_le_mul_right _ hN
    rw [Nat.succ_mul]
    omega
  obtain ⟨a, ha⟩ : ∃ a : Int, a = ((2 ^ (N + 1) : Nat) : Int) + 4 + i - ox := ⟨_, rfl⟩
  obtain ⟨c, hc⟩ : ∃ c : Int, c = ((2 ^ (N + 1) : Nat) : Int) + 4 + i - oy := ⟨_, rfl⟩
  by_cases hin : (-2 ≤ a ∧ a < ((2 ^ (n + 3) : Nat) : Int)) ∧ (-2 ≤ c ∧ c < ((2 ^ (n + 3) : Nat) : Int))
  · obtain ⟨⟨a1, a2⟩, b1, b2⟩ := hin
    obtain ⟨g, g1, g2⟩ := ps_all hp hN dx ht a ha a1 a2
    obtain ⟨f, f1, f2⟩ := ps_all hp hN dy ht c hc b1 b2
    refine ⟨n * 485 + (1 + 22 * g + f), hb _ (by omega), n, hN, .inr ⟨g, f, g1, f1, by omega, hw.1, fun x y hx hy => ?_⟩⟩
    rw [hw.2 x y hx hy, ← g2, ← f2]
    show pls g0 _ _ = _
    congr 1 <;> omega
  · refine ⟨n * 485 + 0, hb 0 (by omega), n, hN, .inl ⟨by omega, hw.1, fun x y hx hy => ?_⟩⟩
    rw [hw.2 x y hx hy]
    refine gl_off2 ?_
    omega
theorem gl_len {N p : Nat} (hp : 2 ≤ p) {L M : List Sq} (hi : Inv M) (he : L <+: M) (h : New (GA N p (((2 ^ (N + 1) : Nat) : Int) + 4)) L M) : M.length ≤ L.length + (N + 1) * 485 :=
  count_new he _ (GP N p M) (fun id ho hn => gp_all hp h id ho hn) (gp_inj hi)
/-- a glider, cell by cell -/
def cx : Nat → Nat
  | 0 => 1
  | 1 => 2
  | 2 => 0
  | 3 => 1
  | _ => 2
def cy : Nat → Nat
  | 0 => 0
  | 1 => 1
  | _ => 2
def gq (s : Int) : Nat → Pl
  | 0 => zr
  | k + 1 => addP (gq s k) (s + cx k) (s + cy k)
theorem gq_5 (s : Int) : gq s 5 = gl s := by
  funext x y
  show _ = pls g0 (-s + x) (-s + y)
  unfold pls g0
  simp only [List.any_cons, List.any_nil]
  show addP (addP (addP (addP (addP zr (s + 1) (s + 0)) (s + 2) (s + 1)) (s + 0) (s + 2)) (s + 1) (s + 2)) (s + 2) (s + 2) x y = _
  unfold addP zr
  by_cases h1 : x = s + 2 ∧ y = s + 2
  · rw [if_pos h1, decide_eq_true (p := 2 = -s + x ∧ 2 = -s + y) (by omega)]; simp
  by_cases h2 : x = s + 1 ∧ y = s + 2
  · rw [if_neg h1, if_pos h2, decide_eq_true (p := 1 = -s + x ∧ 2 = -s + y) (by omega)]; simp
  by_cases h3 : x = s + 0 ∧ y = s + 2
  · rw [if_neg h1, if_neg h2, if_pos h3, decide_eq_true (p := 0 = -s + x ∧ 2 = -s + y) (by omega)]; simp
  by_cases h4 : x = s + 2 ∧ y = s + 1
  · rw [if_neg h1, if_neg h2, if_neg h3, if_pos h4, decide_eq_true (p := 2 = -s + x ∧ 1 = -s + y) (by omega)]; simp
  by_cases h5 : x = s + 1 ∧ y = s + 0
  · rw [if_neg h1, if_neg h2, if_neg h3, if_neg h4, if_pos h5, decide_eq_true (p := 1 = -s + x ∧ 0 = -s + y) (by omega)]; simp
  rw [if_neg h1, if_neg h2, if_neg h3, if_neg h4, if_neg h5, decide_eq_false (p := 1 = -s + x ∧ 0 = -s + y) (by omega), decide_eq_false (p := 2 = -s + x ∧ 1 = -s + y) (by omega), decide_eq_false (p := 0 = -s + x ∧ 2 = -s + y) (by omega), decide_eq_false (p := 1 = -s + x ∧ 2 = -s + y) (by omega), decide_eq_false (p := 2 = -s + x ∧ 2 = -s + y) (by omega)]
  rfl
theorem gl_cell (s : Int) (k : Nat) (h : k < 5) : gl s (s + cx k) (s + cy k) = true := by
  show pls g0 (-s + (s + _)) (-s + (s + _)) = true
  rw [show -s + (s + ((cx k : Nat) : Int)) = cx k by omega, show -s + (s + ((cy k : Nat) : Int)) = cy k by omega]
  have : ∀ k < 5, pls g0 (cx k) (cy k) = true := by decide
  exact this k h
theorem gl_fld (s ox oy : Int) (w : Nat) (h1 : ox ≤ s) (h2 : oy ≤ s) (h3 : s + 2 < ox + w) (h4 : s + 2 < oy + w) : fldC (gl s) ox oy w w = 5 := by
  rw [← gq_5]
  have n4 : gq s 4 (s + cx 4) (s + cy 4) = false := by
    show addP (addP (addP (addP zr (s + 1) (s + 0)) (s + 2) (s + 1)) (s + 0) (s + 2)) (s + 1) (s + 2) (s + 2) (s + 2) = false
    unfold addP zr
    rw [if_neg (by omega), if_neg (by omega), if_neg (by omega), if_neg (by omega)]
  have n3 : gq s 3 (s + cx 3) (s + cy 3) = false := by
    show addP (addP (addP zr (s + 1) (s + 0)) (s + 2) (s + 1)) (s + 0) (s + 2) (s + 1) (s + 2) = false
    unfold addP zr
    rw [if_neg (by omega), if_neg (by omega), if_neg (by omega)]
  have n2 : gq s 2 (s + cx 2) (s + cy 2) = false := by
    show addP (addP zr (s + 1) (s + 0)) (s + 2) (s + 1) (s + 0) (s + 2) = false
    unfold addP zr
    rw [if_neg (by omega), if_neg (by omega)]
  have n1 : gq s 1 (s + cx 1) (s + cy 1) = false := by
    show addP zr (s + 1) (s + 0) (s + 2) (s + 1) = false
    unfold addP zr
    rw [if_neg (by omega)]
  have cx2 : ∀ k < 5, cx k ≤ 2 ∧ cy k ≤ 2 := by decide
  have go : ∀ k, k < 5 → gq s k (s + cx k) (s + cy k) = false → fldC (gq s (k + 1)) ox oy w w = fldC (gq s k) ox oy w w + 1 := fun k hk hf => by
    have := cx2 k hk
    rw [show gq s (k + 1) = addP (gq s k) (s + cx k) (s + cy k) from rfl, fldC_put _ _ _ _ _ _ hf, if_pos (by omega)]
  rw [go 4 (by omega) n4, go 3 (by omega) n3, go 2 (by omega) n2, go 1 (by omega) n1, go 0 (by omega) rfl]
  have : fldC (gq s 0) ox oy w w = 0 := fldC_zero _ _ _ _ _ fun _ _ _ _ => rfl
  omega
/-- a glider is laid, so far -/
structure GlI (n s : Nat) (k : Nat) (L : List Sq) (id : Int) : Prop where
  inv : Inv L
  win : Wn L n id (gq s k) 0 0
  len : L.length ≤ (k + 1) * (n + 1)
theorem GlI.next {n s k : Nat} {L : List Sq} {id : Int} (h : GlI n s k L id) (hn : n ≤ 37) (hs : s + 2 < 2 ^ (n + 3)) (hk : k < 5) : GlI n s (k + 1) (setQ L n id (s + cx k) (s + cy k) true).1 (setQ L n id (s + cx k) (s + cy k) true).2 := by
  have cx2 : ∀ k < 5, cx k ≤ 2 ∧ cy k ≤ 2 := by decide
  have := cx2 k hk
  have so := Qd.set_ok h.inv n id (s + cx k) (s + cy k) true h.win.1 hn (by omega) (by omega)
  exact ⟨so.inv, set_wn h.inv hn h.win _ _ (by omega) (by omega), by have := so.len; have := h.len; rw [Nat.succ_mul]; omega⟩
/-- all that the statement asks -/
theorem glides {M p s : Nat} {L : List Sq} {id : Int} (hM : M ≤ 20) (hp : 2 ≤ p) (hpM : p ≤ M + 1) (es : s = 2 ^ (M + 2) + 4) (h : GlI (M + 1) s 5 L id) (hL : L.length ≤ 100) (A : GS × Int) (hA : A = growQ 8 12 M (L, fun _ _ => none) id p) :
    A.1.1.length ≤ 100 + (M + 2) * 485 ∧ Inv A.1.1 ∧ Lv A.1.1 M A.2 ∧ (at' A.1.1 A.2).cnt = 5 ∧ ∀ k, k < 5 → cel A.1.1 M A.2 (4 + 2 ^ (p - 2) + cx k) (4 + 2 ^ (p - 2) + cy k) = true := by
  have hw := h.win
  rw [gq_5] at hw
  have ra := grow_ok 8 12 M _ _ (gl_uni (M + 1) p hp (s : Int)) (L, fun _ _ => none) id p (gl s) 0 0 (gok_new 8 12 h.inv) (by omega) (by omega) hw ⟨by omega, dv_zero _, dv_zero _, 0, by rw [Int.add_zero], .inl ⟨rfl, by omega, rfl⟩⟩
  rw [← hA] at ra
  have le : 2 ^ (p - 2) ≤ 2 ^ M := Nat.pow_le_pow_right (by decide) (by omega)
  have e4 : 2 ^ (M + 2) = 4 * 2 ^ M := by rw [Nat.pow_add]; omega
  have e8 : 2 ^ (M + 3) = 8 * 2 ^ M := by rw [Nat.pow_add]; omega
  have h8 := Nat.two_pow_pos M
  have h9 := Nat.two_pow_pos (p - 2)
  have hwa := ra.win
  rw [gl_gens _ p hp] at hwa
  have esi : (s : Int) = ((2 ^ (M + 1 + 1) : Nat) : Int) + 4 := by rw [es]; omega
  have ln : A.1.1.length ≤ L.length + (M + 1 + 1) * 485 := gl_len hp ra.ok.inv ra.ext (by rw [← esi]; exact ra.new)
  refine ⟨by omega, ra.ok.inv, hwa.1, ?_, fun k hk => ?_⟩
  · rw [cnt_wn ra.ok.inv M A.2 _ _ _ (by omega) hwa, gl_fld _ _ _ _ (by omega) (by omega) (by omega) (by omega)]
    rfl
  · have cx2 : ∀ k < 5, cx k ≤ 2 ∧ cy k ≤ 2 := by decide
    have := cx2 k hk
    have h1 := gl_cell ((s : Int) + (2 ^ (p - 2) : Nat)) k hk
    rw [hwa.2 _ _ (by omega) (by omega), ← h1]
    congr 1 <;> omega
end Go.Proofs.Ytgimphkamjojpaa.Qd

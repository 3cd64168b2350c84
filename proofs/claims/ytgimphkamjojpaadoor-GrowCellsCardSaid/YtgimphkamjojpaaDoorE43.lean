/-
  HOW MANY CELLS A WINDOW HAS, AS PLAIN DATA; a cell more; how many squares there can be. Conditions: those that each lemma names.
-/
import Derived.Test.YtgimphkamjojpaaDoorE39
namespace Go.Proofs.YtgimphkamjojpaaDoor.Qd
open Ti Ru

def rowC (f : Int → Bool) (o : Int) : Nat → Nat
  | 0 => 0
  | k + 1 => rowC f o k + (f (o + k)).toNat
def fldC (p : Pl) (ox oy : Int) (w : Nat) : Nat → Nat
  | 0 => 0
  | k + 1 => fldC p ox oy w k + rowC (fun x => p x (oy + k)) ox w
theorem rowC_add (f : Int → Bool) (o : Int) (a : Nat) : ∀ b, rowC f o (a + b) = rowC f o a + rowC f (o + a) b
  | 0 => rfl
  | b + 1 => by
    show rowC f o (a + b) + (f (o + ((a + b : Nat) : Int))).toNat = rowC f o a + (rowC f (o + a) b + (f (o + a + b)).toNat)
    rw [rowC_add f o a b, show o + ((a + b : Nat) : Int) = o + a + b by omega]
    omega
theorem fldC_addh (p : Pl) (ox oy : Int) (w a : Nat) : ∀ b, fldC p ox oy w (a + b) = fldC p ox oy w a + fldC p ox (oy + a) w b
  | 0 => rfl
  | b + 1 => by
    show fldC p ox oy w (a + b) + rowC (fun x => p x (oy + ((a + b : Nat) : Int))) ox w = fldC p ox oy w a + (fldC p ox (oy + a) w b + rowC (fun x => p x (oy + a + b)) ox w)
    rw [fldC_addh p ox oy w a b, show oy + ((a + b : Nat) : Int) = oy + a + b by omega]
    omega
theorem fldC_addw (p : Pl) (ox oy : Int) (a b : Nat) : ∀ h, fldC p ox oy (a + b) h = fldC p ox oy a h + fldC p (ox + a) oy b h
  | 0 => rfl
  | h + 1 => by
    show fldC p ox oy (a + b) h + rowC (fun x => p x (oy + h)) ox (a + b) = fldC p ox oy a h + rowC (fun x => p x (oy + h)) ox a + (fldC p (ox + a) oy b h + rowC (fun x => p x (oy + h)) (ox + a) b)
    rw [fldC_addw p ox oy a b h, rowC_add]
    omega
theorem rowC_le (f : Int → Bool) (o : Int) : ∀ k, rowC f o k ≤ k
  | 0 => Nat.le_refl _
  | k + 1 => by
    have := rowC_le f o k
    have : (f (o + k)).toNat ≤ 1 := by cases f (o + k) <;> decide
    show rowC f o k + (f (o + k)).toNat ≤ k + 1
    omega
theorem fldC_le (p : Pl) (ox oy : Int) (w : Nat) : ∀ h, fldC p ox oy w h ≤ w * h
  | 0 => Nat.le_refl _
  | h + 1 => by
    have := fldC_le p ox oy w h
    have := rowC_le (fun x => p x (oy + h)) ox w
    show fldC p ox oy w h + rowC (fun x => p x (oy + h)) ox w ≤ w * (h + 1)
    rw [Nat.mul_succ]
    omega
theorem rowC_ext {f g : Int → Bool} {o u : Int} : ∀ k : Nat, (∀ i : Nat, i < k → f (o + i) = g (u + i)) → rowC f o k = rowC g u k
  | 0, _ => rfl
  | k + 1, h => by
    show rowC f o k + (f (o + k)).toNat = rowC g u k + (g (u + k)).toNat
    rw [rowC_ext k fun i hi => h i (by omega), h k (by omega)]
theorem fldC_ext {p q : Pl} {ox oy ux uy : Int} {w : Nat} : ∀ h : Nat, (∀ i j : Nat, i < w → j < h → p (ox + i) (oy + j) = q (ux + i) (uy + j)) → fldC p ox oy w h = fldC q ux uy w h
  | 0, _ => rfl
  | k + 1, h => by
    show fldC p ox oy w k + rowC (fun x => p x (oy + k)) ox w = fldC q ux uy w k + rowC (fun x => q x (uy + k)) ux w
    rw [fldC_ext k fun i j hi hj => h i j hi (by omega), rowC_ext (f := fun x => p x (oy + k)) (g := fun x => q x (uy + k)) (o := ox) (u := ux) w fun i hi => h i k hi (by omega)]
theorem rowC_zero (f : Int → Bool) (o : Int) : ∀ k : Nat, (∀ i : Nat, i < k → f (o + i) = false) → rowC f o k = 0
  | 0, _ => rfl
  | k + 1, h => by
    show rowC f o k + (f (o + k)).toNat = 0
    rw [rowC_zero f o k fun i hi => h i (by omega), h k (by omega)]
    rfl
theorem fldC_zero (p : Pl) (ox oy : Int) (w : Nat) : ∀ h : Nat, (∀ i j : Nat, i < w → j < h → p (ox + i) (oy + j) = false) → fldC p ox oy w h = 0
  | 0, _ => rfl
  | k + 1, h => by
    show fldC p ox oy w k + rowC (fun x => p x (oy + k)) ox w = 0
    rw [fldC_zero p ox oy w k fun i j hi hj => h i j hi (by omega), rowC_zero _ _ w fun i hi => h i k hi (by omega)]
/-- one cell more -/
def addP (p : Pl) (a c : Int) : Pl := fun x y => if x = a ∧ y = c then true else p x y
theorem rowC_put (f g : Int → Bool) (o a : Int) (hf : f a = false) (hg : ∀ x, g x = if x = a then true else f x) : ∀ k : Nat, rowC g o k = rowC f o k + (if o ≤ a ∧ a < o + k then 1 else 0)
  | 0 => by
    show 0 = 0 + _
    rw [if_neg (by omega)]
  | k + 1 => by
    show rowC g o k + (g (o + k)).toNat = rowC f o k + (f (o + k)).toNat + _
    rw [rowC_put f g o a hf hg k, hg]
    by_cases e : o + (k : Int) = a
    · rw [if_pos e, if_neg (by omega), if_pos (by omega), e, hf]
      rfl
    · rw [if_neg e]
      by_cases h : o ≤ a ∧ a < o + (k : Int)
      · rw [if_pos h, if_pos (by omega)]; omega
      · rw [if_neg h, if_neg (by omega)]; omega
theorem fldC_put (p : Pl) (a c ox oy : Int) (w : Nat) (hp : p a c = false) : ∀ h : Nat, fldC (addP p a c) ox oy w h = fldC p ox oy w h + (if (ox ≤ a ∧ a < ox + w) ∧ oy ≤ c ∧ c < oy + h then 1 else 0)
  | 0 => by
    show 0 = 0 + _
    rw [if_neg (by omega)]
  | h + 1 => by
    show fldC (addP p a c) ox oy w h + rowC (fun x => addP p a c x (oy + h)) ox w = fldC p ox oy w h + rowC (fun x => p x (oy + h)) ox w + _
    rw [fldC_put p a c ox oy w hp h]
    by_cases e : oy + (h : Int) = c
    · rw [rowC_put (fun x => p x (oy + h)) (fun x => addP p a c x (oy + h)) ox a (by rw [e]; exact hp) (fun x => by
        show (if x = a ∧ oy + (h : Int) = c then true else p x (oy + h)) = _
        by_cases q : x = a
        · rw [if_pos ⟨q, e⟩, if_pos q]
        · rw [if_neg (fun k => q k.1), if_neg q]) w]
      rw [if_neg (by omega)]
      by_cases q : ox ≤ a ∧ a < ox + (w : Int)
      · rw [if_pos q, if_pos (by omega)]; omega
      · rw [if_neg q, if_neg (by omega)]; omega
    · rw [rowC_ext (f := fun x => addP p a c x (oy + h)) (g := fun x => p x (oy + h)) (o := ox) (u := ox) w (fun i _ => if_neg (fun k => e k.2))]
      by_cases q : (ox ≤ a ∧ a < ox + (w : Int)) ∧ oy ≤ c ∧ c < oy + (h : Int)
      · rw [if_pos q, if_pos (by omega)]; omega
      · rw [if_neg q, if_neg (by omega)]; omega
theorem pcN_row (t : T6) (f : Int → Bool) (o : Int) (b : Nat) : ∀ k, (∀ i, i < k → t.getLsbD (b + i) = f (o + i)) → pcN t.toNat (b + k) = pcN t.toNat b + rowC f o k
  | 0, _ => rfl
  | k + 1, h => by
    show pcN t.toNat (b + k + 1) = _
    rw [pcN_succ, pcN_row t f o b k fun i hi => h i (by omega), h k (by omega)]
    show _ = pcN t.toNat b + (rowC f o k + (f (o + k)).toNat)
    omega
theorem pcN_fld (t : T6) (p : Pl) (ox oy : Int) : ∀ k, k ≤ 8 → (∀ x y : Nat, x < 8 → y < k → t.getLsbD (8 * y + x) = p (ox + x) (oy + y)) → pcN t.toNat (8 * k) = fldC p ox oy 8 k
  | 0, _, _ => rfl
  | k + 1, hk, h => by
    rw [show 8 * (k + 1) = 8 * k + 8 by omega, pcN_row t (fun x => p x (oy + k)) ox (8 * k) 8 fun i hi => h i k hi (by omega), pcN_fld t p ox oy k (by omega) fun x y hx hy => h x y hx (by omega)]
    rfl
theorem cnt4_sum {a b c d : Nat} (h : a + b + c + d ≤ 4611686018427387904) : cnt4 a b c d = ((a + b + c + d : Nat) : Int) := by
  unfold cnt4 sat
  omega
theorem sq_le {n : Nat} (hn : n ≤ 27) : 2 ^ (n + 3) * 2 ^ (n + 3) ≤ 4611686018427387904 := by
  rw [← Nat.pow_add]
  calc 2 ^ (n + 3 + (n + 3)) ≤ 2 ^ 62 := Nat.pow_le_pow_right (by decide) (by omega)
    _ = 4611686018427387904 := by decide
/-- how many cells a square has -/
theorem cnt_wn {L : List Sq} (hi : Inv L) : ∀ (n : Nat) (id : Int) (p : Pl) (ox oy : Int), n ≤ 27 → Wn L n id p ox oy → (at' L id).cnt = (fldC p ox oy (2 ^ (n + 3)) (2 ^ (n + 3)) : Nat)
  | 0, id, p, ox, oy, _, h => by
    rw [hi.isLeaf h.1]
    show ((liv (at' L id).til : Nat) : Int) = _
    unfold liv
    have h1 := pcN_fld (at' L id).til p ox oy 8 (Nat.le_refl _) fun x y hx hy => h.2 x y hx hy
    exact congrArg (fun a : Nat => (a : Int)) h1
  | n + 1, id, p, ox, oy, hn, h => by
    have hn2 := hi.node h.1
    have e : (at' L id).cnt = cnt4 _ _ _ _ := congrArg Sq.cnt hn2.eq
    have k := fun i h4 => cnt_wn hi n _ p _ _ (by omega) (h.kid hi i h4)
    have k0 : (at' L (at' L id).k0).cnt = _ := k 0 (by decide)
    have k1 : (at' L (at' L id).k1).cnt = _ := k 1 (by decide)
    have k2 : (at' L (at' L id).k2).cnt = _ := k 2 (by decide)
    have k3 : (at' L (at' L id).k3).cnt = _ := k 3 (by decide)
    have hs := sq_le hn
    have hle := fldC_le p ox oy (2 ^ (n + 1 + 3)) (2 ^ (n + 1 + 3))
    rw [e, k0, k1, k2, k3]
    rw [pow3 n] at hs hle ⊢
    generalize 2 ^ (n + 3) = w at *
    have sp : fldC p ox oy (2 * w) (2 * w) = fldC p (ox + (0 % 2 * w : Nat)) (oy + (0 / 2 * w : Nat)) w w + fldC p (ox + (1 % 2 * w : Nat)) (oy + (1 / 2 * w : Nat)) w w + fldC p (ox + (2 % 2 * w : Nat)) (oy + (2 / 2 * w : Nat)) w w + fldC p (ox + (3 % 2 * w : Nat)) (oy + (3 / 2 * w : Nat)) w w := by
      rw [show 2 * w = w + w by omega, fldC_addh, fldC_addw, fldC_addw]
      have z : ∀ c : Int, c + ((0 * w : Nat) : Int) = c := fun c => by omega
      have o : ∀ c : Int, c + ((1 * w : Nat) : Int) = c + w := fun c => by omega
      show _ = fldC p (ox + (0 * w : Nat)) (oy + (0 * w : Nat)) w w + fldC p (ox + (1 * w : Nat)) (oy + (0 * w : Nat)) w w + fldC p (ox + (0 * w : Nat)) (oy + (1 * w : Nat)) w w + fldC p (ox + (1 * w : Nat)) (oy + (1 * w : Nat)) w w
      simp only [z, o]
      omega
    rw [cnt4_sum (by rw [← sp]; omega), sp]
theorem pigN : ∀ (n : Nat) (l : List Nat), l.Nodup → (∀ x ∈ l, x < n) → l.length ≤ n
  | 0, l, _, h => by
    cases l with
    | nil => exact Nat.le_refl _
    | cons a t => exact absurd (h a (by simp)) (by omega)
  | n + 1, l, hd, h => by
    have h1 := pigN n (l.erase n) (hd.erase n) fun x hx => by
      have h2 := (List.Nodup.mem_erase_iff hd).1 hx
      have := h x h2.2
      have := h2.1
      omega
    by_cases hm : n ∈ l
    · rw [List.length_erase_of_mem hm] at h1
      omega
    · rw [List.erase_of_not_mem hm] at h1
      omega
/-- as many new squares as there are codes, at most -/
theorem count_new {L M : List Sq} (he : L <+: M) (N : Nat) (P : Nat → Int → Prop) (hP : ∀ id, Ok M id → ¬ Ok L id → ∃ c, c < N ∧ P c id) (inj : ∀ c a b, Ok M a → Ok M b → P c a → P c b → a = b) : M.length ≤ L.length + N := by
  have hl := he.length_le
  have hc : ∀ i, ∃ c, (i < M.length - L.length → c < N ∧ P c ((L.length + 1 + i : Nat) : Int)) := fun i => by
    by_cases h : i < M.length - L.length
    · obtain ⟨c, h1, h2⟩ := hP ((L.length + 1 + i : Nat) : Int) (by unfold Ok; omega) (by unfold Ok; omega)
      exact ⟨c, fun _ => ⟨h1, h2⟩⟩
    · exact ⟨0, fun k => absurd k h⟩
  have key := pigN N ((List.range (M.length - L.length)).map fun i => Classical.choose (hc i)) (by
    refine List.Pairwise.map _ (fun a b h => h) ?_
    refine List.Pairwise.imp_of_mem (R := fun a b => a ≠ b) ?_ (List.nodup_range)
    intro a b ha hb hne e
    have h1 := Classical.choose_spec (hc a) (List.mem_range.1 ha)
    have h2 := Classical.choose_spec (hc b) (List.mem_range.1 hb)
    rw [e] at h1
    have := inj _ _ _ (by have := List.mem_range.1 ha; unfold Ok; omega) (by have := List.mem_range.1 hb; unfold Ok; omega) h1.2 h2.2
    omega) (fun x hx => by
    obtain ⟨i, hi, rfl⟩ := List.mem_map.1 hx
    exact (Classical.choose_spec (hc i) (List.mem_range.1 hi)).1)
  rw [List.length_map, List.length_range] at key
  omega
end Go.Proofs.YtgimphkamjojpaaDoor.Qd

/-
  HOW MANY CELLS A WINDOW HAS, AS PLAIN DATA; a cell more; how many squares there can be. Conditions: those that each lemma names.
  A BLOCK STAYS, AS PLAIN DATA; what is remembered; a square made wide, its middle, and how it goes on. Conditions: those that each lemma names.
-/
import Derived.Test.YtlejohclijjhnaaGreatDoorL05
namespace Go.Proofs.YtlejohclijjhnaaGreatDoor.Qd
open Ti Ru

def rowC (f : Int → Bool) (o : Int) : Nat → Nat
  | 0 => 0
  | k + 1 => rowC f o k + (f (o + k)).toNat
def fldC (p : Pl) (ox oy : Int) (w : Nat) : Nat → Nat
  | 0 => 0
  | k + 1 => fldC p ox oy w k + rowC (fun x => p x (oy + k)) ox w
theorem rowC_add (f : Int → Bool) (o : Int) (a : Nat) : ∀ b, rowC f o (a + b) = rowC f o a + rowC f (o + a) b
  | 0 => rfl
  | b + 1 => by
    show rowC f o (a + b) + (f (o + ((a + b : Nat) : Int))).toNat = rowC f o a + (rowC f (o + a) b + (f (o + a + b)).toNat)
    rw [rowC_add f o a b, show o + ((a + b : Nat) : Int) = o + a + b by omega]
    omega
theorem fldC_addh (p : Pl) (ox oy : Int) (w a : Nat) : ∀ b, fldC p ox oy w (a + b) = fldC p ox oy w a + fldC p ox (oy + a) w b
  | 0 => rfl
  | b + 1 => by
    show fldC p ox oy w (a + b) + rowC (fun x => p x (oy + ((a + b : Nat) : Int))) ox w = fldC p ox oy w a + (fldC p ox (oy + a) w b + rowC (fun x => p x (oy + a + b)) ox w)
    rw [fldC_addh p ox oy w a b, show oy + ((a + b : Nat) : Int) = oy + a + b by omega]
    omega
theorem fldC_addw (p : Pl) (ox oy : Int) (a b : Nat) : ∀ h, fldC p ox oy (a + b) h = fldC p ox oy a h + fldC p (ox + a) oy b h
  | 0 => rfl
  | h + 1 => by
    show fldC p ox oy (a + b) h + rowC (fun x => p x (oy + h)) ox (a + b) = fldC p ox oy a h + rowC (fun x => p x (oy + h)) ox a + (fldC p (ox + a) oy b h + rowC (fun x => p x (oy + h)) (ox + a) b)
    rw [fldC_addw p ox oy a b h, rowC_add]
    omega
theorem rowC_le (f : Int → Bool) (o : Int) : ∀ k, rowC f o k ≤ k
  | 0 => Nat.le_refl _
  | k + 1 => by
    have := rowC_le f o k
    have : (f (o + k)).toNat ≤ 1 := by cases f (o + k) <;> decide
    show rowC f o k + (f (o + k)).toNat ≤ k + 1
    omega
theorem fldC_le (p : Pl) (ox oy : Int) (w : Nat) : ∀ h, fldC p ox oy w h ≤ w * h
  | 0 => Nat.le_refl _
  | h + 1 => by
    have := fldC_le p ox oy w h
    have := rowC_le (fun x => p x (oy + h)) ox w
    show fldC p ox oy w h + rowC (fun x => p x (oy + h)) ox w ≤ w * (h + 1)
    rw [Nat.mul_succ]
    omega
theorem rowC_ext {f g : Int → Bool} {o u : Int} : ∀ k : Nat, (∀ i : Nat, i < k → f (o + i) = g (u + i)) → rowC f o k = rowC g u k
  | 0, _ => rfl
  | k + 1, h => by
    show rowC f o k + (f (o + k)).toNat = rowC g u k + (g (u + k)).toNat
    rw [rowC_ext k fun i hi => h i (by omega), h k (by omega)]
theorem fldC_ext {p q : Pl} {ox oy ux uy : Int} {w : Nat} : ∀ h : Nat, (∀ i j : Nat, i < w → j < h → p (ox + i) (oy + j) = q (ux + i) (uy + j)) → fldC p ox oy w h = fldC q ux uy w h
  | 0, _ => rfl
  | k + 1, h => by
    show fldC p ox oy w k + rowC (fun x => p x (oy + k)) ox w = fldC q ux uy w k + rowC (fun x => q x (uy + k)) ux w
    rw [fldC_ext k fun i j hi hj => h i j hi (by omega), rowC_ext (f := fun x => p x (oy + k)) (g := fun x => q x (uy + k)) (o := ox) (u := ux) w fun i hi => h i k hi (by omega)]
theorem rowC_zero (f : Int → Bool) (o : Int) : ∀ k : Nat, (∀ i : Nat, i < k → f (o + i) = false) → rowC f o k = 0
  | 0, _ => rfl
  | k + 1, h => by
    show rowC f o k + (f (o + k)).toNat = 0
    rw [rowC_zero f o k fun i hi => h i (by omega), h k (by omega)]
    rfl
theorem fldC_zero (p : Pl) (ox oy : Int) (w : Nat) : ∀ h : Nat, (∀ i j : Nat, i < w → j < h → p (ox + i) (oy + j) = false) → fldC p ox oy w h = 0
  | 0, _ => rfl
  | k + 1, h => by
    show fldC p ox oy w k + rowC (fun x => p x (oy + k)) ox w = 0
    rw [fldC_zero p ox oy w k fun i j hi hj => h i j hi (by omega), rowC_zero _ _ w fun i hi => h i k hi (by omega)]
/-- one cell more -/
def addP (p : Pl) (a c : Int) : Pl := fun x y => if x = a ∧ y = c then true else p x y
theorem rowC_put (f g : Int → Bool) (o a : Int) (hf : f a = false) (hg : ∀ x, g x = if x = a then true else f x) : ∀ k : Nat, rowC g o k = rowC f o k + (if o ≤ a ∧ a < o + k then 1 else 0)
  | 0 => by
    show 0 = 0 + _
    rw [if_neg (by omega)]
  | k + 1 => by
    show rowC g o k + (g (o + k)).toNat = rowC f o k + (f (o + k)).toNat + _
    rw [rowC_put f g o a hf hg k, hg]
    by_cases e : o + (k : Int) = a
    · rw [if_pos e, if_neg (by omega), if_pos (by omega), e, hf]
      rfl
    · rw [if_neg e]
      by_cases h : o ≤ a ∧ a < o + (k : Int)
      · rw [if_pos h, if_pos (by omega)]; omega
      · rw [if_neg h, if_neg (by omega)]; omega
theorem fldC_put (p : Pl) (a c ox oy : Int) (w : Nat) (hp : p a c = false) : ∀ h : Nat, fldC (addP p a c) ox oy w h = fldC p ox oy w h + (if (ox ≤ a ∧ a < ox + w) ∧ oy ≤ c ∧ c < oy + h then 1 else 0)
  | 0 => by
    show 0 = 0 + _
    rw [if_neg (by omega)]
  | h + 1 => by
    show fldC (addP p a c) ox oy w h + rowC (fun x => addP p a c x (oy + h)) ox w = fldC p ox oy w h + rowC (fun x => p x (oy + h)) ox w + _
    rw [fldC_put p a c ox oy w hp h]
    by_cases e : oy + (h : Int) = c
    · rw [rowC_put (fun x => p x (oy + h)) (fun x => addP p a c x (oy + h)) ox a (by rw [e]; exact hp) (fun x => by
        show (if x = a ∧ oy + (h : Int) = c then true else p x (oy + h)) = _
        by_cases q : x = a
        · rw [if_pos ⟨q, e⟩, if_pos q]
        · rw [if_neg (fun k => q k.1), if_neg q]) w]
      rw [if_neg (by omega)]
      by_cases q : ox ≤ a ∧ a < ox + (w : Int)
      · rw [if_pos q, if_pos (by omega)]; omega
      · rw [if_neg q, if_neg (by omega)]; omega
    · rw [rowC_ext (f := fun x => addP p a c x (oy + h)) (g := fun x => p x (oy + h)) (o := ox) (u := ox) w (fun i _ => if_neg (fun k => e k.2))]
      by_cases q : (ox ≤ a ∧ a < ox + (w : Int)) ∧ oy ≤ c ∧ c < oy + (h : Int)
      · rw [if_pos q, if_pos (by omega)]; omega
      · rw [if_neg q, if_neg (by omega)]; omega
theorem pcN_row (t : T6) (f : Int → Bool) (o : Int) (b : Nat) : ∀ k, (∀ i, i < k → t.getLsbD (b + i) = f (o + i)) → pcN t.toNat (b + k) = pcN t.toNat b + rowC f o k
  | 0, _ => rfl
  | k + 1, h => by
    show pcN t.toNat (b + k + 1) = _
    rw [pcN_succ, pcN_row t f o b k fun i hi => h i (by omega), h k (by omega)]
    show _ = pcN t.toNat b + (rowC f o k + (f (o + k)).toNat)
    omega
theorem pcN_fld (t : T6) (p : Pl) (ox oy : Int) : ∀ k, k ≤ 8 → (∀ x y : Nat, x < 8 → y < k → t.getLsbD (8 * y + x) = p (ox + x) (oy + y)) → pcN t.toNat (8 * k) = fldC p ox oy 8 k
  | 0, _, _ => rfl
  | k + 1, hk, h => by
    rw [show 8 * (k + 1) = 8 * k + 8 by omega, pcN_row t (fun x => p x (oy + k)) ox (8 * k) 8 fun i hi => h i k hi (by omega), pcN_fld t p ox oy k (by omega) fun x y hx hy => h x y hx (by omega)]
    rfl
theorem cnt4_sum {a b c d : Nat} (h : a + b + c + d ≤ 4611686018427387904) : cnt4 a b c d = ((a + b + c + d : Nat) : Int) := by
  unfold cnt4 sat
  omega
theorem sq_le {n : Nat} (hn : n ≤ 27) : 2 ^ (n + 3) * 2 ^ (n + 3) ≤ 4611686018427387904 := by
  rw [← Nat.pow_add]
  calc 2 ^ (n + 3 + (n + 3)) ≤ 2 ^ 62 := Nat.pow_le_pow_right (by decide) (by omega)
    _ = 4611686018427387904 := by decide
/-- how many cells a square has -/
theorem cnt_wn {L : List Sq} (hi : Inv L) : ∀ (n : Nat) (id : Int) (p : Pl) (ox oy : Int), n ≤ 27 → Wn L n id p ox oy → (at' L id).cnt = (fldC p ox oy (2 ^ (n + 3)) (2 ^ (n + 3)) : Nat)
  | 0, id, p, ox, oy, _, h => by
    rw [hi.isLeaf h.1]
    show ((liv (at' L id).til : Nat) : Int) = _
    unfold liv
    have h1 := pcN_fld (at' L id).til p ox oy 8 (Nat.le_refl _) fun x y hx hy => h.2 x y hx hy
    exact congrArg (fun a : Nat => (a : Int)) h1
  | n + 1, id, p, ox, oy, hn, h => by
    have hn2 := hi.node h.1
    have e : (at' L id).cnt = cnt4 _ _ _ _ := congrArg Sq.cnt hn2.eq
    have k := fun i h4 => cnt_wn hi n _ p _ _ (by omega) (h.kid hi i h4)
    have k0 : (at' L (at' L id).k0).cnt = _ := k 0 (by decide)
    have k1 : (at' L (at' L id).k1).cnt = _ := k 1 (by decide)
    have k2 : (at' L (at' L id).k2).cnt = _ := k 2 (by decide)
    have k3 : (at' L (at' L id).k3).cnt = _ := k 3 (by decide)
    have hs := sq_le hn
    have hle := fldC_le p ox oy (2 ^ (n + 1 + 3)) (2 ^ (n + 1 + 3))
    rw [e, k0, k1, k2, k3]
    rw [pow3 n] at hs hle ⊢
    generalize 2 ^ (n + 3) = w at *
    have sp : fldC p ox oy (2 * w) (2 * w) = fldC p (ox + (0 % 2 * w : Nat)) (oy + (0 / 2 * w : Nat)) w w + fldC p (ox + (1 % 2 * w : Nat)) (oy + (1 / 2 * w : Nat)) w w + fldC p (ox + (2 % 2 * w : Nat)) (oy + (2 / 2 * w : Nat)) w w + fldC p (ox + (3 % 2 * w : Nat)) (oy + (3 / 2 * w : Nat)) w w := by
      rw [show 2 * w = w + w by omega, fldC_addh, fldC_addw, fldC_addw]
      have z : ∀ c : Int, c + ((0 * w : Nat) : Int) = c := fun c => by omega
      have o : ∀ c : Int, c + ((1 * w : Nat) : Int) = c + w := fun c => by omega
      show _ = fldC p (ox + (0 * w : Nat)) (oy + (0 * w : Nat)) w w + fldC p (ox + (1 * w : Nat)) (oy + (0 * w : Nat)) w w + fldC p (ox + (0 * w : Nat)) (oy + (1 * w : Nat)) w w + fldC p (ox + (1 * w : Nat)) (oy + (1 * w : Nat)) w w
      simp only [z, o]
      omega
    rw [cnt4_sum (by rw [← sp]; omega), sp]
theorem pigN : ∀ (n : Nat) (l : List Nat), l.Nodup → (∀ x ∈ l, x < n) → l.length ≤ n
  | 0, l, _, h => by
    cases l with
    | nil => exact Nat.le_refl _
    | cons a t => exact absurd (h a (by simp)) (by omega)
  | n + 1, l, hd, h => by
    have h1 := pigN n (l.erase n) (hd.erase n) fun x hx => by
      have h2 := (List.Nodup.mem_erase_iff hd).1 hx
      have := h x h2.2
      have := h2.1
      omega
    by_cases hm : n ∈ l
    · rw [List.length_erase_of_mem hm] at h1
      omega
    · rw [List.erase_of_not_mem hm] at h1
      omega
/-- as many new squares as there are codes, at most -/
theorem count_new {L M : List Sq} (he : L <+: M) (N : Nat) (P : Nat → Int → Prop) (hP : ∀ id, Ok M id → ¬ Ok L id → ∃ c, c < N ∧ P c id) (inj : ∀ c a b, Ok M a → Ok M b → P c a → P c b → a = b) : M.length ≤ L.length + N := by
  have hl := he.length_le
  have hc : ∀ i, ∃ c, (i < M.length - L.length → c < N ∧ P c ((L.length + 1 + i : Nat) : Int)) := fun i => by
    by_cases h : i < M.length - L.length
    · obtain ⟨c, h1, h2⟩ := hP ((L.length + 1 + i : Nat) : Int) (by unfold Ok; omega) (by unfold Ok; omega)
      exact ⟨c, fun _ => ⟨h1, h2⟩⟩
    · exact ⟨0, fun k => absurd k h⟩
  have key := pigN N ((List.range (M.length - L.length)).map fun i => Classical.choose (hc i)) (by
    refine List.Pairwise.map _ (fun a b h => h) ?_
    refine List.Pairwise.imp_of_mem (R := fun a b => a ≠ b) ?_ (List.nodup_range)
    intro a b ha hb hne e
    have h1 := Classical.choose_spec (hc a) (List.mem_range.1 ha)
    have h2 := Classical.choose_spec (hc b) (List.mem_range.1 hb)
    rw [e] at h1
    have := inj _ _ _ (by have := List.mem_range.1 ha; unfold Ok; omega) (by have := List.mem_range.1 hb; unfold Ok; omega) h1.2 h2.2
    omega) (fun x hx => by
    obtain ⟨i, hi, rfl⟩ := List.mem_map.1 hx
    exact (Classical.choose_spec (hc i) (List.mem_range.1 hi)).1)
  rw [List.length_map, List.length_range] at key
  omega
end Go.Proofs.YtlejohclijjhnaaGreatDoor.Qd
namespace Go.Proofs.YtlejohclijjhnaaGreatDoor.Qd
open Ti Ru

/-- a block, wherever -/
def blk (a c : Int) : Pl := fun x y => decide (a ≤ x ∧ x ≤ a + 1 ∧ c ≤ y ∧ y ≤ c + 1)
theorem blk_shift (a c : Int) : blk a c = fun x y => blk 0 0 (-a + x) (-c + y) := by
  funext x y
  unfold blk
  rw [decide_eq_decide]
  omega
theorem blk_off {x y : Int} (h : x < 0 ∨ 1 < x ∨ y < 0 ∨ 1 < y) : blk 0 0 x y = false := decide_eq_false (by omega)
theorem nx_dead : nx 8 12 false 0 = false := by decide
theorem blk_near : ∀ u < 6, ∀ v < 6, gen 8 12 (blk 0 0) ((u : Nat) - 2 : Int) ((v : Nat) - 2 : Int) = blk 0 0 ((u : Nat) - 2 : Int) ((v : Nat) - 2 : Int) := by decide +kernel
theorem blk_00 : gen 8 12 (blk 0 0) = blk 0 0 := by
  funext x y
  by_cases h : -2 ≤ x ∧ x ≤ 3 ∧ -2 ≤ y ∧ y ≤ 3
  · have := blk_near (x + 2).toNat (by omega) (y + 2).toNat (by omega)
    rw [show (((x + 2).toNat : Nat) : Int) - 2 = x by omega, show (((y + 2).toNat : Nat) : Int) - 2 = y by omega] at this
    exact this
  · unfold gen nbr
    rw [blk_off (show x < 0 ∨ 1 < x ∨ y < 0 ∨ 1 < y by omega), blk_off (show x - 1 < 0 ∨ 1 < x - 1 ∨ y - 1 < 0 ∨ 1 < y - 1 by omega), blk_off (show x < 0 ∨ 1 < x ∨ y - 1 < 0 ∨ 1 < y - 1 by omega), blk_off (show x + 1 < 0 ∨ 1 < x + 1 ∨ y - 1 < 0 ∨ 1 < y - 1 by omega), blk_off (show x - 1 < 0 ∨ 1 < x - 1 ∨ y + 1 < 0 ∨ 1 < y + 1 by omega), blk_off (show x < 0 ∨ 1 < x ∨ y + 1 < 0 ∨ 1 < y + 1 by omega), blk_off (show x + 1 < 0 ∨ 1 < x + 1 ∨ y + 1 < 0 ∨ 1 < y + 1 by omega), blk_off (show x - 1 < 0 ∨ 1 < x - 1 ∨ y < 0 ∨ 1 < y by omega), blk_off (show x + 1 < 0 ∨ 1 < x + 1 ∨ y < 0 ∨ 1 < y by omega)]
    exact nx_dead
theorem blk_gen (a c : Int) : gen 8 12 (blk a c) = blk a c := by
  rw [blk_shift, gen_shift, blk_00]
theorem blk_gens (a c : Int) : ∀ n, gens 8 12 (blk a c) n = blk a c
  | 0 => rfl
  | n + 1 => by
    show gen 8 12 (gens 8 12 (blk a c) n) = _
    rw [blk_gens a c n, blk_gen]
/-- what was asked last is remembered -/
theorem grow_kn (b l : Nat) : ∀ (m : Nat) (s : GS) (id : Int) (j : Nat), (growQ b l m s id j).1.2 id j = some (growQ b l m s id j).2
  | 0, s, id, j => by
    unfold growQ
    cases e : s.2 id j with
    | some o => exact e
    | none => exact if_pos ⟨rfl, rfl⟩
  | m + 1, s, id, j => by
    unfold growQ
    cases e : s.2 id j with
    | some o => exact e
    | none => exact if_pos ⟨rfl, rfl⟩
def ctrG (s : GS) (id : Int) : GS × Int := midG s (kid (at' s.1 id) 0) (kid (at' s.1 id) 1) (kid (at' s.1 id) 2) (kid (at' s.1 id) 3)
theorem ctr_res {b l : Nat} {s : GS} (hs : GOk b l s) {n : Nat} (hn : n ≤ 36) {id : Int} {p : Pl} {ox oy : Int} (hw : Wn s.1 (n + 1) id p ox oy) : Res b l Tt 1 s (ctrG s id) n p (ox + (2 ^ (n + 2) : Nat)) (oy + (2 ^ (n + 2) : Nat)) :=
  mid_res (f := kid (at' s.1 id)) hs hn (fun i h4 => hw.kid hs.inv i h4) trivial
/-- a middle that is there makes nothing new -/
theorem gok_new (b l : Nat) {L : List Sq} (h : Inv L) : GOk b l (L, fun _ _ => none) := ⟨h, fun _ _ _ h => by cases h⟩
/-- the plane of a square alone -/
def solo (L : List Sq) (n : Nat) (id : Int) : Pl := fun x y => decide (0 ≤ x ∧ x < (2 ^ (n + 3) : Nat) ∧ 0 ≤ y ∧ y < (2 ^ (n + 3) : Nat)) && cel L n id x.toNat y.toNat
theorem solo_wn {L : List Sq} {n : Nat} {id : Int} (h : Lv L n id) : Wn L n id (solo L n id) 0 0 := ⟨h, fun x y hx hy => by
  unfold solo
  rw [decide_eq_true (by omega), Bool.true_and]
  simp⟩
theorem solo_alone (L : List Sq) (n : Nat) (id : Int) : Alone (solo L n id) 0 0 (2 ^ (n + 3)) := fun x y h => by
  unfold solo
  rw [decide_eq_false (by omega), Bool.false_and]
theorem Alone.more {p : Pl} {ox oy ux uy : Int} {w v : Nat} (h : Alone p ox oy w) (h1 : ux ≤ ox) (h2 : uy ≤ oy) (h3 : ox + w ≤ ux + v) (h4 : oy + w ≤ uy + v) : Alone p ux uy v := fun x y q => h x y (by omega)
/-- as many cells between wider lines -/
theorem alone_fld {p : Pl} {ox oy : Int} {w : Nat} (h : Alone p ox oy w) (a : Nat) : fldC p (ox - a) (oy - a) (a + w + a) (a + w + a) = fldC p ox oy w w := by
  have z : ∀ (ux uy : Int) (v k : Nat), (ux + v ≤ ox ∨ ox + w ≤ ux ∨ uy + k ≤ oy ∨ oy + w ≤ uy) → fldC p ux uy v k = 0 := fun ux uy v k q => fldC_zero p ux uy v k fun i j hi hj => h _ _ (by omega)
  rw [fldC_addh, fldC_addh, fldC_addw p _ _ (a + w) a, fldC_addw p _ _ (a + w) a, fldC_addw p _ _ (a + w) a, fldC_addw p _ _ a w, fldC_addw p _ _ a w, fldC_addw p _ _ a w]
  rw [z (ox - a) (oy - a) a a (by omega), z (ox - a + a) (oy - a) w a (by omega), z (ox - a + ((a + w : Nat) : Int)) (oy - a) a a (by omega), z (ox - a) (oy - a + a) a w (by omega), z (ox - a + ((a + w : Nat) : Int)) (oy - a + a) a w (by omega), z (ox - a) (oy - a + ((a + w : Nat) : Int)) a a (by omega), z (ox - a + a) (oy - a + ((a + w : Nat) : Int)) w a (by omega), z (ox - a + ((a + w : Nat) : Int)) (oy - a + ((a + w : Nat) : Int)) a a (by omega)]
  rw [show ox - (a : Int) + a = ox by omega, show oy - (a : Int) + a = oy by omega]
  omega
/-- the statement's chain of squares made wide: what comes of it -/
structure WideCh (b l : Nat) (s : GS) (n : Nat) (id : Int) (A B C D U V T : GS × Int) : Prop where
  lenB : B.1.1.length ≤ s.1.length + (2 * n + 11)
  lenT : T.1.1.length ≤ s.1.length + (2 * n + 11) + 2 + cst (n + 1) 0 + cst n 0 + 1
  kA : GOk b l A.1
  kB : GOk b l B.1
  kC : GOk b l C.1
  kD : GOk b l D.1
  kU : GOk b l U.1
  kV : GOk b l V.1
  eA : s.1 <+: A.1.1
  eB : A.1.1 <+: B.1.1
  eC : B.1.1 <+: C.1.1
  eD : C.1.1 <+: D.1.1
  eU : D.1.1 <+: U.1.1
  eV : U.1.1 <+: V.1.1
  eT : V.1.1 <+: T.1.1
  lA : Lv A.1.1 (n + 1) A.2
  lB : Lv B.1.1 (n + 2) B.2
  lU : Lv U.1.1 (n + 1) U.2
  c : C.2 = id
  d : D.2 = A.2
  t : T.2 = V.2
  cnt : (at' D.1.1 id).cnt = (at' D.1.1 B.2).cnt
theorem wide_ch (b l : Nat) {s : GS} (hs : GOk b l s) {n : Nat} (hn : n ≤ 20) {id : Int} (hl : Lv s.1 n id) (A B C D U V T : GS × Int) (hA : A = wideG s n id) (hB : B = wideG A.1 (n + 1) A.2) (hC : C = ctrG B.1 A.2) (hD : D = ctrG C.1 B.2) (hU : U = growQ b l (n + 1) D.1 B.2 0) (hV : V = growQ b l n U.1 A.2 0) (hT : T = ctrG V.1 U.2) : WideCh b l s n id A B C D U V T := by
  have p0 := solo_wn hl
  have al := solo_alone s.1 n id
  generalize solo s.1 n id = p at *
  have e1 : 2 ^ (n + 3) = 2 * 2 ^ (n + 2) := by rw [show n + 3 = n + 2 + 1 by omega, Nat.pow_succ]; omega
  have e2 : 2 ^ (n + 1 + 3) = 4 * 2 ^ (n + 2) := by rw [show n + 1 + 3 = n + 2 + 2 by omega, Nat.pow_add]; omega
  have e3 : 2 ^ (n + 1 + 2) = 2 * 2 ^ (n + 2) := by rw [show n + 1 + 2 = n + 3 by omega]; exact e1
  have ra := wide_res hs (by omega) p0 al
  rw [← hA] at ra
  have al2 : Alone p (0 - (2 ^ (n + 2) : Nat)) (0 - (2 ^ (n + 2) : Nat)) (2 ^ (n + 1 + 3)) := al.more (by omega) (by omega) (by omega) (by omega)
  have rb := wide_res ra.ok (n := n + 1) (by omega) ra.win al2
  rw [← hB] at rb
  have rc := ctr_res rb.ok (n := n) (by omega) (ra.win.ext ra.ok.inv rb.ext)
  rw [← hC] at rc
  have rd := ctr_res rc.ok (n := n + 1) (by omega) (rb.win.ext rb.ok.inv rc.ext)
  rw [← hD] at rd
  have bD := (rb.win.ext rb.ok.inv rc.ext).ext rc.ok.inv rd.ext
  have aD := ((ra.win.ext ra.ok.inv rb.ext).ext rb.ok.inv rc.ext).ext rc.ok.inv rd.ext
  have iD := (((p0.ext hs.inv ra.ext).ext ra.ok.inv rb.ext).ext rb.ok.inv rc.ext).ext rc.ok.inv rd.ext
  have ru := grow_ok b l (n + 1) Tt _ (uni_any b l) D.1 B.2 0 p _ _ rd.ok (by omega) (by omega) bD trivial
  rw [← hU] at ru
  have rv := grow_ok b l n Tt _ (uni_any b l) U.1 A.2 0 p _ _ ru.ok (by omega) (by omega) (aD.ext rd.ok.inv ru.ext) trivial
  rw [← hV] at rv
  have rt := ctr_res rv.ok (n := n) (by omega) (ru.win.ext ru.ok.inv rv.ext)
  rw [← hT] at rt
  refine ⟨?_, ?_, ra.ok, rb.ok, rc.ok, rd.ok, ru.ok, rv.ok, ra.ext, rb.ext, rc.ext, rd.ext, ru.ext, rv.ext, rt.ext, ra.win.1, rb.win.1, ru.win.1, ?_, ?_, ?_, ?_⟩
  · have := ra.len
    have := rb.len
    omega
  · have := ra.len
    have := rb.len
    have := rc.len
    have := rd.len
    have := ru.len
    have := rv.len
    have := rt.len
    omega
  · refine Wn.uniq rc.ok.inv rc.win (((p0.ext hs.inv ra.ext).ext ra.ok.inv rb.ext).ext rb.ok.inv rc.ext |>.ag fun x y _ _ => ?_)
    congr 1 <;> omega
  · refine Wn.uniq rd.ok.inv rd.win (aD.ag fun x y _ _ => ?_)
    congr 1 <;> omega
  · refine Wn.uniq rt.ok.inv rt.win ((rv.win.ext rv.ok.inv rt.ext).ag fun x y _ _ => ?_)
    congr 1 <;> omega
  · rw [cnt_wn rd.ok.inv n id p 0 0 (by omega) iD, cnt_wn rd.ok.inv (n + 2) B.2 p _ _ (by omega) bD]
    have e4 : 2 ^ (n + 2 + 3) = 3 * 2 ^ (n + 2) + 2 * 2 ^ (n + 2) + 3 * 2 ^ (n + 2) := by rw [show n + 2 + 3 = n + 2 + 3 by rfl, Nat.pow_add 2 (n + 2) 3]; omega
    have h1 := alone_fld al (3 * 2 ^ (n + 2))
    rw [e4, e3, show (0 : Int) - (2 ^ (n + 2) : Nat) - (2 * 2 ^ (n + 2) : Nat) = 0 - (3 * 2 ^ (n + 2) : Nat) by omega]
    rw [e1] at h1
    rw [h1]
end Go.Proofs.YtlejohclijjhnaaGreatDoor.Qd

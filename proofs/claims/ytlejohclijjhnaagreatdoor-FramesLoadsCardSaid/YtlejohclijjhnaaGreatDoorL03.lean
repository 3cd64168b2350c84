/-
  SQUARES AS PLAIN DATA: which cells live; a cell set; the empty square; two squares of the same cells are one. Conditions: those that each lemma names.
-/
import Derived.Test.YtlejohclijjhnaaGreatDoorL02
namespace Go.Proofs.YtlejohclijjhnaaGreatDoor.Qd
open Ti

def kid (q : Sq) (i : Nat) : Int := if i = 0 then q.k0 else if i = 1 then q.k1 else if i = 2 then q.k2 else q.k3
def qd (h x y : Nat) : Nat := y / h * 2 + x / h
/-- does a cell live; of a square of level n + 3 -/
def cel (L : List Sq) : Nat → Int → Nat → Nat → Bool
  | 0, id, x, y => (at' L id).til.getLsbD (8 * y + x)
  | n + 1, id, x, y => cel L n (kid (at' L id) (qd (2 ^ (n + 3)) x y)) (x % 2 ^ (n + 3)) (y % 2 ^ (n + 3))
def tset (t : T6) (x y : Nat) (c : Bool) : T6 := if c then t ||| cellB x y else t &&& ~~~(cellB x y)
/-- one of four is another -/
def rep (q : Sq) (i : Nat) (k : Int) (j : Nat) : Int := if j = i then k else kid q j
def setQ (L : List Sq) : Nat → Int → Nat → Nat → Bool → List Sq × Int
  | 0, id, x, y, c => (put L (leafQ (tset (at' L id).til x y c)), nr L (leafQ (tset (at' L id).til x y c)))
  | n + 1, id, x, y, c =>
    let q := at' L id
    let i := qd (2 ^ (n + 3)) x y
    let r := setQ L n (kid q i) (x % 2 ^ (n + 3)) (y % 2 ^ (n + 3)) c
    let q' := joinQ r.1 (rep q i r.2 0) (rep q i r.2 1) (rep q i r.2 2) (rep q i r.2 3)
    (put r.1 q', nr r.1 q')
def emp (L : List Sq) : Nat → List Sq × Int
  | 0 => (put L (leafQ 0#64), nr L (leafQ 0#64))
  | n + 1 => (put (emp L n).1 (joinQ (emp L n).1 (emp L n).2 (emp L n).2 (emp L n).2 (emp L n).2), nr (emp L n).1 (joinQ (emp L n).1 (emp L n).2 (emp L n).2 (emp L n).2 (emp L n).2))
theorem qd_lt {n x y : Nat} (hx : x < 2 ^ (n + 1)) (hy : y < 2 ^ (n + 1)) : qd (2 ^ n) x y < 4 := by
  have h1 : x / 2 ^ n < 2 := by rw [Nat.div_lt_iff_lt_mul (Nat.two_pow_pos n)]; rw [Nat.pow_succ] at hx; omega
  have h2 : y / 2 ^ n < 2 := by rw [Nat.div_lt_iff_lt_mul (Nat.two_pow_pos n)]; rw [Nat.pow_succ] at hy; omega
  unfold qd
  omega
/-- a square that is there, of a level -/
def Lv (L : List Sq) (n : Nat) (id : Int) : Prop := Ok L id ∧ (at' L id).lev = n + 3
theorem Lv.ext {L M : List Sq} (h : L <+: M) {n : Nat} {id : Int} (hl : Lv L n id) : Lv M n id := ⟨hl.1.ext h, by rw [at_ext h hl.1]; exact hl.2⟩
theorem Inv.node {L : List Sq} (h : Inv L) {n : Nat} {id : Int} (hl : Lv L (n + 1) id) : Node L id (at' L id) := by
  rcases h.gd id hl.1 with h1 | h1
  · have h2 := hl.2
    rw [h1] at h2
    simp [leafQ] at h2
    omega
  · exact h1
theorem Inv.isLeaf {L : List Sq} (h : Inv L) {id : Int} (hl : Lv L 0 id) : at' L id = leafQ (at' L id).til := by
  rcases h.gd id hl.1 with h1 | h1
  · exact h1
  · have h2 := hl.2
    have := h1.lo
    omega
theorem Inv.kid {L : List Sq} (h : Inv L) {n : Nat} {id : Int} (hl : Lv L (n + 1) id) (i : Nat) : Lv L n (kid (at' L id) i) := by
  have hn := h.node hl
  have e := hl.2
  have := hl.1.2
  have h0 := hn.b0
  have h1 := hn.b1
  have h2 := hn.b2
  have h3 := hn.b3
  unfold Qd.kid Lv Ok
  split
  · exact ⟨⟨h0.1, by omega⟩, by rw [hn.l0]; omega⟩
  split
  · exact ⟨⟨h1.1, by omega⟩, by rw [hn.l1]; omega⟩
  split
  · exact ⟨⟨h2.1, by omega⟩, by rw [hn.l2]; omega⟩
  · exact ⟨⟨h3.1, by omega⟩, by rw [hn.l3]; omega⟩
theorem cel_ext {L M : List Sq} (hi : Inv L) (h : L <+: M) : ∀ (n : Nat) (id : Int) (x y : Nat), Lv L n id → cel M n id x y = cel L n id x y
  | 0, id, x, y, hl => by
    show (at' M id).til.getLsbD _ = _
    rw [at_ext h hl.1]
    rfl
  | n + 1, id, x, y, hl => by
    show cel M n (Qd.kid (at' M id) _) _ _ = cel L n (Qd.kid (at' L id) _) _ _
    rw [at_ext h hl.1]
    exact cel_ext hi h n _ _ _ (hi.kid hl _)
theorem sat_mono {a b c : Int} (h : b ≤ c) (h2 : c ≤ b + 1) : sat a b ≤ sat a c ∧ sat a c ≤ sat a b + 1 := by unfold sat; omega
theorem sat_mono1 {a b c : Int} (h : b ≤ c + 1) : sat a b ≤ sat a c + 1 := by unfold sat; omega
theorem sat_mono2 {a b c : Int} (h : b ≤ c + 1) (_hb : 0 ≤ a) : sat b a ≤ sat c a + 1 := by unfold sat; omega
theorem cnt4_up {a b c d a' b' c' d' : Int} (h : (a' ≤ a + 1 ∧ b' = b ∧ c' = c ∧ d' = d) ∨ (a' = a ∧ b' ≤ b + 1 ∧ c' = c ∧ d' = d) ∨ (a' = a ∧ b' = b ∧ c' ≤ c + 1 ∧ d' = d) ∨ (a' = a ∧ b' = b ∧ c' = c ∧ d' ≤ d + 1)) (hb : 0 ≤ b) (hc : 0 ≤ c) (hd : 0 ≤ d) : cnt4 a' b' c' d' ≤ cnt4 a b c d + 1 := by
  unfold cnt4
  rcases h with ⟨h, rfl, rfl, rfl⟩ | ⟨rfl, h, rfl, rfl⟩ | ⟨rfl, rfl, h, rfl⟩ | ⟨rfl, rfl, rfl, h⟩
  · exact sat_mono2 (sat_mono2 (sat_mono2 (sat_mono1 h) hb) hc) hd
  · exact sat_mono2 (sat_mono2 (sat_mono1 h) hc) hd
  · exact sat_mono2 (sat_mono1 h) hd
  · exact sat_mono1 h
theorem pcN_up (a b : T6) (j : Nat) (h : ∀ i, ¬ i = j → a.getLsbD i = b.getLsbD i) : ∀ k, pcN a.toNat k ≤ pcN b.toNat k + (if j < k then 1 else 0)
  | 0 => by simp [pcN]
  | k + 1 => by
    have ih := pcN_up a b j h k
    rw [pcN_succ, pcN_succ]
    by_cases e : k = j
    · subst e
      have h1 : (a.getLsbD k).toNat ≤ 1 := by cases a.getLsbD k <;> decide
      rw [if_neg (Nat.lt_irrefl _)] at ih
      rw [if_pos (Nat.lt_succ_self _)]
      omega
    · rw [h k e]
      have : (if j < k + 1 then 1 else 0) = (if j < k then 1 else 0 : Nat) := by
        by_cases q : j < k
        · rw [if_pos q, if_pos (by omega)]
        · rw [if_neg q, if_neg (by omega)]
      omega
theorem tset_bit (t : T6) (x y : Nat) (c : Bool) (h : 8 * y + x < 64) (i : Nat) : (tset t x y c).getLsbD i = if i = 8 * y + x then c else t.getLsbD i := by
  unfold tset
  cases c
  · rw [if_neg (by decide), not_cell t x y h]
    by_cases e : i = 8 * y + x
    · rw [if_pos e]; simp [e]
    · rw [if_neg e]; simp [e]
  · rw [if_pos rfl, or_cell t x y h]
    by_cases e : i = 8 * y + x
    · rw [if_pos e]; simp [e]
    · rw [if_neg e]; simp [e]
theorem liv_set (t : T6) (x y : Nat) (c : Bool) (h : 8 * y + x < 64) : liv (tset t x y c) ≤ liv t + 1 := by
  have := pcN_up (tset t x y c) t (8 * y + x) (fun i hi => by rw [tset_bit t x y c h, if_neg hi]) 64
  rw [if_pos h] at this
  exact this
/-- what comes of a cell set -/
structure SetOk (L : List Sq) (n : Nat) (id : Int) (x y : Nat) (c : Bool) (r : List Sq × Int) : Prop where
  ext : L <+: r.1
  len : r.1.length ≤ L.length + (n + 1)
  inv : Inv r.1
  lv : Lv r.1 n r.2
  cel : ∀ u v, u < 2 ^ (n + 3) → v < 2 ^ (n + 3) → cel r.1 n r.2 u v = if u = x ∧ v = y then c else cel L n id u v
  cnt : (at' r.1 r.2).cnt ≤ (at' L id).cnt + 1
theorem four_rep {L M : List Sq} (hi : Inv L) (h : L <+: M) {n : Nat} {id k : Int} (hl : Lv L (n + 1) id) (hk : Lv M n k) (i : Nat) (j : Nat) : Lv M n (rep (at' L id) i k j) := by
  unfold rep
  split
  · exact hk
  · exact (hi.kid hl j).ext h
theorem kid_join (L : List Sq) (f : Nat → Int) (i : Nat) (h : i < 4) : Qd.kid (joinQ L (f 0) (f 1) (f 2) (f 3)) i = f i := by
  match i, h with
  | 0, _ => rfl
  | 1, _ => rfl
  | 2, _ => rfl
  | 3, _ => rfl
theorem div_eq {a b h : Nat} (h1 : a / h = b / h) (h2 : a % h = b % h) : a = b := by
  have := Nat.div_add_mod a h
  have := Nat.div_add_mod b h
  rw [h1, h2] at *
  omega
theorem qd_inj {h x y u v : Nat} (hx : x < 2 * h) (hu : u < 2 * h) (e : qd h u v = qd h x y) : u / h = x / h ∧ v / h = y / h := by
  have h1 : x / h < 2 := by by_cases q : 0 < h; rw [Nat.div_lt_iff_lt_mul q]; omega; omega
  have h2 : u / h < 2 := by by_cases q : 0 < h; rw [Nat.div_lt_iff_lt_mul q]; omega; omega
  unfold qd at e
  clear hx hu
  generalize u / h = a at *
  generalize v / h = b at *
  generalize x / h = c at *
  generalize y / h = d at *
  omega
theorem set_ok {L : List Sq} (hi : Inv L) : ∀ (n : Nat) (id : Int) (x y : Nat) (c : Bool), Lv L n id → n ≤ 37 → x < 2 ^ (n + 3) → y < 2 ^ (n + 3) → SetOk L n id x y c (setQ L n id x y c)
  | 0, id, x, y, c, hl, hn, hx, hy => by
    have hx : x < 8 := hx
    have hy : y < 8 := hy
    refine ⟨put_ext _ _, (put_len _ _).2, hi.leaf _, ⟨put_ok _ _, ?_⟩, fun u v hu hv => ?_, ?_⟩
    · show (at' (put L _) (nr L _)).lev = _
      rw [put_at]
      rfl
    · show (at' (put L _) (nr L _)).til.getLsbD _ = _
      have hu : u < 8 := hu
      have hv : v < 8 := hv
      rw [put_at]
      show (tset _ x y c).getLsbD (8 * v + u) = _
      rw [tset_bit _ _ _ _ (by omega)]
      by_cases e : u = x ∧ v = y
      · rw [if_pos e, if_pos (by omega)]
      · rw [if_neg e, if_neg (by omega)]
        rfl
    · show (at' (put L _) (nr L _)).cnt ≤ _
      rw [put_at]
      have e := hi.isLeaf hl
      have := liv_set (at' L id).til x y c (by omega)
      rw [e]
      show ((liv (tset (leafQ (at' L id).til).til x y c) : Nat) : Int) ≤ ((liv (at' L id).til : Nat) : Int) + 1
      rw [show (leafQ (at' L id).til).til = (at' L id).til from rfl]
      omega
  | n + 1, id, x, y, c, hl, hn, hx, hy => by
    have hw : 2 ^ (n + 1 + 3) = 2 * 2 ^ (n + 3) := by rw [show n + 1 + 3 = (n + 3) + 1 by omega, Nat.pow_succ]; omega
    have hp := Nat.two_pow_pos (n + 3)
    have hq : qd (2 ^ (n + 3)) x y < 4 := qd_lt (by rw [show n + 3 + 1 = n + 1 + 3 by omega]; exact hx) (by rw [show n + 3 + 1 = n + 1 + 3 by omega]; exact hy)
    have ih := set_ok hi n (Qd.kid (at' L id) (qd (2 ^ (n + 3)) x y)) (x % 2 ^ (n + 3)) (y % 2 ^ (n + 3)) c (hi.kid hl _) (by omega) (Nat.mod_lt _ hp) (Nat.mod_lt _ hp)
    show SetOk L (n + 1) id x y c (put (setQ L n (Qd.kid (at' L id) (qd (2 ^ (n + 3)) x y)) (x % 2 ^ (n + 3)) (y % 2 ^ (n + 3)) c).1 _, nr _ _)
    generalize setQ L n (Qd.kid (at' L id) (qd (2 ^ (n + 3)) x y)) (x % 2 ^ (n + 3)) (y % 2 ^ (n + 3)) c = r at ih ⊢
    obtain ⟨q, hqd⟩ : ∃ q, q = qd (2 ^ (n + 3)) x y := ⟨_, rfl⟩
    rw [← hqd] at ih hq ⊢
    have fr := fun j => four_rep hi ih.ext hl ih.lv q j
    have hf : Four r.1 (rep (at' L id) q r.2 0) (rep (at' L id) q r.2 1) (rep (at' L id) q r.2 2) (rep (at' L id) q r.2 3) (n + 3) := ⟨(fr 0).1, (fr 1).1, (fr 2).1, (fr 3).1, (fr 0).2, (fr 1).2, (fr 2).2, (fr 3).2⟩
    have hat := put_at r.1 (joinQ r.1 (rep (at' L id) q r.2 0) (rep (at' L id) q r.2 1) (rep (at' L id) q r.2 2) (rep (at' L id) q r.2 3))
    have hext := put_ext r.1 (joinQ r.1 (rep (at' L id) q r.2 0) (rep (at' L id) q r.2 1) (rep (at' L id) q r.2 2) (rep (at' L id) q r.2 3))
    refine ⟨ih.ext.trans hext, ?_, ih.inv.join hf (by omega) (by omega), ⟨put_ok _ _, ?_⟩, fun u v hu hv => ?_, ?_⟩
    · have := (put_len r.1 (joinQ r.1 (rep (at' L id) q r.2 0) (rep (at' L id) q r.2 1) (rep (at' L id) q r.2 2) (rep (at' L id) q r.2 3))).2
      have := ih.len
      show (put r.1 _).length ≤ _
      omega
    · show (at' (put r.1 _) (nr r.1 _)).lev = _
      rw [hat]
      show (at' r.1 (rep (at' L id) q r.2 0)).lev + 1 = _
      rw [(fr 0).2]
      omega
    · show cel (put r.1 _) n (Qd.kid (at' (put r.1 _) (nr r.1 _)) (qd (2 ^ (n + 3)) u v)) (u % 2 ^ (n + 3)) (v % 2 ^ (n + 3)) = if u = x ∧ v = y then c else cel L n (Qd.kid (at' L id) (qd (2 ^ (n + 3)) u v)) (u % 2 ^ (n + 3)) (v % 2 ^ (n + 3))
      have hq2 : qd (2 ^ (n + 3)) u v < 4 := qd_lt (by rw [show n + 3 + 1 = n + 1 + 3 by omega]; exact hu) (by rw [show n + 3 + 1 = n + 1 + 3 by omega]; exact hv)
      rw [hat, kid_join r.1 (rep (at' L id) q r.2) _ hq2]
      have hm1 := Nat.mod_lt u hp
      have hm2 := Nat.mod_lt v hp
      by_cases e : qd (2 ^ (n + 3)) u v = q
      · rw [e, show rep (at' L id) q r.2 q = r.2 from if_pos rfl, cel_ext ih.inv hext n _ _ _ ih.lv, ih.cel _ _ hm1 hm2]
        rw [hqd] at e
        obtain ⟨e1, e2⟩ := qd_inj (by omega) (by omega) e
        by_cases e3 : u = x ∧ v = y
        · rw [if_pos e3, if_pos (by rw [e3.1, e3.2]; exact ⟨rfl, rfl⟩)]
        · rw [if_neg e3, if_neg (fun h => e3 ⟨div_eq e1 h.1, div_eq e2 h.2⟩)]
      · rw [show rep (at' L id) q r.2 (qd (2 ^ (n + 3)) u v) = Qd.kid (at' L id) (qd (2 ^ (n + 3)) u v) from if_neg e]
        rw [if_neg (fun h => e (by rw [hqd, h.1, h.2]))]
        exact cel_ext hi (ih.ext.trans hext) n _ _ _ (hi.kid hl _)
    · show (at' (put r.1 _) (nr r.1 _)).cnt ≤ _
      rw [hat]
      have hn2 := hi.node hl
      have e : (at' L id).cnt = cnt4 _ _ _ _ := congrArg Sq.cnt hn2.eq
      rw [e]
      have o := fun j => (hi.kid hl j).1
      have b := fun j => (hi.bd (o j)).c0
      have k0 : at' r.1 (Qd.kid (at' L id) 0) = at' L (at' L id).k0 := at_ext ih.ext (o 0)
      have k1 : at' r.1 (Qd.kid (at' L id) 1) = at' L (at' L id).k1 := at_ext ih.ext (o 1)
      have k2 : at' r.1 (Qd.kid (at' L id) 2) = at' L (at' L id).k2 := at_ext ih.ext (o 2)
      have k3 : at' r.1 (Qd.kid (at' L id) 3) = at' L (at' L id).k3 := at_ext ih.ext (o 3)
      have hc := ih.cnt
      refine cnt4_up ?_ (b 1) (b 2) (b 3)
      clear hat hext hf fr hqd hx hy hw e
      match q, hq with
      | 0, _ => exact .inl ⟨hc, congrArg Sq.cnt k1, congrArg Sq.cnt k2, congrArg Sq.cnt k3⟩
      | 1, _ => exact .inr (.inl ⟨congrArg Sq.cnt k0, hc, congrArg Sq.cnt k2, congrArg Sq.cnt k3⟩)
      | 2, _ => exact .inr (.inr (.inl ⟨congrArg Sq.cnt k0, congrArg Sq.cnt k1, hc, congrArg Sq.cnt k3⟩))
      | 3, _ => exact .inr (.inr (.inr ⟨congrArg Sq.cnt k0, congrArg Sq.cnt k1, congrArg Sq.cnt k2, hc⟩))
/-- where a cell stands that is in one of four -/
theorem qd_at {h x y i : Nat} (hx : x < h) (hy : y < h) (_hi : i < 4) : qd h (i % 2 * h + x) (i / 2 * h + y) = i ∧ (i % 2 * h + x) % h = x ∧ (i / 2 * h + y) % h = y := by
  have hp : 0 < h := by omega
  have h1 : (i % 2 * h + x) / h = i % 2 := by rw [Nat.add_comm, Nat.add_mul_div_right _ _ hp, Nat.div_eq_of_lt hx, Nat.zero_add]
  have h2 : (i / 2 * h + y) / h = i / 2 := by rw [Nat.add_comm, Nat.add_mul_div_right _ _ hp, Nat.div_eq_of_lt hy, Nat.zero_add]
  unfold qd
  rw [h1, h2]
  refine ⟨by omega, ?_, ?_⟩
  · rw [Nat.add_comm, Nat.add_mul_mod_self_right, Nat.mod_eq_of_lt hx]
  · rw [Nat.add_comm, Nat.add_mul_mod_self_right, Nat.mod_eq_of_lt hy]
/-- two squares of the same cells are one -/
theorem uniq {L : List Sq} (hi : Inv L) : ∀ (n : Nat) (a b : Int), Lv L n a → Lv L n b → (∀ x y, x < 2 ^ (n + 3) → y < 2 ^ (n + 3) → cel L n a x y = cel L n b x y) → a = b
  | 0, a, b, ha, hb, h => by
    refine at_inj hi.nd ha.1 hb.1 ?_
    rw [hi.isLeaf ha, hi.isLeaf hb]
    have e : (at' L a).til = (at' L b).til := by
      apply BitVec.eq_of_getLsbD_eq
      intro i hl
      have := h (i % 8) (i / 8) (by show i % 8 < 8; omega) (by show i / 8 < 8; omega)
      simp only [cel] at this
      rw [show 8 * (i / 8) + i % 8 = i by omega] at this
      exact this
    rw [e]
  | n + 1, a, b, ha, hb, h => by
    have k : ∀ i, i < 4 → kid (at' L a) i = kid (at' L b) i := fun i h4 => by
      refine uniq hi n _ _ (hi.kid ha i) (hi.kid hb i) fun x y hx hy => ?_
      obtain ⟨e1, e2, e3⟩ := qd_at hx hy h4
      have hw : 2 ^ (n + 1 + 3) = 2 * 2 ^ (n + 3) := by rw [show n + 1 + 3 = (n + 3) + 1 by omega, Nat.pow_succ]; omega
      have b1 : i % 2 * 2 ^ (n + 3) ≤ 2 ^ (n + 3) := by
        have : i % 2 ≤ 1 := by omega
        calc i % 2 * 2 ^ (n + 3) ≤ 1 * 2 ^ (n + 3) := Nat.mul_le_mul_right _ this
          _ = _ := Nat.one_mul _
      have b2 : i / 2 * 2 ^ (n + 3) ≤ 2 ^ (n + 3) := by
        have : i / 2 ≤ 1 := by omega
        calc i / 2 * 2 ^ (n + 3) ≤ 1 * 2 ^ (n + 3) := Nat.mul_le_mul_right _ this
          _ = _ := Nat.one_mul _
      have := h (i % 2 * 2 ^ (n + 3) + x) (i / 2 * 2 ^ (n + 3) + y) (by omega) (by omega)
      simp only [cel] at this
      rw [e1, e2, e3] at this
      exact this
    refine at_inj hi.nd ha.1 hb.1 ?_
    rw [(hi.node ha).eq, (hi.node hb).eq]
    rw [show (at' L a).k0 = (at' L b).k0 from k 0 (by decide), show (at' L a).k1 = (at' L b).k1 from k 1 (by decide), show (at' L a).k2 = (at' L b).k2 from k 2 (by decide), show (at' L a).k3 = (at' L b).k3 from k 3 (by decide)]
/-- what comes of an empty square -/
structure EmpOk (L : List Sq) (n : Nat) (r : List Sq × Int) : Prop where
  ext : L <+: r.1
  len : r.1.length ≤ L.length + (n + 1)
  inv : Inv r.1
  lv : Lv r.1 n r.2
  cel : ∀ u v, cel r.1 n r.2 u v = false
  cnt : (at' r.1 r.2).cnt = 0
theorem emp_ok {L : List Sq} (hi : Inv L) : ∀ n, n ≤ 37 → EmpOk L n (emp L n)
  | 0, _ => by
    refine ⟨put_ext _ _, (put_len _ _).2, hi.leaf _, ⟨put_ok _ _, ?_⟩, fun u v => ?_, ?_⟩
    · show (at' (put L _) (nr L _)).lev = _
      rw [put_at]
      rfl
    · show (at' (put L _) (nr L _)).til.getLsbD _ = _
      rw [put_at]
      show (0#64).getLsbD _ = false
      simp
    · show (at' (put L _) (nr L _)).cnt = _
      rw [put_at]
      decide +kernel
  | n + 1, hn => by
    have ih := emp_ok hi n (by omega)
    show EmpOk L (n + 1) (put (emp L n).1 _, nr _ _)
    generalize emp L n = r at ih ⊢
    have hat := put_at r.1 (joinQ r.1 r.2 r.2 r.2 r.2)
    have hext := put_ext r.1 (joinQ r.1 r.2 r.2 r.2 r.2)
    have hf : Four r.1 r.2 r.2 r.2 r.2 (n + 3) := ⟨ih.lv.1, ih.lv.1, ih.lv.1, ih.lv.1, ih.lv.2, ih.lv.2, ih.lv.2, ih.lv.2⟩
    refine ⟨ih.ext.trans hext, ?_, ih.inv.join hf (by omega) (by omega), ⟨put_ok _ _, ?_⟩, fun u v => ?_, ?_⟩
    · have := (put_len r.1 (joinQ r.1 r.2 r.2 r.2 r.2)).2
      have := ih.len
      show (put r.1 _).length ≤ _
      omega
    · show (at' (put r.1 _) (nr r.1 _)).lev = _
      rw [hat]
      show (at' r.1 r.2).lev + 1 = _
      rw [ih.lv.2]
      omega
    · show cel (put r.1 _) n (kid (at' (put r.1 _) (nr r.1 _)) (qd (2 ^ (n + 3)) u v)) (u % 2 ^ (n + 3)) (v % 2 ^ (n + 3)) = _
      rw [hat, show kid (joinQ r.1 r.2 r.2 r.2 r.2) (qd (2 ^ (n + 3)) u v) = r.2 by unfold kid joinQ; simp, cel_ext ih.inv hext n _ _ _ ih.lv]
      exact ih.cel _ _
    · show (at' (put r.1 _) (nr r.1 _)).cnt = 0
      rw [hat]
      show cnt4 _ _ _ _ = 0
      rw [ih.cnt]
      decide
end Go.Proofs.YtlejohclijjhnaaGreatDoor.Qd

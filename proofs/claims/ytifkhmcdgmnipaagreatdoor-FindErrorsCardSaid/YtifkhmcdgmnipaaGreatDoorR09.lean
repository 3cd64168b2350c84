/-
  The square of a level with cells (plain): the empty one, and one cell behind the other set.
-/
import Derived.Test.YtifkhmcdgmnipaaGreatDoorR08
namespace Go.Proofs.YtifkhmcdgmnipaaGreatDoor.Qd
open Ti Ce

theorem nr_at {L : List Sq} (hi : Inv L) {id : Int} (ho : Ok L id) : nr L (at' L id) = id ∧ put L (at' L id) = L := by
  have hm : at' L id ∈ L := by
    unfold at'
    unfold Ok at ho
    rw [List.getElem?_eq_getElem (by omega)]
    simp
  have hp : Qd.put L (at' L id) = L := if_pos hm
  refine ⟨?_, hp⟩
  have h1 := put_ok L (at' L id)
  have h2 := put_at L (at' L id)
  rw [hp] at h1 h2
  exact at_inj hi.nd h1 ho h2
theorem tset_same {t : T6} {x y : Nat} (hx : x < 8) (hy : y < 8) (h : t.getLsbD (8 * y + x) = true) : tset t x y true = t := by
  refine BitVec.eq_of_getLsbD_eq fun i _ => ?_
  rw [tset_bit _ _ _ _ (by omega)]
  by_cases e : i = 8 * y + x
  · rw [if_pos e, e, h]
  · rw [if_neg e]
theorem rep_same (q : Sq) (i j : Nat) : rep q i (kid q i) j = kid q j := by
  unfold rep
  by_cases e : j = i
  · rw [if_pos e, e]
  · rw [if_neg e]
/-- a cell that lives already -/
theorem set_same {L : List Sq} (hi : Inv L) : ∀ (n : Nat) (id : Int) (x y : Nat), Lv L n id → x < 2 ^ (n + 3) → y < 2 ^ (n + 3) → cel L n id x y = true → setQ L n id x y true = (L, id)
  | 0, id, x, y, hl, hx, hy, h => by
    have e1 : tset (at' L id).til x y true = (at' L id).til := tset_same hx hy h
    have e2 := hi.isLeaf hl
    have e3 := nr_at hi hl.1
    show (Qd.put L (leafQ (tset _ x y true)), nr L (leafQ (tset _ x y true))) = _
    rw [e1, ← e2, e3.1, e3.2]
  | n + 1, id, x, y, hl, hx, hy, h => by
    have hp : 0 < 2 ^ (n + 3) := Nat.pow_pos (by omega)
    have ih := set_same hi n (Qd.kid (at' L id) (qd (2 ^ (n + 3)) x y)) (x % 2 ^ (n + 3)) (y % 2 ^ (n + 3)) (hi.kid hl _) (Nat.mod_lt _ hp) (Nat.mod_lt _ hp) h
    show (let q := at' L id; let i := qd (2 ^ (n + 3)) x y; let r := setQ L n (Qd.kid q i) (x % 2 ^ (n + 3)) (y % 2 ^ (n + 3)) true; let q' := joinQ r.1 (rep q i r.2 0) (rep q i r.2 1) (rep q i r.2 2) (rep q i r.2 3); (Qd.put r.1 q', nr r.1 q')) = _
    simp only
    rw [ih]
    simp only [rep_same]
    have e2 : joinQ L (Qd.kid (at' L id) 0) (Qd.kid (at' L id) 1) (Qd.kid (at' L id) 2) (Qd.kid (at' L id) 3) = at' L id := (hi.node hl).eq.symm
    have e3 := nr_at hi hl.1
    rw [e2, e3.1, e3.2]
/-- cells set, one behind the other -/
def setC (n : Nat) (r : List Sq × Int) (c : Cel) : List Sq × Int := setQ r.1 n r.2 c.1.toNat c.2.toNat true
def ofL (n : Nat) (l : List Cel) (r : List Sq × Int) : List Sq × Int := l.foldl (setC n) r
theorem ofL_snoc (n : Nat) (l : List Cel) (c : Cel) (r : List Sq × Int) : ofL n (l ++ [c]) r = setC n (ofL n l r) c := by
  unfold ofL
  rw [List.foldl_append]
  rfl
theorem ofL_take (n : Nat) (l : List Cel) (r : List Sq × Int) {j : Nat} (h : j < l.length) : ofL n (l.take (j + 1)) r = setC n (ofL n (l.take j) r) l[j] := by
  rw [List.take_succ_eq_append_getElem h, ofL_snoc]
/-- a cell of a square of level n + 3 -/
def InS (n : Nat) (c : Cel) : Prop := 0 ≤ c.1 ∧ c.1 < ((2 ^ (n + 3) : Nat) : Int) ∧ 0 ≤ c.2 ∧ c.2 < ((2 ^ (n + 3) : Nat) : Int)
structure OfOk (L : List Sq) (n : Nat) (id : Int) (l : List Cel) (r : List Sq × Int) : Prop where
  ext : L <+: r.1
  len : r.1.length ≤ L.length + l.length * (n + 1)
  inv : Inv r.1
  lv : Lv r.1 n r.2
  cel : ∀ u v : Nat, u < 2 ^ (n + 3) → v < 2 ^ (n + 3) → (cel r.1 n r.2 u v = true ↔ (((u : Int), (v : Int)) ∈ l ∨ cel L n id u v = true))
theorem ins_nat {n : Nat} {c : Cel} (h : InS n c) : c.1.toNat < 2 ^ (n + 3) ∧ c.2.toNat < 2 ^ (n + 3) := by
  unfold InS at h
  omega
theorem of_ok {L : List Sq} (hi : Inv L) {n : Nat} (hn : n ≤ 37) {id : Int} (hl : Lv L n id) (l : List Cel) (hc : ∀ c ∈ l, InS n c) : ∀ j, j ≤ l.length → OfOk L n id (l.take j) (ofL n (l.take j) (L, id))
  | 0, _ => ⟨List.prefix_rfl, by simp [ofL], hi, hl, fun u v hu hv => by simp [ofL]⟩
  | j + 1, h => by
    have ih := of_ok hi hn hl l hc j (by omega)
    have hj : j < l.length := by omega
    rw [ofL_take n l _ hj]
    have hcj := hc l[j] (List.getElem_mem hj)
    have hin := ins_nat hcj
    have hs := set_ok ih.inv n (ofL n (l.take j) (L, id)).2 l[j].1.toNat l[j].2.toNat true ih.lv hn hin.1 hin.2
    refine ⟨ih.ext.trans hs.ext, ?_, hs.inv, hs.lv, fun u v hu hv => ?_⟩
    · have h1 := hs.len
      have h2 := ih.len
      rw [List.length_take, Nat.min_eq_left (by omega)] at h2 ⊢
      rw [Nat.add_mul]
      show (setQ _ _ _ _ _ _).1.length ≤ _
      omega
    · have h1 := hs.cel u v hu hv
      have h2 := ih.cel u v hu hv
      show Qd.cel (setQ _ _ _ _ _ _).1 n (setQ _ _ _ _ _ _).2 u v = true ↔ _
      rw [h1, List.take_succ_eq_append_getElem hj, List.mem_append, List.mem_singleton]
      unfold InS at hcj
      by_cases e : u = l[j].1.toNat ∧ v = l[j].2.toNat
      · rw [if_pos e]
        have : ((u : Int), (v : Int)) = l[j] := Prod.ext (by show (u : Int) = _; omega) (by show (v : Int) = _; omega)
        simp [this]
      · rw [if_neg e, h2]
        have : ¬ ((u : Int), (v : Int)) = l[j] := fun e' => e (by
          have e1 : (u : Int) = l[j].1 := congrArg Prod.fst e'
          have e2 : (v : Int) = l[j].2 := congrArg Prod.snd e'
          omega)
        simp [this]
/-- what comes of Of -/
structure Of (L : List Sq) (n : Nat) (l : List Cel) (r : List Sq × Int) : Prop where
  ext : L <+: r.1
  len : r.1.length ≤ L.length + (n + 1) + l.length * (n + 1)
  inv : Inv r.1
  lv : Lv r.1 n r.2
  mem : ∀ c, c ∈ lst r.1 n r.2 ↔ c ∈ l
theorem of_of {L : List Sq} (hi : Inv L) {n : Nat} (hn : n ≤ 37) (l : List Cel) (hc : ∀ c ∈ l, InS n c) : Of L n l (ofL n l (emp L n)) := by
  have he := emp_ok hi n hn
  have h := of_ok he.inv hn he.lv l hc l.length (Nat.le_refl _)
  rw [List.take_length] at h
  have e0 : ofL n l ((emp L n).1, (emp L n).2) = ofL n l (emp L n) := rfl
  rw [e0] at h
  refine ⟨he.ext.trans h.ext, ?_, h.inv, h.lv, fun c => ?_⟩
  · have := h.len
    have := he.len
    omega
  · rw [lst_mem h.inv n _ c h.lv]
    constructor
    · rintro ⟨u, v, hu, hv, rfl, hcel⟩
      rcases (h.cel u v hu hv).1 hcel with k | k
      · exact k
      · rw [he.cel] at k
        cases k
    · intro hm
      have hin := hc c hm
      have := ins_nat hin
      unfold InS at hin
      have e : c = ((c.1.toNat : Int), (c.2.toNat : Int)) := Prod.ext (by show c.1 = _; omega) (by show c.2 = _; omega)
      exact ⟨c.1.toNat, c.2.toNat, this.1, this.2, e, (h.cel _ _ this.1 this.2).2 (.inl (e ▸ hm))⟩
theorem Of.srt {L : List Sq} {n : Nat} {l : List Cel} {r : List Sq × Int} (h : Of L n l r) : Ce.srt (lst r.1 n r.2) = Ce.srt l :=
  srt_ext (srt_srt _) (srt_srt _) (fun x => by rw [srt_mem, srt_mem, h.mem])
theorem cel_lst {L : List Sq} (hi : Inv L) {n : Nat} {id : Int} (hl : Lv L n id) {u v : Nat} (hu : u < 2 ^ (n + 3)) (hv : v < 2 ^ (n + 3)) : cel L n id u v = true ↔ ((u : Int), (v : Int)) ∈ lst L n id := by
  rw [lst_mem hi n id _ hl]
  constructor
  · intro h
    exact ⟨u, v, hu, hv, rfl, h⟩
  · rintro ⟨a, b, _, _, e, h⟩
    have e1 : (u : Int) = a := congrArg Prod.fst e
    have e2 : (v : Int) = b := congrArg Prod.snd e
    obtain rfl : u = a := by omega
    obtain rfl : v = b := by omega
    exact h
/-- squares with the same cells are one -/
theorem lst_uniq {L : List Sq} (hi : Inv L) {n : Nat} {a b : Int} (ha : Lv L n a) (hb : Lv L n b) (h : ∀ c, c ∈ lst L n a ↔ c ∈ lst L n b) : a = b :=
  uniq hi n a b ha hb (fun x y hx hy => by rw [Bool.eq_iff_iff, cel_lst hi ha hx hy, cel_lst hi hb hx hy, h])
/-- Of of a square's cells is it -/
theorem Of.back {L : List Sq} {n : Nat} (hn : n ≤ 37) {l m : List Cel} {r : List Sq × Int} (h : Of L n l r) (hc : ∀ c ∈ m, InS n c) (hm : ∀ c, c ∈ m ↔ c ∈ l) : (ofL n m (emp r.1 n)).2 = r.2 := by
  have h2 := of_of h.inv hn m hc
  refine lst_uniq h2.inv h2.lv (h.lv.ext h2.ext) (fun c => ?_)
  rw [h2.mem, lst_ext h.inv h2.ext n _ h.lv, h.mem, hm]
/-- one cell, again and again -/
theorem ofL_same {L : List Sq} (hi : Inv L) {n : Nat} (hn : n ≤ 37) {id : Int} (hl : Lv L n id) {c : Cel} (hc : InS n c) : ∀ k, ofL n (List.replicate (k + 1) c) (L, id) = setC n (L, id) c
  | 0 => rfl
  | k + 1 => by
    rw [List.replicate_succ', ofL_snoc, ofL_same hi hn hl hc k]
    have hin := ins_nat hc
    have hs := set_ok hi n id c.1.toNat c.2.toNat true hl hn hin.1 hin.2
    refine set_same hs.inv n _ _ _ hs.lv hin.1 hin.2 ?_
    have h0 := hs.cel _ _ hin.1 hin.2
    rw [if_pos ⟨rfl, rfl⟩] at h0
    exact h0
end Go.Proofs.YtifkhmcdgmnipaaGreatDoor.Qd

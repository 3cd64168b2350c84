/-
  Which parts are asked for (plain): their corners are those of the whole, cut; so there are few.
-/
import Derived.Test.YtifkhmcdgmnipaaGreatDoorR09
namespace Go.Proofs.YtifkhmcdgmnipaaGreatDoor.Qd
open Ti Ce

/-- the corners of the whole -/
structure Cnr where
  lx : Nat
  ly : Nat
  hx : Nat
  hy : Nat
def kL (X m : Nat) (x : Int) : Prop := x = 0 ∨ x = ((X % 2 ^ (m + 3) : Nat) : Int)
def kH (X m : Nat) (x : Int) : Prop := x = ((2 ^ (m + 3) : Nat) : Int) - 1 ∨ x = ((X % 2 ^ (m + 3) : Nat) : Int)
def aL (X m : Nat) (x : Int) : Prop := kL X m (max x 0) ∨ ((2 ^ (m + 3) : Nat) : Int) ≤ max x 0
def aH (X m : Nat) (x : Int) : Prop := kH X m (min x (((2 ^ (m + 3) : Nat) : Int) - 1)) ∨ min x (((2 ^ (m + 3) : Nat) : Int) - 1) < 0
theorem mod_half (X h : Nat) (hp : 0 < h) : X % (h * 2) < h * 2 ∧ ((X % (h * 2) < h ∧ X % h = X % (h * 2)) ∨ (h ≤ X % (h * 2) ∧ X % h = X % (h * 2) - h)) := by
  have h1 : X % (h * 2) < h * 2 := Nat.mod_lt _ (by omega)
  refine ⟨h1, ?_⟩
  have h2 : X % (h * 2) % h = X % h := Nat.mod_mul_right_mod X h 2
  rw [← h2]
  clear h2
  generalize X % (h * 2) = a at *
  by_cases g : a < h
  · exact .inl ⟨g, Nat.mod_eq_of_lt g⟩
  · refine .inr ⟨by omega, ?_⟩
    rw [Nat.mod_eq_sub_mod (by omega), Nat.mod_eq_of_lt (by omega)]
theorem aL_step {X m : Nat} {x t : Int} (h : kL X (m + 1) x) (ht : t = 0 ∨ t = ((2 ^ (m + 3) : Nat) : Int)) : aL X m (x - t) := by
  have hp := Nat.two_pow_pos (m + 3)
  unfold aL kL at *
  rw [show 2 ^ (m + 1 + 3) = 2 ^ (m + 3) * 2 from Nat.pow_succ ..] at h
  have hm := mod_half X (2 ^ (m + 3)) hp
  generalize 2 ^ (m + 3) = w at *
  generalize X % (w * 2) = a at *
  generalize X % w = b at *
  omega
theorem aH_step {X m : Nat} {x t : Int} (h : kH X (m + 1) x) (ht : t = 0 ∨ t = ((2 ^ (m + 3) : Nat) : Int)) : aH X m (x - t) := by
  have hp := Nat.two_pow_pos (m + 3)
  unfold aH kH at *
  rw [show 2 ^ (m + 1 + 3) = 2 ^ (m + 3) * 2 from Nat.pow_succ ..] at h
  have hm := mod_half X (2 ^ (m + 3)) hp
  generalize 2 ^ (m + 3) = w at *
  generalize X % (w * 2) = a at *
  generalize X % w = b at *
  omega
abbrev K5 := Int × Cel × Cel
/-- a part that may be remembered -/
structure KeyM (E : Cnr) (m : Nat) (lo hi : Cel) : Prop where
  a : kL E.lx m lo.1
  b : kL E.ly m lo.2
  c : kH E.hx m hi.1
  d : kH E.hy m hi.2
structure AskM (E : Cnr) (m : Nat) (lo hi : Cel) : Prop where
  a : aL E.lx m lo.1
  b : aL E.ly m lo.2
  c : aH E.hx m hi.1
  d : aH E.hy m hi.2
theorem crn_or (h i : Nat) : ((crn h i).1 = 0 ∨ (crn h i).1 = (h : Int)) ∧ ((i < 4) → (crn h i).2 = 0 ∨ (crn h i).2 = (h : Int)) := by
  unfold crn
  constructor
  · have : i % 2 = 0 ∨ i % 2 = 1 := by omega
    rcases this with e | e <;> rw [e] <;> simp
  · intro h4
    have : i / 2 = 0 ∨ i / 2 = 1 := by omega
    rcases this with e | e <;> rw [e] <;> simp
theorem KeyM.kid {E : Cnr} {m : Nat} {lo hi : Cel} (h : KeyM E (m + 1) lo hi) {i : Nat} (h4 : i < 4) : AskM E m (mi lo (crn (2 ^ (m + 3)) i)) (mi hi (crn (2 ^ (m + 3)) i)) := by
  obtain ⟨h1, h2⟩ := crn_or (2 ^ (m + 3)) i
  have h2 := h2 h4
  exact ⟨aL_step h.a h1, aL_step h.b h2, aH_step h.c h1, aH_step h.d h2⟩
/-- cut to the square it is one that may be remembered, or nothing -/
theorem AskM.cut {E : Cnr} {m : Nat} {lo hi : Cel} (h : AskM E m lo hi) : KeyM E m (clo lo) (chi m hi) ∨ (chi m hi).1 < (clo lo).1 ∨ (chi m hi).2 < (clo lo).2 := by
  have c1 : (chi m hi).1 ≤ ((2 ^ (m + 3) : Nat) : Int) - 1 := by unfold chi; simp only; omega
  have c2 : (chi m hi).2 ≤ ((2 ^ (m + 3) : Nat) : Int) - 1 := by unfold chi; simp only; omega
  have d1 : 0 ≤ (clo lo).1 := by unfold clo; simp only; omega
  have d2 : 0 ≤ (clo lo).2 := by unfold clo; simp only; omega
  rcases h.a with a | a
  · rcases h.b with b | b
    · rcases h.c with c | c
      · rcases h.d with d | d
        · exact .inl ⟨a, b, c, d⟩
        · have : (chi m hi).2 < 0 := d
          exact .inr (.inr (by omega))
      · have : (chi m hi).1 < 0 := c
        exact .inr (.inl (by omega))
    · have : ((2 ^ (m + 3) : Nat) : Int) ≤ (clo lo).2 := b
      exact .inr (.inr (by omega))
  · have : ((2 ^ (m + 3) : Nat) : Int) ≤ (clo lo).1 := a
    exact .inr (.inl (by omega))
/-- the corners of the whole, of a square of level m + 3 -/
def cnr (m : Nat) (lo hi : Cel) : Cnr := ⟨(max lo.1 0).toNat, (max lo.2 0).toNat, (min hi.1 (((2 ^ (m + 3) : Nat) : Int) - 1)).toNat, (min hi.2 (((2 ^ (m + 3) : Nat) : Int) - 1)).toNat⟩
theorem aL_top (m : Nat) (x : Int) : aL (max x 0).toNat m x := by
  unfold aL kL
  have hp := Nat.two_pow_pos (m + 3)
  generalize 2 ^ (m + 3) = w at *
  by_cases g : (max x 0).toNat < w
  · rw [Nat.mod_eq_of_lt g]
    omega
  · omega
theorem aH_top (m : Nat) (x : Int) : aH (min x (((2 ^ (m + 3) : Nat) : Int) - 1)).toNat m x := by
  unfold aH kH
  have hp := Nat.two_pow_pos (m + 3)
  generalize 2 ^ (m + 3) = w at *
  by_cases g : (min x ((w : Int) - 1)).toNat < w
  · rw [Nat.mod_eq_of_lt g]
    omega
  · omega
theorem ask_top (m : Nat) (lo hi : Cel) : AskM (cnr m lo hi) m lo hi := ⟨aL_top m _, aL_top m _, aH_top m _, aH_top m _⟩
def lvN (L : List Sq) (id : Int) : Nat := ((at' L id).lev - 3).toNat
theorem lvN_is {L : List Sq} {n : Nat} {id : Int} (h : Lv L n id) : lvN L id = n := by
  unfold lvN
  rw [h.2]
  omega
structure KeyOk (L : List Sq) (E : Cnr) (k : K5) : Prop where
  ok : Ok L k.1
  key : KeyM E (lvN L k.1) k.2.1 k.2.2
def bt (x : Int) : Int := if x = 0 then 0 else 1
def btH (m : Nat) (x : Int) : Int := if x = ((2 ^ (m + 3) : Nat) : Int) - 1 then 0 else 1
def cod (L : List Sq) (k : K5) : Int := (k.1 - 1) * 16 + (bt k.2.1.1 * 8 + bt k.2.1.2 * 4 + btH (lvN L k.1) k.2.2.1 * 2 + btH (lvN L k.1) k.2.2.2)
theorem bt_in (x : Int) : 0 ≤ bt x ∧ bt x ≤ 1 := by unfold bt; split <;> omega
theorem btH_in (m : Nat) (x : Int) : 0 ≤ btH m x ∧ btH m x ≤ 1 := by unfold btH; split <;> omega
theorem bt_inj {X m : Nat} {x y : Int} (hx : kL X m x) (hy : kL X m y) (e : bt x = bt y) : x = y := by
  unfold bt at e
  unfold kL at hx hy
  by_cases g : x = 0
  · rw [if_pos g] at e
    by_cases k : y = 0
    · omega
    · rw [if_neg k] at e
      omega
  · rw [if_neg g] at e
    by_cases k : y = 0
    · rw [if_pos k] at e
      omega
    · omega
theorem btH_inj {X m : Nat} {x y : Int} (hx : kH X m x) (hy : kH X m y) (e : btH m x = btH m y) : x = y := by
  unfold btH at e
  unfold kH at hx hy
  by_cases g : x = ((2 ^ (m + 3) : Nat) : Int) - 1
  · rw [if_pos g] at e
    by_cases k : y = ((2 ^ (m + 3) : Nat) : Int) - 1
    · omega
    · rw [if_neg k] at e
      omega
  · rw [if_neg g] at e
    by_cases k : y = ((2 ^ (m + 3) : Nat) : Int) - 1
    · rw [if_pos k] at e
      omega
    · omega
theorem cod_inj {L : List Sq} {E : Cnr} {x y : K5} (hx : KeyOk L E x) (hy : KeyOk L E y) (e : cod L x = cod L y) : x = y := by
  obtain ⟨i, ⟨a, b⟩, ⟨c, d⟩⟩ := x
  obtain ⟨j, ⟨a', b'⟩, ⟨c', d'⟩⟩ := y
  unfold cod at e
  simp only at e
  have h1 := bt_in a
  have h2 := bt_in b
  have h3 := btH_in (lvN L i) c
  have h4 := btH_in (lvN L i) d
  have k1 := bt_in a'
  have k2 := bt_in b'
  have k3 := btH_in (lvN L j) c'
  have k4 := btH_in (lvN L j) d'
  have eij : i = j := by
    omega
  subst eij
  have e1 := bt_inj hx.key.a hy.key.a (show bt a = bt a' by omega)
  have e2 := bt_inj hx.key.b hy.key.b (show bt b = bt b' by omega)
  have e3 := btH_inj hx.key.c hy.key.c (show btH (lvN L i) c = btH (lvN L i) c' by omega)
  have e4 := btH_inj hx.key.d hy.key.d (show btH (lvN L i) d = btH (lvN L i) d' by omega)
  simp only at e1 e2 e3 e4
  rw [e1, e2, e3, e4]
theorem keys_len {L : List Sq} {E : Cnr} (hL : L.length ≤ 65536) {ks : List K5} (hd : ks.Nodup) (hk : ∀ k ∈ ks, KeyOk L E k) : ks.length ≤ 1048576 := by
  have h2 : (ks.map fun k => (cod L k).toNat).Nodup := by
    refine List.pairwise_map.2 (hd.imp_of_mem ?_)
    intro a b ha hb hab e
    have h1 := (hk a ha).ok
    have h2 := (hk b hb).ok
    have c1 := bt_in a.2.1.1
    have c2 := bt_in a.2.1.2
    have c3 := btH_in (lvN L a.1) a.2.2.1
    have c4 := btH_in (lvN L a.1) a.2.2.2
    have d1 := bt_in b.2.1.1
    have d2 := bt_in b.2.1.2
    have d3 := btH_in (lvN L b.1) b.2.2.1
    have d4 := btH_in (lvN L b.1) b.2.2.2
    refine hab (cod_inj (hk a ha) (hk b hb) ?_)
    unfold Ok at h1 h2
    unfold cod at e ⊢
    omega
  have := sub_len (ks.map fun k => (cod L k).toNat) (List.range 1048576) h2 (fun x hx => by
    obtain ⟨a, ha, rfl⟩ := List.mem_map.1 hx
    have h1 := (hk a ha).ok
    have c1 := bt_in a.2.1.1
    have c2 := bt_in a.2.1.2
    have c3 := btH_in (lvN L a.1) a.2.2.1
    have c4 := btH_in (lvN L a.1) a.2.2.2
    unfold Ok at h1
    refine List.mem_range.2 ?_
    unfold cod
    omega)
  rw [List.length_map, List.length_range] at this
  exact this
/-- what a part has -/
def vl (L : List Sq) (k : K5) : Int := inV L (lvN L k.1) k.1 k.2.1 k.2.2
end Go.Proofs.YtifkhmcdgmnipaaGreatDoor.Qd

/-
  WHAT IS UNDER WAY, AS PLAIN DATA: frames, their parts, and what came of these, over a list of squares. Conditions: those that each lemma names.
-/
import Derived.Test.YtlejohclijjhnaaGreatDoorL06
namespace Go.Proofs.YtlejohclijjhnaaGreatDoor.Fm
open Ti Ru Qd

structure Fr where
  id : Int
  j : Int
  st : Int
  got : List Int
def gv (l : List Int) (i : Nat) : Int := l.getD i 0
/-- a part: its four, how far it goes on, whether it does not -/
structure Pa where
  f : Nat → Int
  j : Int
  still : Bool
def rj (lev j : Int) : Int := if j = lev - 2 then j - 1 else j
def nextP (L : List Sq) (f : Fr) : Option Pa :=
  if f.st = (if (at' L f.id).lev = 4 then 0 else 13) then none
  else if f.st < 9 then some ⟨wf (sxt L f.id) 4 f.st.toNat, rj (at' L f.id).lev f.j, !decide (f.j = (at' L f.id).lev - 2)⟩
  else some ⟨wf (gv f.got) 3 (f.st.toNat - 9), rj (at' L f.id).lev f.j, false⟩
def take (f : Fr) (o : Int) : Fr := ⟨f.id, f.j, f.st + 1, f.got ++ [o]⟩
/-- the planes, and the places, of what comes of the parts -/
def plG (b l : Nat) (p : Pl) (m : Nat) (j : Int) (i : Nat) : Pl := if i < 9 then (if j = m + 3 then gens b l p (2 ^ (m + 2)) else p) else gens b l p (2 ^ j.toNat)
def xG (m i : Nat) : Nat := if i < 9 then 2 ^ (m + 2) + i % 3 * 2 ^ (m + 3) else 2 ^ (m + 3) + (i - 9) % 2 * 2 ^ (m + 3)
def yG (m i : Nat) : Nat := if i < 9 then 2 ^ (m + 2) + i / 3 * 2 ^ (m + 3) else 2 ^ (m + 3) + (i - 9) / 2 * 2 ^ (m + 3)
/-- the planes, and the places, of the parts -/
def plP (b l : Nat) (p : Pl) (m : Nat) (j : Int) (i : Nat) : Pl := if i < 9 then p else (if j = m + 3 then gens b l p (2 ^ (m + 2)) else p)
def xP (m i : Nat) : Nat := if i < 9 then i % 3 * 2 ^ (m + 3) else 2 ^ (m + 2) + (i - 9) % 2 * 2 ^ (m + 3)
def yP (m i : Nat) : Nat := if i < 9 then i / 3 * 2 ^ (m + 3) else 2 ^ (m + 2) + (i - 9) / 2 * 2 ^ (m + 3)
theorem p32 (m : Nat) : 2 ^ (m + 3) = 2 * 2 ^ (m + 2) := by rw [show m + 3 = (m + 2) + 1 by omega, Nat.pow_succ]; omega
theorem xPG (m i : Nat) : xP m i + 2 ^ (m + 2) = xG m i := by
  unfold xP xG
  have := p32 m
  split <;> omega
theorem yPG (m i : Nat) : yP m i + 2 ^ (m + 2) = yG m i := by
  unfold yP yG
  have := p32 m
  split <;> omega
structure FOk (b l : Nat) (L : List Sq) (f : Fr) (n : Nat) : Prop where
  lv : Lv L (n + 1) f.id
  n36 : n ≤ 36
  j0 : 0 ≤ f.j
  j1 : f.j ≤ n + 2
  st : f.st = f.got.length
  low : n = 0 → f.got = []
  len : f.got.length ≤ 13
  got : ∀ m, n = m + 1 → ∀ p ox oy, Wn L (m + 2) f.id p ox oy → ∀ i (h : i < f.got.length), Wn L m f.got[i] (plG b l p m f.j i) (ox + (xG m i : Nat)) (oy + (yG m i : Nat))
theorem FOk.lev {b l : Nat} {L : List Sq} {f : Fr} {n : Nat} (h : FOk b l L f n) : (at' L f.id).lev = n + 4 := by rw [h.lv.2]; omega
theorem FOk.ext {b l : Nat} {L M : List Sq} (hi : Inv L) (e : L <+: M) {f : Fr} {n : Nat} (h : FOk b l L f n) : FOk b l M f n :=
  ⟨h.lv.ext e, h.n36, h.j0, h.j1, h.st, h.low, h.len, fun m hm p ox oy hw i hlt => (h.got m hm p ox oy (hw.back hi e h.lv.1) i hlt).ext hi e⟩
theorem FOk.new (b l : Nat) {L : List Sq} {id j : Int} {n : Nat} (h : Lv L (n + 1) id) (hn : n ≤ 36) (h0 : 0 ≤ j) (h1 : j ≤ n + 2) : FOk b l L ⟨id, j, 0, []⟩ n :=
  ⟨h, hn, h0, h1, rfl, fun _ => rfl, Nat.zero_le _, fun _ _ _ _ _ _ _ hlt => absurd hlt (Nat.not_lt_zero _)⟩
theorem next_low {b l : Nat} {L : List Sq} {f : Fr} (h : FOk b l L f 0) : nextP L f = none := by
  unfold nextP
  rw [h.lev, if_pos (by simp [h.st, h.low rfl])]
theorem next_end {b l : Nat} {L : List Sq} {f : Fr} {m : Nat} (h : FOk b l L f (m + 1)) (e : f.got.length = 13) : nextP L f = none := by
  unfold nextP
  rw [h.lev, if_pos (by rw [h.st, e, if_neg (by omega)]; rfl)]
def paP (L : List Sq) (f : Fr) (m : Nat) : Pa := if f.got.length < 9 then ⟨wf (sxt L f.id) 4 f.got.length, rj (m + 5) f.j, !decide (f.j = m + 3)⟩ else ⟨wf (gv f.got) 3 (f.got.length - 9), rj (m + 5) f.j, false⟩
theorem next_some {b l : Nat} {L : List Sq} {f : Fr} {m : Nat} (h : FOk b l L f (m + 1)) (e : f.got.length < 13) : nextP L f = some (paP L f m) := by
  unfold nextP paP
  have e5 : ((m + 1 : Nat) : Int) + 4 = m + 5 := by omega
  rw [h.lev, e5, if_neg (by rw [h.st, if_neg (by omega)]; omega), h.st]
  by_cases k : f.got.length < 9
  · rw [if_pos (by omega), if_pos k, Int.toNat_natCast, show ((m : Int) + 5 - 2) = m + 3 by omega]
  · rw [if_neg (by omega), if_neg k, Int.toNat_natCast]
theorem next_inv {b l : Nat} {L : List Sq} {f : Fr} {n : Nat} (h : FOk b l L f n) {x : Pa} (e : nextP L f = some x) : ∃ m, n = m + 1 ∧ f.got.length < 13 ∧ x = paP L f m := by
  match n with
  | 0 => rw [next_low h] at e; cases e
  | m + 1 =>
    by_cases k : f.got.length = 13
    · rw [next_end h k] at e; cases e
    · have hl := h.len
      rw [next_some h (by omega)] at e
      exact ⟨m, rfl, by omega, (Option.some.inj e).symm⟩
theorem wf_at (v : Nat → Int) (wide k i : Nat) (h : i < 4) : wf v wide k i = v (at4 wide k + i / 2 * wide + i % 2) := by
  unfold wf
  rcases (show i = 0 ∨ i = 1 ∨ i = 2 ∨ i = 3 by omega) with rfl | rfl | rfl | rfl <;> simp
theorem gv_at {l : List Int} {i : Nat} (h : i < l.length) : gv l i = l[i] := by unfold gv; simp [List.getD, List.getElem?_eq_getElem h]
theorem sxt_ext {L M : List Sq} (hi : Inv L) (e : L <+: M) {m : Nat} {id : Int} (h : Lv L (m + 2) id) (k : Nat) : sxt M id k = sxt L id k := by
  unfold sxt
  rw [at_ext e h.1, at_ext e (hi.kid h _).1]
theorem next_ext {b l : Nat} {L M : List Sq} (hi : Inv L) (e : L <+: M) {f : Fr} {n : Nat} (h : FOk b l L f n) : nextP M f = nextP L f := by
  match n with
  | 0 => rw [next_low h, next_low (h.ext hi e)]
  | m + 1 =>
    by_cases k : f.got.length = 13
    · rw [next_end h k, next_end (h.ext hi e) k]
    · have hl := h.len
      rw [next_some h (by omega), next_some (h.ext hi e) (by omega)]
      unfold paP
      rw [show sxt M f.id = sxt L f.id from funext fun k => sxt_ext hi e h.lv k]
/-- a part's four are windows side by side -/
theorem part_win {b l : Nat} {L : List Sq} (hi : Inv L) {f : Fr} {m : Nat} (h : FOk b l L f (m + 1)) (e : f.got.length < 13) {p : Pl} {ox oy : Int} (hw : Wn L (m + 2) f.id p ox oy) (i : Nat) (h4 : i < 4) :
    Wn L m ((paP L f m).f i) (plP b l p m f.j f.got.length) (ox + (xP m f.got.length : Nat) + (i % 2 * 2 ^ (m + 3) : Nat)) (oy + (yP m f.got.length : Nat) + (i / 2 * 2 ^ (m + 3) : Nat)) := by
  unfold paP plP xP yP
  by_cases k9 : f.got.length < 9
  · rw [if_pos k9, if_pos k9, if_pos k9, if_pos k9]
    show Wn L m (wf _ _ _ i) _ _ _
    rw [wf_at _ _ _ _ h4]
    generalize f.got.length = k at *
    have hx : at4 4 k + i / 2 * 4 + i % 2 < 16 := by unfold at4; omega
    refine (sixteen_wn hi hw _ hx).ag fun x y _ _ => ?_
    have a1 : (at4 4 k + i / 2 * 4 + i % 2) % 4 = k % 3 + i % 2 := by unfold at4; omega
    have a2 : (at4 4 k + i / 2 * 4 + i % 2) / 4 = k / 3 + i / 2 := by unfold at4; omega
    rw [a1, a2, Nat.add_mul, Nat.add_mul]
    congr 1 <;> omega
  · rw [if_neg k9, if_neg k9, if_neg k9, if_neg k9]
    show Wn L m (wf _ _ _ i) _ _ _
    rw [wf_at _ _ _ _ h4]
    obtain ⟨k, hk⟩ : ∃ k, f.got.length = k + 9 := ⟨f.got.length - 9, by omega⟩
    have hx : at4 3 k + i / 2 * 3 + i % 2 < 9 := by unfold at4; omega
    have hlt : at4 3 k + i / 2 * 3 + i % 2 < f.got.length := by omega
    have hg := h.got m rfl p ox oy hw _ hlt
    rw [show f.got.length - 9 = k by omega, gv_at hlt]
    refine (show Wn L m _ (if f.j = m + 3 then gens b l p (2 ^ (m + 2)) else p) _ _ from ?_)
    unfold plG xG yG at hg
    rw [if_pos hx, if_pos hx, if_pos hx] at hg
    refine hg.ag fun x y _ _ => ?_
    have a1 : (at4 3 k + i / 2 * 3 + i % 2) % 3 = k % 2 + i % 2 := by unfold at4; omega
    have a2 : (at4 3 k + i / 2 * 3 + i % 2) / 3 = k / 2 + i / 2 := by unfold at4; omega
    rw [a1, a2, Nat.add_mul, Nat.add_mul]
    generalize (if f.j = (m : Int) + 3 then gens b l p (2 ^ (m + 2)) else p) = P
    congr 1 <;> omega
theorem part_lv {b l : Nat} {L : List Sq} (hi : Inv L) {f : Fr} {m : Nat} (h : FOk b l L f (m + 1)) (e : f.got.length < 13) (i : Nat) (h4 : i < 4) : Lv L m ((paP L f m).f i) :=
  (part_win hi h e (Wn.self h.lv) i h4).1
/-- a square whose four are windows side by side is one -/
theorem kids_wn {L : List Sq} {n : Nat} {id : Int} {p : Pl} {ox oy : Int} (hl : Lv L (n + 1) id) (h : ∀ i, i < 4 → Wn L n (Qd.kid (at' L id) i) p (ox + (i % 2 * 2 ^ (n + 3) : Nat)) (oy + (i / 2 * 2 ^ (n + 3) : Nat))) : Wn L (n + 1) id p ox oy := by
  refine ⟨hl, fun x y hx hy => ?_⟩
  have hw := pow3 n
  have hp := Nat.two_pow_pos (n + 3)
  have hq : qd (2 ^ (n + 3)) x y < 4 := qd_lt (by rw [show n + 3 + 1 = n + 1 + 3 by omega]; exact hx) (by rw [show n + 3 + 1 = n + 1 + 3 by omega]; exact hy)
  show cel L n (Qd.kid (at' L id) (qd (2 ^ (n + 3)) x y)) (x % 2 ^ (n + 3)) (y % 2 ^ (n + 3)) = _
  rw [(h _ hq).2 _ _ (Nat.mod_lt _ hp) (Nat.mod_lt _ hp)]
  have h1 : x / 2 ^ (n + 3) < 2 := by rw [Nat.div_lt_iff_lt_mul hp]; omega
  have h2 : y / 2 ^ (n + 3) < 2 := by rw [Nat.div_lt_iff_lt_mul hp]; omega
  have e1 : qd (2 ^ (n + 3)) x y % 2 = x / 2 ^ (n + 3) := (qd_parts h1).1
  have e2 : qd (2 ^ (n + 3)) x y / 2 = y / 2 ^ (n + 3) := (qd_parts h1).2
  rw [e1, e2]
  have d1 := Nat.div_add_mod x (2 ^ (n + 3))
  have d2 := Nat.div_add_mod y (2 ^ (n + 3))
  rw [Nat.mul_comm] at d1 d2
  congr 1 <;> omega
/-- a square is a frame's next part -/
def IsP (L : List Sq) (f : Fr) (k : Int) (x : Pa) : Prop := nextP L f = some x ∧ ∀ i, i < 4 → Qd.kid (at' L k) i = x.f i
theorem IsP.win {b l : Nat} {L : List Sq} (hi : Inv L) {f : Fr} {k : Int} {x : Pa} {m : Nat} (h : FOk b l L f (m + 1)) (hp : IsP L f k x) (hk : Lv L (m + 1) k) {p : Pl} {ox oy : Int} (hw : Wn L (m + 2) f.id p ox oy) :
    Wn L (m + 1) k (plP b l p m f.j f.got.length) (ox + (xP m f.got.length : Nat)) (oy + (yP m f.got.length : Nat)) := by
  obtain ⟨m', e, hlt, rfl⟩ := next_inv h hp.1
  obtain rfl : m = m' := by omega
  refine kids_wn hk fun i h4 => ?_
  rw [hp.2 i h4]
  exact part_win hi h hlt hw i h4
/-- what came of a square, so far on -/
def Grn (b l : Nat) (L : List Sq) (k j o : Int) : Prop := ∀ m p ox oy, Wn L (m + 1) k p ox oy → 0 ≤ j ∧ Wn L m o (gens b l p (2 ^ j.toNat)) (ox + (2 ^ (m + 2) : Nat)) (oy + (2 ^ (m + 2) : Nat))
def Ctr (L : List Sq) (k o : Int) : Prop := ∀ m p ox oy, Wn L (m + 1) k p ox oy → Wn L m o p (ox + (2 ^ (m + 2) : Nat)) (oy + (2 ^ (m + 2) : Nat))
theorem Grn.ext {b l : Nat} {L M : List Sq} (hi : Inv L) (e : L <+: M) {k j o : Int} (ho : Ok L k) (h : Grn b l L k j o) : Grn b l M k j o := fun m p ox oy hw => by
  obtain ⟨h1, h2⟩ := h m p ox oy (hw.back hi e ho)
  exact ⟨h1, h2.ext hi e⟩
theorem take_any {b l : Nat} {L : List Sq} {f : Fr} {m : Nat} (h : FOk b l L f (m + 1)) (e : f.got.length < 13) {o : Int}
    (ho : ∀ p ox oy, Wn L (m + 2) f.id p ox oy → Wn L m o (plG b l p m f.j f.got.length) (ox + (xG m f.got.length : Nat)) (oy + (yG m f.got.length : Nat))) : FOk b l L (take f o) (m + 1) := by
  refine ⟨h.lv, h.n36, h.j0, h.j1, ?_, fun hz => absurd hz (by omega), ?_, fun m' hm p ox oy hw i hlt => ?_⟩
  · show f.st + 1 = ((f.got ++ [o]).length : Nat)
    rw [h.st, List.length_append]
    simp
  · show (f.got ++ [o]).length ≤ 13
    rw [List.length_append]
    simp
    omega
  · obtain rfl : m = m' := by omega
    have hlt : i < (f.got ++ [o]).length := hlt
    show Wn L m ((f.got ++ [o])[i]) (plG b l p m f.j i) _ _
    by_cases k : i < f.got.length
    · rw [List.getElem_append_left k]
      exact h.got m rfl p ox oy hw i k
    · rw [List.length_append] at hlt
      simp at hlt
      obtain rfl : i = f.got.length := by omega
      rw [List.getElem_append_right (Nat.le_refl _)]
      simp only [Nat.sub_self, List.getElem_cons_zero]
      exact ho p ox oy hw
theorem take_still {b l : Nat} {L : List Sq} (hi : Inv L) {f : Fr} {k o : Int} {x : Pa} {m : Nat} (h : FOk b l L f (m + 1)) (hp : IsP L f k x) (hk : Lv L (m + 1) k) (hs : x.still = true) (ho : Ctr L k o) : FOk b l L (take f o) (m + 1) := by
  obtain ⟨m', e, hlt, rfl⟩ := next_inv h hp.1
  obtain rfl : m = m' := by omega
  refine take_any h hlt fun p ox oy hw => ?_
  have w := ho _ _ _ _ (hp.win hi h hk hw)
  unfold paP at hs
  by_cases k9 : f.got.length < 9
  · rw [if_pos k9] at hs
    have hj : ¬ f.j = m + 3 := by simpa using hs
    unfold plP at w
    unfold plG
    rw [if_pos k9] at w
    rw [if_pos k9, if_neg hj]
    refine w.ag fun x y _ _ => ?_
    rw [← xPG, ← yPG]
    congr 1 <;> omega
  · rw [if_neg k9] at hs
    cases hs
theorem take_go {b l : Nat} {L : List Sq} (hi : Inv L) {f : Fr} {k o : Int} {x : Pa} {m : Nat} (h : FOk b l L f (m + 1)) (hp : IsP L f k x) (hk : Lv L (m + 1) k) (hs : x.still = false) (ho : Grn b l L k x.j o) : FOk b l L (take f o) (m + 1) := by
  obtain ⟨m', e, hlt, rfl⟩ := next_inv h hp.1
  obtain rfl : m = m' := by omega
  refine take_any h hlt fun p ox oy hw => ?_
  have w := (ho _ _ _ _ (hp.win hi h hk hw)).2
  have key : gens b l (plP b l p m f.j f.got.length) (2 ^ (paP L f m).j.toNat) = plG b l p m f.j f.got.length := by
    unfold paP at hs ⊢
    unfold plP plG
    have hj0 := h.j0
    by_cases k9 : f.got.length < 9
    · rw [if_pos k9] at hs ⊢
      have hj : f.j = m + 3 := by simpa using hs
      rw [if_pos k9, if_pos k9, if_pos hj]
      show gens b l p (2 ^ (rj (m + 5) f.j).toNat) = _
      unfold rj
      rw [if_pos (by omega), hj, show ((m : Int) + 3 - 1).toNat = m + 2 by omega]
    · rw [if_neg k9] at hs ⊢
      rw [if_neg k9, if_neg k9]
      show gens b l _ (2 ^ (rj (m + 5) f.j).toNat) = _
      unfold rj
      by_cases hj : f.j = m + 3
      · rw [if_pos hj, if_pos (by omega), gens_add, hj, show ((m : Int) + 3 - 1).toNat = m + 2 by omega, show ((m : Int) + 3).toNat = m + 3 by omega, p32 m]
        congr 1
        omega
      · rw [if_neg hj, if_neg (by omega)]
  rw [key] at w
  refine w.ag fun x y _ _ => ?_
  rw [← xPG, ← yPG]
  congr 1 <;> omega
end Go.Proofs.YtlejohclijjhnaaGreatDoor.Fm

/-
  A STEP, AS PLAIN DATA: what is under way, one step on: it stays right, and comes nearer to its end. Conditions: those that each lemma names.
  STEPS ONE BEHIND THE OTHER, AS PLAIN DATA; the same again where all squares are there; what was done once. Conditions: those that each lemma names.
-/
import Derived.Test.YtlejohclijjhnaaGreatDoorL07
namespace Go.Proofs.YtlejohclijjhnaaGreatDoor.Fm
open Ti Ru Qd

structure MS where
  L : List Sq
  K : Kn
  U : List Fr
  out : Int
def Fol (L : List Sq) (f g : Fr) : Prop := ∃ x, IsP L f g.id x ∧ x.still = false ∧ g.j = x.j
def Stk (b l : Nat) (L : List Sq) : List Fr → Prop
  | [] => True
  | [f] => ∃ n, FOk b l L f n
  | g :: f :: r => (∃ n, FOk b l L g n) ∧ Fol L f g ∧ Stk b l L (f :: r)
structure SOk (b l : Nat) (s : MS) : Prop where
  kn : GOk b l (s.L, s.K)
  stk : Stk b l s.L s.U
def endQ (b l : Nat) (L : List Sq) (f : Fr) : Sq :=
  if f.st = 0 then leafQ (growP b l (2 ^ f.j.toNat) (tilG L (at' L f.id).k0 (at' L f.id).k1 (at' L f.id).k2 (at' L f.id).k3))
  else joinQ L (gv f.got 9) (gv f.got 10) (gv f.got 11) (gv f.got 12)
def pjQ (L : List Sq) (x : Pa) : Sq := joinQ L (x.f 0) (x.f 1) (x.f 2) (x.f 3)
def K0 : Kn := fun _ _ => none
def endU (b l : Nat) (L : List Sq) (K : Kn) (f : Fr) (out : Int) : List Fr → MS
  | [] => ⟨put L (endQ b l L f), K.note f.id f.j (nr L (endQ b l L f)), [], nr L (endQ b l L f)⟩
  | g :: r => ⟨put L (endQ b l L f), K.note f.id f.j (nr L (endQ b l L f)), take g (nr L (endQ b l L f)) :: r, out⟩
def goU (L1 : List Sq) (K : Kn) (f : Fr) (r : List Fr) (out k j : Int) : Option Int → MS
  | some o => ⟨L1, K, take f o :: r, out⟩
  | none => ⟨L1, K, ⟨k, j, 0, []⟩ :: f :: r, out⟩
def stillU (L1 : List Sq) (K : Kn) (f : Fr) (r : List Fr) (out k : Int) : MS := ⟨(ctrG (L1, K0) k).1.1, K, take f (ctrG (L1, K0) k).2 :: r, out⟩
def partU (L : List Sq) (K : Kn) (f : Fr) (r : List Fr) (out : Int) (x : Pa) : MS :=
  if x.still = true then stillU (put L (pjQ L x)) K f r out (nr L (pjQ L x))
  else goU (put L (pjQ L x)) K f r out (nr L (pjQ L x)) x.j (K (nr L (pjQ L x)) x.j)
def stepU (b l : Nat) (L : List Sq) (K : Kn) (f : Fr) (r : List Fr) (out : Int) : Option Pa → MS
  | none => endU b l L K f out r
  | some x => partU L K f r out x
def stepF (b l : Nat) : MS → MS
  | ⟨L, K, [], out⟩ => ⟨L, K, [], out⟩
  | ⟨L, K, f :: r, out⟩ => stepU b l L K f r out (nextP L f)
theorem Stk.top {b l : Nat} {L : List Sq} {f : Fr} : ∀ {r : List Fr}, Stk b l L (f :: r) → ∃ n, FOk b l L f n
  | [], h => h
  | _ :: _, h => h.1
theorem Stk.rest {b l : Nat} {L : List Sq} {f : Fr} : ∀ {r : List Fr}, Stk b l L (f :: r) → Stk b l L r
  | [], _ => trivial
  | _ :: _, h => h.2.2
theorem IsP.ext {b l : Nat} {L M : List Sq} (hi : Inv L) (e : L <+: M) {f : Fr} {n : Nat} (h : FOk b l L f n) {k : Int} (ho : Ok L k) {x : Pa} (hp : IsP L f k x) : IsP M f k x :=
  ⟨by rw [next_ext hi e h]; exact hp.1, fun i h4 => by rw [at_ext e ho]; exact hp.2 i h4⟩
theorem Stk.ext {b l : Nat} {L M : List Sq} (hi : Inv L) (e : L <+: M) : ∀ {r : List Fr}, Stk b l L r → Stk b l M r
  | [], _ => trivial
  | [_], ⟨n, h⟩ => ⟨n, h.ext hi e⟩
  | g :: f :: r, ⟨⟨n, h⟩, ⟨x, hp, hs, hj⟩, ht⟩ => by
    obtain ⟨n', h'⟩ := Stk.top ht
    exact ⟨⟨n, h.ext hi e⟩, ⟨x, hp.ext hi e h' h.lv.1, hs, hj⟩, Stk.ext hi e ht⟩
/-- a frame changes, but for what it is of -/
theorem Stk.swap {b l : Nat} {L : List Sq} {f f' : Fr} {n : Nat} (h : FOk b l L f' n) (e1 : f'.id = f.id) (e2 : f'.j = f.j) : ∀ {r : List Fr}, Stk b l L (f :: r) → Stk b l L (f' :: r)
  | [], _ => ⟨n, h⟩
  | _ :: _, ⟨_, ⟨x, hp, hs, hj⟩, ht⟩ => ⟨⟨n, h⟩, ⟨x, by rw [e1]; exact hp, hs, by rw [e2]; exact hj⟩, ht⟩
theorem Stk.take {b l : Nat} {L : List Sq} {f : Fr} {n : Nat} {o : Int} (h : FOk b l L (take f o) n) {r : List Fr} (k : Stk b l L (f :: r)) : Stk b l L (take f o :: r) := Stk.swap (f := f) (f' := Fm.take f o) h rfl rfl k
theorem Fol.lev {b l : Nat} {L : List Sq} (hi : Inv L) {f g : Fr} {n k : Nat} (hf : FOk b l L f n) (hg : FOk b l L g k) (h : Fol L f g) : n = k + 1 ∧ f.got.length < 13 := by
  obtain ⟨x, hp, _, _⟩ := h
  obtain ⟨m, e, hlt, rfl⟩ := next_inv hf hp.1
  subst e
  have a := part_lv hi hf hlt 0 (by decide)
  have c := hi.kid hg.lv 0
  rw [hp.2 0 (by decide)] at c
  have := a.2
  have := c.2
  exact ⟨by omega, hlt⟩
theorem join_kid (L : List Sq) (x : Pa) (i : Nat) (h : i < 4) : Qd.kid (at' (put L (pjQ L x)) (nr L (pjQ L x))) i = x.f i := by
  rw [put_at]
  exact kid_join L x.f i h
theorem join_lv {L : List Sq} {m : Nat} {x : Pa} (h : ∀ i, i < 4 → Lv L m (x.f i)) : Lv (put L (pjQ L x)) (m + 1) (nr L (pjQ L x)) := node_lv (f := x.f) h
theorem join_inv {L : List Sq} (hi : Inv L) {m : Nat} (hm : m ≤ 36) {x : Pa} (h : ∀ i, i < 4 → Lv L m (x.f i)) : Inv (put L (pjQ L x)) := node_inv (f := x.f) hi hm h
theorem end_len {b l : Nat} {L : List Sq} {f : Fr} {n : Nat} (h : FOk b l L f n) (e : nextP L f = none) : n = 0 ∨ ∃ m, n = m + 1 ∧ f.got.length = 13 := by
  match n with
  | 0 => exact Or.inl rfl
  | m + 1 =>
    refine Or.inr ⟨m, rfl, ?_⟩
    by_cases k : f.got.length = 13
    · exact k
    · have hl := h.len
      rw [next_some h (by omega)] at e
      cases e
theorem j_cast {j : Int} (h : 0 ≤ j) : ((j.toNat : Nat) : Int) = j := by omega
/-- a frame that ends -/
theorem end_res {b l : Nat} {L : List Sq} {K : Kn} (hk : GOk b l (L, K)) {f : Fr} {n : Nat} (h : FOk b l L f n) (e : nextP L f = none) {p : Pl} {ox oy : Int} (hw : Wn L (n + 1) f.id p ox oy) :
    Res b l Tt 1 (L, K) ((put L (endQ b l L f), K), nr L (endQ b l L f)) n (gens b l p (2 ^ f.j.toNat)) (ox + (2 ^ (n + 2) : Nat)) (oy + (2 ^ (n + 2) : Nat)) := by
  rcases end_len h e with rfl | ⟨m, rfl, h13⟩
  · unfold endQ
    rw [if_pos (by rw [h.st, h.low rfl]; rfl)]
    have hj := h.j1
    have hj0 := h.j0
    exact leaf_res (f := fun i => Qd.kid (at' L f.id) i) hk b l (2 ^ f.j.toNat) (pow2_4 (by omega)) (fun i h4 => hw.kid hk.inv i h4) trivial
  · unfold endQ
    rw [if_neg (by rw [h.st, h13]; decide)]
    have hg := h.got m rfl p ox oy hw
    have hn := h.n36
    refine Res.ag (node_res (A := Tt) (f := fun i => gv f.got (9 + i)) hk (show m ≤ 36 by omega) (p := gens b l p (2 ^ f.j.toNat)) (ox := ox + (2 ^ (m + 3) : Nat)) (oy := oy + (2 ^ (m + 3) : Nat)) (fun i h4 => ?_) trivial) rfl (by rw [show m + 1 + 2 = m + 3 by omega]) (by rw [show m + 1 + 2 = m + 3 by omega])
    have hlt : 9 + i < f.got.length := by omega
    have w := hg (9 + i) hlt
    show Wn L m (gv f.got (9 + i)) _ _ _
    rw [gv_at hlt]
    unfold plG xG yG at w
    rw [if_neg (by omega), if_neg (by omega), if_neg (by omega), show 9 + i - 9 = i by omega] at w
    refine w.ag fun x y _ _ => ?_
    congr 1 <;> omega
theorem end_ok {b l : Nat} {L : List Sq} {K : Kn} (hk : GOk b l (L, K)) {f : Fr} {n : Nat} (h : FOk b l L f n) (e : nextP L f = none) :
    GOk b l (put L (endQ b l L f), K.note f.id f.j (nr L (endQ b l L f))) ∧ Grn b l (put L (endQ b l L f)) f.id f.j (nr L (endQ b l L f)) := by
  have r := note_ok (A := Tt) (c := 1) (id := f.id) (j := f.j.toNat) hk (fun p ox oy hw => end_res hk h e hw) (Wn.self h.lv) (end_res hk h e (Wn.self h.lv))
  have e2 : GOk b l (put L (endQ b l L f), K.note f.id f.j (nr L (endQ b l L f))) := by
    have := r.ok
    unfold noteG at this
    rw [j_cast h.j0] at this
    exact this
  refine ⟨e2, ?_⟩
  have k2 := (e2.kn f.id f.j (nr L (endQ b l L f)) (if_pos ⟨rfl, rfl⟩)).2
  exact k2
theorem ctr_ok {b l : Nat} {L : List Sq} (hi : Inv L) {n : Nat} (hn : n ≤ 36) {k : Int} (hk : Lv L (n + 1) k) :
    L <+: (ctrG (L, K0) k).1.1 ∧ Inv (ctrG (L, K0) k).1.1 ∧ (ctrG (L, K0) k).1.1.length ≤ L.length + 1 ∧ Ctr (ctrG (L, K0) k).1.1 k (ctrG (L, K0) k).2 := by
  have r := fun p ox oy hw => ctr_res (b := b) (l := l) (s := (L, K0)) (gok_new b l hi) hn (id := k) (p := p) (ox := ox) (oy := oy) hw
  have r0 := r _ _ _ (Wn.self hk)
  refine ⟨r0.ext, r0.ok.inv, r0.len, fun m p ox oy hw => ?_⟩
  have hb := hw.back (L := L) hi r0.ext hk.1
  obtain rfl : m = n := by have := hb.1.2; have := hk.2; omega
  exact (r p ox oy hb).win
/-- how many steps are left, at most -/
def TT : Nat → Nat
  | 0 => 1
  | m + 1 => 13 * (1 + TT m) + 1
def lvN (L : List Sq) (f : Fr) : Nat := ((at' L f.id).lev - 4).toNat
def potF (L : List Sq) (f : Fr) : Nat := if lvN L f = 0 then 1 else (13 - f.got.length) * (1 + TT (lvN L f - 1)) + 1
def potB (L : List Sq) (f : Fr) : Nat := (12 - f.got.length) * (1 + TT (lvN L f - 1)) + 1
def potR (L : List Sq) : List Fr → Nat
  | [] => 0
  | f :: r => potB L f + potR L r
def pot (L : List Sq) : List Fr → Nat
  | [] => 0
  | f :: r => potF L f + potR L r
theorem FOk.lvN {b l : Nat} {L : List Sq} {f : Fr} {n : Nat} (h : FOk b l L f n) : lvN L f = n := by unfold Fm.lvN; rw [h.lev]; omega
theorem potR_ext {b l : Nat} {L M : List Sq} (hi : Inv L) (e : L <+: M) : ∀ r : List Fr, Stk b l L r → potR M r = potR L r
  | [], _ => rfl
  | f :: r, h => by
    obtain ⟨n, hf⟩ := Stk.top h
    show potB M f + potR M r = potB L f + potR L r
    rw [potR_ext hi e r (Stk.rest h)]
    unfold potB
    rw [hf.lvN, (hf.ext hi e).lvN]
theorem pot_take {b l : Nat} {L M : List Sq} {f : Fr} {m : Nat} {o : Int} (h : FOk b l L f (m + 1)) (h2 : FOk b l M (take f o) (m + 1)) (hlt : f.got.length < 13) : potF M (take f o) < potF L f := by
  unfold potF
  rw [h.lvN, h2.lvN, if_neg (by omega), if_neg (by omega)]
  show (13 - (f.got ++ [o]).length) * _ + 1 < _
  rw [List.length_append]
  have : 13 - f.got.length = (13 - (f.got.length + 1)) + 1 := by omega
  simp only [List.length_singleton]
  rw [this, Nat.succ_mul]
  omega
theorem pot_back {b l : Nat} {L M : List Sq} {f : Fr} {m : Nat} {o : Int} (h : FOk b l L f (m + 1)) (h2 : FOk b l M (take f o) (m + 1)) : potF M (take f o) = potB L f := by
  unfold potF potB
  rw [h.lvN, h2.lvN, if_neg (by omega)]
  show (13 - (f.got ++ [o]).length) * _ + 1 = _
  rw [List.length_append]
  simp only [List.length_singleton]
  rw [show 13 - (f.got.length + 1) = 12 - f.got.length by omega]
theorem pot_push {b l : Nat} {L M : List Sq} {f : Fr} {m : Nat} (h : FOk b l L f (m + 1)) (hlt : f.got.length < 13) {k j : Int} (hg : FOk b l M ⟨k, j, 0, []⟩ m) (h2 : FOk b l M f (m + 1)) : potF M ⟨k, j, 0, []⟩ + potB M f < potF L f := by
  have e1 : potF M ⟨k, j, 0, []⟩ = TT m := by
    unfold potF
    rw [hg.lvN]
    match m with
    | 0 => rfl
    | q + 1 => rw [if_neg (by omega)]; rfl
  rw [e1]
  unfold potF potB
  rw [h.lvN, h2.lvN, if_neg (by omega), show m + 1 - 1 = m by omega, show 13 - f.got.length = (12 - f.got.length) + 1 by omega, Nat.succ_mul]
  omega
theorem pot_end {L : List Sq} {f : Fr} : 0 < potF L f := by
  unfold potF
  split <;> omega
/-- what is under way is of this square, so far on; or it came of it -/
def Bas (id j : Int) (s : MS) : Prop := (s.U = [] ∧ s.K id j = some s.out) ∨ ∃ g, s.U.getLast? = some g ∧ g.id = id ∧ g.j = j
structure StepOk (b l : Nat) (s t : MS) : Prop where
  ok : SOk b l t
  ext : s.L <+: t.L
  len : t.L.length ≤ s.L.length + 2
  pot : pot t.L t.U < pot s.L s.U
  bas : ∀ id j, Bas id j s → Bas id j t
theorem last_swap {f f' : Fr} (e1 : f'.id = f.id) (e2 : f'.j = f.j) {r : List Fr} {id j : Int} (h : ∃ g, (f :: r).getLast? = some g ∧ g.id = id ∧ g.j = j) : ∃ g, (f' :: r).getLast? = some g ∧ g.id = id ∧ g.j = j := by
  obtain ⟨g, h1, h2, h3⟩ := h
  match r with
  | [] =>
    obtain rfl : f = g := by simpa using h1
    exact ⟨f', rfl, by rw [e1]; exact h2, by rw [e2]; exact h3⟩
  | x :: r => exact ⟨g, by rw [List.getLast?_cons_cons] at h1 ⊢; exact h1, h2, h3⟩
theorem last_take {f : Fr} {o : Int} {r : List Fr} {id j : Int} (h : ∃ g, (f :: r).getLast? = some g ∧ g.id = id ∧ g.j = j) : ∃ g, (take f o :: r).getLast? = some g ∧ g.id = id ∧ g.j = j := last_swap (f := f) (f' := take f o) rfl rfl h
theorem last_more {f g : Fr} {r : List Fr} {id j : Int} : (∃ x, (g :: f :: r).getLast? = some x ∧ x.id = id ∧ x.j = j) ↔ ∃ x, (f :: r).getLast? = some x ∧ x.id = id ∧ x.j = j := by
  rw [List.getLast?_cons_cons]
theorem bas_cons {id j : Int} {L : List Sq} {K : Kn} {f : Fr} {r : List Fr} {out : Int} : Bas id j ⟨L, K, f :: r, out⟩ ↔ ∃ g, (f :: r).getLast? = some g ∧ g.id = id ∧ g.j = j := by
  constructor
  · rintro (⟨h, _⟩ | h)
    · cases h
    · exact h
  · exact Or.inr
theorem rj_bd {b l : Nat} {L : List Sq} {f : Fr} {m : Nat} (h : FOk b l L f (m + 1)) : 0 ≤ (paP L f m).j ∧ (paP L f m).j ≤ m + 2 := by
  have e : (paP L f m).j = rj (m + 5) f.j := by unfold paP; split <;> rfl
  rw [e]
  unfold rj
  have h0 := h.j0
  have h1 := h.j1
  split <;> omega
theorem step_end {b l : Nat} {L : List Sq} {K : Kn} {f : Fr} {r : List Fr} {out : Int} (h : SOk b l ⟨L, K, f :: r, out⟩) (e : nextP L f = none) : StepOk b l ⟨L, K, f :: r, out⟩ (endU b l L K f out r) := by
  obtain ⟨n, hf⟩ := Stk.top h.stk
  have hi : Inv L := h.kn.inv
  obtain ⟨k1, k2⟩ := end_ok h.kn hf e
  have pe : L <+: put L (endQ b l L f) := put_ext _ _
  match r with
  | [] =>
    exact ⟨⟨k1, trivial⟩, pe, by have := (put_len L (endQ b l L f)).2; show (put L _).length ≤ L.length + 2; omega, by show 0 < potF L f + 0; have := pot_end (L := L) (f := f); omega, fun id j hb => by
      obtain ⟨g, h1, h2, h3⟩ := bas_cons.1 hb
      obtain rfl : f = g := by simpa using h1
      subst h2 h3
      exact Or.inl ⟨rfl, if_pos ⟨rfl, rfl⟩⟩⟩
  | g :: r =>
    obtain ⟨_, hfo, hst⟩ := (show (∃ n, FOk b l L f n) ∧ Fol L g f ∧ Stk b l L (g :: r) from h.stk)
    obtain ⟨q, hg⟩ := Stk.top hst
    obtain ⟨rfl, hlt⟩ := hfo.lev hi hg hf
    have hg2 := hg.ext hi pe
    have hi2 : Inv (put L (endQ b l L f)) := k1.inv
    obtain ⟨x, hp, hs, hj⟩ := hfo
    have ht : FOk b l (put L (endQ b l L f)) (take g (nr L (endQ b l L f))) (n + 1) := take_go hi2 hg2 (hp.ext hi pe hg hf.lv.1) (hf.lv.ext pe) hs (by rw [← hj]; exact k2)
    refine ⟨⟨k1, Stk.take ht (Stk.ext hi pe hst)⟩, pe, by have := (put_len L (endQ b l L f)).2; show (put L _).length ≤ L.length + 2; omega, ?_, fun id j hb => ?_⟩
    · show potF (put L (endQ b l L f)) (take g (nr L (endQ b l L f))) + potR (put L (endQ b l L f)) r < potF L f + (potB L g + potR L r)
      rw [pot_back hg ht, potR_ext hi pe r (Stk.rest hst)]
      have := pot_end (L := L) (f := f)
      omega
    · exact bas_cons.2 (last_take (last_more.1 (bas_cons.1 hb)))
theorem step_part {b l : Nat} {L : List Sq} {K : Kn} {f : Fr} {r : List Fr} {out : Int} (h : SOk b l ⟨L, K, f :: r, out⟩) {x : Pa} (e : nextP L f = some x) : StepOk b l ⟨L, K, f :: r, out⟩ (partU L K f r out x) := by
  obtain ⟨n, hf⟩ := Stk.top h.stk
  have hi : Inv L := h.kn.inv
  obtain ⟨m, rfl, hlt, hx⟩ := next_inv hf e
  have h36 := hf.n36
  have hl4 : ∀ i, i < 4 → Lv L m (x.f i) := fun i h4 => by rw [hx]; exact part_lv hi hf hlt i h4
  have pe : L <+: put L (pjQ L x) := put_ext _ _
  have pl := (put_len L (pjQ L x)).2
  have hi1 := join_inv hi (by omega) hl4
  have hk1 := join_lv hl4
  have hjk := join_kid L x
  have hb : 0 ≤ x.j ∧ x.j ≤ m + 2 := by rw [hx]; exact rj_bd hf
  unfold partU
  generalize nr L (pjQ L x) = k at *
  generalize put L (pjQ L x) = L1 at *
  have hf1 := hf.ext hi pe
  have hp1 : IsP L1 f k x := ⟨by rw [next_ext hi pe hf]; exact e, hjk⟩
  have hk : GOk b l (L1, K) := GOk.ext (L := L) (K := K) h.kn hi1 pe
  have hst : Stk b l L1 (f :: r) := Stk.ext hi pe h.stk
  by_cases hs : x.still = true
  · rw [if_pos hs]
    unfold stillU
    obtain ⟨c1, c2, c3, c4⟩ := ctr_ok (b := b) (l := l) hi1 (show m ≤ 36 by omega) hk1
    generalize ctrG (L1, K0) k = c at *
    have ht : FOk b l c.1.1 (take f c.2) (m + 1) := take_still c2 (hf1.ext hi1 c1) (hp1.ext hi1 c1 hf1 hk1.1) (hk1.ext c1) hs c4
    refine ⟨⟨GOk.ext (L := L1) (K := K) hk c2 c1, Stk.take ht (Stk.ext hi1 c1 hst)⟩, pe.trans c1, by show c.1.1.length ≤ L.length + 2; omega, ?_, fun id j hb => bas_cons.2 (last_take (bas_cons.1 hb))⟩
    show potF c.1.1 (take f c.2) + potR c.1.1 r < potF L f + potR L r
    rw [potR_ext hi (pe.trans c1) r (Stk.rest h.stk)]
    have := pot_take (L := L) (M := c.1.1) hf ht hlt
    omega
  · have hs : x.still = false := by simpa using hs
    rw [if_neg (by rw [hs]; decide)]
    cases hq : K k x.j with
    | some o =>
      have ht : FOk b l L1 (take f o) (m + 1) := take_go hi1 hf1 hp1 hk1 hs (hk.kn k x.j o hq).2
      refine ⟨⟨hk, Stk.take ht hst⟩, pe, by show L1.length ≤ L.length + 2; omega, ?_, fun id j hb => bas_cons.2 (last_take (bas_cons.1 hb))⟩
      show potF L1 (take f o) + potR L1 r < potF L f + potR L r
      rw [potR_ext hi pe r (Stk.rest h.stk)]
      have := pot_take (L := L) (M := L1) hf ht hlt
      omega
    | none =>
      have hg : FOk b l L1 ⟨k, x.j, 0, []⟩ m := FOk.new b l hk1 (by omega) hb.1 hb.2
      refine ⟨⟨hk, ⟨⟨m, hg⟩, ⟨x, hp1, hs, rfl⟩, hst⟩⟩, pe, by show L1.length ≤ L.length + 2; omega, ?_, fun id j hb => bas_cons.2 (last_more.2 (bas_cons.1 hb))⟩
      show potF L1 ⟨k, x.j, 0, []⟩ + (potB L1 f + potR L1 r) < potF L f + potR L r
      rw [potR_ext hi pe r (Stk.rest h.stk)]
      have := pot_push (L := L) (M := L1) hf hlt hg hf1
      omega
theorem step_ok {b l : Nat} {s : MS} (h : SOk b l s) (hu : s.U ≠ []) : StepOk b l s (stepF b l s) := by
  obtain ⟨L, K, U, out⟩ := s
  match U with
  | [] => exact absurd rfl hu
  | f :: r =>
    show StepOk b l _ (stepU b l L K f r out (nextP L f))
    cases e : nextP L f with
    | none => exact step_end h e
    | some x => exact step_part h e
end Go.Proofs.YtlejohclijjhnaaGreatDoor.Fm
namespace Go.Proofs.YtlejohclijjhnaaGreatDoor.Fm
open Ti Ru Qd

def runF (b l : Nat) : Nat → MS → Nat × MS
  | 0, s => (0, s)
  | n + 1, s => if s.U.isEmpty = true then (0, s) else ((runF b l n (stepF b l s)).1 + 1, (runF b l n (stepF b l s)).2)
theorem runF_nil (b l n : Nat) {s : MS} (h : s.U = []) : runF b l n s = (0, s) := by
  cases n with
  | zero => rfl
  | succ n => exact if_pos (by rw [h]; rfl)
theorem runF_succ (b l n : Nat) {s : MS} (h : s.U ≠ []) : runF b l (n + 1) s = ((runF b l n (stepF b l s)).1 + 1, (runF b l n (stepF b l s)).2) :=
  if_neg (by rw [List.isEmpty_iff]; exact h)
theorem runF_add (b l : Nat) (c : Nat) : ∀ (a : Nat) (s : MS), runF b l (a + c) s = ((runF b l a s).1 + (runF b l c (runF b l a s).2).1, (runF b l c (runF b l a s).2).2)
  | 0, s => by simp [runF]
  | a + 1, s => by
    by_cases h : s.U = []
    · rw [runF_nil b l _ h, runF_nil b l _ h]
      show (0, s) = (0 + (runF b l c s).1, (runF b l c s).2)
      rw [runF_nil b l _ h]
      simp
    · rw [show a + 1 + c = (a + c) + 1 by omega, runF_succ b l _ h, runF_succ b l a h, runF_add b l c a (stepF b l s)]
      simp
      omega
structure RunOk (b l n : Nat) (s : MS) (r : Nat × MS) : Prop where
  ok : SOk b l r.2
  ext : s.L <+: r.2.L
  len : r.2.L.length ≤ s.L.length + 2 * r.1
  pot : pot r.2.L r.2.U + r.1 ≤ pot s.L s.U
  cnt : r.1 ≤ n
  fin : r.1 = n ∨ r.2.U = []
  bas : ∀ id j, Bas id j s → Bas id j r.2
  pos : s.U ≠ [] → 0 < n → 0 < r.1
theorem run_ok {b l : Nat} : ∀ (n : Nat) {s : MS}, SOk b l s → RunOk b l n s (runF b l n s)
  | 0, s, h => ⟨h, List.prefix_rfl, by show s.L.length ≤ s.L.length + 2 * 0; omega, by show pot s.L s.U + 0 ≤ pot s.L s.U; omega, Nat.le_refl _, Or.inl rfl, fun _ _ h => h, fun _ h => absurd h (by omega)⟩
  | n + 1, s, h => by
    by_cases hu : s.U = []
    · rw [runF_nil b l _ hu]
      exact ⟨h, List.prefix_rfl, by show s.L.length ≤ s.L.length + 2 * 0; omega, by show pot s.L s.U + 0 ≤ pot s.L s.U; omega, Nat.zero_le _, Or.inr hu, fun _ _ h => h, fun h => absurd hu h⟩
    · rw [runF_succ b l _ hu]
      have st := step_ok h hu
      have r := run_ok n st.ok
      generalize runF b l n (stepF b l s) = R at *
      have r1 := r.len
      have r2 := r.pot
      have r3 := r.cnt
      have s1 := st.len
      have s2 := st.pot
      exact ⟨r.ok, st.ext.trans r.ext, by show R.2.L.length ≤ s.L.length + 2 * (R.1 + 1); omega, by show Fm.pot R.2.L R.2.U + (R.1 + 1) ≤ Fm.pot s.L s.U; omega, by show R.1 + 1 ≤ n + 1; omega, r.fin.imp (fun h => by show R.1 + 1 = n + 1; omega) id, fun id j hb => r.bas id j (st.bas id j hb), fun _ _ => Nat.succ_pos _⟩
/-- so many steps are enough -/
theorem run_end {b l n : Nat} {s : MS} (h : SOk b l s) (hp : pot s.L s.U ≤ n) : (runF b l n s).2.U = [] := by
  have r := run_ok n h
  rcases r.fin with e | e
  · match hu : (runF b l n s).2.U with
    | [] => rfl
    | f :: t =>
      have := r.pot
      rw [hu] at this
      have hf : pot (runF b l n s).2.L (f :: t) = potF (runF b l n s).2.L f + potR (runF b l n s).2.L t := rfl
      rw [hf] at this
      have := pot_end (L := (runF b l n s).2.L) (f := f)
      omega
  · exact e
/-- two frames that are the same end alike, however many squares more there are -/
theorem nr_same {L M : List Sq} {q : Sq} (h : put L q <+: M) : put M q = M ∧ nr M q = nr L q := by
  have hm : q ∈ put L q := by
    unfold put
    split
    · assumption
    · simp
  obtain ⟨t, rfl⟩ := h
  refine ⟨if_pos (List.mem_append_left _ hm), ?_⟩
  unfold nr
  rw [List.idxOf_append, if_pos hm]
  unfold put
  split
  · rfl
  · rename_i hn
    rw [List.idxOf_append, if_neg hn, List.idxOf_eq_length hn]
    simp
theorem end_ext {b l : Nat} {L M : List Sq} (hi : Inv L) (e : L <+: M) {f : Fr} {n : Nat} (h : FOk b l L f n) (hn : nextP L f = none) : endQ b l M f = endQ b l L f := by
  unfold endQ
  rcases end_len h hn with rfl | ⟨m, rfl, h13⟩
  · have k := fun i => at_ext e (hi.kid h.lv i).1
    rw [if_pos (by rw [h.st, h.low rfl]; rfl), if_pos (by rw [h.st, h.low rfl]; rfl), at_ext e h.lv.1]
    unfold tilG
    rw [show at' M (at' L f.id).k0 = at' L (at' L f.id).k0 from k 0, show at' M (at' L f.id).k1 = at' L (at' L f.id).k1 from k 1, show at' M (at' L f.id).k2 = at' L (at' L f.id).k2 from k 2, show at' M (at' L f.id).k3 = at' L (at' L f.id).k3 from k 3]
  · rw [if_neg (by rw [h.st, h13]; decide), if_neg (by rw [h.st, h13]; decide)]
    have hg := h.got m rfl _ _ _ (Wn.self h.lv)
    have o := fun i (hlt : 9 + i < f.got.length) => (hg (9 + i) hlt).1.1
    have q := fun i (hlt : 9 + i < f.got.length) => (show Ok L (gv f.got (9 + i)) by rw [gv_at hlt]; exact o i hlt)
    exact join_ext e (q 0 (by omega)) (q 1 (by omega)) (q 2 (by omega)) (q 3 (by omega))
theorem mid_0 {L : List Sq} (K : Kn) {f : Nat → Int} (h : Lv L 0 (f 0)) : midG (L, K) (f 0) (f 1) (f 2) (f 3) = leafG (L, K) (growP 0 0 0 (tilG L (f 0) (f 1) (f 2) (f 3))) := if_pos h.2
theorem mid_n {L : List Sq} (K : Kn) {n : Nat} {f : Nat → Int} (h : Lv L (n + 1) (f 0)) : midG (L, K) (f 0) (f 1) (f 2) (f 3) = nodeG (L, K) (Qd.kid (at' L (f 0)) 3) (Qd.kid (at' L (f 1)) 2) (Qd.kid (at' L (f 2)) 1) (Qd.kid (at' L (f 3)) 0) := if_neg (by rw [h.2]; omega)
theorem mid_same {L M : List Sq} (hi : Inv L) (eL : L <+: M) {n : Nat} {f : Nat → Int} (hf : ∀ i, i < 4 → Lv L n (f i)) (K K' : Kn) (e : (midG (L, K) (f 0) (f 1) (f 2) (f 3)).1.1 <+: M) :
    midG (M, K') (f 0) (f 1) (f 2) (f 3) = ((M, K'), (midG (L, K) (f 0) (f 1) (f 2) (f 3)).2) := by
  have h0 := hf 0 (by decide)
  have h1 := hf 1 (by decide)
  have h2 := hf 2 (by decide)
  have h3 := hf 3 (by decide)
  match n with
  | 0 =>
    rw [mid_0 K h0] at e ⊢
    rw [mid_0 K' (h0.ext eL)]
    have et : tilG M (f 0) (f 1) (f 2) (f 3) = tilG L (f 0) (f 1) (f 2) (f 3) := by
      unfold tilG
      rw [at_ext eL h0.1, at_ext eL h1.1, at_ext eL h2.1, at_ext eL h3.1]
    rw [et]
    generalize growP 0 0 0 (tilG L (f 0) (f 1) (f 2) (f 3)) = t at *
    obtain ⟨q1, q2⟩ := nr_same (q := leafQ t) e
    show ((put M (leafQ t), K'), nr M (leafQ t)) = ((M, K'), nr L (leafQ t))
    rw [q1, q2]
  | n + 1 =>
    rw [mid_n K h0] at e ⊢
    rw [mid_n K' (h0.ext eL), at_ext eL h0.1, at_ext eL h1.1, at_ext eL h2.1, at_ext eL h3.1]
    have o0 := (hi.kid h0 3).1
    have o1 := (hi.kid h1 2).1
    have o2 := (hi.kid h2 1).1
    have o3 := (hi.kid h3 0).1
    generalize Qd.kid (at' L (f 0)) 3 = a at *
    generalize Qd.kid (at' L (f 1)) 2 = c at *
    generalize Qd.kid (at' L (f 2)) 1 = d at *
    generalize Qd.kid (at' L (f 3)) 0 = g at *
    obtain ⟨q1, q2⟩ := nr_same (q := joinQ L a c d g) e
    show ((put M (joinQ M a c d g), K'), nr M (joinQ M a c d g)) = ((M, K'), nr L (joinQ L a c d g))
    rw [join_ext eL o0 o1 o2 o3, q1, q2]
theorem ctr_same {L M : List Sq} (hi : Inv L) {n : Nat} {k : Int} (hk : Lv L (n + 1) k) (eL : L <+: M) (e : (ctrG (L, K0) k).1.1 <+: M) : ctrG (M, K0) k = ((M, K0), (ctrG (L, K0) k).2) := by
  have hf : ∀ i, i < 4 → Lv L n (Qd.kid (at' L k) i) := fun i _ => hi.kid hk i
  have q := mid_same hi eL (f := fun i => Qd.kid (at' L k) i) hf K0 K0 e
  have hm := at_ext eL hk.1
  show midG (M, K0) (Qd.kid (at' M k) 0) (Qd.kid (at' M k) 1) (Qd.kid (at' M k) 2) (Qd.kid (at' M k) 3) = _
  rw [hm]
  exact q
def MS.wide (s : MS) (M : List Sq) : MS := ⟨M, s.K, s.U, s.out⟩
theorem step_same {b l : Nat} {s : MS} (h : SOk b l s) (hu : s.U ≠ []) {M : List Sq} (e : (stepF b l s).L <+: M) : stepF b l (s.wide M) = (stepF b l s).wide M := by
  have st := step_ok h hu
  have eL := st.ext.trans e
  obtain ⟨L, K, U, out⟩ := s
  have hi : Inv L := h.kn.inv
  match U with
  | [] => exact absurd rfl hu
  | f :: r =>
    obtain ⟨n, hf⟩ := Stk.top h.stk
    have eL : L <+: M := eL
    have e : (stepU b l L K f r out (nextP L f)).L <+: M := e
    show stepU b l M K f r out (nextP M f) = (stepU b l L K f r out (nextP L f)).wide M
    rw [next_ext hi eL hf]
    cases en : nextP L f with
    | none =>
      rw [en] at e
      have e1 : put L (endQ b l L f) <+: M := by
        match r with
        | [] => exact e
        | _ :: _ => exact e
      have q := nr_same e1
      match r with
      | [] =>
        show (⟨put M (endQ b l M f), K.note f.id f.j (nr M (endQ b l M f)), [], nr M (endQ b l M f)⟩ : MS) = _
        rw [end_ext hi eL hf en, q.1, q.2]
        rfl
      | g :: r =>
        show (⟨put M (endQ b l M f), K.note f.id f.j (nr M (endQ b l M f)), take g (nr M (endQ b l M f)) :: r, out⟩ : MS) = _
        rw [end_ext hi eL hf en, q.1, q.2]
        rfl
    | some x =>
      rw [en] at e
      obtain ⟨m, rfl, hlt, hx⟩ := next_inv hf en
      have hl4 : ∀ i, i < 4 → Lv L m (x.f i) := fun i h4 => by rw [hx]; exact part_lv hi hf hlt i h4
      have ej : pjQ M x = pjQ L x := join_ext eL (hl4 0 (by decide)).1 (hl4 1 (by decide)).1 (hl4 2 (by decide)).1 (hl4 3 (by decide)).1
      have h36 := hf.n36
      have hi1 := join_inv hi (by omega) hl4
      have hk1 := join_lv hl4
      have e : (partU L K f r out x).L <+: M := e
      show partU M K f r out x = (partU L K f r out x).wide M
      unfold partU at e ⊢
      rw [ej]
      by_cases hs : x.still = true
      · rw [if_pos hs] at e ⊢
        rw [if_pos hs]
        have e2 : (ctrG (put L (pjQ L x), K0) (nr L (pjQ L x))).1.1 <+: M := e
        have c := ctr_ok (b := b) (l := l) hi1 (show m ≤ 36 by omega) hk1
        have q := nr_same (c.1.trans e2)
        unfold stillU
        rw [q.1, q.2, ctr_same hi1 hk1 (c.1.trans e2) e2]
        rfl
      · rw [if_neg hs] at e ⊢
        rw [if_neg hs]
        have e2 : put L (pjQ L x) <+: M := by
          cases hq : K (nr L (pjQ L x)) x.j with
          | none => rw [hq] at e; exact e
          | some o => rw [hq] at e; exact e
        have q := nr_same e2
        rw [q.1, q.2]
        cases hq : K (nr L (pjQ L x)) x.j with
        | none => rfl
        | some o => rfl
theorem run_same {b l : Nat} : ∀ (n : Nat) {s : MS} (_ : SOk b l s) {M : List Sq} (_ : (runF b l n s).2.L <+: M), runF b l n (s.wide M) = ((runF b l n s).1, (runF b l n s).2.wide M)
  | 0, s, h, M, e => rfl
  | n + 1, s, h, M, e => by
    by_cases hu : s.U = []
    · rw [runF_nil b l _ hu, runF_nil b l _ (show (s.wide M).U = [] from hu)]
    · have st := step_ok h hu
      rw [runF_succ b l _ hu] at e ⊢
      rw [runF_succ b l _ (show (s.wide M).U ≠ [] from hu)]
      have r := run_ok n st.ok
      rw [step_same h hu (r.ext.trans e), run_same n st.ok e]
theorem start_ok {b l : Nat} {L : List Sq} {K : Kn} (hk : GOk b l (L, K)) {id j : Int} {n : Nat} (h : Lv L (n + 1) id) (hn : n ≤ 36) (h0 : 0 ≤ j) (h1 : j ≤ n + 2) (out : Int) : SOk b l ⟨L, K, [⟨id, j, 0, []⟩], out⟩ ∧ pot L [⟨id, j, 0, []⟩] = TT n ∧ Bas id j ⟨L, K, [⟨id, j, 0, []⟩], out⟩ := by
  have hf := FOk.new b l h hn h0 h1
  refine ⟨⟨hk, n, hf⟩, ?_, bas_cons.2 ⟨_, rfl, rfl, rfl⟩⟩
  show potF L _ + 0 = _
  unfold potF
  rw [hf.lvN]
  match n with
  | 0 => rfl
  | n + 1 => rw [if_neg (by omega)]; rfl
theorem TT_le : ∀ n, n ≤ 3 → TT n ≤ 4759
  | 0, _ => by decide
  | 1, _ => by decide
  | 2, _ => by decide
  | 3, _ => by decide
/-- what came of it all is what came of the square -/
theorem bas_end {s : MS} {id j : Int} (hb : Bas id j s) (hu : s.U = []) : s.K id j = some s.out := by
  rcases hb with ⟨_, e⟩ | ⟨g, h1, _⟩
  · exact e
  · rw [hu] at h1
    cases h1
end Go.Proofs.YtlejohclijjhnaaGreatDoor.Fm

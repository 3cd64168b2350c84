/-
  A STEP, AS PLAIN DATA: what is under way, one step on: it stays right, and comes nearer to its end. Conditions: those that each lemma names.
-/
import Derived.Test.YtkefjkfknegogaaA07
namespace Go.Proofs.Ytkefjkfknegogaa.Fm
open Ti Ru Qd

structure MS where
  L : List Sq
  K : Kn
  U : List Fr
  out : Int
def Fol (L : List Sq) (f g : Fr) : Prop := ∃ x, IsP L f g.id x ∧ x.still = false ∧ g.j = x.j
def Stk (b l : Nat) (L : List Sq) : List Fr → Prop
  | [] => True
  | [f] => ∃ n, FOk b l L f n
  | g :: f :: r => (∃ n, FOk b l L g n) ∧ Fol L f g ∧ Stk b l L (f :: r)
structure SOk (b l : Nat) (s : MS) : Prop where
  kn : GOk b l (s.L, s.K)
  stk : Stk b l s.L s.U
def endQ (b l : Nat) (L : List Sq) (f : Fr) : Sq :=
  if f.st = 0 then leafQ (growP b l (2 ^ f.j.toNat) (tilG L (at' L f.id).k0 (at' L f.id).k1 (at' L f.id).k2 (at' L f.id).k3))
  else joinQ L (gv f.got 9) (gv f.got 10) (gv f.got 11) (gv f.got 12)
def pjQ (L : List Sq) (x : Pa) : Sq := joinQ L (x.f 0) (x.f 1) (x.f 2) (x.f 3)
def K0 : Kn := fun _ _ => none
def endU (b l : Nat) (L : List Sq) (K : Kn) (f : Fr) (out : Int) : List Fr → MS
  | [] => ⟨put L (endQ b l L f), K.note f.id f.j (nr L (endQ b l L f)), [], nr L (endQ b l L f)⟩
  | g :: r => ⟨put L (endQ b l L f), K.note f.id f.j (nr L (endQ b l L f)), take g (nr L (endQ b l L f)) :: r, out⟩
def goU (L1 : List Sq) (K : Kn) (f : Fr) (r : List Fr) (out k j : Int) : Option Int → MS
  | some o => ⟨L1, K, take f o :: r, out⟩
  | none => ⟨L1, K, ⟨k, j, 0, []⟩ :: f :: r, out⟩
def stillU (L1 : List Sq) (K : Kn) (f : Fr) (r : List Fr) (out k : Int) : MS := ⟨(ctrG (L1, K0) k).1.1, K, take f (ctrG (L1, K0) k).2 :: r, out⟩
def partU (L : List Sq) (K : Kn) (f : Fr) (r : List Fr) (out : Int) (x : Pa) : MS :=
  if x.still = true then stillU (put L (pjQ L x)) K f r out (nr L (pjQ L x))
  else goU (put L (pjQ L x)) K f r out (nr L (pjQ L x)) x.j (K (nr L (pjQ L x)) x.j)
def stepU (b l : Nat) (L : List Sq) (K : Kn) (f : Fr) (r : List Fr) (out : Int) : Option Pa → MS
  | none => endU b l L K f out r
  | some x => partU L K f r out x
def stepF (b l : Nat) : MS → MS
  | ⟨L, K, [], out⟩ => ⟨L, K, [], out⟩
  | ⟨L, K, f :: r, out⟩ => stepU b l L K f r out (nextP L f)
theorem Stk.top {b l : Nat} {L : List Sq} {f : Fr} : ∀ {r : List Fr}, Stk b l L (f :: r) → ∃ n, FOk b l L f n
  | [], h => h
  | _ :: _, h => h.1
theorem Stk.rest {b l : Nat} {L : List Sq} {f : Fr} : ∀ {r : List Fr}, Stk b l L (f :: r) → Stk b l L r
  | [], _ => trivial
  | _ :: _, h => h.2.2
theorem IsP.ext {b l : Nat} {L M : List Sq} (hi : Inv L) (e : L <+: M) {f : Fr} {n : Nat} (h : FOk b l L f n) {k : Int} (ho : Ok L k) {x : Pa} (hp : IsP L f k x) : IsP M f k x :=
  ⟨by rw [next_ext hi e h]; exact hp.1, fun i h4 => by rw [at_ext e ho]; exact hp.2 i h4⟩
theorem Stk.ext {b l : Nat} {L M : List Sq} (hi : Inv L) (e : L <+: M) : ∀ {r : List Fr}, Stk b l L r → Stk b l M r
  | [], _ => trivial
  | [_], ⟨n, h⟩ => ⟨n, h.ext hi e⟩
  | g :: f :: r, ⟨⟨n, h⟩, ⟨x, hp, hs, hj⟩, ht⟩ => by
    obtain ⟨n', h'⟩ := Stk.top ht
    exact ⟨⟨n, h.ext hi e⟩, ⟨x, hp.ext hi e h' h.lv.1, hs, hj⟩, Stk.ext hi e ht⟩
/-- a frame changes, but for what it is of -/
theorem Stk.swap {b l : Nat} {L : List Sq} {f f' : Fr} {n : Nat} (h : FOk b l L f' n) (e1 : f'.id = f.id) (e2 : f'.j = f.j) : ∀ {r : List Fr}, Stk b l L (f :: r) → Stk b l L (f' :: r)
  | [], _ => ⟨n, h⟩
  | _ :: _, ⟨_, ⟨x, hp, hs, hj⟩, ht⟩ => ⟨⟨n, h⟩, ⟨x, by rw [e1]; exact hp, hs, by rw [e2]; exact hj⟩, ht⟩
theorem Stk.take {b l : Nat} {L : List Sq} {f : Fr} {n : Nat} {o : Int} (h : FOk b l L (take f o) n) {r : List Fr} (k : Stk b l L (f :: r)) : Stk b l L (take f o :: r) := Stk.swap (f := f) (f' := Fm.take f o) h rfl rfl k
theorem Fol.lev {b l : Nat} {L : List Sq} (hi : Inv L) {f g : Fr} {n k : Nat} (hf : FOk b l L f n) (hg : FOk b l L g k) (h : Fol L f g) : n = k + 1 ∧ f.got.length < 13 := by
  obtain ⟨x, hp, _, _⟩ := h
  obtain ⟨m, e, hlt, rfl⟩ := next_inv hf hp.1
  subst e
  have a := part_lv hi hf hlt 0 (by decide)
  have c := hi.kid hg.lv 0
  rw [hp.2 0 (by decide)] at c
  have := a.2
  have := c.2
  exact ⟨by omega, hlt⟩
theorem join_kid (L : List Sq) (x : Pa) (i : Nat) (h : i < 4) : Qd.kid (at' (put L (pjQ L x)) (nr L (pjQ L x))) i = x.f i := by
  rw [put_at]
  exact kid_join L x.f i h
theorem join_lv {L : List Sq} {m : Nat} {x : Pa} (h : ∀ i, i < 4 → Lv L m (x.f i)) : Lv (put L (pjQ L x)) (m + 1) (nr L (pjQ L x)) := node_lv (f := x.f) h
theorem join_inv {L : List Sq} (hi : Inv L) {m : Nat} (hm : m ≤ 36) {x : Pa} (h : ∀ i, i < 4 → Lv L m (x.f i)) : Inv (put L (pjQ L x)) := node_inv (f := x.f) hi hm h
theorem end_len {b l : Nat} {L : List Sq} {f : Fr} {n : Nat} (h : FOk b l L f n) (e : nextP L f = none) : n = 0 ∨ ∃ m, n = m + 1 ∧ f.got.length = 13 := by
  match n with
  | 0 => exact Or.inl rfl
  | m + 1 =>
    refine Or.inr ⟨m, rfl, ?_⟩
    by_cases k : f.got.length = 13
    · exact k
    · have hl := h.len
      rw [next_some h (by omega)] at e
      cases e
theorem j_cast {j : Int} (h : 0 ≤ j) : ((j.toNat : Nat) : Int) = j := by omega
/-- a frame that ends -/
theorem end_res {b l : Nat} {L : List Sq} {K : Kn} (hk : GOk b l (L, K)) {f : Fr} {n : Nat} (h : FOk b l L f n) (e : nextP L f = none) {p : Pl} {ox oy : Int} (hw : Wn L (n + 1) f.id p ox oy) :
    Res b l Tt 1 (L, K) ((put L (endQ b l L f), K), nr L (endQ b l L f)) n (gens b l p (2 ^ f.j.toNat)) (ox + (2 ^ (n + 2) : Nat)) (oy + (2 ^ (n + 2) : Nat)) := by
  rcases end_len h e with rfl | ⟨m, rfl, h13⟩
  · unfold endQ
    rw [if_pos (by rw [h.st, h.low rfl]; rfl)]
    have hj := h.j1
    have hj0 := h.j0
    exact leaf_res (f := fun i => Qd.kid (at' L f.id) i) hk b l (2 ^ f.j.toNat) (pow2_4 (by omega)) (fun i h4 => hw.kid hk.inv i h4) trivial
  · unfold endQ
    rw [if_neg (by rw [h.st, h13]; decide)]
    have hg := h.got m rfl p ox oy hw
    have hn := h.n36
    refine Res.ag (node_res (A := Tt) (f := fun i => gv f.got (9 + i)) hk (show m ≤ 36 by omega) (p := gens b l p (2 ^ f.j.toNat)) (ox := ox + (2 ^ (m + 3) : Nat)) (oy := oy + (2 ^ (m + 3) : Nat)) (fun i h4 => ?_) trivial) rfl (by rw [show m + 1 + 2 = m + 3 by omega]) (by rw [show m + 1 + 2 = m + 3 by omega])
    have hlt : 9 + i < f.got.length := by omega
    have w := hg (9 + i) hlt
    show Wn L m (gv f.got (9 + i)) _ _ _
    rw [gv_at hlt]
    unfold plG xG yG at w
    rw [if_neg (by omega), if_neg (by omega), if_neg (by omega), show 9 + i - 9 = i by omega] at w
    refine w.ag fun x y _ _ => ?_
    congr 1 <;> omega
theorem end_ok {b l : Nat} {L : List Sq} {K : Kn} (hk : GOk b l (L, K)) {f : Fr} {n : Nat} (h : FOk b l L f n) (e : nextP L f = none) :
    GOk b l (put L (endQ b l L f), K.note f.id f.j (nr L (endQ b l L f))) ∧ Grn b l (put L (endQ b l L f)) f.id f.j (nr L (endQ b l L f)) := by
  have r := note_ok (A := Tt) (c := 1) (id := f.id) (j := f.j.toNat) hk (fun p ox oy hw => end_res hk h e hw) (Wn.self h.lv) (end_res hk h e (Wn.self h.lv))
  have e2 : GOk b l (put L (endQ b l L f), K.note f.id f.j (nr L (endQ b l L f))) := by
    have := r.ok
    unfold noteG at this
    rw [j_cast h.j0] at this
    exact this
  refine ⟨e2, ?_⟩
  have k2 := (e2.kn f.id f.j (nr L (endQ b l L f)) (if_pos ⟨rfl, rfl⟩)).2
  exact k2
theorem ctr_ok {b l : Nat} {L : List Sq} (hi : Inv L) {n : Nat} (hn : n ≤ 36) {k : Int} (hk : Lv L (n + 1) k) :
    L <+: (ctrG (L, K0) k).1.1 ∧ Inv (ctrG (L, K0) k).1.1 ∧ (ctrG (L, K0) k).1.1.length ≤ L.length + 1 ∧ Ctr (ctrG (L, K0) k).1.1 k (ctrG (L, K0) k).2 := by
  have r := fun p ox oy hw => ctr_res (b := b) (l := l) (s := (L, K0)) (gok_new b l hi) hn (id := k) (p := p) (ox := ox) (oy := oy) hw
  have r0 := r _ _ _ (Wn.self hk)
  refine ⟨r0.ext, r0.ok.inv, r0.len, fun m p ox oy hw => ?_⟩
  have hb := hw.back (L := L) hi r0.ext hk.1
  obtain rfl : m = n := by have := hb.1.2; have := hk.2; omega
  exact (r p ox oy hb).win
/-- how many steps are left, at most -/
def TT : Nat → Nat
  | 0 => 1
  | m + 1 => 13 * (1 + TT m) + 1
def lvN (L : List Sq) (f : Fr) : Nat := ((at' L f.id).lev - 4).toNat
def potF (L : List Sq) (f : Fr) : Nat := if lvN L f = 0 then 1 else (13 - f.got.length) * (1 + TT (lvN L f - 1)) + 1
def potB (L : List Sq) (f : Fr) : Nat := (12 - f.got.length) * (1 + TT (lvN L f - 1)) + 1
def potR (L : List Sq) : List Fr → Nat
  | [] => 0
  | f :: r => potB L f + potR L r
def pot (L : List Sq) : List Fr → Nat
  | [] => 0
  | f :: r => potF L f + potR L r
theorem FOk.lvN {b l : Nat} {L : List Sq} {f : Fr} {n : Nat} (h : FOk b l L f n) : lvN L f = n := by unfold Fm.lvN; rw [h.lev]; omega
theorem potR_ext {b l : Nat} {L M : List Sq} (hi : Inv L) (e : L <+: M) : ∀ r : List Fr, Stk b l L r → potR M r = potR L r
  | [], _ => rfl
  | f :: r, h => by
    obtain ⟨n, hf⟩ := Stk.top h
    show potB M f + potR M r = potB L f + potR L r
    rw [potR_ext hi e r (Stk.rest h)]
    unfold potB
    rw [hf.lvN, (hf.ext hi e).lvN]
theorem pot_take {b l : Nat} {L M : List Sq} {f : Fr} {m : Nat} {o : Int} (h : FOk b l L f (m + 1)) (h2 : FOk b l M (take f o) (m + 1)) (hlt : f.got.length < 13) : potF M (take f o) < potF L f := by
  unfold potF
  rw [h.lvN, h2.lvN, if_neg (by omega), if_neg (by omega)]
  show (13 - (f.got ++ [o]).length) * _ + 1 < _
  rw [List.length_append]
  have : 13 - f.got.length = (13 - (f.got.length + 1)) + 1 := by omega
  simp only [List.length_singleton]
  rw [this, Nat.succ_mul]
  omega
theorem pot_back {b l : Nat} {L M : List Sq} {f : Fr} {m : Nat} {o : Int} (h : FOk b l L f (m + 1)) (h2 : FOk b l M (take f o) (m + 1)) : potF M (take f o) = potB L f := by
  unfold potF potB
  rw [h.lvN, h2.lvN, if_neg (by omega)]
  show (13 - (f.got ++ [o]).length) * _ + 1 = _
  rw [List.length_append]
  simp only [List.length_singleton]
  rw [show 13 - (f.got.length + 1) = 12 - f.got.length by omega]
theorem pot_push {b l : Nat} {L M : List Sq} {f : Fr} {m : Nat} (h : FOk b l L f (m + 1)) (hlt : f.got.length < 13) {k j : Int} (hg : FOk b l M ⟨k, j, 0, []⟩ m) (h2 : FOk b l M f (m + 1)) : potF M ⟨k, j, 0, []⟩ + potB M f < potF L f := by
  have e1 : potF M ⟨k, j, 0, []⟩ = TT m := by
    unfold potF
    rw [hg.lvN]
    match m with
    | 0 => rfl
    | q + 1 => rw [if_neg (by omega)]; rfl
  rw [e1]
  unfold potF potB
  rw [h.lvN, h2.lvN, if_neg (by omega), show m + 1 - 1 = m by omega, show 13 - f.got.length = (12 - f.got.length) + 1 by omega, Nat.succ_mul]
  omega
theorem pot_end {L : List Sq} {f : Fr} : 0 < potF L f := by
  unfold potF
  split <;> omega
/-- what is under way is of this square, so far on; or it came of it -/
def Bas (id j : Int) (s : MS) : Prop := (s.U = [] ∧ s.K id j = some s.out) ∨ ∃ g, s.U.getLast? = some g ∧ g.id = id ∧ g.j = j
structure StepOk (b l : Nat) (s t : MS) : Prop where
  ok : SOk b l t
  ext : s.L <+: t.L
  len : t.L.length ≤ s.L.length + 2
  pot : pot t.L t.U < pot s.L s.U
  bas : ∀ id j, Bas id j s → Bas id j t
theorem last_swap {f f' : Fr} (e1 : f'.id = f.id) (e2 : f'.j = f.j) {r : List Fr} {id j : Int} (h : ∃ g, (f :: r).getLast? = some g ∧ g.id = id ∧ g.j = j) : ∃ g, (f' :: r).getLast? = some g ∧ g.id = id ∧ g.j = j := by
  obtain ⟨g, h1, h2, h3⟩ := h
  match r with
  | [] =>
    obtain rfl : f = g := by simpa using h1
    exact ⟨f', rfl, by rw [e1]; exact h2, by rw [e2]; exact h3⟩
  | x :: r => exact ⟨g, by rw [List.getLast?_cons_cons] at h1 ⊢; exact h1, h2, h3⟩
theorem last_take {f : Fr} {o : Int} {r : List Fr} {id j : Int} (h : ∃ g, (f :: r).getLast? = some g ∧ g.id = id ∧ g.j = j) : ∃ g, (take f o :: r).getLast? = some g ∧ g.id = id ∧ g.j = j := last_swap (f := f) (f' := take f o) rfl rfl h
theorem last_more {f g : Fr} {r : List Fr} {id j : Int} : (∃ x, (g :: f :: r).getLast? = some x ∧ x.id = id ∧ x.j = j) ↔ ∃ x, (f :: r).getLast? = some x ∧ x.id = id ∧ x.j = j := by
  rw [List.getLast?_cons_cons]
theorem bas_cons {id j : Int} {L : List Sq} {K : Kn} {f : Fr} {r : List Fr} {out : Int} : Bas id j ⟨L, K, f :: r, out⟩ ↔ ∃ g, (f :: r).getLast? = some g ∧ g.id = id ∧ g.j = j := by
  constructor
  · rintro (⟨h, _⟩ | h)
    · cases h
    · exact h
  · exact Or.inr
theorem rj_bd {b l : Nat} {L : List Sq} {f : Fr} {m : Nat} (h : FOk b l L f (m + 1)) : 0 ≤ (paP L f m).j ∧ (paP L f m).j ≤ m + 2 := by
  have e : (paP L f m).j = rj (m + 5) f.j := by unfold paP; split <;> rfl
  rw [e]
  unfold rj
  have h0 := h.j0
  have h1 := h.j1
  split <;> omega
theorem step_end {b l : Nat} {L : List Sq} {K : Kn} {f : Fr} {r : List Fr} {out : Int} (h : SOk b l ⟨L, K, f :: r, out⟩) (e : nextP L f = none) : StepOk b l ⟨L, K, f :: r, out⟩ (endU b l L K f out r) := by
  obtain ⟨n, hf⟩ := Stk.top h.stk
  have hi : Inv L := h.kn.inv
  obtain ⟨k1, k2⟩ := end_ok h.kn hf e
  have pe : L <+: put L (endQ b l L f) := put_ext _ _
  match r with
  | [] =>
    exact ⟨⟨k1, trivial⟩, pe, by have := (put_len L (endQ b l L f)).2; show (put L _).length ≤ L.length + 2; omega, by show 0 < potF L f + 0; have := pot_end (L := L) (f := f); omega, fun id j hb => by
      obtain ⟨g, h1, h2, h3⟩ := bas_cons.1 hb
      obtain rfl : f = g := by simpa using h1
      subst h2 h3
      exact Or.inl ⟨rfl, if_pos ⟨rfl, rfl⟩⟩⟩
  | g :: r =>
    obtain ⟨_, hfo, hst⟩ := (show (∃ n, FOk b l L f n) ∧ Fol L g f ∧ Stk b l L (g :: r) from h.stk)
    obtain ⟨q, hg⟩ := Stk.top hst
    obtain ⟨rfl, hlt⟩ := hfo.lev hi hg hf
    have hg2 := hg.ext hi pe
    have hi2 : Inv (put L (endQ b l L f)) := k1.inv
    obtain ⟨x, hp, hs, hj⟩ := hfo
    have ht : FOk b l (put L (endQ b l L f)) (take g (nr L (endQ b l L f))) (n + 1) := take_go hi2 hg2 (hp.ext hi pe hg hf.lv.1) (hf.lv.ext pe) hs (by rw [← hj]; exact k2)
    refine ⟨⟨k1, Stk.take ht (Stk.ext hi pe hst)⟩, pe, by have := (put_len L (endQ b l L f)).2; show (put L _).length ≤ L.length + 2; omega, ?_, fun id j hb => ?_⟩
    · show potF (put L (endQ b l L f)) (take g (nr L (endQ b l L f))) + potR (put L (endQ b l L f)) r < potF L f + (potB L g + potR L r)
      rw [pot_back hg ht, potR_ext hi pe r (Stk.rest hst)]
      have := pot_end (L := L) (f := f)
      omega
    · exact bas_cons.2 (last_take (last_more.1 (bas_cons.1 hb)))
theorem step_part {b l : Nat} {L : List Sq} {K : Kn} {f : Fr} {r : List Fr} {out : Int} (h : SOk b l ⟨L, K, f :: r, out⟩) {x : Pa} (e : nextP L f = some x) : StepOk b l ⟨L, K, f :: r, out⟩ (partU L K f r out x) := by
  obtain ⟨n, hf⟩ := Stk.top h.stk
  have hi : Inv L := h.kn.inv
  obtain ⟨m, rfl, hlt, hx⟩ := next_inv hf e
  have h36 := hf.n36
  have hl4 : ∀ i, i < 4 → Lv L m (x.f i) := fun i h4 => by rw [hx]; exact part_lv hi hf hlt i h4
  have pe : L <+: put L (pjQ L x) := put_ext _ _
  have pl := (put_len L (pjQ L x)).2
  have hi1 := join_inv hi (by omega) hl4
  have hk1 := join_lv hl4
  have hjk := join_kid L x
  have hb : 0 ≤ x.j ∧ x.j ≤ m + 2 := by rw [hx]; exact rj_bd hf
  unfold partU
  generalize nr L (pjQ L x) = k at *
  generalize put L (pjQ L x) = L1 at *
  have hf1 := hf.ext hi pe
  have hp1 : IsP L1 f k x := ⟨by rw [next_ext hi pe hf]; exact e, hjk⟩
  have hk : GOk b l (L1, K) := GOk.ext (L := L) (K := K) h.kn hi1 pe
  have hst : Stk b l L1 (f :: r) := Stk.ext hi pe h.stk
  by_cases hs : x.still = true
  · rw [if_pos hs]
    unfold stillU
    obtain ⟨c1, c2, c3, c4⟩ := ctr_ok (b := b) (l := l) hi1 (show m ≤ 36 by omega) hk1
    generalize ctrG (L1, K0) k = c at *
    have ht : FOk b l c.1.1 (take f c.2) (m + 1) := take_still c2 (hf1.ext hi1 c1) (hp1.ext hi1 c1 hf1 hk1.1) (hk1.ext c1) hs c4
    refine ⟨⟨GOk.ext (L := L1) (K := K) hk c2 c1, Stk.take ht (Stk.ext hi1 c1 hst)⟩, pe.trans c1, by show c.1.1.length ≤ L.length + 2; omega, ?_, fun id j hb => bas_cons.2 (last_take (bas_cons.1 hb))⟩
    show potF c.1.1 (take f c.2) + potR c.1.1 r < potF L f + potR L r
    rw [potR_ext hi (pe.trans c1) r (Stk.rest h.stk)]
    have := pot_take (L := L) (M := c.1.1) hf ht hlt
    omega
  · have hs : x.still = false := by simpa using hs
    rw [if_neg (by rw [hs]; decide)]
    cases hq : K k x.j with
    | some o =>
      have ht : FOk b l L1 (take f o) (m + 1) := take_go hi1 hf1 hp1 hk1 hs (hk.kn k x.j o hq).2
      refine ⟨⟨hk, Stk.take ht hst⟩, pe, by show L1.length ≤ L.length + 2; omega, ?_, fun id j hb => bas_cons.2 (last_take (bas_cons.1 hb))⟩
      show potF L1 (take f o) + potR L1 r < potF L f + potR L r
      rw [potR_ext hi pe r (Stk.rest h.stk)]
      have := pot_take (L := L) (M := L1) hf ht hlt
      omega
    | none =>
      have hg : FOk b l L1 ⟨k, x.j, 0, []⟩ m := FOk.new b l hk1 (by omega) hb.1 hb.2
      refine ⟨⟨hk, ⟨⟨m, hg⟩, ⟨x, hp1, hs, rfl⟩, hst⟩⟩, pe, by show L1.length ≤ L.length + 2; omega, ?_, fun id j hb => bas_cons.2 (last_more.2 (bas_cons.1 hb))⟩
      show potF L1 ⟨k, x.j, 0, []⟩ + (potB L1 f + potR L1 r) < potF L f + potR L r
      rw [potR_ext hi pe r (Stk.rest h.stk)]
      have := pot_push (L := L) (M := L1) hf hlt hg hf1
      omega
theorem step_ok {b l : Nat} {s : MS} (h : SOk b l s) (hu : s.U ≠ []) : StepOk b l s (stepF b l s) := by
  obtain ⟨L, K, U, out⟩ := s
  match U with
  | [] => exact absurd rfl hu
  | f :: r =>
    show StepOk b l _ (stepU b l L K f r out (nextP L f))
    cases e : nextP L f with
    | none => exact step_end h e
    | some x => exact step_part h e
end Go.Proofs.Ytkefjkfknegogaa.Fm

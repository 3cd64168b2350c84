/-
  WHAT IS REMEMBERED STAYS, AND SERVES AGAIN: a square run once goes on again in a step a part, and one. Conditions: those that each lemma names.
-/
import Derived.Test.YtkefjkfknegogaaA09
namespace Go.Proofs.Ytkefjkfknegogaa.Fm
open Ti Ru Qd

theorem same_kids {L : List Sq} (hi : Inv L) {n : Nat} {a c : Int} (ha : Lv L (n + 1) a) (hc : Lv L (n + 1) c) (h : ∀ i, i < 4 → Qd.kid (at' L a) i = Qd.kid (at' L c) i) : a = c :=
  Qd.uniq hi (n + 1) a c ha hc fun x y hx hy => by
    have hq : qd (2 ^ (n + 3)) x y < 4 := qd_lt (by rw [show n + 3 + 1 = n + 1 + 3 by omega]; exact hx) (by rw [show n + 3 + 1 = n + 1 + 3 by omega]; exact hy)
    show cel L n (Qd.kid (at' L a) (qd (2 ^ (n + 3)) x y)) (x % 2 ^ (n + 3)) (y % 2 ^ (n + 3)) = cel L n (Qd.kid (at' L c) (qd (2 ^ (n + 3)) x y)) (x % 2 ^ (n + 3)) (y % 2 ^ (n + 3))
    rw [h _ hq]
/-- a part's square that is there already -/
theorem part_there {L : List Sq} (hi : Inv L) {m : Nat} (hm : m ≤ 36) {x : Pa} (h4 : ∀ i, i < 4 → Lv L m (x.f i)) {k : Int} (hk : Lv L (m + 1) k) (h : ∀ i, i < 4 → Qd.kid (at' L k) i = x.f i) : put L (pjQ L x) = L ∧ nr L (pjQ L x) = k := by
  have pe : L <+: put L (pjQ L x) := put_ext _ _
  have hi1 := join_inv hi hm h4
  have hk1 := join_lv h4
  have e : nr L (pjQ L x) = k := same_kids hi1 hk1 (hk.ext pe) fun i hl => by
    rw [join_kid L x i hl, at_ext pe hk.1, h i hl]
  refine ⟨?_, e⟩
  by_cases hin : pjQ L x ∈ L
  · exact if_pos hin
  · exfalso
    have h1 : nr L (pjQ L x) = L.length + 1 := by
      unfold nr
      rw [List.idxOf_eq_length hin]
    have := hk.1.2
    rw [e] at h1
    omega
/-- what came of a frame's next part is there, and remembered -/
def Dn (L : List Sq) (K : Kn) (f : Fr) (v : Int) : Prop :=
  ∃ x, nextP L f = some x ∧ put L (pjQ L x) = L ∧ ((x.still = true ∧ ctrG (L, K0) (nr L (pjQ L x)) = ((L, K0), v)) ∨ (x.still = false ∧ K (nr L (pjQ L x)) x.j = some v))
theorem Dn.step {b l : Nat} {L : List Sq} {K : Kn} {f : Fr} {v : Int} (h : Dn L K f v) (o : Int) : stepF b l ⟨L, K, [f], o⟩ = ⟨L, K, [take f v], o⟩ := by
  obtain ⟨x, h1, h2, h3⟩ := h
  show stepU b l L K f [] o (nextP L f) = _
  rw [h1]
  show partU L K f [] o x = _
  unfold partU
  rw [h2]
  rcases h3 with ⟨hs, h4⟩ | ⟨hs, h4⟩
  · rw [if_pos hs]
    unfold stillU
    rw [h4]
  · rw [if_neg (by rw [hs]; decide), h4]
    rfl
def KLe (K K' : Kn) : Prop := ∀ id j o, K id j = some o → K' id j = some o
theorem Dn.ext {b l : Nat} {L M : List Sq} {K K' : Kn} (hi : Inv L) (e : L <+: M) {f : Fr} {n : Nat} (hf : FOk b l L f n) {v : Int} (h : Dn L K f v) (hk : KLe K K') : Dn M K' f v := by
  obtain ⟨x, h1, h2, h3⟩ := h
  obtain ⟨m, rfl, hlt, hx⟩ := next_inv hf h1
  have hl4 : ∀ i, i < 4 → Lv L m (x.f i) := fun i h4 => by rw [hx]; exact part_lv hi hf hlt i h4
  have ej : pjQ M x = pjQ L x := join_ext e (hl4 0 (by decide)).1 (hl4 1 (by decide)).1 (hl4 2 (by decide)).1 (hl4 3 (by decide)).1
  obtain ⟨q1, q2⟩ := nr_same (L := L) (M := M) (q := pjQ L x) (by rw [h2]; exact e)
  refine ⟨x, by rw [next_ext hi e hf]; exact h1, by rw [ej]; exact q1, ?_⟩
  rw [ej, q2]
  rcases h3 with ⟨hs, h4⟩ | ⟨hs, h4⟩
  · refine .inl ⟨hs, ?_⟩
    have hk1 := join_lv hl4
    rw [h2] at hk1
    have c := ctr_same hi hk1 e (by rw [h4]; exact e)
    rw [c, h4]
  · exact .inr ⟨hs, hk _ _ _ h4⟩
theorem Grn.uniq {b l : Nat} {L : List Sq} (hi : Inv L) {n : Nat} {k j o v : Int} (hl : Lv L (n + 1) k) (h : Grn b l L k j o) (g : Grn b l L k j v) : o = v :=
  Wn.uniq hi (h n _ _ _ (Wn.self hl)).2 (g n _ _ _ (Wn.self hl)).2
theorem note_le {b l : Nat} {L M : List Sq} {K : Kn} (hk : GOk b l (L, K)) (e : L <+: M) {id j v : Int} {n : Nat} (hl : Lv L (n + 1) id) (h : GOk b l (M, K.note id j v)) : KLe K (K.note id j v) := fun a c o ho => by
  show (if a = id ∧ c = j then some v else K a c) = some o
  by_cases q : a = id ∧ c = j
  · rw [if_pos q]
    obtain ⟨rfl, rfl⟩ := q
    have g1 : Grn b l L a c o := (hk.kn a c o ho).2
    have g2 : Grn b l M a c v := (h.kn a c v (if_pos ⟨rfl, rfl⟩)).2
    rw [Grn.uniq h.inv (hl.ext e) (g1.ext hk.inv e hl.1) g2]
  · rw [if_neg q]
    exact ho
theorem kle_refl (K : Kn) : KLe K K := fun _ _ _ h => h
/-- a frame as it was when so much had come -/
def pre (id j : Int) (G : List Int) (k : Nat) : Fr := ⟨id, j, k, G.take k⟩
def Tr (L : List Sq) (K : Kn) (id j : Int) (G : List Int) : Prop := ∀ k (h : k < G.length), Dn L K (pre id j G k) G[k]
theorem pre_all (id j : Int) (G : List Int) : pre id j G G.length = ⟨id, j, G.length, G⟩ := by unfold pre; rw [List.take_length]
theorem pre_ok {b l : Nat} {L : List Sq} {id j : Int} {G : List Int} {n : Nat} (h : FOk b l L ⟨id, j, G.length, G⟩ n) (k : Nat) (hk : k ≤ G.length) : FOk b l L (pre id j G k) n := by
  have el : (G.take k).length = k := by rw [List.length_take]; omega
  refine ⟨h.lv, h.n36, h.j0, h.j1, by show (k : Int) = ((G.take k).length : Int); rw [el], fun e => ?_, ?_, fun m hm p ox oy hw i hlt => ?_⟩
  · have := h.low e
    show G.take k = []
    rw [show G = [] from this]
    simp
  · show (G.take k).length ≤ 13
    have := h.len
    have : G.length ≤ 13 := this
    omega
  · have hlt : i < (G.take k).length := hlt
    have := h.got m hm p ox oy hw i (by show i < G.length; omega)
    show Wn L m (G.take k)[i] _ _ _
    rw [List.getElem_take]
    exact this
theorem Tr.ext {b l : Nat} {L M : List Sq} {K K' : Kn} (hi : Inv L) (e : L <+: M) {id j : Int} {G : List Int} {n : Nat} (hf : FOk b l L ⟨id, j, G.length, G⟩ n) (hk : KLe K K') (h : Tr L K id j G) : Tr M K' id j G := fun k hlt =>
  (h k hlt).ext hi e (pre_ok hf k (by omega)) hk
theorem Tr.more {L : List Sq} {K : Kn} {id j : Int} {G : List Int} {v : Int} (h : Tr L K id j G) (hd : Dn L K ⟨id, j, G.length, G⟩ v) : Tr L K id j (G ++ [v]) := fun k hlt => by
  rw [List.length_append, List.length_singleton] at hlt
  by_cases q : k < G.length
  · have e1 : (G ++ [v]).take k = G.take k := List.take_append_of_le_length (by omega)
    have e2 : (G ++ [v])[k] = G[k] := List.getElem_append_left q
    unfold pre
    rw [e1, e2]
    exact h k q
  · obtain rfl : k = G.length := by omega
    have e1 : (G ++ [v]).take G.length = G := List.take_left
    have e2 : (G ++ [v])[G.length] = v := by simp
    unfold pre
    rw [e1, e2]
    exact hd
/-- the lowest frame, and what came of its parts -/
def Low (b l : Nat) (id j : Int) (s : MS) : Prop :=
  ∃ G, Tr s.L s.K id j G ∧ (∃ n, FOk b l s.L ⟨id, j, G.length, G⟩ n) ∧ ((∃ r, s.U = r ++ [⟨id, j, G.length, G⟩]) ∨ (s.U = [] ∧ nextP s.L ⟨id, j, G.length, G⟩ = none))
theorem stk_low {b l : Nat} {L : List Sq} {g : Fr} : ∀ {r : List Fr}, Stk b l L (r ++ [g]) → ∃ n, FOk b l L g n
  | [], h => h
  | [_], h => stk_low (r := []) h.2.2
  | _ :: y :: r, h => stk_low (r := y :: r) h.2.2
theorem take_eq (id j : Int) (G : List Int) (v : Int) : take ⟨id, j, G.length, G⟩ v = ⟨id, j, (G ++ [v]).length, G ++ [v]⟩ := by
  unfold Fm.take
  rw [List.length_append, List.length_singleton]
  rfl
/-- a part that comes at once, of the lowest frame -/
theorem low_step {b l : Nat} {id j : Int} {s : MS} (h : SOk b l s) (hu : s.U ≠ []) (hl : Low b l id j s) : Low b l id j (stepF b l s) := by
  have st := step_ok h hu
  obtain ⟨L, K, U, out⟩ := s
  obtain ⟨G, h1, ⟨n, h2⟩, h3⟩ := hl
  have h1 : Tr L K id j G := h1
  have h2 : FOk b l L ⟨id, j, G.length, G⟩ n := h2
  have hi : Inv L := h.kn.inv
  rcases h3 with ⟨r, hr⟩ | ⟨hr, _⟩
  rotate_left
  · exact absurd hr hu
  have hr : U = r ++ [⟨id, j, G.length, G⟩] := hr
  match r with
  | [] =>
    simp only [List.nil_append] at hr
    subst hr
    have st : StepOk b l ⟨L, K, [⟨id, j, G.length, G⟩], out⟩ (stepU b l L K ⟨id, j, G.length, G⟩ [] out (nextP L ⟨id, j, G.length, G⟩)) := st
    show Low b l id j (stepU b l L K ⟨id, j, G.length, G⟩ [] out (nextP L ⟨id, j, G.length, G⟩))
    cases en : nextP L ⟨id, j, G.length, G⟩ with
    | none =>
      rw [en] at st
      have hle := note_le (K := K) h.kn st.ext h2.lv st.ok.kn
      exact ⟨G, h1.ext hi st.ext h2 hle, ⟨n, h2.ext hi st.ext⟩, .inr ⟨rfl, (next_ext hi st.ext h2).trans en⟩⟩
    | some x =>
      rw [en] at st
      obtain ⟨m, rfl, hlt, hx⟩ := next_inv h2 en
      have hl4 : ∀ i, i < 4 → Lv L m (x.f i) := fun i h4 => by rw [hx]; exact part_lv hi h2 hlt i h4
      have h36 := h2.n36
      have pe : L <+: put L (pjQ L x) := put_ext _ _
      have hi1 := join_inv hi (by omega) hl4
      have hk1 := join_lv hl4
      have ej : ∀ {M : List Sq}, L <+: M → pjQ M x = pjQ L x := fun e => join_ext e (hl4 0 (by decide)).1 (hl4 1 (by decide)).1 (hl4 2 (by decide)).1 (hl4 3 (by decide)).1
      have st : StepOk b l ⟨L, K, [⟨id, j, G.length, G⟩], out⟩ (partU L K ⟨id, j, G.length, G⟩ [] out x) := st
      show Low b l id j (partU L K ⟨id, j, G.length, G⟩ [] out x)
      unfold partU at st ⊢
      by_cases hs : x.still = true
      · rw [if_pos hs] at st ⊢
        have c := ctr_ok (b := b) (l := l) hi1 (show m ≤ 36 by omega) hk1
        have cs := ctr_same hi1 hk1 c.1 List.prefix_rfl
        have q := nr_same (L := L) c.1
        unfold stillU at st ⊢
        generalize (ctrG (put L (pjQ L x), K0) (nr L (pjQ L x))) = C at *
        have e2 : L <+: C.1.1 := st.ext
        refine ⟨G ++ [C.2], (h1.ext hi e2 h2 (kle_refl K)).more ⟨x, by rw [next_ext hi e2 h2]; exact en, by rw [ej e2]; exact q.1, .inl ⟨hs, by rw [ej e2, q.2]; exact cs⟩⟩, ?_, .inl ⟨[], by rw [← take_eq]; rfl⟩⟩
        rw [← take_eq]
        exact Stk.top (r := []) st.ok.stk
      · have hs : x.still = false := by simpa using hs
        rw [if_neg (by rw [hs]; decide)] at st ⊢
        have q := nr_same (L := L) (M := put L (pjQ L x)) (q := pjQ L x) List.prefix_rfl
        cases hq : K (nr L (pjQ L x)) x.j with
        | some o =>
          rw [hq] at st
          refine ⟨G ++ [o], (h1.ext hi pe h2 (kle_refl K)).more ⟨x, by rw [next_ext hi pe h2]; exact en, by rw [ej pe]; exact q.1, .inr ⟨hs, by rw [ej pe, q.2]; exact hq⟩⟩, ?_, .inl ⟨[], by rw [← take_eq]; rfl⟩⟩
          rw [← take_eq]
          exact Stk.top (r := []) st.ok.stk
        | none =>
          exact ⟨G, h1.ext hi pe h2 (kle_refl K), ⟨m + 1, h2.ext hi pe⟩, .inl ⟨[_], rfl⟩⟩
  | f :: r =>
    have hr : U = f :: (r ++ [(⟨id, j, G.length, G⟩ : Fr)]) := hr
    subst hr
    obtain ⟨q, hf⟩ := Stk.top h.stk
    have st : StepOk b l ⟨L, K, f :: (r ++ [⟨id, j, G.length, G⟩]), out⟩ (stepU b l L K f (r ++ [⟨id, j, G.length, G⟩]) out (nextP L f)) := st
    show Low b l id j (stepU b l L K f (r ++ [⟨id, j, G.length, G⟩]) out (nextP L f))
    cases en : nextP L f with
    | none =>
      rw [en] at st
      match r with
      | [] =>
        obtain ⟨_, ⟨x, hp, hs, hj⟩, hst⟩ := (show (∃ n, FOk b l L f n) ∧ Fol L ⟨id, j, G.length, G⟩ f ∧ Stk b l L [⟨id, j, G.length, G⟩] from h.stk)
        have st : StepOk b l ⟨L, K, [f, ⟨id, j, G.length, G⟩], out⟩ ⟨put L (endQ b l L f), K.note f.id f.j (nr L (endQ b l L f)), [take ⟨id, j, G.length, G⟩ (nr L (endQ b l L f))], out⟩ := st
        show Low b l id j ⟨put L (endQ b l L f), K.note f.id f.j (nr L (endQ b l L f)), [take ⟨id, j, G.length, G⟩ (nr L (endQ b l L f))], out⟩
        generalize nr L (endQ b l L f) = v at *
        generalize put L (endQ b l L f) = M at *
        have e2 : L <+: M := st.ext
        have hi2 : Inv M := st.ok.kn.inv
        have hle := note_le (K := K) h.kn e2 hf.lv st.ok.kn
        obtain ⟨m, rfl, hlt, hx⟩ := next_inv h2 hp.1
        have h36 := h2.n36
        have hp2 := hp.ext hi e2 h2 hf.lv.1
        have hl4 : ∀ i, i < 4 → Lv M m (x.f i) := fun i h4 => by rw [hx]; exact (part_lv hi h2 hlt i h4).ext e2
        have hq : q = m := by
          obtain ⟨e1, _⟩ := Fol.lev hi h2 hf ⟨x, hp, hs, hj⟩
          omega
        subst hq
        obtain ⟨t1, t2⟩ := part_there hi2 (by omega) hl4 (hf.lv.ext e2) hp2.2
        refine ⟨G ++ [v], (h1.ext hi e2 h2 hle).more ⟨x, hp2.1, t1, .inr ⟨hs, by rw [t2, ← hj]; exact if_pos ⟨rfl, rfl⟩⟩⟩, ?_, .inl ⟨[], by rw [← take_eq]; rfl⟩⟩
        rw [← take_eq]
        exact Stk.top (r := []) st.ok.stk
      | y :: r =>
        have st : StepOk b l ⟨L, K, f :: y :: (r ++ [⟨id, j, G.length, G⟩]), out⟩ ⟨put L (endQ b l L f), K.note f.id f.j (nr L (endQ b l L f)), take y (nr L (endQ b l L f)) :: (r ++ [⟨id, j, G.length, G⟩]), out⟩ := st
        have hle := note_le (K := K) h.kn st.ext hf.lv st.ok.kn
        exact ⟨G, h1.ext hi st.ext h2 hle, ⟨n, h2.ext hi st.ext⟩, .inl ⟨take y (nr L (endQ b l L f)) :: r, rfl⟩⟩
    | some x =>
      rw [en] at st
      have st : StepOk b l ⟨L, K, f :: (r ++ [⟨id, j, G.length, G⟩]), out⟩ (partU L K f (r ++ [⟨id, j, G.length, G⟩]) out x) := st
      show Low b l id j (partU L K f (r ++ [⟨id, j, G.length, G⟩]) out x)
      unfold partU at st ⊢
      by_cases hs : x.still = true
      · rw [if_pos hs] at st ⊢
        exact ⟨G, h1.ext hi st.ext h2 (kle_refl K), ⟨n, h2.ext hi st.ext⟩, .inl ⟨take f (ctrG (put L (pjQ L x), K0) (nr L (pjQ L x))).2 :: r, rfl⟩⟩
      · rw [if_neg hs] at st ⊢
        cases hq : K (nr L (pjQ L x)) x.j with
        | some o =>
          rw [hq] at st
          exact ⟨G, h1.ext hi st.ext h2 (kle_refl K), ⟨n, h2.ext hi st.ext⟩, .inl ⟨take f o :: r, rfl⟩⟩
        | none =>
          rw [hq] at st
          exact ⟨G, h1.ext hi st.ext h2 (kle_refl K), ⟨n, h2.ext hi st.ext⟩, .inl ⟨⟨nr L (pjQ L x), x.j, 0, []⟩ :: f :: r, rfl⟩⟩
theorem low_run {b l : Nat} {id j : Int} : ∀ (n : Nat) {s : MS}, SOk b l s → Low b l id j s → Low b l id j (runF b l n s).2
  | 0, _, _, h => h
  | n + 1, s, hs, h => by
    by_cases hu : s.U = []
    · rw [runF_nil b l _ hu]
      exact h
    · rw [runF_succ b l _ hu]
      exact low_run n (step_ok hs hu).ok (low_step hs hu h)
/-- again, a step a part -/
theorem run_tr {b l : Nat} {L : List Sq} {K : Kn} {id j : Int} {G : List Int} (h : Tr L K id j G) (o : Int) : ∀ k, k ≤ G.length → runF b l k ⟨L, K, [⟨id, j, 0, []⟩], o⟩ = (k, ⟨L, K, [pre id j G k], o⟩)
  | 0, _ => rfl
  | k + 1, hk => by
    have ih := run_tr h o (b := b) (l := l) k (by omega)
    have hs := (h k (by omega)).step (b := b) (l := l) o
    rw [runF_add, ih]
    simp only
    rw [runF_succ b l 0 (by simp), hs]
    have e : take (pre id j G k) G[k] = pre id j G (k + 1) := by
      unfold Fm.take pre
      have hg : G.take (k + 1) = G.take k ++ [G[k]] := by simp
      rw [hg]
      rfl
    rw [e]
    simp [runF]
theorem low_start (b l : Nat) {L : List Sq} {K : Kn} {id j : Int} {n : Nat} (h : FOk b l L ⟨id, j, 0, []⟩ n) (out : Int) : Low b l id j ⟨L, K, [⟨id, j, 0, []⟩], out⟩ :=
  ⟨[], fun _ hk => absurd hk (Nat.not_lt_zero _), ⟨n, h⟩, .inl ⟨[], rfl⟩⟩
/-- once, and again -/
theorem again_run {b l : Nat} {s : MS} {id j : Int} {p : Nat} (hs : SOk b l s) (hl : Low b l id j s) (hu : s.U = []) (hv : Lv s.L (p + 1) id) (h0 : 0 ≤ j) (h1 : j ≤ p + 2) (hp : p ≤ 36) (hb : s.K id j = some s.out) (N : Nat) (hN : 14 ≤ N) :
    ∃ t, runF b l N ⟨s.L, s.K, [⟨id, j, 0, []⟩], 0⟩ = (if p = 0 then 1 else 14, t) ∧ t.out = s.out ∧ SOk b l ⟨s.L, s.K, [⟨id, j, 0, []⟩], 0⟩ ∧ t.U = [] ∧ t.L.length ≤ s.L.length + 28 := by
  obtain ⟨G, g1, ⟨n, g2⟩, g3⟩ := hl
  have g4 : nextP s.L ⟨id, j, G.length, G⟩ = none := by
    rcases g3 with ⟨r, hr⟩ | ⟨_, h⟩
    · rw [hu] at hr
      exact absurd hr (by simp)
    · exact h
  have hn : n = p := by
    have a := g2.lv.2
    have c := hv.2
    simp only at a
    omega
  subst hn
  have hlen : G.length + 1 = if n = 0 then 1 else 14 := by
    rcases end_len g2 g4 with rfl | ⟨m, rfl, e⟩
    · have := g2.low rfl
      have : G = [] := this
      rw [this]
      rfl
    · have e : G.length = 13 := e
      rw [if_neg (by omega), e]
  obtain ⟨s0, _, b0⟩ := start_ok hs.kn hv hp h0 h1 0
  have r1 := run_tr (b := b) (l := l) g1 0 G.length (Nat.le_refl _)
  rw [pre_all] at r1
  have r2 : runF b l (G.length + 1) ⟨s.L, s.K, [⟨id, j, 0, []⟩], 0⟩ = (G.length + 1, stepF b l ⟨s.L, s.K, [⟨id, j, G.length, G⟩], 0⟩) := by
    rw [runF_add, r1]
    simp only
    rw [runF_succ b l 0 (by simp)]
    simp [runF]
  have hs2 : stepF b l ⟨s.L, s.K, [⟨id, j, G.length, G⟩], 0⟩ = endU b l s.L s.K ⟨id, j, G.length, G⟩ 0 [] := by
    show stepU b l s.L s.K ⟨id, j, G.length, G⟩ [] 0 (nextP s.L ⟨id, j, G.length, G⟩) = _
    rw [g4]
    rfl
  have hu2 : (stepF b l ⟨s.L, s.K, [⟨id, j, G.length, G⟩], 0⟩).U = [] := by rw [hs2]; rfl
  have ro := run_ok (G.length + 1) s0
  rw [r2] at ro
  refine ⟨stepF b l ⟨s.L, s.K, [⟨id, j, G.length, G⟩], 0⟩, ?_, ?_, s0, hu2, ?_⟩
  · obtain ⟨d, rfl⟩ : ∃ d, N = (G.length + 1) + d := ⟨N - (G.length + 1), by split at hlen <;> omega⟩
    rw [runF_add, r2]
    simp only
    rw [runF_nil b l d hu2, ← hlen]
    rfl
  · have hbe := bas_end (ro.bas _ _ b0) hu2
    generalize stepF b l ⟨s.L, s.K, [⟨id, j, G.length, G⟩], 0⟩ = t at *
    have gt : Grn b l t.L id j t.out := (ro.ok.kn.kn _ _ _ hbe).2
    have gs : Grn b l s.L id j s.out := (hs.kn.kn _ _ _ hb).2
    have e : s.L <+: t.L := ro.ext
    exact Grn.uniq ro.ok.kn.inv (hv.ext e) gt (gs.ext hs.kn.inv e hv.1)
  · have h3 := ro.len
    have h3 : (stepF b l ⟨s.L, s.K, [⟨id, j, G.length, G⟩], 0⟩).L.length ≤ s.L.length + 2 * (G.length + 1) := h3
    split at hlen <;> omega
end Go.Proofs.Ytkefjkfknegogaa.Fm

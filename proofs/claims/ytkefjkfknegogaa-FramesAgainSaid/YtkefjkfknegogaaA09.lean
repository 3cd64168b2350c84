/-
  STEPS ONE BEHIND THE OTHER, AS PLAIN DATA; the same again where all squares are there; what was done once. Conditions: those that each lemma names.
-/
import Derived.Test.YtkefjkfknegogaaA08
namespace Go.Proofs.Ytkefjkfknegogaa.Fm
open Ti Ru Qd

def runF (b l : Nat) : Nat → MS → Nat × MS
  | 0, s => (0, s)
  | n + 1, s => if s.U.isEmpty = true then (0, s) else ((runF b l n (stepF b l s)).1 + 1, (runF b l n (stepF b l s)).2)
theorem runF_nil (b l n : Nat) {s : MS} (h : s.U = []) : runF b l n s = (0, s) := by
  cases n with
  | zero => rfl
  | succ n => exact if_pos (by rw [h]; rfl)
theorem runF_succ (b l n : Nat) {s : MS} (h : s.U ≠ []) : runF b l (n + 1) s = ((runF b l n (stepF b l s)).1 + 1, (runF b l n (stepF b l s)).2) :=
  if_neg (by rw [List.isEmpty_iff]; exact h)
theorem runF_add (b l : Nat) (c : Nat) : ∀ (a : Nat) (s : MS), runF b l (a + c) s = ((runF b l a s).1 + (runF b l c (runF b l a s).2).1, (runF b l c (runF b l a s).2).2)
  | 0, s => by simp [runF]
  | a + 1, s => by
    by_cases h : s.U = []
    · rw [runF_nil b l _ h, runF_nil b l _ h]
      show (0, s) = (0 + (runF b l c s).1, (runF b l c s).2)
      rw [runF_nil b l _ h]
      simp
    · rw [show a + 1 + c = (a + c) + 1 by omega, runF_succ b l _ h, runF_succ b l a h, runF_add b l c a (stepF b l s)]
      simp
      omega
structure RunOk (b l n : Nat) (s : MS) (r : Nat × MS) : Prop where
  ok : SOk b l r.2
  ext : s.L <+: r.2.L
  len : r.2.L.length ≤ s.L.length + 2 * r.1
  pot : pot r.2.L r.2.U + r.1 ≤ pot s.L s.U
  cnt : r.1 ≤ n
  fin : r.1 = n ∨ r.2.U = []
  bas : ∀ id j, Bas id j s → Bas id j r.2
  pos : s.U ≠ [] → 0 < n → 0 < r.1
theorem run_ok {b l : Nat} : ∀ (n : Nat) {s : MS}, SOk b l s → RunOk b l n s (runF b l n s)
  | 0, s, h => ⟨h, List.prefix_rfl, by show s.L.length ≤ s.L.length + 2 * 0; omega, by show pot s.L s.U + 0 ≤ pot s.L s.U; omega, Nat.le_refl _, Or.inl rfl, fun _ _ h => h, fun _ h => absurd h (by omega)⟩
  | n + 1, s, h => by
    by_cases hu : s.U = []
    · rw [runF_nil b l _ hu]
      exact ⟨h, List.prefix_rfl, by show s.L.length ≤ s.L.length + 2 * 0; omega, by show pot s.L s.U + 0 ≤ pot s.L s.U; omega, Nat.zero_le _, Or.inr hu, fun _ _ h => h, fun h => absurd hu h⟩
    · rw [runF_succ b l _ hu]
      have st := step_ok h hu
      have r := run_ok n st.ok
      generalize runF b l n (stepF b l s) = R at *
      have r1 := r.len
      have r2 := r.pot
      have r3 := r.cnt
      have s1 := st.len
      have s2 := st.pot
      exact ⟨r.ok, st.ext.trans r.ext, by show R.2.L.length ≤ s.L.length + 2 * (R.1 + 1); omega, by show Fm.pot R.2.L R.2.U + (R.1 + 1) ≤ Fm.pot s.L s.U; omega, by show R.1 + 1 ≤ n + 1; omega, r.fin.imp (fun h => by show R.1 + 1 = n + 1; omega) id, fun id j hb => r.bas id j (st.bas id j hb), fun _ _ => Nat.succ_pos _⟩
/-- so many steps are enough -/
theorem run_end {b l n : Nat} {s : MS} (h : SOk b l s) (hp : pot s.L s.U ≤ n) : (runF b l n s).2.U = [] := by
  have r := run_ok n h
  rcases r.fin with e | e
  · match hu : (runF b l n s).2.U with
    | [] => rfl
    | f :: t =>
      have := r.pot
      rw [hu] at this
      have hf : pot (runF b l n s).2.L (f :: t) = potF (runF b l n s).2.L f + potR (runF b l n s).2.L t := rfl
      rw [hf] at this
      have := pot_end (L := (runF b l n s).2.L) (f := f)
      omega
  · exact e
/-- two frames that are the same end alike, however many squares more there are -/
theorem nr_same {L M : List Sq} {q : Sq} (h : put L q <+: M) : put M q = M ∧ nr M q = nr L q := by
  have hm : q ∈ put L q := by
    unfold put
    split
    · assumption
    · simp
  obtain ⟨t, rfl⟩ := h
  refine ⟨if_pos (List.mem_append_left _ hm), ?_⟩
  unfold nr
  rw [List.idxOf_append, if_pos hm]
  unfold put
  split
  · rfl
  · rename_i hn
    rw [List.idxOf_append, if_neg hn, List.idxOf_eq_length hn]
    simp
theorem end_ext {b l : Nat} {L M : List Sq} (hi : Inv L) (e : L <+: M) {f : Fr} {n : Nat} (h : FOk b l L f n) (hn : nextP L f = none) : endQ b l M f = endQ b l L f := by
  unfold endQ
  rcases end_len h hn with rfl | ⟨m, rfl, h13⟩
  · have k := fun i => at_ext e (hi.kid h.lv i).1
    rw [if_pos (by rw [h.st, h.low rfl]; rfl), if_pos (by rw [h.st, h.low rfl]; rfl), at_ext e h.lv.1]
    unfold tilG
    rw [show at' M (at' L f.id).k0 = at' L (at' L f.id).k0 from k 0, show at' M (at' L f.id).k1 = at' L (at' L f.id).k1 from k 1, show at' M (at' L f.id).k2 = at' L (at' L f.id).k2 from k 2, show at' M (at' L f.id).k3 = at' L (at' L f.id).k3 from k 3]
  · rw [if_neg (by rw [h.st, h13]; decide), if_neg (by rw [h.st, h13]; decide)]
    have hg := h.got m rfl _ _ _ (Wn.self h.lv)
    have o := fun i (hlt : 9 + i < f.got.length) => (hg (9 + i) hlt).1.1
    have q := fun i (hlt : 9 + i < f.got.length) => (show Ok L (gv f.got (9 + i)) by rw [gv_at hlt]; exact o i hlt)
    exact join_ext e (q 0 (by omega)) (q 1 (by omega)) (q 2 (by omega)) (q 3 (by omega))
theorem mid_0 {L : List Sq} (K : Kn) {f : Nat → Int} (h : Lv L 0 (f 0)) : midG (L, K) (f 0) (f 1) (f 2) (f 3) = leafG (L, K) (growP 0 0 0 (tilG L (f 0) (f 1) (f 2) (f 3))) := if_pos h.2
theorem mid_n {L : List Sq} (K : Kn) {n : Nat} {f : Nat → Int} (h : Lv L (n + 1) (f 0)) : midG (L, K) (f 0) (f 1) (f 2) (f 3) = nodeG (L, K) (Qd.kid (at' L (f 0)) 3) (Qd.kid (at' L (f 1)) 2) (Qd.kid (at' L (f 2)) 1) (Qd.kid (at' L (f 3)) 0) := if_neg (by rw [h.2]; omega)
theorem mid_same {L M : List Sq} (hi : Inv L) (eL : L <+: M) {n : Nat} {f : Nat → Int} (hf : ∀ i, i < 4 → Lv L n (f i)) (K K' : Kn) (e : (midG (L, K) (f 0) (f 1) (f 2) (f 3)).1.1 <+: M) :
    midG (M, K') (f 0) (f 1) (f 2) (f 3) = ((M, K'), (midG (L, K) (f 0) (f 1) (f 2) (f 3)).2) := by
  have h0 := hf 0 (by decide)
  have h1 := hf 1 (by decide)
  have h2 := hf 2 (by decide)
  have h3 := hf 3 (by decide)
  match n with
  | 0 =>
    rw [mid_0 K h0] at e ⊢
    rw [mid_0 K' (h0.ext eL)]
    have et : tilG M (f 0) (f 1) (f 2) (f 3) = tilG L (f 0) (f 1) (f 2) (f 3) := by
      unfold tilG
      rw [at_ext eL h0.1, at_ext eL h1.1, at_ext eL h2.1, at_ext eL h3.1]
    rw [et]
    generalize growP 0 0 0 (tilG L (f 0) (f 1) (f 2) (f 3)) = t at *
    obtain ⟨q1, q2⟩ := nr_same (q := leafQ t) e
    show ((put M (leafQ t), K'), nr M (leafQ t)) = ((M, K'), nr L (leafQ t))
    rw [q1, q2]
  | n + 1 =>
    rw [mid_n K h0] at e ⊢
    rw [mid_n K' (h0.ext eL), at_ext eL h0.1, at_ext eL h1.1, at_ext eL h2.1, at_ext eL h3.1]
    have o0 := (hi.kid h0 3).1
    have o1 := (hi.kid h1 2).1
    have o2 := (hi.kid h2 1).1
    have o3 := (hi.kid h3 0).1
    generalize Qd.kid (at' L (f 0)) 3 = a at *
    generalize Qd.kid (at' L (f 1)) 2 = c at *
    generalize Qd.kid (at' L (f 2)) 1 = d at *
    generalize Qd.kid (at' L (f 3)) 0 = g at *
    obtain ⟨q1, q2⟩ := nr_same (q := joinQ L a c d g) e
    show ((put M (joinQ M a c d g), K'), nr M (joinQ M a c d g)) = ((M, K'), nr L (joinQ L a c d g))
    rw [join_ext eL o0 o1 o2 o3, q1, q2]
theorem ctr_same {L M : List Sq} (hi : Inv L) {n : Nat} {k : Int} (hk : Lv L (n + 1) k) (eL : L <+: M) (e : (ctrG (L, K0) k).1.1 <+: M) : ctrG (M, K0) k = ((M, K0), (ctrG (L, K0) k).2) := by
  have hf : ∀ i, i < 4 → Lv L n (Qd.kid (at' L k) i) := fun i _ => hi.kid hk i
  have q := mid_same hi eL (f := fun i => Qd.kid (at' L k) i) hf K0 K0 e
  have hm := at_ext eL hk.1
  show midG (M, K0) (Qd.kid (at' M k) 0) (Qd.kid (at' M k) 1) (Qd.kid (at' M k) 2) (Qd.kid (at' M k) 3) = _
  rw [hm]
  exact q
def MS.wide (s : MS) (M : List Sq) : MS := ⟨M, s.K, s.U, s.out⟩
theorem step_same {b l : Nat} {s : MS} (h : SOk b l s) (hu : s.U ≠ []) {M : List Sq} (e : (stepF b l s).L <+: M) : stepF b l (s.wide M) = (stepF b l s).wide M := by
  have st := step_ok h hu
  have eL := st.ext.trans e
  obtain ⟨L, K, U, out⟩ := s
  have hi : Inv L := h.kn.inv
  match U with
  | [] => exact absurd rfl hu
  | f :: r =>
    obtain ⟨n, hf⟩ := Stk.top h.stk
    have eL : L <+: M := eL
    have e : (stepU b l L K f r out (nextP L f)).L <+: M := e
    show stepU b l M K f r out (nextP M f) = (stepU b l L K f r out (nextP L f)).wide M
    rw [next_ext hi eL hf]
    cases en : nextP L f with
    | none =>
      rw [en] at e
      have e1 : put L (endQ b l L f) <+: M := by
        match r with
        | [] => exact e
        | _ :: _ => exact e
      have q := nr_same e1
      match r with
      | [] =>
        show (⟨put M (endQ b l M f), K.note f.id f.j (nr M (endQ b l M f)), [], nr M (endQ b l M f)⟩ : MS) = _
        rw [end_ext hi eL hf en, q.1, q.2]
        rfl
      | g :: r =>
        show (⟨put M (endQ b l M f), K.note f.id f.j (nr M (endQ b l M f)), take g (nr M (endQ b l M f)) :: r, out⟩ : MS) = _
        rw [end_ext hi eL hf en, q.1, q.2]
        rfl
    | some x =>
      rw [en] at e
      obtain ⟨m, rfl, hlt, hx⟩ := next_inv hf en
      have hl4 : ∀ i, i < 4 → Lv L m (x.f i) := fun i h4 => by rw [hx]; exact part_lv hi hf hlt i h4
      have ej : pjQ M x = pjQ L x := join_ext eL (hl4 0 (by decide)).1 (hl4 1 (by decide)).1 (hl4 2 (by decide)).1 (hl4 3 (by decide)).1
      have h36 := hf.n36
      have hi1 := join_inv hi (by omega) hl4
      have hk1 := join_lv hl4
      have e : (partU L K f r out x).L <+: M := e
      show partU M K f r out x = (partU L K f r out x).wide M
      unfold partU at e ⊢
      rw [ej]
      by_cases hs : x.still = true
      · rw [if_pos hs] at e ⊢
        rw [if_pos hs]
        have e2 : (ctrG (put L (pjQ L x), K0) (nr L (pjQ L x))).1.1 <+: M := e
        have c := ctr_ok (b := b) (l := l) hi1 (show m ≤ 36 by omega) hk1
        have q := nr_same (c.1.trans e2)
        unfold stillU
        rw [q.1, q.2, ctr_same hi1 hk1 (c.1.trans e2) e2]
        rfl
      · rw [if_neg hs] at e ⊢
        rw [if_neg hs]
        have e2 : put L (pjQ L x) <+: M := by
          cases hq : K (nr L (pjQ L x)) x.j with
          | none => rw [hq] at e; exact e
          | some o => rw [hq] at e; exact e
        have q := nr_same e2
        rw [q.1, q.2]
        cases hq : K (nr L (pjQ L x)) x.j with
        | none => rfl
        | some o => rfl
theorem run_same {b l : Nat} : ∀ (n : Nat) {s : MS} (_ : SOk b l s) {M : List Sq} (_ : (runF b l n s).2.L <+: M), runF b l n (s.wide M) = ((runF b l n s).1, (runF b l n s).2.wide M)
  | 0, s, h, M, e => rfl
  | n + 1, s, h, M, e => by
    by_cases hu : s.U = []
    · rw [runF_nil b l _ hu, runF_nil b l _ (show (s.wide M).U = [] from hu)]
    · have st := step_ok h hu
      rw [runF_succ b l _ hu] at e ⊢
      rw [runF_succ b l _ (show (s.wide M).U ≠ [] from hu)]
      have r := run_ok n st.ok
      rw [step_same h hu (r.ext.trans e), run_same n st.ok e]
theorem start_ok {b l : Nat} {L : List Sq} {K : Kn} (hk : GOk b l (L, K)) {id j : Int} {n : Nat} (h : Lv L (n + 1) id) (hn : n ≤ 36) (h0 : 0 ≤ j) (h1 : j ≤ n + 2) (out : Int) : SOk b l ⟨L, K, [⟨id, j, 0, []⟩], out⟩ ∧ pot L [⟨id, j, 0, []⟩] = TT n ∧ Bas id j ⟨L, K, [⟨id, j, 0, []⟩], out⟩ := by
  have hf := FOk.new b l h hn h0 h1
  refine ⟨⟨hk, n, hf⟩, ?_, bas_cons.2 ⟨_, rfl, rfl, rfl⟩⟩
  show potF L _ + 0 = _
  unfold potF
  rw [hf.lvN]
  match n with
  | 0 => rfl
  | n + 1 => rw [if_neg (by omega)]; rfl
theorem TT_le : ∀ n, n ≤ 3 → TT n ≤ 4759
  | 0, _ => by decide
  | 1, _ => by decide
  | 2, _ => by decide
  | 3, _ => by decide
/-- what came of it all is what came of the square -/
theorem bas_end {s : MS} {id j : Int} (hb : Bas id j s) (hu : s.U = []) : s.K id j = some s.out := by
  rcases hb with ⟨_, e⟩ | ⟨g, h1, _⟩
  · exact e
  · rw [hu] at h1
    cases h1
end Go.Proofs.Ytkefjkfknegogaa.Fm

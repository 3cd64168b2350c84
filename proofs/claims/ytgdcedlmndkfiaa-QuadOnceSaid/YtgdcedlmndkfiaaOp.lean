/-
  CELLS SET IN ONE ORDER AND IN ANOTHER, as plain data. Conditions: those that each lemma names.
-/
import Derived.Test.YtgdcedlmndkfiaaQb
namespace Go.Proofs.Ytgdcedlmndkfiaa.Qd
open Ti

/-- behind i rounds -/
structure OI (p n : Nat) (X Y : Nat → Nat) (base : Int) (i : Nat) (L : List Sq) (a b : Int) : Prop where
  inv : Inv L
  la : Lv L p a
  lb : Lv L p b
  l0 : Lv L p base
  ca : ∀ u v, u < 2 ^ (p + 3) → v < 2 ^ (p + 3) → (cel L p a u v = true ↔ ∃ j, j < i ∧ X j = u ∧ Y j = v)
  cb : ∀ u v, u < 2 ^ (p + 3) → v < 2 ^ (p + 3) → (cel L p b u v = true ↔ ∃ j, j < i ∧ X (n - 1 - j) = u ∧ Y (n - 1 - j) = v)
  c0 : ∀ u v, cel L p base u v = false
  cnt : (at' L a).cnt ≤ i
  len : L.length ≤ 8 + 32 * i
  z : i = 0 → a = base
theorem OI.start {p n : Nat} {X Y : Nat → Nat} (hp : p ≤ 7) : OI p n X Y (emp [] p).2 0 (emp [] p).1 (emp [] p).2 (emp [] p).2 := by
  have h := emp_ok inv_nil p (by omega)
  refine ⟨h.inv, h.lv, h.lv, h.lv, fun u v _ _ => ?_, fun u v _ _ => ?_, h.cel, by rw [h.cnt]; exact Int.le_refl _, by have := h.len; simp at this; omega, fun _ => rfl⟩
  all_goals
    rw [h.cel]
    constructor
    · intro e; cases e
    · rintro ⟨j, hj, _⟩; omega
/-- what a round does -/
structure Rnd (p n : Nat) (X Y : Nat → Nat) (base : Int) (i : Nat) (L : List Sq) (a b : Int) (r1 r2 r3 r4 : List Sq × Int) (was : Bool) : Prop where
  e1 : r1 = setQ L p a (X i) (Y i) true
  e2 : r2 = setQ r1.1 p b (X (n - 1 - i)) (Y (n - 1 - i)) true
  ew : was = cel r2.1 p r1.2 (X (n - 1 - i)) (Y (n - 1 - i))
  e3 : r3 = setQ r2.1 p r1.2 (X (n - 1 - i)) (Y (n - 1 - i)) (!was)
  e4 : r4 = setQ r3.1 p r3.2 (X (n - 1 - i)) (Y (n - 1 - i)) was
  s1 : SetOk L p a (X i) (Y i) true r1
  s2 : SetOk r1.1 p b (X (n - 1 - i)) (Y (n - 1 - i)) true r2
  s3 : SetOk r2.1 p r1.2 (X (n - 1 - i)) (Y (n - 1 - i)) (!was) r3
  s4 : SetOk r3.1 p r3.2 (X (n - 1 - i)) (Y (n - 1 - i)) was r4
  lb : Lv r1.1 p b
  lc : Lv r2.1 p r1.2
  is : cel r2.1 p r1.2 (X i) (Y i) = true
  back : r4.2 = r1.2
  ne : ¬ r3.2 = r1.2
  next : OI p n X Y base (i + 1) r4.1 r1.2 r2.2
  l1 : r1.1.length ≤ 4000
  l2 : r2.1.length ≤ 4000
  l3 : r3.1.length ≤ 4000
  l4 : r4.1.length ≤ 4000
theorem OI.round {p n : Nat} {X Y : Nat → Nat} {base : Int} {i : Nat} {L : List Sq} {a b : Int} (h : OI p n X Y base i L a b) (hp : p ≤ 7) (hi : i < n) (hn : n ≤ 25) (hX : ∀ j, X j < 2 ^ (p + 3)) (hY : ∀ j, Y j < 2 ^ (p + 3)) :
    ∃ r1 r2 r3 r4 was, Rnd p n X Y base i L a b r1 r2 r3 r4 was := by
  obtain ⟨r1, e1⟩ : ∃ r, r = setQ L p a (X i) (Y i) true := ⟨_, rfl⟩
  have s1 : SetOk L p a (X i) (Y i) true r1 := by rw [e1]; exact set_ok h.inv p a _ _ true h.la (by omega) (hX i) (hY i)
  have lb := h.lb.ext s1.ext
  obtain ⟨r2, e2⟩ : ∃ r, r = setQ r1.1 p b (X (n - 1 - i)) (Y (n - 1 - i)) true := ⟨_, rfl⟩
  have s2 : SetOk r1.1 p b (X (n - 1 - i)) (Y (n - 1 - i)) true r2 := by rw [e2]; exact set_ok s1.inv p b _ _ true lb (by omega) (hX _) (hY _)
  have lc := s1.lv.ext s2.ext
  obtain ⟨was, ew⟩ : ∃ c, c = cel r2.1 p r1.2 (X (n - 1 - i)) (Y (n - 1 - i)) := ⟨_, rfl⟩
  obtain ⟨r3, e3⟩ : ∃ r, r = setQ r2.1 p r1.2 (X (n - 1 - i)) (Y (n - 1 - i)) (!was) := ⟨_, rfl⟩
  have s3 : SetOk r2.1 p r1.2 (X (n - 1 - i)) (Y (n - 1 - i)) (!was) r3 := by rw [e3]; exact set_ok s2.inv p _ _ _ _ lc (by omega) (hX _) (hY _)
  obtain ⟨r4, e4⟩ : ∃ r, r = setQ r3.1 p r3.2 (X (n - 1 - i)) (Y (n - 1 - i)) was := ⟨_, rfl⟩
  have s4 : SetOk r3.1 p r3.2 (X (n - 1 - i)) (Y (n - 1 - i)) was r4 := by rw [e4]; exact set_ok s3.inv p _ _ _ _ s3.lv (by omega) (hX _) (hY _)
  have x3 := s3.ext.trans s4.ext
  have hc1 : ∀ u v, u < 2 ^ (p + 3) → v < 2 ^ (p + 3) → cel r4.1 p r1.2 u v = if u = X i ∧ v = Y i then true else cel L p a u v := fun u v hu hv => by
    rw [cel_ext s2.inv x3 p _ _ _ lc, cel_ext s1.inv s2.ext p _ _ _ s1.lv, s1.cel u v hu hv]
  have hc2 : ∀ u v, u < 2 ^ (p + 3) → v < 2 ^ (p + 3) → cel r4.1 p r2.2 u v = if u = X (n - 1 - i) ∧ v = Y (n - 1 - i) then true else cel L p b u v := fun u v hu hv => by
    rw [cel_ext s2.inv x3 p _ _ _ s2.lv, s2.cel u v hu hv, cel_ext h.inv s1.ext p _ _ _ h.lb]
  have len : r1.1.length ≤ 4000 ∧ r2.1.length ≤ 4000 ∧ r3.1.length ≤ 4000 ∧ r4.1.length ≤ 8 + 32 * (i + 1) := by
    have := h.len
    have := s1.len
    have := s2.len
    have := s3.len
    have := s4.len
    omega
  refine ⟨r1, r2, r3, r4, was, e1, e2, ew, e3, e4, s1, s2, s3, s4, lb, lc, ?_, ?_, ?_, ?_, len.1, len.2.1, len.2.2.1, by omega⟩
  · rw [cel_ext s1.inv s2.ext p _ _ _ s1.lv, s1.cel _ _ (hX i) (hY i), if_pos ⟨rfl, rfl⟩]
  · refine uniq s4.inv p _ _ s4.lv (lc.ext x3) fun u v hu hv => ?_
    rw [s4.cel u v hu hv, s3.cel u v hu hv, cel_ext s2.inv x3 p _ _ _ lc]
    by_cases e : u = X (n - 1 - i) ∧ v = Y (n - 1 - i)
    · rw [if_pos e, e.1, e.2, ew]
    · rw [if_neg e, if_neg e]
  · intro e
    have h1 := s3.cel _ _ (hX (n - 1 - i)) (hY (n - 1 - i))
    rw [if_pos ⟨rfl, rfl⟩, e, cel_ext s2.inv s3.ext p _ _ _ lc, ← ew] at h1
    cases was <;> cases h1
  · refine ⟨s4.inv, lc.ext x3, s2.lv.ext x3, ((h.l0.ext s1.ext).ext s2.ext).ext x3, fun u v hu hv => ?_, fun u v hu hv => ?_, fun u v => ?_, ?_, len.2.2.2, fun e => by omega⟩
    · rw [hc1 u v hu hv]
      by_cases e : u = X i ∧ v = Y i
      · rw [if_pos e]
        exact ⟨fun _ => ⟨i, by omega, e.1.symm, e.2.symm⟩, fun _ => rfl⟩
      · rw [if_neg e, h.ca u v hu hv]
        constructor
        · rintro ⟨j, hj, h1, h2⟩
          exact ⟨j, by omega, h1, h2⟩
        · rintro ⟨j, hj, h1, h2⟩
          by_cases q : j = i
          · subst q
            exact absurd ⟨h1.symm, h2.symm⟩ e
          · exact ⟨j, by omega, h1, h2⟩
    · rw [hc2 u v hu hv]
      by_cases e : u = X (n - 1 - i) ∧ v = Y (n - 1 - i)
      · rw [if_pos e]
        exact ⟨fun _ => ⟨i, by omega, e.1.symm, e.2.symm⟩, fun _ => rfl⟩
      · rw [if_neg e, h.cb u v hu hv]
        constructor
        · rintro ⟨j, hj, h1, h2⟩
          exact ⟨j, by omega, h1, h2⟩
        · rintro ⟨j, hj, h1, h2⟩
          by_cases q : j = i
          · subst q
            exact absurd ⟨h1.symm, h2.symm⟩ e
          · exact ⟨j, by omega, h1, h2⟩
    · rw [cel_ext h.inv ((s1.ext.trans s2.ext).trans x3) p _ _ _ h.l0]
      exact h.c0 u v
    · rw [at_ext x3 lc.1, at_ext s2.ext s1.lv.1]
      have := s1.cnt
      have := h.cnt
      omega
/-- behind all rounds -/
theorem OI.done {p n : Nat} {X Y : Nat → Nat} {base : Int} {L : List Sq} {a b : Int} (h : OI p n X Y base n L a b) (hX : ∀ j, X j < 2 ^ (p + 3)) (hY : ∀ j, Y j < 2 ^ (p + 3)) :
    a = b ∧ (at' L a).cnt ≤ n ∧ (n = 0 ↔ a = base) := by
  refine ⟨uniq h.inv p _ _ h.la h.lb fun u v hu hv => ?_, h.cnt, h.z, fun e => ?_⟩
  · rw [Bool.eq_iff_iff, h.ca u v hu hv, h.cb u v hu hv]
    constructor
    · rintro ⟨j, hj, h1, h2⟩
      exact ⟨n - 1 - j, by omega, by rw [show n - 1 - (n - 1 - j) = j by omega]; exact h1, by rw [show n - 1 - (n - 1 - j) = j by omega]; exact h2⟩
    · rintro ⟨j, hj, h1, h2⟩
      exact ⟨n - 1 - j, by omega, h1, h2⟩
  · rcases Nat.eq_zero_or_pos n with h0 | h0
    · exact h0
    · have h1 := (h.ca (X 0) (Y 0) (hX 0) (hY 0)).2 ⟨0, h0, rfl, rfl⟩
      rw [e, h.c0] at h1
      cases h1
end Go.Proofs.Ytgdcedlmndkfiaa.Qd

/-
  HOW MANY LIVE ABOUT EACH PLACE, counted cell by cell, place by place; what comes of a list of such places. Conditions: those that each lemma names.
-/

import Derived.Test.YticnhpddidaaeaaCa
namespace Go.Proofs.Yticnhpddidaaeaa.Ce

/-- nine for a cell itself, one for each about it -/
def cf (pre : List Cel) (x : Cel) : Nat := (if x ∈ pre then 9 else 0) + cnt pre x
/-- how often a place is met among the first j about a cell -/
def hits (s : Cel) : Nat → Cel → Nat
  | 0, _ => 0
  | j + 1, x => hits s j x + if ¬ j = 4 ∧ x = pos s j then 1 else 0
def mid (pre : List Cel) (s : Cel) (j : Nat) (x : Cel) : Nat := cf pre x + (if x = s then 9 else 0) + hits s j x
theorem hits_all (s x : Cel) : hits s 9 x = if adj s x = true then 1 else 0 := by
  have e : adj s x = true ↔ (∃ j, j < 9 ∧ ¬ j = 4 ∧ x = pos s j) := by
    unfold adj
    rw [Bool.and_eq_true, near_iff, ← pos_near]
    simp only [Bool.not_eq_true', decide_eq_false_iff_not]
    constructor
    · rintro ⟨⟨j, hj, rfl⟩, h2⟩
      refine ⟨j, hj, fun e4 => h2 ?_, rfl⟩
      subst e4
      obtain ⟨a, b⟩ := s
      simp only [pos, Prod.mk.injEq]
      omega
    · rintro ⟨j, hj, h4, rfl⟩
      refine ⟨⟨j, hj, rfl⟩, fun e => h4 ?_⟩
      obtain ⟨a, b⟩ := s
      simp only [pos, Prod.mk.injEq] at e
      omega
  have inj : ∀ i j, i < 9 → j < 9 → pos s i = pos s j → i = j := fun i j hi hj h => by
    simp only [pos, Prod.mk.injEq] at h
    omega
  have gen : ∀ n, n ≤ 9 → hits s n x = if (∃ j, j < n ∧ ¬ j = 4 ∧ x = pos s j) then 1 else 0 := by
    intro n
    induction n with
    | zero => intro _; rw [if_neg (by rintro ⟨j, hj, _⟩; omega)]; rfl
    | succ n ih =>
      intro hn
      unfold hits
      rw [ih (by omega)]
      by_cases h : ¬ n = 4 ∧ x = pos s n
      · rw [if_pos h, if_neg, if_pos]
        · exact ⟨n, by omega, h.1, h.2⟩
        · rintro ⟨j, hj, _, e2⟩
          have := inj j n (by omega) (by omega) (e2.symm.trans h.2)
          omega
      · rw [if_neg h]
        by_cases k : ∃ j, j < n ∧ ¬ j = 4 ∧ x = pos s j
        · rw [if_pos k, if_pos]
          obtain ⟨j, hj, q⟩ := k
          exact ⟨j, by omega, q⟩
        · rw [if_neg k, if_neg]
          rintro ⟨j, hj, q⟩
          by_cases ej : j = n
          · subst ej; exact h q
          · exact k ⟨j, by omega, q⟩
  rw [gen 9 (by omega)]
  by_cases h : adj s x = true
  · rw [if_pos h, if_pos (e.1 h)]
  · rw [if_neg h, if_neg (fun q => h (e.2 q))]
theorem cnt_snoc (S : List Cel) (s x : Cel) : cnt (S ++ [s]) x = cnt S x + if adj s x = true then 1 else 0 := by
  unfold cnt
  rw [List.filter_append, List.length_append]
  congr 1
  by_cases h : adj s x = true
  · simp [h]
  · simp [h]
theorem mid_start (pre : List Cel) (s x : Cel) : mid pre s 0 x = cf pre x + if x = s then 9 else 0 := rfl
theorem mid_end (pre : List Cel) (s x : Cel) (h : ¬ s ∈ pre) : mid pre s 9 x = cf (pre ++ [s]) x := by
  unfold mid cf
  rw [hits_all, cnt_snoc]
  by_cases e : x = s
  · subst e
    have a1 : (if x ∈ pre then 9 else 0) = 0 := if_neg h
    have a2 : (if x ∈ pre ++ [x] then 9 else 0) = 9 := if_pos (by simp)
    rw [a1, a2, if_pos rfl]
    omega
  · rw [if_neg e]
    by_cases k : x ∈ pre
    · have a1 : (if x ∈ pre then 9 else 0) = 9 := if_pos k
      have a2 : (if x ∈ pre ++ [s] then 9 else 0) = 9 := if_pos (by simp [k])
      rw [a1, a2]
      omega
    · have a1 : (if x ∈ pre then 9 else 0) = 0 := if_neg k
      have a2 : (if x ∈ pre ++ [s] then 9 else 0) = 0 := if_neg (by simp [k, e])
      rw [a1, a2]
      omega
theorem mid_step (pre : List Cel) (s x : Cel) (j : Nat) (h : ¬ j = 4) : mid pre s (j + 1) x = mid pre s j x + if x = pos s j then 1 else 0 := by
  unfold mid
  have : hits s (j + 1) x = hits s j x + if x = pos s j then 1 else 0 := by
    show hits s j x + (if ¬ j = 4 ∧ x = pos s j then 1 else 0) = _
    simp [h]
  omega
theorem mid_skip (pre : List Cel) (s x : Cel) : mid pre s (4 + 1) x = mid pre s 4 x := by
  unfold mid
  show _ + (hits s 4 x + (if ¬ 4 = 4 ∧ x = pos s 4 then 1 else 0)) = _
  simp
theorem pos_four (s : Cel) : pos s 4 = s := by
  obtain ⟨a, b⟩ := s
  simp only [pos, Prod.mk.injEq]
  omega
theorem pos_ne {s : Cel} {j : Nat} (h : ¬ j = 4) : ¬ pos s j = s := by
  obtain ⟨a, b⟩ := s
  simp only [pos, Prod.mk.injEq]
  omega
theorem cf_ne_zero (S : List Cel) (x : Cel) : ¬ cf S x = 0 ↔ ∃ s ∈ S, near s x = true := by
  unfold cf cnt
  constructor
  · intro h
    by_cases hx : x ∈ S
    · exact ⟨x, hx, (near_iff _ _).2 (by omega)⟩
    · rw [if_neg hx, Nat.zero_add] at h
      obtain ⟨s, hs⟩ := List.exists_mem_of_length_pos (Nat.pos_of_ne_zero h)
      obtain ⟨h1, h2⟩ := List.mem_filter.1 hs
      unfold adj at h2
      rw [Bool.and_eq_true] at h2
      exact ⟨s, h1, h2.1⟩
  · rintro ⟨s, hs, hn⟩ h
    by_cases hx : x ∈ S
    · rw [if_pos hx] at h; omega
    · have : s ∈ S.filter (fun s => adj s x) := List.mem_filter.2 ⟨hs, by
        unfold adj
        rw [hn, Bool.true_and]
        have : ¬ s = x := fun e => hx (e ▸ hs)
        simpa using this⟩
      have := List.length_pos_of_mem this
      omega
theorem cf_le (S : List Cel) (h : S.Nodup) (x : Cel) : cf S x ≤ 17 := by
  have := cnt_le S h x
  unfold cf
  split <;> omega
theorem cf_nine (S : List Cel) (h : S.Nodup) (x : Cel) : decide (9 ≤ cf S x) = decide (x ∈ S) := by
  have := cnt_le S h x
  unfold cf
  rw [decide_eq_decide]
  by_cases hx : x ∈ S
  · simp [hx]
  · rw [if_neg hx]
    constructor
    · intro q; omega
    · intro q; exact absurd q hx
theorem cf_mod (S : List Cel) (h : S.Nodup) (x : Cel) : cf S x % 9 = cnt S x := by
  have := cnt_le S h x
  unfold cf
  split <;> omega
/-- whether one lives next, by what was counted -/
theorem alive_cf (r : Rul) (S : List Cel) (h : S.Nodup) (x : Cel) : r (decide (9 ≤ cf S x)) (cf S x % 9) = alive r S x := by
  rw [cf_nine S h, cf_mod S h]
  rfl
/-- what comes of the places, in whatever order they come -/
theorem keys_next (r : Rul) (S ks : List Cel) (hk : ks.Nodup) (hm : ∀ x, x ∈ ks ↔ ¬ cf S x = 0) : (ks.filter (alive r S)).Perm (nxt r S) := by
  refine (List.perm_ext_iff_of_nodup (hk.filter _) (nxt_srt r S).nodup).2 (fun x => ?_)
  rw [List.mem_filter, nxt_mem, hm, cf_ne_zero]
/-- where a part of them is too many already, or one lies too far, all are -/
theorem keys_bad (r : Rul) (S pre : List Cel) (h : pre.Nodup) (hm : ∀ x ∈ pre, ¬ cf S x = 0) (hb : 4096 < (pre.filter (alive r S)).length ∨ ∃ x ∈ pre, alive r S x = true ∧ okc x = false) : fine (nxt r S) = false := by
  have sub : ∀ x ∈ pre.filter (alive r S), x ∈ nxt r S := fun x hx => by
    obtain ⟨h1, h2⟩ := List.mem_filter.1 hx
    exact (nxt_mem r S x).2 ⟨(cf_ne_zero S x).1 (hm x h1), h2⟩
  rw [Bool.eq_false_iff]
  intro hf
  obtain ⟨f1, f2⟩ := (fine_iff _).1 hf
  rcases hb with hb | ⟨x, hx, ha, ho⟩
  · have := len_le_of_sub _ _ (h.filter _) sub
    omega
  · have := f2 x (sub x (List.mem_filter.2 ⟨hx, ha⟩))
    rw [ho] at this
    cases this
end Go.Proofs.Yticnhpddidaaeaa.Ce

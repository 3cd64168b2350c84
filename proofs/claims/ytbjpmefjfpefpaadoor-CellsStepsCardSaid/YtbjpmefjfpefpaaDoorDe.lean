/-
  HOW MANY LIVE ABOUT A CELL, counted place by place; what one generation on grows from. Conditions: those that each lemma names.
-/
import Derived.Test.YtbjpmefjfpefpaaDoorDd
namespace Go.Proofs.YtbjpmefjfpefpaaDoor
open Go.RowKit Ru Ce

/-- of the first places about a cell, but itself, so many live -/
def ab (L : List Cel) (c : Cel) (k : Nat) : Nat := ((List.range k).filter fun j => !decide (j = 4) && decide (pos c j ∈ L)).length
theorem ab_succ (L : List Cel) (c : Cel) (k : Nat) : ab L c (k + 1) = ab L c k + (if k = 4 then 0 else if pos c k ∈ L then 1 else 0) := by
  unfold ab
  rw [List.range_succ, List.filter_append, List.length_append]
  by_cases h4 : k = 4
  · simp [h4]
  · by_cases h : pos c k ∈ L <;> simp [h4, h]
theorem ab_le (L : List Cel) (c : Cel) (k : Nat) : ab L c k ≤ k := by
  unfold ab
  exact Nat.le_trans (List.length_filter_le _ _) (by simp)
theorem pos_inj {c : Cel} {i j : Nat} (h : pos c i = pos c j) : i = j := by
  simp only [pos, Prod.mk.injEq] at h
  omega
theorem pos_self {c : Cel} {j : Nat} : pos c j = c ↔ j = 4 := by
  obtain ⟨x, y⟩ := c
  simp only [pos, Prod.mk.injEq]
  omega
theorem ab_all (L : List Cel) (hL : L.Nodup) (c : Cel) : ab L c 9 = cnt L c := by
  unfold ab cnt
  have hp : (((List.range 9).filter fun j => !decide (j = 4) && decide (pos c j ∈ L)).map (pos c)).Perm (L.filter fun s => adj s c) := by
    refine (List.perm_ext_iff_of_nodup ?_ (hL.filter _)).2 (fun x => ?_)
    · refine List.pairwise_map.2 ((List.nodup_range.filter _).imp fun {a b} hne e => hne (pos_inj e))
    · rw [List.mem_map, List.mem_filter]
      constructor
      · rintro ⟨j, hj, rfl⟩
        rw [List.mem_filter, List.mem_range, Bool.and_eq_true, decide_eq_true_iff, Bool.not_eq_true', decide_eq_false_iff_not] at hj
        obtain ⟨h9, h4, hm⟩ := hj
        refine ⟨hm, ?_⟩
        unfold adj
        rw [Bool.and_eq_true, near_iff, Bool.not_eq_true', decide_eq_false_iff_not, pos_self]
        have := (pos_near (c := c) (x := pos c j)).1 ⟨j, h9, rfl⟩
        exact ⟨by omega, h4⟩
      · rintro ⟨hm, ha⟩
        unfold adj at ha
        rw [Bool.and_eq_true, near_iff, Bool.not_eq_true', decide_eq_false_iff_not] at ha
        obtain ⟨j, h9, rfl⟩ := pos_near.2 (show c.1 - 1 ≤ x.1 ∧ x.1 ≤ c.1 + 1 ∧ c.2 - 1 ≤ x.2 ∧ x.2 ≤ c.2 + 1 by omega)
        refine ⟨j, ?_, rfl⟩
        rw [List.mem_filter, List.mem_range, Bool.and_eq_true, decide_eq_true_iff, Bool.not_eq_true', decide_eq_false_iff_not]
        exact ⟨h9, fun e => ha.2 (pos_self.2 e), hm⟩
  rw [← hp.length_eq, List.length_map]
theorem nbs_take (L : List Cel) (i : Nat) (h : i < L.length) : nbs (L.take (i + 1)) = nbs (L.take i) ++ (List.range 9).map (pos L[i]) := by
  unfold nbs
  rw [List.take_succ_eq_append_getElem h, List.flatMap_append]
  simp
/-- the cells of some places that live next, put in one by one -/
def outs (r : Rul) (L M : List Cel) : List Cel := srt (M.filter (alive r L))
theorem outs_seen (r : Rul) (L M : List Cel) (c : Cel) (h : c ∈ M) : outs r L (M ++ [c]) = outs r L M := by
  unfold outs
  refine srt_ext (srt_srt _) (srt_srt _) (fun x => ?_)
  rw [srt_mem, srt_mem, List.filter_append, List.mem_append, List.mem_filter, List.mem_filter]
  constructor
  · rintro (q | ⟨q1, q2⟩)
    · exact q
    · obtain rfl : x = c := by simpa using q1
      exact ⟨h, q2⟩
  · exact .inl
theorem outs_put (r : Rul) (L M : List Cel) (c : Cel) : outs r L (M ++ [c]) = if alive r L c = true then put (outs r L M) c else outs r L M := by
  unfold outs
  rw [List.filter_append]
  by_cases h : alive r L c = true
  · rw [if_pos h]
    have e : [c].filter (alive r L) = [c] := by simp [h]
    rw [e]
    unfold srt
    rw [List.foldl_append]
    rfl
  · rw [if_neg h]
    have e : [c].filter (alive r L) = [] := by simp [h]
    rw [e, List.append_nil]
theorem outs_len (r : Rul) (L M : List Cel) : (outs r L M).length ≤ M.length := Nat.le_trans (srt_len _) (List.length_filter_le _ _)
theorem outs_all (r : Rul) (L : List Cel) : outs r L (nbs L) = nxt r L := rfl
theorem rng_succ (c : Cel) (k : Nat) : (List.range (k + 1)).map (pos c) = (List.range k).map (pos c) ++ [pos c k] := by
  rw [List.range_succ, List.map_append]; rfl
end Go.Proofs.YtbjpmefjfpefpaaDoor

/-
  ONE OF TWO THAT STAND NEXT TO EACH OTHER AND ARE THE SAME IS STRUCK, as plain data; a cell is stored into a list of the call's own; the end of such a list is cleared. Conditions: those that each lemma names.
-/

import Derived.Test.YticnhpddidaaeaaCg
import Derived.Laws.CopyRow
import Derived.Laws.CopyOwn
import Derived.Laws.StructEq
namespace Go.Proofs.Yticnhpddidaaeaa
open Go.RowKit Ru Ce

/-- behind one -/
def ddf : Cel → List Cel → List Cel
  | _, [] => []
  | p, y :: r => if y = p then ddf y r else y :: ddf y r
def dd : List Cel → List Cel
  | [] => []
  | x :: r => x :: ddf x r
theorem ddf_snoc : ∀ (l : List Cel) (p z : Cel), ddf p (l ++ [z]) = ddf p l ++ if z = (p :: l).getLast (by simp) then [] else [z]
  | [], p, z => by
    show (if z = p then ddf z [] else z :: ddf z []) = _
    by_cases h : z = p <;> simp [h, ddf]
  | y :: r, p, z => by
    have ih := ddf_snoc r y z
    show (if y = p then ddf y (r ++ [z]) else y :: ddf y (r ++ [z])) = (if y = p then ddf y r else y :: ddf y r) ++ _
    rw [ih]
    have e : (p :: y :: r).getLast (by simp) = (y :: r).getLast (by simp) := by simp
    rw [e]
    by_cases h : y = p
    · rw [if_pos h, if_pos h]
    · rw [if_neg h, if_neg h, List.cons_append]
theorem dd_step (L : List Cel) (m : Nat) (h0 : 0 < m) (hm : m < L.length) : dd (L.take (m + 1)) = dd (L.take m) ++ if L[m] = L[m - 1] then [] else [L[m]] := by
  rw [List.take_succ_eq_append_getElem hm]
  cases L with
  | nil => simp at hm
  | cons x r =>
    obtain ⟨k, rfl⟩ : ∃ k, m = k + 1 := ⟨m - 1, by omega⟩
    rw [List.take_succ_cons, List.cons_append]
    show x :: ddf x (r.take k ++ [(x :: r)[k + 1]]) = x :: ddf x (r.take k) ++ _
    rw [ddf_snoc, List.cons_append]
    congr 2
    have e : (x :: r.take k).getLast (by simp) = (x :: r)[k + 1 - 1] := by
      rw [List.getLast_eq_getElem]
      have hk : k ≤ r.length := by simp at hm; omega
      have e2 : x :: r.take k = (x :: r).take (k + 1) := by rw [List.take_succ_cons]
      simp only [e2, List.getElem_take]
      congr 1
      rw [List.length_take]
      simp
      omega
    rw [e]
theorem dd_len (L : List Cel) : (dd L).length ≤ L.length := by
  have h : ∀ (l : List Cel) (p : Cel), (ddf p l).length ≤ l.length := by
    intro l
    induction l with
    | nil => intro p; simp [ddf]
    | cons y r ih => intro p; have := ih y; unfold ddf; split <;> simp <;> omega
  cases L with
  | nil => simp [dd]
  | cons x r => have := h r x; simp [dd]; omega
theorem ddf_mem : ∀ (l : List Cel) (p x : Cel), x ∈ p :: ddf p l ↔ x ∈ p :: l
  | [], p, x => by simp [ddf]
  | y :: r, p, x => by
    have ih := ddf_mem r y x
    unfold ddf
    split
    · rename_i h
      subst h
      simp only [List.mem_cons] at ih ⊢
      rw [ih]
      constructor
      · rintro (h | h)
        · exact .inl h
        · exact .inr (.inr h)
      · rintro (h | h | h)
        · exact .inl h
        · exact .inl h
        · exact .inr h
    · rw [List.mem_cons, ih, List.mem_cons (b := p)]
theorem ddf_srt : ∀ (l : List Cel) (p : Cel), Wk (p :: l) → Srt (p :: ddf p l)
  | [], p, _ => List.pairwise_singleton _ _
  | y :: r, p, h => by
    obtain ⟨h1, h2⟩ := List.pairwise_cons.1 h
    have ih := ddf_srt r y h2
    unfold ddf
    split
    · rename_i e
      subst e
      exact ih
    · rename_i e
      have hp : lt p y = true := lt_total (h1 y (by simp)) e
      refine List.pairwise_cons.2 ⟨fun z hz => ?_, ih⟩
      rcases List.mem_cons.1 hz with rfl | hz
      · exact hp
      · exact lt_trans hp ((List.pairwise_cons.1 ih).1 z hz)
theorem dd_srt {L M : List Cel} (h : Wk M) (k : M.Perm L) : dd M = srt L := by
  have hm : ∀ x, x ∈ dd M ↔ x ∈ M := by
    cases M with
    | nil => simp [dd]
    | cons y r => exact ddf_mem r y
  have hs : Srt (dd M) := by
    cases M with
    | nil => exact List.Pairwise.nil
    | cons y r => exact ddf_srt r y h
  exact (srt_of hs (fun x => by rw [hm, k.mem_iff])).symm
/-- all are apart so far -/
theorem dd_same (L : List Cel) (m : Nat) (hm : m ≤ L.length) (h : ∀ i (hi : i < m), 0 < i → ¬ L[i]'(by omega) = L[i - 1]'(by omega)) : dd (L.take m) = L.take m := by
  induction m with
  | zero => simp [dd]
  | succ m ih =>
    have hml : m < L.length := by omega
    have e := ih (by omega) (fun i hi h0 => h i (by omega) h0)
    rcases Nat.eq_zero_or_pos m with rfl | h0
    · cases L with
      | nil => simp at hml
      | cons x r => simp [dd, ddf]
    · rw [dd_step L m h0 hml, e, if_neg (h m (by omega) h0), List.take_succ_eq_append_getElem hml]

theorem cl_take : ∀ (M : List Cel) (k : Nat), cl (M.take k) = (cl M).take (k * 2)
  | _, 0 => by simp [cl]
  | [], k + 1 => by simp [cl]
  | x :: r, k + 1 => by
    rw [List.take_succ_cons]
    show cc x ++ cl (r.take k) = (cc x ++ cl r).take ((k + 1) * 2)
    rw [cl_take r k, show (k + 1) * 2 = (cc x).length + k * 2 by show _ = 2 + k * 2; omega, List.take_length_add_append]
theorem cl_drop : ∀ (M : List Cel) (k : Nat), cl (M.drop k) = (cl M).drop (k * 2)
  | _, 0 => by simp
  | [], k + 1 => by simp [cl]
  | x :: r, k + 1 => by
    rw [List.drop_succ_cons]
    show cl (r.drop k) = (cc x ++ cl r).drop ((k + 1) * 2)
    rw [cl_drop r k, show (k + 1) * 2 = (cc x).length + k * 2 by show _ = 2 + k * 2; omega, List.drop_length_add_append]
theorem cl_set (M : List Cel) (k : Nat) (z : Cel) (hk : k < M.length) : cl (M.set k z) = (cl M).take (k * 2) ++ (cc z ++ (cl M).drop (k * 2 + 2)) := by
  rw [List.set_eq_take_append_cons_drop, if_pos hk, cl_app, cl_take]
  show _ ++ (cc z ++ cl (M.drop (k + 1))) = _
  rw [cl_drop, show (k + 1) * 2 = k * 2 + 2 by omega]
theorem grown_row (w : World) (g : Nat) (cs : Array Value) : w.grownBy (w.setRow g cs) (some g) := by
  refine ⟨rfl, rfl, rfl, by simp [World.setRow], fun k hk hne => ?_⟩
  unfold World.setRow
  simp only [Array.getElem?_modify]
  rw [if_neg (fun e => hne (by rw [e]))]
set_option maxRecDepth 100000 in
/-- a cell is stored -/
theorem wpList_store_cell {ops : Array Oper} {rest : List Oper} {o : Oper} {a : Act} {w : World} {Q : Exit → Act → World → Prop} (hgd : o.guard = none) (x y : Operand) (ho : o.op = .store 31 x y)
    {B n g cap k : Nat} {M : List Cel} (h : OwnC 31 w B (.slice (some ⟨g, 0, none⟩) n cap) n M) (hk : k < n) (z : Cel) (hx : a.eval x = .pointer (some ⟨g, k * 2, none⟩)) (hy : a.eval y = cv z)
    (hK : ∀ w', OwnC 31 w' B (.slice (some ⟨g, 0, none⟩) n cap) n (M.set k z) → w.grownBy w' (some g) → wpList Try.prog ops Q rest (a.put o.dst undef) w') : wpList Try.prog ops Q (o :: rest) a w := by
  obtain ⟨hl, ⟨e, _⟩ | ⟨g', cap', cur, e, hb, hg, hc, hm, hcs, ht⟩⟩ := h
  · cases e
  · simp at e
    obtain ⟨rfl, rfl⟩ := e
    have hM : M.length = n := by rw [cl_len] at hl; omega
    refine wpList_plain hgd fun _ hK' => ?_
    have hs := run_storeCells_at (P := Try.prog) g (k * 2) 31 (cc z) 0 cur w hg (by show k * 2 + 0 + 2 ≤ cur.size; omega) (cc_one z)
    have hs' : (storeCells ⟨g, k * 2, none⟩ [.int .i64 z.1, .int .i64 z.2] 0).run Try.prog w = .ok () (w.setRow g (splice cur.toList (k * 2) (cc z)).toArray) := by simpa [splice, cc] using hs
    have hcl : cur.toList.length = cap * 2 := by simp [hcs]
    have hsp : splice cur.toList (k * 2) (cc z) = cl (M.set k z) ++ cur.toList.drop (n * 2) := by
      have e1 : cur.toList = cl M ++ cur.toList.drop (n * 2) := by rw [← ht, List.take_append_drop]
      rw [cl_set M k z (by omega)]
      unfold splice
      show cur.toList.take (k * 2) ++ (cc z ++ cur.toList.drop (k * 2 + 2)) = _
      rw [List.append_assoc, List.append_assoc]
      congr 1
      · rw [← ht, List.take_take, Nat.min_eq_left (by omega)]
      · congr 1
        have e2 : cur.toList.drop (k * 2 + 2) = (cl M ++ cur.toList.drop (n * 2)).drop (k * 2 + 2) := by rw [← e1]
        rw [e2, List.drop_append_of_le_length (by rw [cl_len]; omega)]
    have hin : OwnC 31 (w.setRow g (splice cur.toList (k * 2) (cc z)).toArray) B (.slice (some ⟨g, 0, none⟩) n cap) n (M.set k z) := by
      refine ⟨by rw [cl_len, List.length_set]; omega, .inr ⟨g, cap, _, rfl, hb, setRow_heap _ _ _ _ _ _ hg, hc, hm, ?_, ?_⟩⟩
      · rw [hsp]
        simp [cl_len, hM, hcs]
        omega
      · rw [hsp]
        show List.take (n * 2) (cl (M.set k z) ++ _) = _
        exact List.take_left' (by rw [cl_len, List.length_set]; omega)
    unfold Oper.wp execOp
    cases hq : Try.prog.info? 31 with
    | none => have := info_a; rw [hq] at this; cases this
    | some q =>
      have hi : q.size = 2 := by have := info_a; rw [hq] at this; injection this with this; injection this with _ this; injection this
      simp [ho, hx, hy, cv, Instr.storeAt, Instr.sureAddr, Result.andThen_ok, storeVar, sizeOf, typeInfo, hq, hi, Value.cells, hs']
      exact hK' _ _ (hK _ hin (grown_row _ _ _))
end Go.Proofs.Yticnhpddidaaeaa

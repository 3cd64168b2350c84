/-
  THE LADDER OF EMPTY SQUARES, as plain data. Conditions: those that each lemma names.
-/
import Derived.Test.YtgdcedlmndkfiaaDoorQb
namespace Go.Proofs.YtgdcedlmndkfiaaDoor.Qd
open Ti

/-- the empty square that comes as the j-th -/
def laq (j : Nat) : Sq := if j = 0 then leafQ 0#64 else ⟨3 + j, 0, 0#64, j, j, j, j⟩
def lad (n : Nat) : List Sq := (List.range (n + 1)).map laq
theorem laq_lev (j : Nat) : (laq j).lev = 3 + j := by
  unfold laq
  split
  · rename_i h; subst h; rfl
  · rfl
theorem laq_cnt (j : Nat) : (laq j).cnt = 0 := by
  unfold laq
  split
  · decide +kernel
  · rfl
theorem lad_len (n : Nat) : (lad n).length = n + 1 := by simp [lad]
theorem lad_nd (n : Nat) : (lad n).Nodup := by
  unfold lad
  refine List.pairwise_map.2 (List.pairwise_lt_range.imp fun {a b} h e => ?_)
  have := congrArg Sq.lev e
  rw [laq_lev, laq_lev] at this
  omega
theorem lad_at {m j : Nat} (h : j ≤ m) : Ok (lad m) ((j : Int) + 1) ∧ at' (lad m) ((j : Int) + 1) = laq j := by
  refine ⟨⟨by omega, by rw [lad_len]; omega⟩, ?_⟩
  unfold at' lad
  rw [show ((j : Int) + 1 - 1).toNat = j by omega, List.getElem?_map, List.getElem?_range (by omega)]
  rfl
theorem lad_succ (n : Nat) : lad (n + 1) = lad n ++ [laq (n + 1)] := by
  unfold lad
  rw [List.range_succ, List.map_append]
  rfl
theorem lad_in {m j : Nat} (h : j ≤ m) : put (lad m) (laq j) = lad m ∧ nr (lad m) (laq j) = (j : Int) + 1 := by
  have hm : laq j ∈ lad m := List.mem_map.2 ⟨j, List.mem_range.2 (by omega), rfl⟩
  have hp : put (lad m) (laq j) = lad m := if_pos hm
  refine ⟨hp, ?_⟩
  have h1 := put_ok (lad m) (laq j)
  have h2 := put_at (lad m) (laq j)
  rw [hp] at h1 h2
  obtain ⟨h3, h4⟩ := lad_at h
  exact at_inj (lad_nd m) h1 h3 (h2.trans h4.symm)
theorem lad_join {m j : Nat} (h : j ≤ m) : joinQ (lad m) ((j : Int) + 1) ((j : Int) + 1) ((j : Int) + 1) ((j : Int) + 1) = laq (j + 1) := by
  unfold joinQ
  rw [(lad_at h).2, laq_lev, laq_cnt]
  unfold laq
  rw [if_neg (by omega)]
  refine Sq.ext' ?_ rfl rfl ?_ ?_ ?_ ?_
  · show 3 + (j : Int) + 1 = 3 + ((j + 1 : Nat) : Int)
    omega
  all_goals
    show (j : Int) + 1 = ((j + 1 : Nat) : Int)
    omega
theorem emp_lad : ∀ n, emp [] n = (lad n, (n : Int) + 1)
  | 0 => by decide +kernel
  | n + 1 => by
    show (put (emp [] n).1 (joinQ (emp [] n).1 (emp [] n).2 (emp [] n).2 (emp [] n).2 (emp [] n).2), nr (emp [] n).1 (joinQ (emp [] n).1 (emp [] n).2 (emp [] n).2 (emp [] n).2 (emp [] n).2)) = _
    rw [emp_lad n]
    show (put (lad n) (joinQ (lad n) ((n : Int) + 1) ((n : Int) + 1) ((n : Int) + 1) ((n : Int) + 1)), nr (lad n) (joinQ (lad n) ((n : Int) + 1) ((n : Int) + 1) ((n : Int) + 1) ((n : Int) + 1))) = _
    rw [lad_join (Nat.le_refl n)]
    have hm : ¬ laq (n + 1) ∈ lad n := fun hm => by
      obtain ⟨j, hj, e⟩ := List.mem_map.1 hm
      have := congrArg Sq.lev e
      rw [laq_lev, laq_lev] at this
      have := List.mem_range.1 hj
      omega
    rw [show put (lad n) (laq (n + 1)) = lad n ++ [laq (n + 1)] from if_neg hm, ← lad_succ]
    have : nr (lad n) (laq (n + 1)) = ((n + 1 : Nat) : Int) + 1 := by
      unfold nr
      rw [List.idxOf_eq_length hm, lad_len]
    rw [this]
theorem emp_again {m : Nat} : ∀ n, n ≤ m → emp (lad m) n = (lad m, (n : Int) + 1)
  | 0, h => by
    show (put (lad m) (leafQ 0#64), nr (lad m) (leafQ 0#64)) = _
    have := lad_in h
    rw [show laq 0 = leafQ 0#64 from rfl] at this
    rw [this.1, this.2]
  | n + 1, h => by
    show (put (emp (lad m) n).1 (joinQ (emp (lad m) n).1 (emp (lad m) n).2 (emp (lad m) n).2 (emp (lad m) n).2 (emp (lad m) n).2), nr (emp (lad m) n).1 (joinQ (emp (lad m) n).1 (emp (lad m) n).2 (emp (lad m) n).2 (emp (lad m) n).2 (emp (lad m) n).2)) = _
    rw [emp_again n (by omega)]
    show (put (lad m) (joinQ (lad m) ((n : Int) + 1) ((n : Int) + 1) ((n : Int) + 1) ((n : Int) + 1)), nr (lad m) (joinQ (lad m) ((n : Int) + 1) ((n : Int) + 1) ((n : Int) + 1) ((n : Int) + 1))) = _
    rw [lad_join (by omega), (lad_in h).1, (lad_in h).2]
end Go.Proofs.YtgdcedlmndkfiaaDoor.Qd

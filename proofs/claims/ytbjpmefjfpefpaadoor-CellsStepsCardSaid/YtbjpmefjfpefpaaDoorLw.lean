/-
  A ROW OF CELLS, three apart; what comes of it by a rule under which all live on. Conditions: those that each lemma names.
-/
import Derived.Test.YtbjpmefjfpefpaaDoorCr
namespace Go.Proofs.YtbjpmefjfpefpaaDoor
open Go.RowKit Ru Ce

/-- so many cells, three apart -/
def far3 (n : Nat) : List Cel := (List.range n).map fun (i : Nat) => ((3 * (i : Int), 0) : Cel)
theorem far3_len (n : Nat) : (far3 n).length = n := by simp [far3]
theorem far3_succ (n : Nat) : far3 (n + 1) = far3 n ++ [(3 * (n : Int), 0)] := by simp [far3, List.range_succ]
theorem far3_mem (n : Nat) (x : Cel) : x ∈ far3 n ↔ ∃ i : Nat, i < n ∧ x = ((3 * (i : Int), 0) : Cel) := by
  unfold far3
  rw [List.mem_map]
  constructor
  · rintro ⟨i, hi, rfl⟩; exact ⟨i, List.mem_range.1 hi, rfl⟩
  · rintro ⟨i, hi, rfl⟩; exact ⟨i, List.mem_range.2 hi, rfl⟩
theorem far3_srt (n : Nat) : Srt (far3 n) := by
  unfold far3 Srt
  rw [List.pairwise_map]
  refine List.pairwise_lt_range.imp (fun {a b} h => ?_)
  rw [lt_iff]
  exact Or.inr ⟨rfl, by show 3 * (a : Int) < 3 * (b : Int); omega⟩
theorem far3_ok {n : Nat} (hn : n ≤ 5000) : ∀ x ∈ far3 n, okc x = true := by
  intro x hx
  obtain ⟨i, hi, rfl⟩ := (far3_mem n x).1 hx
  rw [okc_iff]
  simp only
  omega
theorem far3_chk {n : Nat} (hn : n ≤ 5000) : chkN (far3 n) = if 4096 < n then 2 else 0 := by
  unfold chkN
  rw [far3_len, if_pos (List.all_eq_true.2 (far3_ok hn))]
theorem far3_take {n m : Nat} (h : m ≤ n) : (far3 n).take m = far3 m := by
  unfold far3
  rw [← List.map_take, List.take_range, Nat.min_eq_left h]
theorem live_all (n : Nat) (h : n ≤ 8) : hs 511 n = true := by
  have : ∀ n < 9, hs 511 n = true := by decide
  exact this n (by omega)
theorem none_born (n : Nat) (h : n ≤ 8) : hs 0 n = false := by
  have : ∀ n < 9, hs 0 n = false := by decide
  exact this n (by omega)
/-- where none is born, and all live on -/
theorem far3_stays (n : Nat) : nxt (rul 0 511) (far3 n) = far3 n := by
  refine srt_ext (nxt_srt _ _) (far3_srt n) (fun x => ?_)
  have hc := cnt_le (far3 n) (far3_srt n).nodup x
  rw [nxt_mem]
  unfold alive rul pick
  by_cases hx : x ∈ far3 n
  · rw [decide_eq_true hx, if_pos rfl, live_all _ hc]
    exact ⟨fun _ => hx, fun _ => ⟨⟨x, hx, (near_iff x x).2 (by omega)⟩, rfl⟩⟩
  · rw [decide_eq_false hx, if_neg (by decide), none_born _ hc]
    exact ⟨(fun h => by cases h.2), (fun h => absurd h hx)⟩
/-- of each alone eight are born -/
theorem far3_cnt {n i j : Nat} (hi : i < n) (hj : j < 9) (h4 : ¬ j = 4) : cnt (far3 n) (pos (3 * (i : Int), 0) j) = 1 := by
  have e : (far3 n).filter (fun s => adj s (pos (3 * (i : Int), 0) j)) = [(3 * (i : Int), 0)] := by
    refine srt_ext ((far3_srt n).sublist List.filter_sublist) (List.pairwise_singleton _ _) (fun x => ?_)
    rw [List.mem_filter, List.mem_singleton, far3_mem]
    constructor
    · rintro ⟨⟨k, hk, rfl⟩, ha⟩
      unfold adj at ha
      rw [Bool.and_eq_true, near_iff] at ha
      have := ha.1
      simp only [pos] at this
      have : k = i := by omega
      rw [this]
    · rintro rfl
      refine ⟨⟨i, hi, rfl⟩, ?_⟩
      unfold adj
      rw [Bool.and_eq_true, near_iff]
      refine ⟨pos_near.1 ⟨j, hj, rfl⟩, ?_⟩
      have := pos_ne (s := (3 * (i : Int), 0)) (j := j) h4
      simp only [Bool.not_eq_true', decide_eq_false_iff_not]
      exact fun e => this e.symm
  unfold cnt
  rw [e]
  rfl
theorem far3_alive {n i j : Nat} (hi : i < n) (hj : j < 9) : alive (rul 2 511) (far3 n) (pos (3 * (i : Int), 0) j) = true := by
  unfold alive rul pick
  have hc := cnt_le (far3 n) (far3_srt n).nodup (pos (3 * (i : Int), 0) j)
  by_cases hx : pos (3 * (i : Int), 0) j ∈ far3 n
  · rw [decide_eq_true hx, if_pos rfl, live_all _ hc]
  · rw [decide_eq_false hx, if_neg (by decide)]
    have h4 : ¬ j = 4 := by
      rintro rfl
      rw [pos_four] at hx
      exact hx ((far3_mem n _).2 ⟨i, hi, rfl⟩)
    rw [far3_cnt hi hj h4]
    decide
theorem nbs_nodup (n : Nat) : (nbs (far3 n)).Nodup := by
  unfold nbs
  rw [List.nodup_iff_pairwise_ne, List.pairwise_flatMap]
  constructor
  · intro s hs
    rw [List.pairwise_map]
    refine (List.pairwise_lt_range (n := 9)).imp_of_mem (fun {a b} ha hb h e => ?_)
    have h1 := List.mem_range.1 ha
    have h2 := List.mem_range.1 hb
    simp only [pos, Prod.mk.injEq] at e
    omega
  · unfold far3
    rw [List.pairwise_map]
    refine List.pairwise_lt_range.imp ?_
    intro a b h x hx y hy e
    obtain ⟨i, hi, rfl⟩ := List.mem_map.1 hx
    obtain ⟨j, hj, rfl⟩ := List.mem_map.1 hy
    have h1 := List.mem_range.1 hi
    have h2 := List.mem_range.1 hj
    simp only [pos, Prod.mk.injEq] at e
    omega
theorem far3_many : stp (rul 2 511) (far3 600) 1 = none := by
  have h : fine (nxt (rul 2 511) (far3 600)) = false := by
    rw [Bool.eq_false_iff]
    intro hf
    have h1 := ((fine_iff _).1 hf).1
    have h2 := len_le_of_sub (nbs (far3 600)) (nxt (rul 2 511) (far3 600)) (nbs_nodup 600) (fun x hx => by
      obtain ⟨s, hs, hn⟩ := (nbs_mem _ x).1 hx
      obtain ⟨i, hi, rfl⟩ := (far3_mem _ s).1 hs
      obtain ⟨j, hj, rfl⟩ := pos_near.2 ((near_iff _ _).1 hn)
      exact (nxt_mem _ _ _).2 ⟨⟨_, hs, hn⟩, far3_alive hi hj⟩)
    rw [nbs_len, far3_len] at h2
    omega
  unfold stp
  rw [h]
  rfl
theorem far3_same : stp (rul 0 511) (far3 600) 1 = some (far3 600) := stp_one ((fine_iff _).2 ⟨by rw [far3_len]; decide, far3_ok (by decide)⟩) (far3_stays 600) 1
end Go.Proofs.YtbjpmefjfpefpaaDoor

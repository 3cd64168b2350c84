/-
  WHAT A CRASH LEAVES, BY THE DOCUMENT's LISTS AND BY THE DISK. No walk in it.
-/
import Derived.Test.YtibopcbebcikbaaDoorRk
namespace Go.Proofs.YtibopcbebcikbaaDoor
open Go.RowKit

/-- the texts behind so many of what is pending -/
def rc (r : Ref) (ks : List Int) (t : Int) (p : Nat) : Nat → Nat → Nat → Int
  | 0 => r.S
  | k + 1 => if (k : Int) ∈ ks then upd (rc r ks t p k) (r.pend.getD k 0) (r.N (r.pend.getD k 0)) else if (k : Int) = t then upd (rc r ks t p k) (r.pend.getD k 0) (fun j => if j < p then r.N (r.pend.getD k 0) j else r.S (r.pend.getD k 0) j) else rc r ks t p k
theorem idx_of_get {l : List Nat} (h : l.Nodup) {k : Nat} (hk : k < l.length) : l.idxOf (l.getD k 0) = k := by
  rw [List.getD_eq_getElem?_getD, List.getElem?_eq_getElem hk]
  exact h.idxOf_getElem k hk
theorem get_of_idx {l : List Nat} {i : Nat} (h : l.idxOf i < l.length) : l.getD (l.idxOf i) 0 = i := by
  rw [List.getD_eq_getElem?_getD, List.getElem?_eq_getElem h]
  exact List.getElem_idxOf h
theorem rc_val (r : Ref) (ks : List Int) (t : Int) (p : Nat) (h : r.pend.Nodup) (i j : Nat) : ∀ k, k ≤ r.pend.length →
    rc r ks t p k i j = if r.pend.idxOf i < k then (if (r.pend.idxOf i : Int) ∈ ks then r.N i j else if (r.pend.idxOf i : Int) = t then (if j < p then r.N i j else r.S i j) else r.S i j) else r.S i j := by
  intro k
  induction k with
  | zero => intro _; simp [rc]
  | succ k ih =>
    intro hk
    have ih := ih (by omega)
    have hd := idx_of_get h (show k < r.pend.length by omega)
    by_cases e : i = r.pend.getD k 0
    · have hi : r.pend.idxOf i = k := by rw [e]; exact hd
      rw [if_neg (by omega)] at ih
      rw [if_pos (by omega), hi]
      unfold rc
      rw [← e]
      by_cases a : (k : Int) ∈ ks
      · rw [if_pos a, if_pos a]
        unfold upd
        rw [if_pos rfl]
      · rw [if_neg a, if_neg a]
        by_cases b : (k : Int) = t
        · rw [if_pos b, if_pos b]
          unfold upd
          rw [if_pos rfl]
        · rw [if_neg b, if_neg b]
          exact ih
    · have hne : r.pend.idxOf i ≠ k := fun q => e (by rw [← q, get_of_idx (by omega)])
      have hs : rc r ks t p (k + 1) i j = rc r ks t p k i j := by
        show (if (k : Int) ∈ ks then upd (rc r ks t p k) (r.pend.getD k 0) (r.N (r.pend.getD k 0)) else if (k : Int) = t then upd (rc r ks t p k) (r.pend.getD k 0) (fun j => if j < p then r.N (r.pend.getD k 0) j else r.S (r.pend.getD k 0) j) else rc r ks t p k) i j = _
        by_cases a : (k : Int) ∈ ks
        · rw [if_pos a]
          unfold upd
          rw [if_neg e]
        · rw [if_neg a]
          by_cases b : (k : Int) = t
          · rw [if_pos b]
            unfold upd
            rw [if_neg e]
          · rw [if_neg b]
      rw [hs, ih]
      by_cases c : r.pend.idxOf i < k
      · rw [if_pos c, if_pos (show r.pend.idxOf i < k + 1 by omega)]
      · rw [if_neg c, if_neg (show ¬ r.pend.idxOf i < k + 1 by omega)]
theorem rc_all (r : Ref) (ks : List Int) (t : Int) (p : Nat) (h : r.pend.Nodup) (i j : Nat) :
    rc r ks t p r.pend.length i j = if i ∈ r.pend then (if (r.pend.idxOf i : Int) ∈ ks then r.N i j else if (r.pend.idxOf i : Int) = t then (if j < p then r.N i j else r.S i j) else r.S i j) else r.S i j := by
  rw [rc_val r ks t p h i j _ (Nat.le_refl _)]
  by_cases e : i ∈ r.pend
  · rw [if_pos (List.idxOf_lt_length_iff.2 e), if_pos e]
  · rw [if_neg (fun q => e (List.idxOf_lt_length_iff.1 q)), if_neg e]
theorem rc_bd (r : Ref) (ks : List Int) (t : Int) (p : Nat) (hN : ∀ i j, 0 ≤ r.N i j ∧ r.N i j < 256) (hS : ∀ i j, 0 ≤ r.S i j ∧ r.S i j < 256) : ∀ k i j, 0 ≤ rc r ks t p k i j ∧ rc r ks t p k i j < 256 := by
  intro k
  induction k with
  | zero => exact hS
  | succ k ih =>
    intro i j
    show 0 ≤ (if (k : Int) ∈ ks then upd (rc r ks t p k) (r.pend.getD k 0) (r.N (r.pend.getD k 0)) else if (k : Int) = t then upd (rc r ks t p k) (r.pend.getD k 0) (fun j => if j < p then r.N (r.pend.getD k 0) j else r.S (r.pend.getD k 0) j) else rc r ks t p k) i j ∧ (if (k : Int) ∈ ks then upd (rc r ks t p k) (r.pend.getD k 0) (r.N (r.pend.getD k 0)) else if (k : Int) = t then upd (rc r ks t p k) (r.pend.getD k 0) (fun j => if j < p then r.N (r.pend.getD k 0) j else r.S (r.pend.getD k 0) j) else rc r ks t p k) i j < 256
    by_cases a : (k : Int) ∈ ks
    · rw [if_pos a]
      exact upd_bd _ ih (hN _) i j
    · rw [if_neg a]
      by_cases b : (k : Int) = t
      · rw [if_pos b]
        exact upd_bd _ ih (fun j => by by_cases q : j < p; · rw [if_pos q]; exact hN _ j
                                       · rw [if_neg q]; exact hS _ j) i j
      · rw [if_neg b]
        exact ih i j
/-- the disk's own -/
theorem crash_val {B : Nat} {s : St} (o : s.Ok B) (ks : List Int) (t : Int) (p : Nat) (hf : fitOk s.pend.length ks t) (i j : Nat) (hj : j < 512) :
    (s.crash ks t p).cur i j = if i ∈ s.pend then (if (s.pend.idxOf i : Int) ∈ ks then s.now i j else if (s.pend.idxOf i : Int) = t then (if j < p then s.now i j else s.sure i j) else s.sure i j) else s.sure i j := by
  show ((s.kept ks).torn t p).sure i j = _
  have hmem : i ∈ ks.map (fun k => s.pend.getD k.toNat 0) ↔ (i ∈ s.pend ∧ (s.pend.idxOf i : Int) ∈ ks) := by
    constructor
    · intro h
      obtain ⟨k, hk, he⟩ := List.mem_map.1 h
      have hb := hf.1.1 k hk
      have hlt : k.toNat < s.pend.length := by omega
      have hi : s.pend.idxOf i = k.toNat := by rw [← he]; exact idx_of_get o.nd hlt
      have hin : i ∈ s.pend := List.idxOf_lt_length_iff.1 (by omega)
      refine ⟨hin, ?_⟩
      rw [hi, show ((k.toNat : Nat) : Int) = k by omega]
      exact hk
    · rintro ⟨h1, h2⟩
      refine List.mem_map.2 ⟨_, h2, ?_⟩
      rw [Int.toNat_natCast]
      exact get_of_idx (List.idxOf_lt_length_iff.2 h1)
  have hk : ∀ j, j < 512 → (s.kept ks).sure i j = if i ∈ s.pend ∧ (s.pend.idxOf i : Int) ∈ ks then s.now i j else s.sure i j := by
    intro j hj
    show (if i ∈ ks.map (fun k => s.pend.getD k.toNat 0) ∧ j < 512 then s.now i j else s.sure i j) = _
    by_cases c : i ∈ ks.map (fun k => s.pend.getD k.toNat 0)
    · rw [if_pos ⟨c, hj⟩, if_pos (hmem.1 c)]
    · rw [if_neg (fun q => c q.1), if_neg (fun q => c (hmem.2 q))]
  unfold St.torn
  rcases hf.2 with e | ⟨t0, t1, t2⟩
  · rw [if_pos e, hk j hj]
    by_cases a : i ∈ s.pend
    · rw [if_pos a]
      by_cases b : (s.pend.idxOf i : Int) ∈ ks
      · rw [if_pos ⟨a, b⟩, if_pos b]
      · rw [if_neg (fun q => b q.2), if_neg b, if_neg (by omega)]
    · rw [if_neg (fun q => a q.1), if_neg a]
  · rw [if_neg (by omega)]
    have hlt : t.toNat < s.pend.length := by omega
    show upd (s.kept ks).sure (s.pend.getD t.toNat 0) (fun j => if j < p then s.now (s.pend.getD t.toNat 0) j else (s.kept ks).sure (s.pend.getD t.toNat 0) j) i j = _
    unfold upd
    by_cases c : i = s.pend.getD t.toNat 0
    · have hi : s.pend.idxOf i = t.toNat := by rw [c]; exact idx_of_get o.nd hlt
      have hin : i ∈ s.pend := List.idxOf_lt_length_iff.1 (by omega)
      have hti : (s.pend.idxOf i : Int) = t := by omega
      have hnk : ¬ (s.pend.idxOf i : Int) ∈ ks := by rw [hti]; exact t2
      rw [if_pos c, if_pos hin, if_neg hnk, if_pos hti]
      simp only [← c]
      by_cases q : j < p
      · rw [if_pos q, if_pos q]
      · rw [if_neg q, if_neg q, hk j hj, if_neg (fun q => hnk q.2)]
    · rw [if_neg c, hk j hj]
      by_cases a : i ∈ s.pend
      · have hti : ¬ (s.pend.idxOf i : Int) = t := fun q => c (by
          have : s.pend.idxOf i = t.toNat := by omega
          rw [← this, get_of_idx (List.idxOf_lt_length_iff.2 a)])
        rw [if_pos a]
        by_cases b : (s.pend.idxOf i : Int) ∈ ks
        · rw [if_pos ⟨a, b⟩, if_pos b]
        · rw [if_neg (fun q => b q.2), if_neg b, if_neg hti]
      · rw [if_neg (fun q => a q.1), if_neg a]
/-- of each number its own place: that none is there twice -/
theorem keep_of_places {m : Nat} {ks : List Int} (h : ∀ q (hq : q < ks.length), (0 ≤ ks[q] ∧ ks[q] < m) ∧ plc ks ks[q] = q) : keepOk m ks := by
  refine ⟨fun k hk => ?_, ?_⟩
  · obtain ⟨q, hq, rfl⟩ := List.getElem_of_mem hk
    exact (h q hq).1
  · rw [List.nodup_iff_pairwise_ne, List.pairwise_iff_getElem]
    intro a b ha hb hab e
    have h1 := (h a ha).2
    have h2 := (h b hb).2
    rw [e] at h1
    omega
theorem places_of_keep {m : Nat} {ks : List Int} (h : keepOk m ks) (q : Nat) (hq : q < ks.length) : (0 ≤ ks[q] ∧ ks[q] < m) ∧ plc ks ks[q] = q := by
  refine ⟨h.1 _ (List.getElem_mem hq), ?_⟩
  unfold plc
  rw [if_pos (List.getElem_mem hq), h.2.idxOf_getElem q hq]
theorem torn_txt {f g : Nat → Int} (p : Nat) (hp : p ≤ 512) : (strOfNums (rowOf f)).extract 0 p ++ (strOfNums (rowOf g)).extract p 512 = strOfNums (rowOf (fun j => if j < p then f j else g j)) := by
  have e : rowOf (fun j => if j < p then f j else g j) = (rowOf f).take p ++ (rowOf g).drop p := by
    have l1 : ((rowOf f).take p).length = p := by rw [List.length_take, rowOf_len]; omega
    apply List.ext_getElem
    · rw [List.length_append, l1, List.length_drop, rowOf_len, rowOf_len]; omega
    · intro i i1 i2
      rw [rowOf_get]
      by_cases c : i < p
      · rw [List.getElem_append_left (by omega), List.getElem_take, rowOf_get, if_pos c]
      · rw [List.getElem_append_right (by omega), List.getElem_drop, rowOf_get, if_neg c]
        congr 1
        omega
  have d2 : ((rowOf g).map fun n => UInt8.ofNat n.toNat).take 512 = (rowOf g).map fun n => UInt8.ofNat n.toNat := List.take_of_length_le (by rw [List.length_map, rowOf_len]; omega)
  apply ByteArray.ext
  apply Array.ext'
  rw [ByteArray.data_append, Array.toList_append, ext_list, ext_list, strOfNums_data, strOfNums_data, strOfNums_data, d2, List.drop_zero, e, List.map_append, List.map_take, List.map_drop]
end Go.Proofs.YtibopcbebcikbaaDoor

/-
  Lists of ints of the call's own: sorted, and each once (slices.Sort, slices.Compact off the shelf). Conditions: those that each lemma names.
-/
import Derived.Shelf.SortM.Plain
import Derived.Shelf.SortM.SortNone
import Derived.Shelf.SlicesG.CompactI
import Derived.Sort.OwnSortedInts
import Derived.Lib.OwnBridge
import Derived.Lib.RowBridge
import Derived.Test.YtifkhmcdgmnipaaGreatDoorR33
namespace Go.Proofs.YtifkhmcdgmnipaaGreatDoor
open Go.RowKit Ti Qd Ce Cl Go.Maps Go.WideMaps Go.Sort Go.Shelf

theorem compact_keeps {S : List Int} (hs : ∀ i j, i < j → j < S.length → S.toArray[i]! ≤ S.toArray[j]!) : ∀ m, m ≤ S.length → (∀ x, x ∈ Go.Lib.compactUpTo S.toArray m ↔ ∃ j, j < m ∧ S.toArray[j]! = x) ∧ (Go.Lib.compactUpTo S.toArray m).Pairwise (· < ·)
  | 0, _ => ⟨fun x => by simp [Go.Lib.compactUpTo], by simp [Go.Lib.compactUpTo]⟩
  | m + 1, hm => by
    obtain ⟨h1, h2⟩ := compact_keeps hs m (by omega)
    rw [Go.Lib.compactUpTo_succ]
    by_cases hk : Go.Lib.keeps S.toArray m = true
    · rw [if_pos hk]
      refine ⟨fun x => ?_, ?_⟩
      · rw [List.mem_append, h1, List.mem_singleton]
        constructor
        · rintro (⟨j, hj, e⟩ | e)
          · exact ⟨j, by omega, e⟩
          · exact ⟨m, by omega, e.symm⟩
        · rintro ⟨j, hj, e⟩
          by_cases g : j = m
          · subst g
            exact .inr e.symm
          · exact .inl ⟨j, by omega, e⟩
      · refine List.pairwise_append.2 ⟨h2, List.pairwise_singleton _ _, fun a ha b hb => ?_⟩
        obtain ⟨j, hj, rfl⟩ := (h1 a).1 ha
        rw [List.mem_singleton] at hb
        subst hb
        have hne : S.toArray[m]! ≠ S.toArray[m - 1]! := fun e => by rw [Go.Lib.keeps_neg (by omega) e] at hk; cases hk
        have h3 := hs (m - 1) m (by omega) (by omega)
        have h4 : S.toArray[j]! ≤ S.toArray[m - 1]! := by
          by_cases g : j = m - 1
          · rw [g]
            exact Int.le_refl _
          · exact hs j (m - 1) (by omega) (by omega)
        omega
    · rw [if_neg hk, List.append_nil]
      refine ⟨fun x => ?_, h2⟩
      rw [h1]
      have hm0 : 0 < m := by
        rcases Nat.eq_zero_or_pos m with g | g
        · subst g
          exact absurd (Go.Lib.keeps_lt_one S.toArray 0 (by omega)) hk
        · exact g
      have he : S.toArray[m]! = S.toArray[m - 1]! := by
        by_cases g : S.toArray[m]! = S.toArray[m - 1]!
        · exact g
        · exact absurd (Go.Lib.keeps_pos g) hk
      constructor
      · rintro ⟨j, hj, e⟩
        exact ⟨j, by omega, e⟩
      · rintro ⟨j, hj, e⟩
        by_cases g : j = m
        · subst g
          exact ⟨j - 1, by omega, by rw [← he, e]⟩
        · exact ⟨j, by omega, e⟩
abbrev srtI (S : List Int) : List Int := S.mergeSort fun x y => decide (x ≤ y)
/-- each once, of a sorted list -/
theorem compact_srt (S : List Int) : (∀ x, x ∈ Go.Lib.compact (srtI S) ↔ x ∈ S) ∧ (Go.Lib.compact (srtI S)).Nodup := by
  have hp : (srtI S).Pairwise (fun x y => decide (x ≤ y) = true) := List.pairwise_mergeSort (fun a b c h k => by simp at h k ⊢; omega) (fun a b => by simp; omega) S
  have hs : ∀ i j, i < j → j < (srtI S).length → (srtI S).toArray[i]! ≤ (srtI S).toArray[j]! := by
    intro i j hij hj
    rw [getElem!_pos (srtI S).toArray i (by simpa using Nat.lt_trans hij hj), getElem!_pos (srtI S).toArray j (by simpa using hj)]
    have := List.pairwise_iff_getElem.1 hp i j (Nat.lt_trans hij hj) hj hij
    simpa using this
  obtain ⟨h1, h2⟩ := compact_keeps hs (srtI S).length (Nat.le_refl _)
  refine ⟨fun x => ?_, h2.imp (fun {a b} h => by omega)⟩
  show x ∈ Go.Lib.compactUpTo _ _ ↔ _
  rw [h1]
  have hm : x ∈ srtI S ↔ x ∈ S := List.mem_mergeSort
  rw [← hm, List.mem_iff_getElem]
  constructor
  · rintro ⟨j, hj, e⟩
    rw [getElem!_pos (srtI S).toArray j (by simpa using hj)] at e
    exact ⟨j, hj, by simpa using e⟩
  · rintro ⟨j, hj, e⟩
    exact ⟨j, hj, by rw [getElem!_pos (srtI S).toArray j (by simpa using hj)]; simpa using e⟩
abbrev OwnI (w : World) (B : Nat) (v : Value) (n : Nat) (S : List Int) := w.ownsRow B 3 1 v n (S.map (Value.int .i64))
theorem sortI_ok {w : World} {B n : Nat} {v : Value} {S : List Int} (h : OwnI w B v n S) (hB : B ≤ w.heap.size) (hn : n ≤ 1000000) :
    Calls Tryz.prog 68 #[v] w fun e w' => e = .returned (.tuple #[]) ∧ OwnI w' B v n (srtI S) ∧ Below B w w' := by
  by_cases hv : v = .slice none 0 0
  · subst hv
    have hS : S = [] := by
      have h1 := h.1
      rcases h.2 with ⟨_, e⟩ | ⟨g, cap, cur, e, _⟩
      · subst e
        simpa using h1
      · cases e
    subst hS
    have hc := AnyM.slices_Sort_int_none Tryz.sortI none 0 w
    change Calls Tryz.prog 68 _ _ _ at hc
    refine hc.mono ?_
    rintro e w' ⟨rfl, rfl⟩
    rw [show srtI [] = [] from by unfold srtI; simp]
    exact ⟨rfl, h, Below.refl _ _⟩
  · obtain ⟨g, cap, rfl, hbg, hgl, hncap, hcm, hlen, hH⟩ := Go.Lib.holds_of_ownsRow h hv
    have hc := AnyM.slices_Sort_int Tryz.sortI g 0 cap S w hH hgl (by omega)
    change Calls Tryz.prog 68 _ _ _ at hc
    rw [hlen] at hc
    refine hc.mono ?_
    rintro e w' ⟨rfl, m, os, rfl⟩
    rcases h.2 with ⟨e0, _⟩ | ⟨g', cap', cur, e0, h1, h2, h3, h4, h5, h6⟩
    · cases e0
    · cases e0
      refine ⟨rfl, ?_, (Below.refl B w).grown (grownBy_sortedI (n := m) (os := os) _) hB (fun j hj => by cases hj; exact h1)⟩
      have := ownsRow_sortedI (n := m) (os := os) (ss := S) (ts := srtI S) (List.length_mergeSort S) h1 h2 (by omega) h4 h5
      rw [hlen] at this
      exact this
theorem compactI_ok {w : World} {B n : Nat} {v : Value} {S : List Int} (h : OwnI w B v n S) (hB : B ≤ w.heap.size) (hn : n ≤ 1000000) :
    Calls Tryz.prog 69 #[v] w fun e w' => ∃ v', e = .returned v' ∧ OwnI w' B v' (Go.Lib.compact S).length (Go.Lib.compact S) ∧ Below B w w' := by
  by_cases hv : v = .slice none 0 0
  · subst hv
    have hS : S = [] := by
      have h1 := h.1
      rcases h.2 with ⟨_, e⟩ | ⟨g, cap, cur, e, _⟩
      · subst e
        simpa using h1
      · cases e
    subst hS
    have hc := AnyG.slices_Compact_int_empty Tryz.compactI none 0 w
    change Calls Tryz.prog 69 _ _ _ at hc
    refine hc.mono ?_
    rintro e w' ⟨rfl, rfl⟩
    exact ⟨_, rfl, World.ownsRow_nil _ _ _ _, Below.refl _ _⟩
  · obtain ⟨g, cap, rfl, hbg, hgl, hncap, hcm, hlen, hH⟩ := Go.Lib.holds_of_ownsRow h hv
    have hc := AnyG.slices_Compact_int Tryz.compactI g 0 cap S w hH (by omega) (by omega)
    change Calls Tryz.prog 69 _ _ _ at hc
    rw [hlen] at hc
    refine hc.mono ?_
    rintro e w' ⟨rfl, q, rfl⟩
    have hle := Go.Lib.compact_length_le S
    have ho := Go.Lib.ownsRow_putRow (q := q) (k := (Go.Lib.compact S).length) (ys := Go.Lib.compact S ++ List.replicate (n - (Go.Lib.compact S).length) 0) h (by simp; omega) (by omega)
    rw [List.take_left] at ho
    exact ⟨_, rfl, ho, Go.Lib.below_putRow (Below.refl B w) hbg⟩
/-- ints that lie there -/
def Lyi (w : World) (v : Value) (S : List Int) : Prop := ∃ a cap, v = .slice a S.length cap ∧ ∀ i x, S[i]? = some x → ∃ b off, a = some ⟨b, off, none⟩ ∧ w.cell? ⟨b, off + i, none⟩ = some (.int .i64 x)
theorem Lyi.below {w w' : World} {v : Value} {S : List Int} {m : Nat} (h : Lyi w v S) (hb : Below m w w') (hm : w.heap.size ≤ m) : Lyi w' v S := by
  obtain ⟨a, cap, rfl, h1⟩ := h
  refine ⟨a, cap, rfl, fun i x hx => ?_⟩
  obtain ⟨b, off, ha, hc⟩ := h1 i x hx
  exact ⟨b, off, ha, (hb.cell (p := ⟨b, off + i, none⟩) (Nat.lt_of_lt_of_le (World.block_lt_of_cell? w _ hc) hm)).trans hc⟩
theorem own_lyi {w : World} {B n : Nat} {v : Value} {S : List Int} (h : OwnI w B v n S) : Lyi w v S := by
  have hl : S.length = n := by simpa using h.1
  rcases h.2 with ⟨rfl, e⟩ | ⟨g, cap, cur, rfl, h1, h2, h3, h4, h5, h6⟩
  · subst e
    have : S = [] := List.eq_nil_of_length_eq_zero hl
    subst this
    exact ⟨none, 0, rfl, fun i x hx => by simp at hx⟩
  · refine ⟨some ⟨g, 0, none⟩, cap, by rw [hl], fun i x hx => ⟨g, 0, rfl, ?_⟩⟩
    rw [cell_of_row w g (0 + i) cur _ _ h2, Nat.zero_add]
    have : (cur.toList.take (n * 1))[i]? = some (.int .i64 x) := by rw [h6, List.getElem?_map, hx]; rfl
    rw [List.getElem?_take] at this
    split at this
    · simpa using this
    · cases this
end Go.Proofs.YtifkhmcdgmnipaaGreatDoor

/-
  slices.SortFunc at a list of cells of the call's own, by compare. Conditions: those that each lemma names.
-/

import Derived.Test.YticnhpddidaaeaaCe
import Derived.Test.YticnhpddidaaeaaSp
import Derived.Shelf.SlSortCmp.NoneTotal
namespace Go.Proofs.Yticnhpddidaaeaa
open Go.RowKit Ru Ce Go.Sort Go.Shelf

/-- no later one ahead of an earlier one -/
def Wk (l : List Cel) : Prop := l.Pairwise (fun a b => ¬ lt b a = true)
theorem wk_srt {l : List Cel} (h : Wk l) (n : l.Nodup) : Srt l := by
  refine List.Pairwise.imp ?_ (h.and n)
  intro a b hab
  exact lt_total hab.1 (fun e => hab.2 e.symm)
theorem lt_of (x y : Cel) : ltOf ccmp x y = lt x y := ccmp_lt x y
theorem swo_lt : SWO (ltOf ccmp) where
  irrefl x := by rw [lt_of, Bool.eq_false_iff]; exact lt_irrefl x
  trans x y z h1 h2 := by rw [lt_of] at *; exact lt_trans h1 h2
  ntrans x y z h1 h2 := by
    rw [lt_of, Bool.eq_false_iff, ne_eq, lt_iff] at *
    omega
theorem cmp_lays (blk off size : Nat) (w : World) : CmpLays Try.prog 14 #[] cc 2 ccmp blk off size w :=
  fun _ _ _ _ x y => compare_grew x y _
theorem flat_at (d : Array Cel) (t : Nat) (h : t < d.size * 2) : (cl d.toList)[t]? = some (flatK cc 2 d)[t]! := by
  have hi : t / 2 < d.toList.length := by simpa using (show t / 2 < d.size by omega)
  have e := cl_at d.toList (t / 2) hi (t % 2) (by omega)
  rw [show t / 2 * 2 + t % 2 = t by omega] at e
  rw [e, get_flatK cc 2 d t h]
  have hd : d[t / 2]! = d.toList[t / 2] := by
    rw [getElem!_pos d (t / 2) (by simpa using hi)]
    simp
  rw [hd]
  have hl : t % 2 < (cc d.toList[t / 2]).length := by show t % 2 < 2; omega
  rw [List.getElem?_eq_getElem hl, getElem!_pos (cc d.toList[t / 2]) (t % 2) hl]
theorem row_of (d : Array Cel) (cur : List Value) (h : cur.length ≥ d.size * 2) (k : ∀ t, t < d.size * 2 → cur[t]? = some (flatK cc 2 d)[t]!) : cur.take (d.size * 2) = cl d.toList := by
  apply List.ext_getElem?
  intro t
  by_cases ht : t < d.size * 2
  · rw [List.getElem?_take_of_lt ht, k t ht, flat_at d t ht]
  · rw [List.getElem?_eq_none (by rw [List.length_take]; omega), List.getElem?_eq_none (by rw [cl_len]; simp; omega)]
theorem heap_put {w : World} {g : Nat} {cur : Array Value} {T : TypeId} (hg : w.heap[g]? = some (.cells cur T (0, 0))) (m : Nat) (d : Array Cel) (os : Array Obj) :
    (sortWorldK cc 2 w g 0 m d os).heap[g]? = some (.cells (putCells id 0 (flatK cc 2 d) cur) T (0, 0)) := by
  have hlt := lt_of_block hg
  unfold sortWorldK grow putRowK putRow mapBlock
  show ((w.heap.modify g (onCells (putCells id 0 (flatK cc 2 d)))) ++ os)[g]? = _
  rw [Array.getElem?_append_left (by simpa using hlt), Array.getElem?_modify, if_pos rfl, hg]
  rfl
theorem grown_put (w : World) (g m : Nat) (d : Array Cel) (os : Array Obj) : w.grownBy (sortWorldK cc 2 w g 0 m d os) (some g) := by
  refine ⟨rfl, rfl, rfl, ?_, ?_⟩
  · exact size_sortWorldK_c cc 2 w g 0 m d os
  · intro k hk hne
    unfold sortWorldK grow putRowK putRow mapBlock
    show ((w.heap.modify g (onCells (putCells id 0 (flatK cc 2 d)))) ++ os)[k]? = _
    rw [Array.getElem?_append_left (by simpa using hk), Array.getElem?_modify, if_neg (fun e => hne (by rw [e]))]
theorem own_put {T : TypeId} {w : World} {B n g cap : Nat} {L : List Cel} (h : OwnC T w B (.slice (some ⟨g, 0, none⟩) n cap) n L) (m : Nat) (d : Array Cel) (hd : d.size = n) (os : Array Obj) :
    OwnC T (sortWorldK cc 2 w g 0 m d os) B (.slice (some ⟨g, 0, none⟩) n cap) n d.toList ∧ HoldsK cc 2 w g 0 L.toArray ∧ L.length = n ∧ g < w.heap.size := by
  obtain ⟨hl, ⟨e, _⟩ | ⟨g', cap', cur, e, hb, hg, hc, hm, hcs, ht⟩⟩ := h
  · cases e
  · simp at e
    obtain ⟨rfl, rfl⟩ := e
    have hL : L.length = n := by rw [cl_len] at hl; omega
    have hcn : cur.toList.length ≥ n * 2 := by simp [hcs]; omega
    refine ⟨⟨by rw [cl_len]; simp [hd], .inr ⟨g, cap, _, rfl, hb, heap_put hg m d os, hc, hm, by simp [putCells, hcs], ?_⟩⟩, ?_, hL, lt_of_block hg⟩
    · rw [← hd]
      refine row_of d _ (by simp [putCells]; simp at hcn; omega) (fun t ht2 => ?_)
      have hlt : t < cur.size := by simp at hcn; omega
      simp [putCells, hlt, ht2]
    · intro t ht2
      rw [size_flatK] at ht2
      simp only [List.size_toArray] at ht2
      constructor
      · rw [cell_of_row w _ _ _ _ _ hg, Nat.zero_add]
        have e1 := flat_at L.toArray t (by simpa using ht2)
        have e2 : (cl L)[t]? = cur[t]? := by rw [← ht, List.getElem?_take_of_lt (by omega)]; simp
        rw [← e2]
        simpa using e1
      · rw [frozen_of_row w _ _ _ _ hg]
def Sorts (T : TypeId) (w : World) (B : Nat) (v : Value) (n : Nat) (L : List Cel) (e : Ending) (w' : World) : Prop :=
  e = .returned (.tuple #[]) ∧ ∃ L', L'.Perm L ∧ Wk L' ∧ OwnC T w' B v n L' ∧ Below B w w'
set_option maxRecDepth 100000 in
theorem sort_any {w : World} {B n : Nat} {v : Value} {L : List Cel} (h : OwnC 31 w B v n L) (hB : B ≤ w.heap.size) (hn : n ≤ 1000000) :
    Calls Try.prog 13 #[v, .func (.func 14) #[] #[]] w (Sorts 31 w B v n L) := by
  rcases Nat.eq_zero_or_pos n with rfl | h0
  · obtain ⟨ao, cap, rfl, _, _, _, hl, _⟩ := own_cls h
    obtain rfl : L = [] := List.eq_nil_of_length_eq_zero hl
    have hc := AnyF.slices_SortFunc_none Try.sortC ao cap (.func (.func 14) #[] #[]) w
    change Calls Try.prog 13 _ _ _ at hc
    refine hc.mono ?_
    rintro e w' ⟨rfl, rfl⟩
    exact ⟨rfl, [], List.Perm.refl _, List.Pairwise.nil, h, Below.refl _ _⟩
  · obtain ⟨ao, cap, rfl, _, _, _, _, _, hnone⟩ := own_cls h
    cases ao with
    | none => exact absurd (hnone rfl) (by omega)
    | some ad =>
      have had : ∃ g, ad = ⟨g, 0, none⟩ ∧ B ≤ g := by
        rcases h.2 with ⟨e, _⟩ | ⟨g, c2, cur, e, hb, _⟩
        · cases e
        · simp at e
          exact ⟨g, e.1, hb⟩
      obtain ⟨g, rfl, hg⟩ := had
      obtain ⟨_, hH, hL, hlt⟩ := own_put h 0 L.toArray (by simpa using (own_cls h).choose_spec.choose_spec.2.2.2.2.1) #[]
      have eg : ∀ args w, (callFunc 14 args).run Try.prog w = .ok (.enter 14 args) w := enters_of Try.func14 (by kernel_rfl) rfl
      have hc := AnyQ.slices_SortFunc Try.sortC 2 Try.isAgg31 Try.sizeOf31 cc (fun _ => rfl) cc_one ccmp swo_lt 14 #[] g 0 cap L.toArray w eg (cmp_lays g 0 L.toArray.size w) hH hlt (by simp; omega)
      change Calls Try.prog 13 _ _ _ at hc
      simp only [List.size_toArray, hL] at hc
      refine hc.mono ?_
      rintro e w' ⟨rfl, d, m, os, ⟨hs, _, hp⟩, hso, rfl⟩
      have hsz : d.size = n := by simpa [hL] using hs
      refine ⟨rfl, d.toList, ?_, ?_, (own_put h m d hsz os).1, ?_⟩
      · have e1 : (d.extract 0 n).toList = d.toList := by rw [← hsz]; simp
        have e2 : (L.toArray.extract 0 n).toList = L := by rw [← hL]; simp
        rw [e1, e2] at hp
        exact hp
      · unfold Wk
        rw [List.pairwise_iff_getElem]
        intro i j hi hj hij
        have := hso i j (Nat.zero_le _) hij (by simpa [hsz] using hj)
        rw [lt_of] at this
        rw [getElem!_pos d j (by simpa using hj), getElem!_pos d i (by simpa using hi)] at this
        simpa using this
      · have hg2 := grown_put w g m d os
        exact (Below.refl B w).grown hg2 hB (fun j hj => by cases hj; exact hg)
end Go.Proofs.Yticnhpddidaaeaa

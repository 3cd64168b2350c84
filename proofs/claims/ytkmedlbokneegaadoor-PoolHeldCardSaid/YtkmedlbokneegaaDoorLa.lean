/-
  WHAT WAS LAID LAST, as the statements keep it, and the pool beside it. Conditions: those that each lemma names.
-/
import Derived.Test.YtkmedlbokneegaaDoorAct
namespace Go.Proofs.YtkmedlbokneegaaDoor
open Go.RowKit Go.Maps

/-- what was laid last, as the statements keep it -/
structure Last (wr : World) (g K : Nat) (ls : Nat → ByteArray) : Prop where
  c : ∀ q, q < K → wr.cell? ⟨g, q, none⟩ = some (.string (ls q))
  f : ∀ q, wr.frozen? ⟨g, q, none⟩ = false
theorem Last.made (w : World) (n : Nat) : Last (w.alloc (.cells (Array.replicate n (.string ⟨#[]⟩)) 9)) w.heap.size n (fun _ => ⟨#[]⟩) := by
  refine ⟨fun q hq => ?_, fun q => frozen_of_row _ _ _ _ _ (heap_alloc_new _ _)⟩
  rw [cell_of_row _ _ _ _ _ _ (heap_alloc_new _ _)]
  simp [hq]
theorem Last.set {wr : World} {g K : Nat} {ls : Nat → ByteArray} (h : Last wr g K ls) (q : Nat) (hq : q < K) (t : ByteArray) : Last (wr.setCell ⟨g, q, none⟩ (.string t)) g K (updT ls q t) := by
  refine ⟨fun j hj => ?_, fun j => by rw [World.frozen?_setCell]; exact h.f j⟩
  unfold updT
  by_cases e : j = q
  · subst e
    rw [if_pos rfl]
    exact World.cell?_setCell_same _ _ _ (h.c j hj)
  · rw [if_neg e, World.cell?_setCell_other _ _ _ _ (by intro x; simp only [Addr.mk.injEq] at x; omega)]
    exact h.c j hj
theorem Last.keep {w w' : World} {g K : Nat} {ls : Nat → ByteArray} (h : Last w g K ls) (hb : w'.heap[g]? = w.heap[g]?) : Last w' g K ls :=
  ⟨fun q hq => (World.cell?_of_block hb).trans (h.c q hq), fun q => (World.frozen?_of_block hb).trans (h.f q)⟩
/-- what was laid, and what the sectors are -/
def Laid1 (ls ct : Nat → ByteArray) (q : Nat) : Prop := (ls q = ⟨#[]⟩ ∧ ct q = zT) ∨ (ct q = ls q ∧ (ls q).size = 512 ∧ goodT (ls q) = true)
theorem Laid1.upd {ls ct : Nat → ByteArray} (h : ∀ q, Laid1 ls ct q) (p : Nat) (s : ByteArray) : ∀ q, Laid1 (updT ls p (mkT s)) (updT ct p (mkT s)) q := fun q => by
  unfold Laid1 updT
  by_cases e : q = p
  · rw [if_pos e, if_pos e]; exact .inr ⟨rfl, mkT_size s, mkT_good s⟩
  · rw [if_neg e, if_neg e]; exact h q
/-- the pool in the statements' loops -/
structure PInv (W wr : World) (N p D g K : Nat) (X : Px) (ls ct : Nat → ByteArray) : Prop where
  pl : ∃ H, Pl W N wr p D X H ∧ ¬ H g
  gW : W.heap.size ≤ g
  gl : g < wr.heap.size
  last : Last wr g K ls
  laid : ∀ q, Laid1 ls ct q
  sem : Sem X ct
  free : Free X
  n : X.d.n = K
theorem str_some {t : ByteArray} (h : t.size = 512) : (t.toList == (⟨#[]⟩ : ByteArray).toList) = false ∧ (t.toList == []) = false ∧ t.toList ≠ [] := by
  have e : t.toList ≠ [] := fun q => by
    have := congrArg List.length q
    rw [ByteArray.toList_eq, Array.length_toList] at this
    have h2 : t.data.size = 512 := h
    rw [h2] at this
    exact absurd this (by decide)
  have e2 : (⟨#[]⟩ : ByteArray).toList = [] := by rw [ByteArray.toList_eq]
  exact ⟨by rw [e2, beq_eq_false_iff_ne]; exact e, by rw [beq_eq_false_iff_ne]; exact e, e⟩
theorem stored {W wr w2 : World} {N p D g K : Nat} {X : Px} {ls ct : Nat → ByteArray} {H : Nat → Prop} (h : PInv W wr N p D g K X ls ct) (h2 : PlN W N w2 p D X wr H) (hg : ¬ H g) (q : Nat) (hq : q < K) (s : ByteArray) :
    (∃ H2, Pl W N (w2.setCell ⟨g, q, none⟩ (.string (mkT s))) p D X H2 ∧ ¬ H2 g) ∧ Last (w2.setCell ⟨g, q, none⟩ (.string (mkT s))) g K (updT ls q (mkT s)) ∧ g < (w2.setCell ⟨g, q, none⟩ (.string (mkT s))).heap.size := by
  obtain ⟨H2, k1, k2⟩ := h2.open' h.gl hg
  refine ⟨⟨H2, k1.other k2 h.gW _ _, k2⟩, (h.last.keep (h2.block h.gl hg)).set q hq _, ?_⟩
  obtain ⟨_, _, hs⟩ := h2
  have := hs.size
  have := h.gl
  simp
  omega
theorem written {W wr w3 w4 : World} {N M p D g K : Nat} {X Y : Px} {ls ct : Nat → ByteArray} {H : Nat → Prop} (h : PInv W wr N p D g K X ls ct) (h4 : PlN W (N + 1) w4 p D Y w3 H) (hg : ¬ H g) (q : Nat) (s : ByteArray) (hl : Last w3 g K (updT ls q (mkT s))) (hgl : g < w3.heap.size) (hs : Sem Y (updT ct q (mkT s))) (hk : Keep X Y) (hM : N + 1 ≤ M) : PInv W w4 M p D g K Y (updT ls q (mkT s)) (updT ct q (mkT s)) := by
  obtain ⟨H2, k1, k2⟩ := h4.open' hgl hg
  refine ⟨⟨H2, k1.mono hM, k2⟩, h.gW, ?_, hl.keep (h4.block hgl hg), Laid1.upd h.laid q s, hs, hk.free, hk.n.trans h.n⟩
  obtain ⟨_, _, hs⟩ := h4
  exact Nat.lt_of_lt_of_le hgl hs.size
end Go.Proofs.YtkmedlbokneegaaDoor

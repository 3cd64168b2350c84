/-
  THE REFERENCE's DISK IN MEMORY, AND ITS New. Conditions: those that each lemma names.
-/
import Derived.Test.YtibopcbebcikbaaDoorRc
namespace Go.Proofs.YtibopcbebcikbaaDoor
open Go.RowKit

/-- the texts of so many sectors -/
def txs (n : Nat) (g : Nat → Nat → Int) : List ByteArray := (List.range n).map fun i => strOfNums (rowOf (g i))
theorem txs_len (n : Nat) (g : Nat → Nat → Int) : (txs n g).length = n := by simp [txs]
theorem txs_get (n : Nat) (g : Nat → Nat → Int) (i : Nat) (h : i < (txs n g).length) : (txs n g)[i] = strOfNums (rowOf (g i)) := by simp [txs]
theorem txs_set (n : Nat) (g : Nat → Nat → Int) (i : Nat) (f : Nat → Int) : (txs n g).set i (strOfNums (rowOf f)) = txs n (upd g i f) := by
  apply List.ext_getElem (by simp [txs])
  intro j h1 h2
  rw [txs_get _ _ _ h2, List.getElem_set]
  by_cases e : i = j
  · rw [if_pos e]
    unfold upd
    congr 2
    funext x
    rw [if_pos e.symm]
  · rw [if_neg e, txs_get]
    unfold upd
    congr 2
    funext x
    rw [if_neg (fun q => e q.symm)]
/-- the reference's disk -/
structure Ref where
  n : Nat
  nb : Nat
  nc : Nat
  sb : Nat
  sc : Nat
  pa : Option Addr
  pc : Nat
  N : Nat → Nat → Int
  S : Nat → Nat → Int
  pend : List Nat
  writes : Int
  left : Int
def Ref.val (r : Ref) : Value := .agg #[.slice (some ⟨r.nb, 0, none⟩) r.n r.nc, .slice (some ⟨r.sb, 0, none⟩) r.n r.sc, .slice r.pa r.pend.length r.pc, .int .i64 r.writes, .int .i64 r.left]
structure RefOk (w : World) (r : Ref) : Prop where
  N : Strs w (some ⟨r.nb, 0, none⟩) (txs r.n r.N)
  S : Strs w (some ⟨r.sb, 0, none⟩) (txs r.n r.S)
  nc : r.n ≤ r.nc ∧ r.nc ≤ 9223372036854775807
  sc : r.n ≤ r.sc ∧ r.sc ≤ 9223372036854775807
  p : Ints w r.pa (r.pend.map fun (i : Nat) => (i : Int))
  bN : ∀ i j, 0 ≤ r.N i j ∧ r.N i j < 256
  bS : ∀ i j, 0 ≤ r.S i j ∧ r.S i j < 256
  n1 : 1 ≤ r.n ∧ r.n ≤ 100
  len : r.pend.length ≤ 100
  nil : r.pend = [] → r.pa = none ∧ r.pc = 0
theorem RefOk.below {w w' : World} {r : Ref} (h : RefOk w r) (hb : Below w.heap.size w w') : RefOk w' r :=
  ⟨h.N.below hb, h.S.below hb, h.nc, h.sc, h.p.below hb, h.bN, h.bS, h.n1, h.len, h.nil⟩
/-- no block of the reference's is one of the disk's -/
def Far (r : Ref) (s : St) : Prop := ¬ s.has r.nb ∧ ¬ s.has r.sb ∧ ∀ b off, r.pa = some ⟨b, off, none⟩ → ¬ s.has b
theorem Strs.step {w w' : World} {s s' : St} {b : Nat} {xs : List ByteArray} (h : Strs w (some ⟨b, 0, none⟩) xs) (hs : Step w s w' s') (hn : ¬ s.has b) : Strs w' (some ⟨b, 0, none⟩) xs := by
  intro i hi
  obtain ⟨b', off, ha, hc⟩ := h i hi
  obtain ⟨rfl, rfl⟩ : b = b' ∧ 0 = off := by simpa using ha
  exact ⟨b, 0, rfl, (cell_of_block (hs.block b (World.block_lt_of_cell? w _ hc) hn)).trans hc⟩
theorem RefOk.step {w w' : World} {r : Ref} {s s' : St} (h : RefOk w r) (hf : Far r s) (hs : Step w s w' s') : RefOk w' r := by
  refine ⟨h.N.step hs hf.1, h.S.step hs hf.2.1, h.nc, h.sc, ?_, h.bN, h.bS, h.n1, h.len, h.nil⟩
  intro i hi
  obtain ⟨b, off, ha, hc⟩ := h.p i hi
  exact ⟨b, off, ha, (cell_of_block (hs.block b (World.block_lt_of_cell? w _ hc) (hf.2.2 b off ha))).trans hc⟩
theorem RefOk.lt {w : World} {r : Ref} (h : RefOk w r) : r.nb < w.heap.size ∧ r.sb < w.heap.size := by
  have h1 := h.n1.1
  obtain ⟨b, off, ha, hc⟩ := h.N 0 (by rw [txs_len]; omega)
  obtain ⟨rfl, rfl⟩ : r.nb = b ∧ 0 = off := by simpa using ha
  obtain ⟨b2, off2, ha2, hc2⟩ := h.S 0 (by rw [txs_len]; omega)
  obtain ⟨rfl, rfl⟩ : r.sb = b2 ∧ 0 = off2 := by simpa using ha2
  exact ⟨World.block_lt_of_cell? w _ hc, World.block_lt_of_cell? w _ hc2⟩
theorem Far.step {w w' : World} {r : Ref} {s s' : St} (hf : Far r s) (h : RefOk w r) (hs : Step w s w' s') : Far r s' := by
  refine ⟨fun e => ?_, fun e => ?_, fun b off ha e => ?_⟩
  · rcases hs.own _ e with q | q
    · exact hf.1 q
    · have := h.lt.1; omega
  · rcases hs.own _ e with q | q
    · exact hf.2.1 q
    · have := h.lt.2; omega
  · rcases hs.own _ e with q | q
    · exact hf.2.2 b off ha q
    · by_cases hp : r.pend = []
      · rw [(h.nil hp).1] at ha; cases ha
      · have h0 : 0 < (r.pend.map fun (i : Nat) => (i : Int)).length := by
          rw [List.length_map]
          exact List.length_pos_iff.2 hp
        obtain ⟨b', off', ha', hc⟩ := h.p 0 h0
        rw [ha] at ha'
        obtain ⟨rfl, rfl⟩ : b = b' ∧ off = off' := by simpa using ha'
        have := World.block_lt_of_cell? w _ hc
        change b < w.heap.size at this
        omega
end Go.Proofs.YtibopcbebcikbaaDoor

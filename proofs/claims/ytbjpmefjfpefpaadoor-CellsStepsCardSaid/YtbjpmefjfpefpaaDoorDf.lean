/-
  WHAT HOLDS WHILE the document's Next goes on. Conditions: those that each lemma names.
-/
import Derived.Test.YtbjpmefjfpefpaaDoorDe
import Derived.Maps.AppendAt
namespace Go.Proofs.YtbjpmefjfpefpaaDoor
open Go.RowKit Ru Ce

/-- between two places: the rule's box, the cells found, the places seen -/
structure NQ (w wr : World) (bb ll : Nat) (L Mo Ms : List Cel) (vo vs : Value) : Prop where
  rb : wr.heap[w.heap.size]? = some (.cells #[.int .u16 bb, .int .u16 ll] 48 (0, 0))
  oo : OwnC 24 wr (w.heap.size + 1) vo (outs (rul bb ll) L Mo).length (outs (rul bb ll) L Mo)
  os : ∃ S : List Cel, OwnC 24 wr (w.heap.size + 1) vs S.length S ∧ (∀ x, x ∈ S ↔ x ∈ Ms) ∧ S.length ≤ Ms.length
  ne : ∀ g, vo.ownBlock = some g → vs.ownBlock ≠ some g
  bel : Below w.heap.size w wr
theorem NQ.size {w wr : World} {bb ll : Nat} {L Mo Ms : List Cel} {vo vs : Value} (h : NQ w wr bb ll L Mo Ms vo vs) : w.heap.size + 1 ≤ wr.heap.size := lt_of_block h.rb
theorem NQ.on {w wr w' : World} {bb ll : Nat} {L Mo Ms : List Cel} {vo vs : Value} (h : NQ w wr bb ll L Mo Ms vo vs) (hb : Below wr.heap.size wr w') : NQ w w' bb ll L Mo Ms vo vs := by
  obtain ⟨S, h1, h2, h3⟩ := h.os
  exact ⟨(hb.block _ (lt_of_block h.rb)).trans h.rb, own_keep h.oo hb (Nat.le_refl _), ⟨S, own_keep h1 hb (Nat.le_refl _), h2, h3⟩, h.ne, h.bel.trans (hb.mono h.bel.size)⟩
theorem NQ.seen {w wr : World} {bb ll : Nat} {L M : List Cel} {vo vs : Value} {c : Cel} (h : NQ w wr bb ll L M M vo vs) (hc : c ∈ M) : NQ w wr bb ll L (M ++ [c]) (M ++ [c]) vo vs := by
  obtain ⟨S, h1, h2, h3⟩ := h.os
  refine ⟨h.rb, by rw [outs_seen _ _ _ _ hc]; exact h.oo, ⟨S, h1, fun x => ?_, by rw [List.length_append]; omega⟩, h.ne, h.bel⟩
  rw [h2, List.mem_append, List.mem_singleton]
  constructor
  · exact .inl
  · rintro (q | rfl)
    · exact q
    · exact hc
theorem NQ.app {w wr w2 : World} {bb ll : Nat} {L Mo Ms S : List Cel} {vo vs v2 : Value} {c : Cel} {o : Obj} (h : NQ w wr bb ll L Mo Ms vo vs) (hs : ∀ x, x ∈ S ↔ x ∈ Ms) (hl : S.length ≤ Ms.length) (h1 : OwnC 24 w2 (w.heap.size + 1) v2 (S.length + 1) (S ++ [c]))
    (hg : (wr.alloc o).grownBy w2 vs.ownBlock) (hat : v2.ownBlock = vs.ownBlock ∨ v2.ownBlock = some (wr.alloc o).heap.size) : NQ w w2 bb ll L Mo (Ms ++ [c]) vo v2 := by
  obtain ⟨S', k1, _, _⟩ := h.os
  have hne : ¬ some w.heap.size = vs.ownBlock := by
    intro e
    have := (k1.lt _ e.symm).1
    omega
  refine ⟨(hg.block w.heap.size (by have := h.size; simp; omega) hne).trans ((Below.heap_alloc wr o w.heap.size (lt_of_block h.rb)).trans h.rb), (h.oo.alloc o).kept hg ?_, ⟨S ++ [c], by rw [List.length_append]; exact h1, fun x => ?_, by simp; omega⟩, ?_, (h.bel.alloc h.bel.size o).grown hg (by have := h.bel.size; simp; omega) (fun j hj => Nat.le_of_succ_le (k1.lt j hj).1)⟩
  · cases hu : vo.ownBlock with
    | none => exact .inl rfl
    | some g => exact .inr (fun e => h.ne g hu e.symm)
  · rw [List.mem_append, List.mem_append, hs]
  · intro g q1 q2
    rcases hat with e | e
    · exact h.ne g q1 (e.symm.trans q2)
    · have h3 := (h.oo.lt g q1).2
      rw [e] at q2
      have h4 := Option.some.inj q2
      simp at h4
      omega
theorem NQ.puts {w wr w2 : World} {bb ll : Nat} {L Mo Ms : List Cel} {vo vs v2 : Value} {c : Cel} (h : NQ w wr bb ll L Mo Ms vo vs) (ha : alive (rul bb ll) L c = true) (h1 : OwnC 24 w2 (w.heap.size + 1) v2 (put (outs (rul bb ll) L Mo) c).length (put (outs (rul bb ll) L Mo) c))
    (hv : v2 = vo ∨ OwnC 24 w2 wr.heap.size v2 (put (outs (rul bb ll) L Mo) c).length (put (outs (rul bb ll) L Mo) c)) (hb : Below wr.heap.size wr w2) : NQ w w2 bb ll L (Mo ++ [c]) Ms v2 vs := by
  have k := h.on hb
  have e : outs (rul bb ll) L (Mo ++ [c]) = put (outs (rul bb ll) L Mo) c := by rw [outs_put, if_pos ha]
  refine ⟨k.rb, by rw [e]; exact h1, k.os, ?_, k.bel⟩
  rcases hv with rfl | hv
  · exact h.ne
  · intro g q1 q2
    obtain ⟨S, k1, _, _⟩ := h.os
    have h3 := (hv.lt g q1).1
    have h4 := (k1.lt g q2).2
    omega
theorem NQ.skip {w wr : World} {bb ll : Nat} {L Mo Ms : List Cel} {vo vs : Value} {c : Cel} (h : NQ w wr bb ll L Mo Ms vo vs) (ha : alive (rul bb ll) L c = false) : NQ w wr bb ll L (Mo ++ [c]) Ms vo vs := by
  have e : outs (rul bb ll) L (Mo ++ [c]) = outs (rul bb ll) L Mo := by rw [outs_put, if_neg (by rw [ha]; decide)]
  exact ⟨h.rb, by rw [e]; exact h.oo, h.os, h.ne, h.bel⟩
theorem NQ.nil {w wr : World} {bb ll : Nat} {L : List Cel} (h : wr.heap[w.heap.size]? = some (.cells #[.int .u16 bb, .int .u16 ll] 48 (0, 0))) (hb : Below w.heap.size w wr) : NQ w wr bb ll L [] [] (.slice none 0 0) (.slice none 0 0) :=
  ⟨h, World.ownsRow_nil _ _ _ _, ⟨[], World.ownsRow_nil _ _ _ _, fun _ => Iff.rfl, Nat.le_refl _⟩, (by intro g h; cases h), hb⟩
/-- what Next answers -/
def NextQ (w : World) (r : Rul) (L : List Cel) (e : Ending) (w' : World) : Prop := ∃ v, e = .returned v ∧ OwnC 24 w' w.heap.size v (nxt r L).length (nxt r L) ∧ Below w.heap.size w w'
theorem nbs_len_take (L : List Cel) (i : Nat) : (nbs (L.take i)).length ≤ 9 * L.length := by
  rw [nbs_len, List.length_take]
  omega
/-- the places gone over: those about the first cells, and the first about one -/
def mk (L : List Cel) (i : Nat) (c : Cel) (k : Nat) : List Cel := nbs (L.take i) ++ (List.range k).map (pos c)
theorem mk_zero (L : List Cel) (i : Nat) (c : Cel) : mk L i c 0 = nbs (L.take i) := by unfold mk; simp
theorem mk_succ (L : List Cel) (i : Nat) (c : Cel) (k : Nat) : mk L i c (k + 1) = mk L i c k ++ [pos c k] := by unfold mk; rw [rng_succ, List.append_assoc]
theorem mk_all (L : List Cel) (i : Nat) (h : i < L.length) : mk L i L[i] 9 = nbs (L.take (i + 1)) := (nbs_take L i h).symm
theorem mk_len (L : List Cel) (i : Nat) (c : Cel) (k : Nat) (hk : k ≤ 9) : (mk L i c k).length ≤ 9 * L.length + 9 := by
  unfold mk
  rw [List.length_append, List.length_map, List.length_range]
  have := nbs_len_take L i
  omega
end Go.Proofs.YtbjpmefjfpefpaaDoor

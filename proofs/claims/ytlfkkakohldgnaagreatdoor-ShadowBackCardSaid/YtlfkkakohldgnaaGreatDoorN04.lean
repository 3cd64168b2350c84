/-
  A SECTOR BECOMES PENDING; what is sure is written; all is settled: what becomes of the disk in memory. Conditions: those that each lemma names.
-/
import Derived.Test.YtlfkkakohldgnaaGreatDoorN03
namespace Go.Proofs.YtlfkkakohldgnaaGreatDoor
open Go.RowKit

def St.mark (s : St) (i T : Nat) (v : Value) : St := { s with late := fun k => if k = i then some T else s.late k, now := upd s.now i (fun _ => 0), pv := v, pend := s.pend ++ [i] }
def markW (w : World) (s : St) (i : Nat) : World :=
  ((w.setCell ⟨s.L, i, none⟩ (.pointer (some ⟨w.heap.size, 0, none⟩))).alloc (.cells (Array.replicate 512 (.int .u8 0)) 136)).alloc (.cells #[.int .i64 (i : Int)] 3)
theorem markW_size (w : World) (s : St) (i : Nat) : (markW w s i).heap.size = w.heap.size + 2 := by simp [markW]
theorem markW_old (w : World) (s : St) (i k : Nat) (hk : k < w.heap.size) (hL : k ≠ s.L) : (markW w s i).heap[k]? = w.heap[k]? := by
  unfold markW
  rw [Below.heap_alloc _ _ _ (by simp; omega), Below.heap_alloc _ _ _ (by simpa using hk), Below.heap_setCell _ _ _ _ hL]
theorem markW_L (w : World) (s : St) (i : Nat) (hL : s.L < w.heap.size) : (markW w s i).heap[s.L]? = (w.setCell ⟨s.L, i, none⟩ (.pointer (some ⟨w.heap.size, 0, none⟩))).heap[s.L]? := by
  unfold markW
  rw [Below.heap_alloc _ _ _ (by simp; omega), Below.heap_alloc _ _ _ (by simpa using hL)]
theorem markW_T (w : World) (s : St) (i : Nat) : (markW w s i).heap[w.heap.size]? = some (.cells (Array.replicate 512 (.int .u8 0)) 136 (0, 0)) := by
  unfold markW
  have := heap_alloc_new (w.setCell ⟨s.L, i, none⟩ (.pointer (some ⟨w.heap.size, 0, none⟩))) (.cells (Array.replicate 512 (.int .u8 0)) 136)
  rw [Below.heap_alloc _ _ _ (by simp)]
  simpa using this
theorem own_markW {B : Nat} {w : World} {s : St} (h : DiskAt B w s) (i : Nat) : (markW w s i).ownsRow B 3 1 s.pv s.pend.length (nats s.pend) :=
  ((own_setCell h.p ⟨s.L, i, none⟩ h.ok.pL _).alloc _).alloc _

theorem DiskAt.mark {B : Nat} {w w4 : World} {s : St} (h : DiskAt B w s) (i : Nat) (hi : i < s.n) (hlt : s.late i = none) (v : Value)
    (hown : w4.ownsRow B 3 1 v (s.pend.length + 1) (nats s.pend ++ [.int .i64 (i : Int)])) (hg : (markW w s i).grownBy w4 s.pv.ownBlock) (hv : ∀ k, v.ownBlock = some k → s.pv.ownBlock = some k ∨ w.heap.size + 2 ≤ k) :
    DiskAt B (w4.setCell ⟨s.D, 2, none⟩ v) (s.mark i w.heap.size v) ∧ Step w s (w4.setCell ⟨s.D, 2, none⟩ v) (s.mark i w.heap.size v) := by
  have o := h.ok
  have hsz := markW_size w s i
  have hBw : B ≤ w.heap.size := Nat.le_trans o.bS (Nat.le_of_lt h.dS)
  have lD := (h.lt s.D (.inl rfl)).2
  have hT : ∀ k b, s.late k = some b → b < w.heap.size := fun k b hk => (h.lt b (.inr (.inr (.inr (.inr ⟨k, hk⟩))))).2
  have hpv : ∀ k, s.pv.ownBlock = some k → k < w.heap.size := fun k hk => (h.lt k (.inr (.inr (.inr (.inl hk))))).2
  have hvn : ∀ k, k < w.heap.size → s.pv.ownBlock ≠ some k → v.ownBlock ≠ some k := fun k hk hn e => by
    rcases hv k e with e2 | e2
    · exact hn e2
    · omega
  have hvT : v.ownBlock ≠ some w.heap.size := fun e => by
    rcases hv _ e with e2 | e2
    · have := hpv _ e2; omega
    · omega
  have old : ∀ k, k < w.heap.size → k ≠ s.L → k ≠ s.D → s.pv.ownBlock ≠ some k → (w4.setCell ⟨s.D, 2, none⟩ v).heap[k]? = w.heap[k]? := fun k hk hL hD hp => by
    rw [Below.heap_setCell _ _ _ _ hD, hg.block k (by omega) (fun e => hp e.symm), markW_old w s i k hk hL]
  have hD4 : w4.heap[s.D]? = w.heap[s.D]? := by
    rw [hg.block s.D (by omega) (fun e => o.pD e.symm), markW_old w s i s.D lD o.DL]
  have hL4 : (w4.setCell ⟨s.D, 2, none⟩ v).heap[s.L]? = (w.setCell ⟨s.L, i, none⟩ (.pointer (some ⟨w.heap.size, 0, none⟩))).heap[s.L]? := by
    rw [Below.heap_setCell _ _ _ _ (Ne.symm o.DL), hg.block s.L (by have := h.dL; omega) (fun e => o.pL e.symm), markW_L w s i h.dL]
  have hT4 : (w4.setCell ⟨s.D, 2, none⟩ v).heap[w.heap.size]? = some (.cells (Array.replicate 512 (.int .u8 0)) 136 (0, 0)) := by
    rw [Below.heap_setCell _ _ _ _ (by show w.heap.size ≠ s.D; omega), hg.block w.heap.size (by omega) (fun e => by have := hpv _ e.symm; omega), markW_T w s i]
  have cD : ∀ q, q ≠ 2 → (w4.setCell ⟨s.D, 2, none⟩ v).cell? ⟨s.D, q, none⟩ = w.cell? ⟨s.D, q, none⟩ := fun q hq => by
    rw [World.cell?_setCell_other _ _ _ _ (by intro e; simp only [Addr.mk.injEq] at e; omega)]
    exact cell_of_block hD4
  have size4 : w.heap.size + 2 ≤ (w4.setCell ⟨s.D, 2, none⟩ v).heap.size := by have := hg.size; simp; omega
  have lL := h.dL
  have lS := h.dS
  refine ⟨⟨⟨o.n1, o.bD, o.bS, o.bL, o.DS, o.DL, o.SL, ?_, ?_, hvn _ lD o.pD, hvn _ lS o.pS, hvn _ lL o.pL, ?_, ?_, ?_, o.l0, o.l1, o.us, ?_⟩, ?_, ?_, ?_, ?_, ?_, Nat.lt_of_lt_of_le lS (by omega), Nat.lt_of_lt_of_le lL (by omega), ?_, ?_, ?_, ?_, ?_, ?_, ?_, ?_⟩, ⟨?_, ?_, ?_, by omega, ?_, ?_⟩⟩
  · intro k b hk
    change (if k = i then some w.heap.size else s.late k) = some b at hk
    by_cases e : k = i
    · rw [if_pos e] at hk
      obtain rfl := Option.some.inj hk
      exact ⟨hBw, by show w.heap.size ≠ s.D; omega, by show w.heap.size ≠ s.S; omega, by show w.heap.size ≠ s.L; omega, hvT⟩
    · rw [if_neg e] at hk
      have := o.lt k b hk
      exact ⟨this.1, this.2.1, this.2.2.1, this.2.2.2.1, hvn b (hT k b hk) this.2.2.2.2⟩
  · intro k j b hk hj
    change (if k = i then some w.heap.size else s.late k) = some b at hk
    change (if j = i then some w.heap.size else s.late j) = some b at hj
    by_cases e : k = i <;> by_cases f : j = i
    · omega
    · rw [if_pos e] at hk; rw [if_neg f] at hj
      have := hT j b hj
      have := Option.some.inj hk
      omega
    · rw [if_neg e] at hk; rw [if_pos f] at hj
      have := hT k b hk
      have := Option.some.inj hj
      omega
    · rw [if_neg e] at hk; rw [if_neg f] at hj
      exact o.inj k j b hk hj
  · show (s.pend ++ [i]).Nodup
    rw [List.nodup_append]
    exact ⟨o.nd, by simp, fun a ha b hb e => by
      obtain rfl : b = i := by simpa using hb
      subst e
      exact (o.mem a).1 ha hlt⟩
  · intro k
    show k ∈ s.pend ++ [i] ↔ (if k = i then some w.heap.size else s.late k) ≠ none
    by_cases e : k = i
    · simp [e]
    · rw [if_neg e, List.mem_append, ← o.mem k]
      simp [e]
  · intro k hk
    change (if k = i then some w.heap.size else s.late k) ≠ none at hk
    by_cases e : k = i
    · rw [e]; exact hi
    · rw [if_neg e] at hk
      exact o.lim k hk
  · intro k j
    show 0 ≤ upd s.now i (fun _ => 0) k j ∧ upd s.now i (fun _ => 0) k j < 256
    unfold upd
    by_cases e : k = i
    · rw [if_pos e]; exact ⟨Int.le_refl _, (by decide : (0 : Int) < 256)⟩
    · rw [if_neg e]; exact o.un k j
  · exact (cD 0 (by omega)).trans h.d0
  · exact (cD 1 (by omega)).trans h.d1
  · exact World.cell?_setCell_same _ _ _ (by rw [cell_of_block hD4]; exact h.d2)
  · exact (cD 3 (by omega)).trans h.d3
  · exact (cD 4 (by omega)).trans h.d4
  · intro q; exact (World.frozen?_setCell _ _ _ _).trans ((frozen_of_block hD4).trans (h.fD q))
  · intro k j hk hj; exact (cell_of_block (old s.S lS o.SL (Ne.symm o.DS) o.pS)).trans (h.cS k j hk hj)
  · intro q; exact (frozen_of_block (old s.S lS o.SL (Ne.symm o.DS) o.pS)).trans (h.fS q)
  · intro k hk
    show (w4.setCell ⟨s.D, 2, none⟩ v).cell? ⟨s.L, k, none⟩ = some (ptr (if k = i then some w.heap.size else s.late k))
    rw [cell_of_block hL4]
    by_cases e : k = i
    · rw [if_pos e, e]
      exact World.cell?_setCell_same _ _ _ (h.cL i hi)
    · rw [if_neg e, World.cell?_setCell_other _ _ _ _ (by intro q; simp only [Addr.mk.injEq] at q; omega)]
      exact h.cL k hk
  · intro q
    exact (frozen_of_block hL4).trans ((World.frozen?_setCell _ _ _ _).trans (h.fL q))
  · show (w4.setCell ⟨s.D, 2, none⟩ v).ownsRow B 3 1 v (s.pend ++ [i]).length (nats (s.pend ++ [i]))
    have e : nats (s.pend ++ [i]) = nats s.pend ++ [.int .i64 (i : Int)] := by simp [nats]
    rw [e, List.length_append]
    exact own_setCell hown _ (hvn _ lD o.pD) _
  · intro k b hk j hj
    change (if k = i then some w.heap.size else s.late k) = some b at hk
    show _ = some (Value.int .u8 (upd s.now i (fun _ => 0) k j))
    unfold upd
    by_cases e : k = i
    · rw [if_pos e] at hk
      obtain rfl := Option.some.inj hk
      rw [if_pos e, cell_of_row _ _ _ _ _ _ hT4, Array.getElem?_eq_getElem (by simpa using hj)]
      simp
    · rw [if_neg e] at hk
      have q := o.lt k b hk
      rw [if_neg e, cell_of_block (old b (hT k b hk) q.2.2.2.1 q.2.1 q.2.2.2.2)]
      exact h.cT k b hk j hj
  · intro k b hk j
    change (if k = i then some w.heap.size else s.late k) = some b at hk
    by_cases e : k = i
    · rw [if_pos e] at hk
      obtain rfl := Option.some.inj hk
      exact frozen_of_row _ _ _ _ _ hT4
    · rw [if_neg e] at hk
      have q := o.lt k b hk
      rw [frozen_of_block (old b (hT k b hk) q.2.2.2.1 q.2.1 q.2.2.2.2)]
      exact h.fT k b hk j
  · exact hg.os
  · exact hg.tape
  · exact hg.output
  · intro k hk hn
    exact old k hk (fun e => hn (.inr (.inr (.inl e)))) (fun e => hn (.inl e)) (fun e => hn (.inr (.inr (.inr (.inl e)))))
  · intro k hk
    rcases hk with rfl | rfl | rfl | hp | ⟨j, hj⟩
    · exact .inl (.inl rfl)
    · exact .inl (.inr (.inl rfl))
    · exact .inl (.inr (.inr (.inl rfl)))
    · rcases hv k hp with e | e
      · exact .inl (.inr (.inr (.inr (.inl e))))
      · exact .inr (by omega)
    · change (if j = i then some w.heap.size else s.late j) = some k at hj
      by_cases e : j = i
      · rw [if_pos e] at hj
        exact .inr (by have := Option.some.inj hj; omega)
      · rw [if_neg e] at hj
        exact .inl (.inr (.inr (.inr (.inr ⟨j, hj⟩))))

/-- what is sure of a sector is written, from some byte of it on -/
theorem DiskAt.setSure {B : Nat} {w : World} {s : St} (h : DiskAt B w s) (i : Nat) (hi : i < s.n) (g : Nat → Int) (hg : ∀ j, 0 ≤ g j ∧ g j < 256) (vs : List Value) (o : Nat) (hfit : o + vs.length ≤ 512) (ho : ∀ j, j < vs.length → vs[j]? = some (.int .u8 (g (o + j)))) (hq : ∀ j, j < 512 → (j < o ∨ o + vs.length ≤ j) → g j = s.sure i j) : DiskAt B (w.setCells s.S (i * 512 + o) vs) { s with sure := upd s.sure i g } := by
  have ok := h.ok
  have hb : ∀ k, k ≠ s.S → (w.setCells s.S (i * 512 + o) vs).heap[k]? = w.heap[k]? := fun k hk => setCells_heap s.S vs _ w k hk
  have hs := (setCells_rest s.S vs (i * 512 + o) w).2.2.2
  refine ⟨⟨ok.n1, ok.bD, ok.bS, ok.bL, ok.DS, ok.DL, ok.SL, ok.lt, ok.inj, ok.pD, ok.pS, ok.pL, ok.nd, ok.mem, ok.lim, ok.l0, ok.l1, ?_, ok.un⟩, ?_, ?_, ?_, ?_, ?_, by rw [hs]; exact h.dS, by rw [hs]; exact h.dL, ?_, ?_, ?_, ?_, ?_, ?_, ?_, ?_⟩
  · intro k j
    show 0 ≤ upd s.sure i g k j ∧ upd s.sure i g k j < 256
    unfold upd
    by_cases e : k = i
    · rw [if_pos e]; exact hg j
    · rw [if_neg e]; exact ok.us k j
  · rw [cell_of_block (hb _ ok.DS)]; exact h.d0
  · rw [cell_of_block (hb _ ok.DS)]; exact h.d1
  · rw [cell_of_block (hb _ ok.DS)]; exact h.d2
  · rw [cell_of_block (hb _ ok.DS)]; exact h.d3
  · rw [cell_of_block (hb _ ok.DS)]; exact h.d4
  · intro k; rw [World.frozen?_setCells]; exact h.fD k
  · intro k j hk hj
    show _ = some (Value.int .u8 (upd s.sure i g k j))
    unfold upd
    by_cases e : k = i
    · subst e
      rw [if_pos rfl]
      by_cases hin : o ≤ j ∧ j < o + vs.length
      · obtain ⟨t, rfl⟩ : ∃ t, j = o + t := ⟨j - o, by omega⟩
        have := World.cell?_setCells_in s.S vs (k * 512 + o) w (fun m hm => by rw [Nat.add_assoc, h.cS k (o + m) hk (by omega)]; rfl) t (by omega)
        rw [← Nat.add_assoc, this]
        have e2 := ho t (by omega)
        rw [List.getElem?_eq_getElem (by omega)] at e2
        exact e2
      · rw [World.cell?_setCells_out s.S vs _ w ⟨s.S, k * 512 + j, none⟩ (fun _ _ => by show k * 512 + j < k * 512 + o ∨ k * 512 + o + vs.length ≤ k * 512 + j; omega), h.cS k j hk hj, hq j hj (by omega)]
    · rw [if_neg e, World.cell?_setCells_out s.S vs _ w ⟨s.S, k * 512 + j, none⟩ (fun _ _ => by show k * 512 + j < i * 512 + o ∨ i * 512 + o + vs.length ≤ k * 512 + j; omega)]
      exact h.cS k j hk hj
  · intro k; rw [World.frozen?_setCells]; exact h.fS k
  · intro k hk; rw [cell_of_block (hb _ (Ne.symm ok.SL))]; exact h.cL k hk
  · intro k; rw [World.frozen?_setCells]; exact h.fL k
  · refine ⟨h.p.1, ?_⟩
    rcases h.p.2 with hn | ⟨g', cap, cur, hv, hgb, hgg, r⟩
    · exact .inl hn
    · refine .inr ⟨g', cap, cur, hv, hgb, ?_, r⟩
      rw [hb g' (fun e => ok.pS (by rw [hv]; simp [Value.ownBlock, e]))]
      exact hgg
  · intro k b hk j hj; rw [cell_of_block (hb _ (ok.lt k b hk).2.2.1)]; exact h.cT k b hk j hj
  · intro k b hk j; rw [World.frozen?_setCells]; exact h.fT k b hk j

def St.settle (s : St) : St := { s with late := fun _ => none, pv := .slice none 0 0, pend := [] }
/-- no sector is pending any more -/
theorem DiskAt.settled {B : Nat} {w wr : World} {s : St} (h : DiskAt B w s) (hb : ∀ k, k ≠ s.L → wr.heap[k]? = w.heap[k]?) (hs : wr.heap.size = w.heap.size) (cL : ∀ i, i < s.n → wr.cell? ⟨s.L, i, none⟩ = some (.pointer none)) (fL : ∀ i, wr.frozen? ⟨s.L, i, none⟩ = false) : DiskAt B (wr.setCell ⟨s.D, 2, none⟩ (.slice none 0 0)) s.settle := by
  have o := h.ok
  have hb2 : ∀ k, k ≠ s.D → (wr.setCell ⟨s.D, 2, none⟩ (.slice none 0 0)).heap[k]? = wr.heap[k]? := fun k hk => Below.heap_setCell _ _ _ _ hk
  have cD : ∀ q, q ≠ 2 → (wr.setCell ⟨s.D, 2, none⟩ (.slice none 0 0)).cell? ⟨s.D, q, none⟩ = w.cell? ⟨s.D, q, none⟩ := fun q hq => by
    rw [World.cell?_setCell_other _ _ _ _ (by intro e; simp only [Addr.mk.injEq] at e; omega)]
    exact cell_of_block (hb _ o.DL)
  refine ⟨⟨o.n1, o.bD, o.bS, o.bL, o.DS, o.DL, o.SL, ?_, ?_, ?_, ?_, ?_, ?_, ?_, ?_, o.l0, o.l1, o.us, o.un⟩, ?_, ?_, ?_, ?_, ?_, ?_, ?_, ?_, ?_, ?_, ?_, ?_, ?_, ?_, ?_⟩
  · intro k b e; cases e
  · intro k j b e; cases e
  · simp [St.settle, Value.ownBlock]
  · simp [St.settle, Value.ownBlock]
  · simp [St.settle, Value.ownBlock]
  · exact List.nodup_nil
  · intro k; simp [St.settle]
  · intro k e; exact absurd rfl e
  · exact (cD 0 (by omega)).trans h.d0
  · exact (cD 1 (by omega)).trans h.d1
  · exact World.cell?_setCell_same _ _ _ (by rw [cell_of_block (hb _ o.DL)]; exact h.d2)
  · exact (cD 3 (by omega)).trans h.d3
  · exact (cD 4 (by omega)).trans h.d4
  · show s.S < _; have := h.dS; simp; omega
  · show s.L < _; have := h.dL; simp; omega
  · intro q; show (wr.setCell _ _).frozen? ⟨s.D, q, none⟩ = false; rw [World.frozen?_setCell, frozen_of_block (hb _ o.DL)]; exact h.fD q
  · intro i j hi hj; show (wr.setCell _ _).cell? ⟨s.S, i * 512 + j, none⟩ = _; rw [cell_of_block (hb2 _ (Ne.symm o.DS)), cell_of_block (hb _ o.SL)]; exact h.cS i j hi hj
  · intro q; show (wr.setCell _ _).frozen? ⟨s.S, q, none⟩ = false; rw [World.frozen?_setCell, frozen_of_block (hb _ o.SL)]; exact h.fS q
  · intro i hi; show (wr.setCell _ _).cell? ⟨s.L, i, none⟩ = _; rw [cell_of_block (hb2 _ (Ne.symm o.DL))]; exact cL i hi
  · intro q; show (wr.setCell _ _).frozen? ⟨s.L, q, none⟩ = false; rw [World.frozen?_setCell]; exact fL q
  · exact World.ownsRow_nil _ _ _ _
  · intro k b e; cases e
  · intro k b e; cases e
end Go.Proofs.YtlfkkakohldgnaaGreatDoor

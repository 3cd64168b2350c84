/-
  THE WALKS of (*Disk).settle and Flush. Conditions: a disk lies in memory.
-/
import Derived.Test.YtkmedlbokneegaaDoorWe
namespace Go.Proofs.YtkmedlbokneegaaDoor
open Go.RowKit

/-- the first k of those that are pending are no more so -/
structure SettleInv (w : World) (s : St) (k : Nat) (wr : World) : Prop where
  os : wr.os = w.os
  tape : wr.tape = w.tape
  output : wr.output = w.output
  size : wr.heap.size = w.heap.size
  block : ∀ b, b ≠ s.L → wr.heap[b]? = w.heap[b]?
  cL : ∀ i, i < s.n → wr.cell? ⟨s.L, i, none⟩ = some (if i ∈ s.pend.take k then .pointer none else ptr (s.late i))
  fL : ∀ i, wr.frozen? ⟨s.L, i, none⟩ = false
theorem SettleInv.next {w wr : World} {s : St} {k : Nat} (h : SettleInv w s k wr) (hk : k < s.pend.length) (hn : s.pend[k] < s.n) : SettleInv w s (k + 1) (wr.setCell ⟨s.L, s.pend[k], none⟩ (.pointer none)) := by
  refine ⟨h.os, h.tape, h.output, by simpa using h.size, fun b hb => (Below.heap_setCell _ _ _ _ hb).trans (h.block b hb), fun i hi => ?_, fun i => by rw [World.frozen?_setCell]; exact h.fL i⟩
  rw [List.take_succ_eq_append_getElem hk]
  by_cases e : i = s.pend[k]
  · rw [if_pos (by rw [List.mem_append, List.mem_singleton]; exact .inr e), e]
    exact World.cell?_setCell_same _ _ _ (h.cL _ hn)
  · rw [World.cell?_setCell_other _ _ _ _ (by intro q; simp only [Addr.mk.injEq] at q; omega), h.cL i hi]
    by_cases f : i ∈ s.pend.take k
    · rw [if_pos f, if_pos (by rw [List.mem_append]; exact .inl f)]
    · rw [if_neg f, if_neg (by rw [List.mem_append, List.mem_singleton]; exact fun q => q.elim f e)]
def SettledAt (B : Nat) (w : World) (s : St) (e : Ending) (w' : World) : Prop :=
  e = .returned (.tuple #[]) ∧ DiskAt B w' s.settle ∧ Step w s w' s.settle
theorem settled_of {B : Nat} {w wr : World} {s : St} (h : DiskAt B w s) (hi : SettleInv w s s.pend.length wr) : DiskAt B (wr.setCell ⟨s.D, 2, none⟩ (.slice none 0 0)) s.settle ∧ Step w s (wr.setCell ⟨s.D, 2, none⟩ (.slice none 0 0)) s.settle := by
  refine ⟨h.settled hi.block hi.size (fun i hn => ?_) hi.fL, ⟨hi.os, hi.tape, hi.output, by have := hi.size; simp; omega, fun k hk hn => ?_, fun k hk => ?_⟩⟩
  · rw [hi.cL i hn, List.take_length]
    by_cases f : i ∈ s.pend
    · rw [if_pos f]
    · rw [if_neg f]
      have : s.late i = none := by
        cases e : s.late i with
        | none => rfl
        | some b => exact absurd ((h.ok.mem i).2 (by rw [e]; simp)) f
      rw [this]
      rfl
  · rw [Below.heap_setCell _ _ _ _ (fun e => hn (.inl e)), hi.block k (fun e => hn (.inr (.inr (.inl e))))]
  · rcases hk with e | e | e | e | ⟨i, e⟩
    · exact .inl (.inl e)
    · exact .inl (.inr (.inl e))
    · exact .inl (.inr (.inr (.inl e)))
    · simp [St.settle, Value.ownBlock] at e
    · cases e
set_option maxRecDepth 100000 in
theorem settle_any {B : Nat} (s : St) (w : World) (h : DiskAt B w s) :
    Calls Tryd.prog 66 #[.pointer (some ⟨s.D, 0, none⟩)] w (SettledAt B w s) := by
  have c2 := h.d2
  obtain ⟨ao, cap, hv⟩ := own_slice h.p
  rw [hv] at c2
  have n1 := h.ok.n1
  have hle := pend_le h.ok
  have HH := Lib.hid h
  have HV := Lib.hid hv
  clear h hv
  go_enter Tryd.func66, Tryd.ntmps66
  go_wp2
  go_loopw [9] (fun i wr => ∃ k : Nat, k ≤ s.pend.length ∧ i = .int .i64 k ∧ SettleInv w s k wr) (fun i _ => s.pend.length - (intOf i).toNat)
  case atStart =>
    exact ⟨0, by omega, rfl, ⟨rfl, rfl, rfl, rfl, fun _ _ => rfl, fun i hi => by rw [List.take_zero, if_neg (by simp)]; exact HH.out.cL i hi, HH.out.fL⟩⟩
  case round =>
    obtain ⟨k, hk, rfl, hinv⟩ := hrel
    have HI := Lib.hid hinv
    clear hinv
    by_cases hlt : k < s.pend.length
    · obtain ⟨g, cap', hv', _, hcell⟩ := pend_cell HH.out (by omega)
      have hv := HV.out
      rw [hv] at hv'
      injection hv' with e1 _ e2
      subst e1 e2
      have hc := hcell k hlt
      have hgL : g ≠ s.L := by
        have := HH.out.ok.pL
        rw [hv] at this
        exact fun e => this (by rw [e]; rfl)
      rw [← cell_of_block (HI.out.block g hgL)] at hc
      have hmem : s.pend[k] ∈ s.pend := List.getElem_mem hlt
      have hn := HH.out.ok.lim _ ((HH.out.ok.mem _).1 hmem)
      have HN := Lib.hid (HI.out.next hlt hn)
      have d1 := HH.out.d1
      rw [← cell_of_block (HI.out.block s.D HH.out.ok.DL)] at d1
      have cl := HI.out.cL _ hn
      have fl := HI.out.fL s.pend[k]
      generalize s.pend[k] = i at hc hn HN cl fl
      generalize (if i ∈ List.take k s.pend then Value.pointer none else ptr (s.late i)) = v0 at cl
      have i0 : (0 : Int) ≤ (i : Int) := by omega
      have hlt' : (k : Int) < (s.pend.length : Int) := by omega
      clear hmem hcell hv hgL
      go_wp2
      go_roundw
      case rel => exact ⟨k + 1, by omega, by go_num, HN.out⟩
      case measure => simp [intOf]; omega
    · obtain rfl : k = s.pend.length := by omega
      have d2 := HH.out.d2
      rw [← cell_of_block (HI.out.block s.D HH.out.ok.DL)] at d2
      have f2 := HH.out.fD 2
      rw [← frozen_of_block (HI.out.block s.D HH.out.ok.DL)] at f2
      have HN := Lib.hid (settled_of HH.out HI.out)
      go_wp2
      go_end0
      exact ⟨rfl, HN.out.1, HN.out.2⟩

/-- what is sure of all these sectors becomes what they are now -/
def St.outs (s : St) (l : List Nat) : St := { s with sure := fun k j => if k ∈ l ∧ j < 512 then s.now k j else s.sure k j }
theorem outs_nil (s : St) : s.outs [] = s := by unfold St.outs; simp
theorem outs_out (s : St) (l : List Nat) (i : Nat) : (s.outs l).out i 512 = s.outs (l ++ [i]) := by
  unfold St.out St.outs upd
  congr 1
  funext k j
  by_cases e : k = i
  · subst e
    by_cases f : j < 512
    · simp [f]
    · simp [f]
  · simp [e]
def FlushedAt (B : Nat) (w : World) (s : St) (e : Ending) (w' : World) : Prop :=
  e = .returned .nilIface ∧ DiskAt B w' (s.outs s.pend).settle ∧ Step w s w' (s.outs s.pend).settle
set_option maxRecDepth 100000 in
theorem flush_any {B : Nat} (s : St) (w : World) (h : DiskAt B w s) :
    Calls Tryd.prog 42 #[.pointer (some ⟨s.D, 0, none⟩)] w (FlushedAt B w s) := by
  have c2 := h.d2
  obtain ⟨ao, cap, hv⟩ := own_slice h.p
  rw [hv] at c2
  have n1 := h.ok.n1
  have hle := pend_le h.ok
  have HH := Lib.hid h
  clear h hv
  go_enter Tryd.func42, Tryd.ntmps42
  go_wp2
  go_loopw [12] (fun i wr => ∃ k : Nat, k ≤ s.pend.length ∧ i = .int .i64 k ∧ DiskAt B wr (s.outs (s.pend.take k)) ∧ Step w s wr (s.outs (s.pend.take k))) (fun i _ => s.pend.length - (intOf i).toNat)
  case atStart => exact ⟨0, by omega, rfl, by rw [List.take_zero, outs_nil]; exact HH.out, by rw [List.take_zero, outs_nil]; exact Step.refl _ _⟩
  case round =>
    obtain ⟨k, hk, rfl, hd, hs⟩ := hrel
    have HD := Lib.hid hd
    have HS := Lib.hid hs
    clear hd hs
    by_cases hlt : k < s.pend.length
    · have hlt' : (k : Int) < (s.pend.length : Int) := by omega
      go_wp2_with (go_at_call 65; refine (outlive_any (s.outs (s.pend.take k)) k _ 512 512 _ HD.out hlt rfl rfl (by omega)).mono ?_; rintro e w1 ⟨rfl, hd1, hs1⟩)
      have e : (s.outs (s.pend.take k)).out ((s.outs (s.pend.take k)).pend[k]) 512 = s.outs (s.pend.take (k + 1)) := by
        rw [List.take_succ_eq_append_getElem hlt]
        exact outs_out s _ _
      rw [e] at hd1 hs1
      have HD1 := Lib.hid hd1
      have HS1 := Lib.hid (HS.out.trans hs1)
      clear hd1 hs1 e
      go_wp2
      go_roundw
      case rel => exact ⟨k + 1, by omega, by go_num, HD1.out, HS1.out⟩
      case measure => simp [intOf]; omega
    · obtain rfl : k = s.pend.length := by omega
      have HA := Lib.hid (settle_any _ _ HD.out)
      go_wp2_with (go_at_call 66; refine HA.out.mono ?_; rintro e w1 ⟨rfl, hd1, hs1⟩)
      rw [List.take_length] at hd1 hs1 HS
      go_ret
      exact ⟨rfl, hd1, HS.out.trans hs1⟩
end Go.Proofs.YtkmedlbokneegaaDoor

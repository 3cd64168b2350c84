/-
  THE WALKS of (*Disk).outlive, settle and Flush. Conditions: a disk lies in memory.
  THE WALKS of (*Disk).settle and Flush. Conditions: a disk lies in memory.
-/
import Derived.Test.YtfhnnfheonkneaaDoorQg
namespace Go.Proofs.YtfhnnfheonkneaaDoor
open Go.RowKit

set_option maxRecDepth 100000 in
theorem step_copy_cells {ops : Array Oper} {o : Oper} {a : Act} {w : World} {K : Act → World → Prop} {Q : Exit → Act → World → Prop} {E : Prop} (hgd : o.guard = none) (d s : Operand)
    (ho : o.op = .call { callee := .builtin .copy, args := #[d, s], argTypes := #[60, 60] })
    (b off dLen dCap : Nat) (hd : a.eval d = .slice (some ⟨b, off, none⟩) dLen dCap) (b2 off2 sLen sCap : Nat) (hs : a.eval s = .slice (some ⟨b2, off2, none⟩) sLen sCap)
    (cs : List Value) (hn : cs.length = Nat.min sLen dLen) (hsrc : w.rangeAt b2 off2 cs) (ht : w.there b off cs.length) (h1 : ∀ v ∈ cs, v.oneCell' = true)
    (hK : K (a.put o.dst (goInt cs.length)) (w.setCells b off cs)) : if Region.wanted o (yielded ops a.tmps) = true then Oper.wp Tryd.prog o a w K Q else E := by
  have hw : Region.wanted o (yielded ops a.tmps) = true := by simp [Region.wanted, hgd]
  rw [if_pos hw]
  have hsz : (Tryd.prog.info? 5).map (·.size) = some 1 := by kernel_rfl
  have hrun := run_copy_cells (P := Tryd.prog) w 60 60 o.type 5 b off dLen dCap ⟨b2, off2, none⟩ sLen sCap cs Tryd.underlying60 hsz hn (fun j v hv => by rw [Addr.add_mid]; exact hsrc j v hv) (fun j hj => (ht j hj).1) (fun j hj => (ht j hj).2) h1
  unfold Oper.wp
  simp [execOp, ho, resolve, invoke, builtin, hd, hs, hrun, Result.andThen]
  exact hK

theorem pend_cell {B : Nat} {w : World} {s : St} (h : DiskAt B w s) (h0 : 0 < s.pend.length) : ∃ g cap, s.pv = .slice (some ⟨g, 0, none⟩) s.pend.length cap ∧ s.pend.length ≤ cap ∧ ∀ k (hk : k < s.pend.length), w.cell? ⟨g, k, none⟩ = some (.int .i64 (s.pend[k] : Int)) := by
  have hp := h.p
  rw [nats_il] at hp
  obtain ⟨ao, cap, hv, hi, hc, _⟩ := own_ints hp
  obtain ⟨g, off, ha, _⟩ := hi 0 (by simpa using h0)
  have hz : off = 0 := by
    rcases hp.2 with ⟨e, _⟩ | ⟨g', cap', cur, e, _⟩
    · rw [hv, ha] at e; cases e
    · rw [hv, ha] at e
      injection e with e1 e2 e3
      injection e1 with e4
      injection e4
  subst hz
  subst ha
  refine ⟨g, cap, hv, hc, fun k hk => ?_⟩
  obtain ⟨g', off', ha', hcell⟩ := hi k (by simpa using hk)
  obtain ⟨rfl, rfl⟩ : g = g' ∧ 0 = off' := by simpa using ha'
  rw [Nat.zero_add] at hcell
  rw [hcell]
  simp

/-- of what is sure of a sector the first bytes become what it is now -/
def St.out (s : St) (i part : Nat) : St := { s with sure := upd s.sure i (fun j => if j < part then s.now i j else s.sure i j) }
def OutAt (B : Nat) (w : World) (s : St) (i part : Nat) (e : Ending) (w' : World) : Prop :=
  e = .returned (.tuple #[]) ∧ DiskAt B w' (s.out i part) ∧ Step w s w' (s.out i part)
set_option maxRecDepth 100000 in
theorem outlive_any {B : Nat} (s : St) (p : Nat) (q x : Int) (part : Nat) (w : World) (h : DiskAt B w s) (hp : p < s.pend.length) (hq : q = p) (hx : x = part) (hpart : part ≤ 512) :
    Calls Tryd.prog 67 #[.pointer (some ⟨s.D, 0, none⟩), .int .i64 q, .int .i64 x] w (OutAt B w s s.pend[p] part) := by
  subst hq hx
  obtain ⟨g, cap, hv, hcap, hcell⟩ := pend_cell h (by omega)
  have hpc := hcell p hp
  generalize hI : s.pend[p] = i at hpc ⊢
  have hmem : i ∈ s.pend := by rw [← hI]; exact List.getElem_mem hp
  have hlt := (h.ok.mem i).1 hmem
  have hin := h.ok.lim i hlt
  obtain ⟨T, hT⟩ : ∃ T, s.late i = some T := by
    cases e : s.late i with
    | none => exact absurd e hlt
    | some T => exact ⟨T, rfl⟩
  have r0 := h.d0
  have r1 := h.d1
  have r2 := h.cL i hin
  have c2 := h.d2
  rw [hv] at c2
  rw [hT] at r2
  change w.cell? _ = some (.pointer (some ⟨T, 0, none⟩)) at r2
  have o := h.ok
  have lt := o.lt i T hT
  have n1 := o.n1
  have hle := pend_le o
  have i0 : (0 : Int) ≤ (i : Int) := by omega
  have i1 : (i : Int) < (s.n : Int) := by omega
  have p0 : (0 : Int) ≤ (part : Int) := by omega
  have p1 : (part : Int) ≤ 512 := by omega
  have hps : (p : Int) < (s.pend.length : Int) := by omega
  have ps0 : (0 : Int) ≤ (p : Int) := by omega
  have CS := Lib.hid (show (bl ((rowOf (s.now i)).take part)).length = part by rw [bl_len, List.length_take, rowOf_len]; omega)
  have hr : w.drew.rangeAt T 0 (bl ((rowOf (s.now i)).take part)) := fun j v hv => by
    have hj : j < part := by have := (List.getElem?_eq_some_iff.1 hv).1; rwa [CS.out] at this
    have e := h.cT i T hT j (by omega)
    rw [Nat.zero_add]
    refine Eq.trans e ?_
    rw [← hv]
    simp [bl, rowOf, hj, show j < 512 by omega]
  have ht : w.drew.there s.S (i * 512) (bl ((rowOf (s.now i)).take part)).length := fun j hj => by
    rw [CS.out] at hj
    exact ⟨by show (w.cell? _).isSome = true; rw [h.cS i j hin (by omega)]; rfl, h.fS _⟩
  have H1 := Lib.hid (h.drew.setSure i hin (fun j => if j < part then s.now i j else s.sure i j) (fun j => by by_cases e : j < part; rw [if_pos e]; exact o.un i j; rw [if_neg e]; exact o.us i j) (bl ((rowOf (s.now i)).take part)) 0 (by rw [CS.out]; omega) (fun j hj => by
    rw [CS.out] at hj
    rw [Nat.zero_add, if_pos hj]
    simp [bl, rowOf, hj, show j < 512 by omega]) (fun j hj hq => by rw [CS.out] at hq; rw [if_neg (by omega)]))
  have S1 := Lib.hid ((Step.drew (Step.refl w s)).trans (Step.setCells (w := w.drew) (s := s) (s' := s.out i part) s.S (.inr (.inl rfl)) (i * 512) (bl ((rowOf (s.now i)).take part)) (fun k hk => .inl hk)))
  rw [Nat.add_zero] at H1
  have q0 : (w.drew.setCells s.S (i * 512) (bl ((rowOf (s.now i)).take part))).cell? ⟨s.D, 0, none⟩ = some (.slice (some ⟨s.S, 0, none⟩) s.n s.n) := (cell_of_block (setCells_heap s.S _ _ _ _ o.DS)).trans r0
  have q1 : (w.drew.setCells s.S (i * 512) (bl ((rowOf (s.now i)).take part))).cell? ⟨s.D, 1, none⟩ = some (.slice (some ⟨s.L, 0, none⟩) s.n s.n) := (cell_of_block (setCells_heap s.S _ _ _ _ o.DS)).trans r1
  have q2 : (w.drew.setCells s.S (i * 512) (bl ((rowOf (s.now i)).take part))).cell? ⟨s.L, i, none⟩ = some (.pointer (some ⟨T, 0, none⟩)) := (cell_of_block (setCells_heap s.S _ _ _ _ (Ne.symm o.SL))).trans r2
  have HCP := Lib.hid hcell
  have HI2 := Lib.hid hI
  have HV := Lib.hid hv
  clear h o hI hcell hv hmem hlt hin hT lt hle
  go_enter Tryd.func67, Tryd.ntmps67
  go_wp2
  go_region_held3 (fun w' => w'.cell? ⟨s.D, 0, none⟩ = some (.slice (some ⟨s.S, 0, none⟩) s.n s.n) ∧ w'.cell? ⟨s.D, 1, none⟩ = some (.slice (some ⟨s.L, 0, none⟩) s.n s.n) ∧ w'.cell? ⟨s.L, i, none⟩ = some (.pointer (some ⟨T, 0, none⟩))) (first | exact ⟨r0, r1, r2⟩ | exact ⟨q0, q1, q2⟩) (refine step_copy_cells rfl (.tmp 21) (.tmp 31) rfl s.S (i * 512) part 512 rfl T 0 part 512 rfl (bl ((rowOf (s.now i)).take part)) (by rw [CS.out]; simp) hr ht (bl_one _) ?_)
  go_wp2
  go_end0
  exact ⟨rfl, H1.out, S1.out⟩
end Go.Proofs.YtfhnnfheonkneaaDoor
namespace Go.Proofs.YtfhnnfheonkneaaDoor
open Go.RowKit

/-- the first k of those that are pending are no more so -/
structure SettleInv (w : World) (s : St) (k : Nat) (wr : World) : Prop where
  os : wr.os = w.os
  tape : wr.tape = w.tape
  output : wr.output = w.output
  size : wr.heap.size = w.heap.size
  block : ∀ b, b ≠ s.L → wr.heap[b]? = w.heap[b]?
  cL : ∀ i, i < s.n → wr.cell? ⟨s.L, i, none⟩ = some (if i ∈ s.pend.take k then .pointer none else ptr (s.late i))
  fL : ∀ i, wr.frozen? ⟨s.L, i, none⟩ = false
theorem SettleInv.next {w wr : World} {s : St} {k : Nat} (h : SettleInv w s k wr) (hk : k < s.pend.length) (hn : s.pend[k] < s.n) : SettleInv w s (k + 1) (wr.setCell ⟨s.L, s.pend[k], none⟩ (.pointer none)) := by
  refine ⟨h.os, h.tape, h.output, by simpa using h.size, fun b hb => (Below.heap_setCell _ _ _ _ hb).trans (h.block b hb), fun i hi => ?_, fun i => by rw [World.frozen?_setCell]; exact h.fL i⟩
  rw [List.take_succ_eq_append_getElem hk]
  by_cases e : i = s.pend[k]
  · rw [if_pos (by rw [List.mem_append, List.mem_singleton]; exact .inr e), e]
    exact World.cell?_setCell_same _ _ _ (h.cL _ hn)
  · rw [World.cell?_setCell_other _ _ _ _ (by intro q; simp only [Addr.mk.injEq] at q; omega), h.cL i hi]
    by_cases f : i ∈ s.pend.take k
    · rw [if_pos f, if_pos (by rw [List.mem_append]; exact .inl f)]
    · rw [if_neg f, if_neg (by rw [List.mem_append, List.mem_singleton]; exact fun q => q.elim f e)]
def SettledAt (B : Nat) (w : World) (s : St) (e : Ending) (w' : World) : Prop :=
  e = .returned (.tuple #[]) ∧ DiskAt B w' s.settle ∧ Step w s w' s.settle
theorem settled_of {B : Nat} {w wr : World} {s : St} (h : DiskAt B w s) (hi : SettleInv w s s.pend.length wr) : DiskAt B (wr.setCell ⟨s.D, 2, none⟩ (.slice none 0 0)) s.settle ∧ Step w s (wr.setCell ⟨s.D, 2, none⟩ (.slice none 0 0)) s.settle := by
  refine ⟨h.settled hi.block hi.size (fun i hn => ?_) hi.fL, ⟨hi.os, hi.tape, hi.output, by have := hi.size; simp; omega, fun k hk hn => ?_, fun k hk => ?_⟩⟩
  · rw [hi.cL i hn, List.take_length]
    by_cases f : i ∈ s.pend
    · rw [if_pos f]
    · rw [if_neg f]
      have : s.late i = none := by
        cases e : s.late i with
        | none => rfl
        | some b => exact absurd ((h.ok.mem i).2 (by rw [e]; simp)) f
      rw [this]
      rfl
  · rw [Below.heap_setCell _ _ _ _ (fun e => hn (.inl e)), hi.block k (fun e => hn (.inr (.inr (.inl e))))]
  · rcases hk with e | e | e | e | ⟨i, e⟩
    · exact .inl (.inl e)
    · exact .inl (.inr (.inl e))
    · exact .inl (.inr (.inr (.inl e)))
    · simp [St.settle, Value.ownBlock] at e
    · cases e
set_option maxRecDepth 100000 in
theorem settle_any {B : Nat} (s : St) (w : World) (h : DiskAt B w s) :
    Calls Tryd.prog 68 #[.pointer (some ⟨s.D, 0, none⟩)] w (SettledAt B w s) := by
  have c2 := h.d2
  obtain ⟨ao, cap, hv⟩ := own_slice h.p
  rw [hv] at c2
  have n1 := h.ok.n1
  have hle := pend_le h.ok
  have HH := Lib.hid h
  have HV := Lib.hid hv
  clear h hv
  go_enter Tryd.func68, Tryd.ntmps68
  go_wp2
  go_loopw [9] (fun i wr => ∃ k : Nat, k ≤ s.pend.length ∧ i = .int .i64 k ∧ SettleInv w s k wr) (fun i _ => s.pend.length - (intOf i).toNat)
  case atStart =>
    exact ⟨0, by omega, rfl, ⟨rfl, rfl, rfl, rfl, fun _ _ => rfl, fun i hi => by rw [List.take_zero, if_neg (by simp)]; exact HH.out.cL i hi, HH.out.fL⟩⟩
  case round =>
    obtain ⟨k, hk, rfl, hinv⟩ := hrel
    have HI := Lib.hid hinv
    clear hinv
    by_cases hlt : k < s.pend.length
    · obtain ⟨g, cap', hv', _, hcell⟩ := pend_cell HH.out (by omega)
      have hv := HV.out
      rw [hv] at hv'
      injection hv' with e1 _ e2
      subst e1 e2
      have hc := hcell k hlt
      have hgL : g ≠ s.L := by
        have := HH.out.ok.pL
        rw [hv] at this
        exact fun e => this (by rw [e]; rfl)
      rw [← cell_of_block (HI.out.block g hgL)] at hc
      have hmem : s.pend[k] ∈ s.pend := List.getElem_mem hlt
      have hn := HH.out.ok.lim _ ((HH.out.ok.mem _).1 hmem)
      have HN := Lib.hid (HI.out.next hlt hn)
      have d1 := HH.out.d1
      rw [← cell_of_block (HI.out.block s.D HH.out.ok.DL)] at d1
      have cl := HI.out.cL _ hn
      have fl := HI.out.fL s.pend[k]
      generalize s.pend[k] = i at hc hn HN cl fl
      generalize (if i ∈ List.take k s.pend then Value.pointer none else ptr (s.late i)) = v0 at cl
      have i0 : (0 : Int) ≤ (i : Int) := by omega
      have hlt' : (k : Int) < (s.pend.length : Int) := by omega
      clear hmem hcell hv hgL
      go_wp2
      go_roundw
      case rel => exact ⟨k + 1, by omega, by go_num, HN.out⟩
      case measure => simp [intOf]; omega
    · obtain rfl : k = s.pend.length := by omega
      have d2 := HH.out.d2
      rw [← cell_of_block (HI.out.block s.D HH.out.ok.DL)] at d2
      have f2 := HH.out.fD 2
      rw [← frozen_of_block (HI.out.block s.D HH.out.ok.DL)] at f2
      have HN := Lib.hid (settled_of HH.out HI.out)
      go_wp2
      go_end0
      exact ⟨rfl, HN.out.1, HN.out.2⟩

/-- what is sure of all these sectors becomes what they are now -/
def St.outs (s : St) (l : List Nat) : St := { s with sure := fun k j => if k ∈ l ∧ j < 512 then s.now k j else s.sure k j }
theorem outs_nil (s : St) : s.outs [] = s := by unfold St.outs; simp
theorem outs_out (s : St) (l : List Nat) (i : Nat) : (s.outs l).out i 512 = s.outs (l ++ [i]) := by
  unfold St.out St.outs upd
  congr 1
  funext k j
  by_cases e : k = i
  · subst e
    by_cases f : j < 512
    · simp [f]
    · simp [f]
  · simp [e]
def FlushedAt (B : Nat) (w : World) (s : St) (e : Ending) (w' : World) : Prop :=
  e = .returned .nilIface ∧ DiskAt B w' (s.outs s.pend).settle ∧ Step w s w' (s.outs s.pend).settle
set_option maxRecDepth 100000 in
theorem flush_any {B : Nat} (s : St) (w : World) (h : DiskAt B w s) :
    Calls Tryd.prog 49 #[.pointer (some ⟨s.D, 0, none⟩)] w (FlushedAt B w s) := by
  have c2 := h.d2
  obtain ⟨ao, cap, hv⟩ := own_slice h.p
  rw [hv] at c2
  have n1 := h.ok.n1
  have hle := pend_le h.ok
  have HH := Lib.hid h
  clear h hv
  go_enter Tryd.func49, Tryd.ntmps49
  go_wp2
  go_loopw [12] (fun i wr => ∃ k : Nat, k ≤ s.pend.length ∧ i = .int .i64 k ∧ DiskAt B wr (s.outs (s.pend.take k)) ∧ Step w s wr (s.outs (s.pend.take k))) (fun i _ => s.pend.length - (intOf i).toNat)
  case atStart => exact ⟨0, by omega, rfl, by rw [List.take_zero, outs_nil]; exact HH.out, by rw [List.take_zero, outs_nil]; exact Step.refl _ _⟩
  case round =>
    obtain ⟨k, hk, rfl, hd, hs⟩ := hrel
    have HD := Lib.hid hd
    have HS := Lib.hid hs
    clear hd hs
    by_cases hlt : k < s.pend.length
    · have hlt' : (k : Int) < (s.pend.length : Int) := by omega
      go_wp2_with (go_at_call 67; refine (outlive_any (s.outs (s.pend.take k)) k _ 512 512 _ HD.out hlt rfl rfl (by omega)).mono ?_; rintro e w1 ⟨rfl, hd1, hs1⟩)
      have e : (s.outs (s.pend.take k)).out ((s.outs (s.pend.take k)).pend[k]) 512 = s.outs (s.pend.take (k + 1)) := by
        rw [List.take_succ_eq_append_getElem hlt]
        exact outs_out s _ _
      rw [e] at hd1 hs1
      have HD1 := Lib.hid hd1
      have HS1 := Lib.hid (HS.out.trans hs1)
      clear hd1 hs1 e
      go_wp2
      go_roundw
      case rel => exact ⟨k + 1, by omega, by go_num, HD1.out, HS1.out⟩
      case measure => simp [intOf]; omega
    · obtain rfl : k = s.pend.length := by omega
      have HA := Lib.hid (settle_any _ _ HD.out)
      go_wp2_with (go_at_call 68; refine HA.out.mono ?_; rintro e w1 ⟨rfl, hd1, hs1⟩)
      rw [List.take_length] at hd1 hs1 HS
      go_ret
      exact ⟨rfl, hd1, HS.out.trans hs1⟩
end Go.Proofs.YtfhnnfheonkneaaDoor

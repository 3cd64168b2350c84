/-
  THE WALKS of (*Disk).outlive, settle and Flush. Conditions: a disk lies in memory.
-/
import Derived.Test.YtkmedlbokneegaaDoorWd
namespace Go.Proofs.YtkmedlbokneegaaDoor
open Go.RowKit

set_option maxRecDepth 100000 in
theorem step_copy_cells {ops : Array Oper} {o : Oper} {a : Act} {w : World} {K : Act → World → Prop} {Q : Exit → Act → World → Prop} {E : Prop} (hgd : o.guard = none) (d s : Operand)
    (ho : o.op = .call { callee := .builtin .copy, args := #[d, s], argTypes := #[48, 48] })
    (b off dLen dCap : Nat) (hd : a.eval d = .slice (some ⟨b, off, none⟩) dLen dCap) (b2 off2 sLen sCap : Nat) (hs : a.eval s = .slice (some ⟨b2, off2, none⟩) sLen sCap)
    (cs : List Value) (hn : cs.length = Nat.min sLen dLen) (hsrc : w.rangeAt b2 off2 cs) (ht : w.there b off cs.length) (h1 : ∀ v ∈ cs, v.oneCell' = true)
    (hK : K (a.put o.dst (goInt cs.length)) (w.setCells b off cs)) : if Region.wanted o (yielded ops a.tmps) = true then Oper.wp Tryd.prog o a w K Q else E := by
  have hw : Region.wanted o (yielded ops a.tmps) = true := by simp [Region.wanted, hgd]
  rw [if_pos hw]
  have hsz : (Tryd.prog.info? 5).map (·.size) = some 1 := by kernel_rfl
  have hrun := run_copy_cells (P := Tryd.prog) w 48 48 o.type 5 b off dLen dCap ⟨b2, off2, none⟩ sLen sCap cs Tryd.underlying48 hsz hn (fun j v hv => by rw [Addr.add_mid]; exact hsrc j v hv) (fun j hj => (ht j hj).1) (fun j hj => (ht j hj).2) h1
  unfold Oper.wp
  simp [execOp, ho, resolve, invoke, builtin, hd, hs, hrun, Result.andThen]
  exact hK

theorem pend_cell {B : Nat} {w : World} {s : St} (h : DiskAt B w s) (h0 : 0 < s.pend.length) : ∃ g cap, s.pv = .slice (some ⟨g, 0, none⟩) s.pend.length cap ∧ s.pend.length ≤ cap ∧ ∀ k (hk : k < s.pend.length), w.cell? ⟨g, k, none⟩ = some (.int .i64 (s.pend[k] : Int)) := by
  have hp := h.p
  rw [nats_il] at hp
  obtain ⟨ao, cap, hv, hi, hc, _⟩ := own_ints hp
  obtain ⟨g, off, ha, _⟩ := hi 0 (by simpa using h0)
  have hz : off = 0 := by
    rcases hp.2 with ⟨e, _⟩ | ⟨g', cap', cur, e, _⟩
    · rw [hv, ha] at e; cases e
    · rw [hv, ha] at e
      injection e with e1 e2 e3
      injection e1 with e4
      injection e4
  subst hz
  subst ha
  refine ⟨g, cap, hv, hc, fun k hk => ?_⟩
  obtain ⟨g', off', ha', hcell⟩ := hi k (by simpa using hk)
  obtain ⟨rfl, rfl⟩ : g = g' ∧ 0 = off' := by simpa using ha'
  rw [Nat.zero_add] at hcell
  rw [hcell]
  simp

/-- of what is sure of a sector the first bytes become what it is now -/
def St.out (s : St) (i part : Nat) : St := { s with sure := upd s.sure i (fun j => if j < part then s.now i j else s.sure i j) }
def OutAt (B : Nat) (w : World) (s : St) (i part : Nat) (e : Ending) (w' : World) : Prop :=
  e = .returned (.tuple #[]) ∧ DiskAt B w' (s.out i part) ∧ Step w s w' (s.out i part)
set_option maxRecDepth 100000 in
theorem outlive_any {B : Nat} (s : St) (p : Nat) (q x : Int) (part : Nat) (w : World) (h : DiskAt B w s) (hp : p < s.pend.length) (hq : q = p) (hx : x = part) (hpart : part ≤ 512) :
    Calls Tryd.prog 65 #[.pointer (some ⟨s.D, 0, none⟩), .int .i64 q, .int .i64 x] w (OutAt B w s s.pend[p] part) := by
  subst hq hx
  obtain ⟨g, cap, hv, hcap, hcell⟩ := pend_cell h (by omega)
  have hpc := hcell p hp
  generalize hI : s.pend[p] = i at hpc ⊢
  have hmem : i ∈ s.pend := by rw [← hI]; exact List.getElem_mem hp
  have hlt := (h.ok.mem i).1 hmem
  have hin := h.ok.lim i hlt
  obtain ⟨T, hT⟩ : ∃ T, s.late i = some T := by
    cases e : s.late i with
    | none => exact absurd e hlt
    | some T => exact ⟨T, rfl⟩
  have r0 := h.d0
  have r1 := h.d1
  have r2 := h.cL i hin
  have c2 := h.d2
  rw [hv] at c2
  rw [hT] at r2
  change w.cell? _ = some (.pointer (some ⟨T, 0, none⟩)) at r2
  have o := h.ok
  have lt := o.lt i T hT
  have n1 := o.n1
  have hle := pend_le o
  have i0 : (0 : Int) ≤ (i : Int) := by omega
  have i1 : (i : Int) < (s.n : Int) := by omega
  have p0 : (0 : Int) ≤ (part : Int) := by omega
  have p1 : (part : Int) ≤ 512 := by omega
  have hps : (p : Int) < (s.pend.length : Int) := by omega
  have ps0 : (0 : Int) ≤ (p : Int) := by omega
  have CS := Lib.hid (show (bl ((rowOf (s.now i)).take part)).length = part by rw [bl_len, List.length_take, rowOf_len]; omega)
  have hr : w.drew.rangeAt T 0 (bl ((rowOf (s.now i)).take part)) := fun j v hv => by
    have hj : j < part := by have := (List.getElem?_eq_some_iff.1 hv).1; rwa [CS.out] at this
    have e := h.cT i T hT j (by omega)
    rw [Nat.zero_add]
    refine Eq.trans e ?_
    rw [← hv]
    simp [bl, rowOf, hj, show j < 512 by omega]
  have ht : w.drew.there s.S (i * 512) (bl ((rowOf (s.now i)).take part)).length := fun j hj => by
    rw [CS.out] at hj
    exact ⟨by show (w.cell? _).isSome = true; rw [h.cS i j hin (by omega)]; rfl, h.fS _⟩
  have H1 := Lib.hid (h.drew.setSure i hin (fun j => if j < part then s.now i j else s.sure i j) (fun j => by by_cases e : j < part; rw [if_pos e]; exact o.un i j; rw [if_neg e]; exact o.us i j) (bl ((rowOf (s.now i)).take part)) 0 (by rw [CS.out]; omega) (fun j hj => by
    rw [CS.out] at hj
    rw [Nat.zero_add, if_pos hj]
    simp [bl, rowOf, hj, show j < 512 by omega]) (fun j hj hq => by rw [CS.out] at hq; rw [if_neg (by omega)]))
  have S1 := Lib.hid ((Step.drew (Step.refl w s)).trans (Step.setCells (w := w.drew) (s := s) (s' := s.out i part) s.S (.inr (.inl rfl)) (i * 512) (bl ((rowOf (s.now i)).take part)) (fun k hk => .inl hk)))
  rw [Nat.add_zero] at H1
  have q0 : (w.drew.setCells s.S (i * 512) (bl ((rowOf (s.now i)).take part))).cell? ⟨s.D, 0, none⟩ = some (.slice (some ⟨s.S, 0, none⟩) s.n s.n) := (cell_of_block (setCells_heap s.S _ _ _ _ o.DS)).trans r0
  have q1 : (w.drew.setCells s.S (i * 512) (bl ((rowOf (s.now i)).take part))).cell? ⟨s.D, 1, none⟩ = some (.slice (some ⟨s.L, 0, none⟩) s.n s.n) := (cell_of_block (setCells_heap s.S _ _ _ _ o.DS)).trans r1
  have q2 : (w.drew.setCells s.S (i * 512) (bl ((rowOf (s.now i)).take part))).cell? ⟨s.L, i, none⟩ = some (.pointer (some ⟨T, 0, none⟩)) := (cell_of_block (setCells_heap s.S _ _ _ _ (Ne.symm o.SL))).trans r2
  have HCP := Lib.hid hcell
  have HI2 := Lib.hid hI
  have HV := Lib.hid hv
  clear h o hI hcell hv hmem hlt hin hT lt hle
  go_enter Tryd.func65, Tryd.ntmps65
  go_wp2
  go_region_held3 (fun w' => w'.cell? ⟨s.D, 0, none⟩ = some (.slice (some ⟨s.S, 0, none⟩) s.n s.n) ∧ w'.cell? ⟨s.D, 1, none⟩ = some (.slice (some ⟨s.L, 0, none⟩) s.n s.n) ∧ w'.cell? ⟨s.L, i, none⟩ = some (.pointer (some ⟨T, 0, none⟩))) (first | exact ⟨r0, r1, r2⟩ | exact ⟨q0, q1, q2⟩) (refine step_copy_cells rfl (.tmp 21) (.tmp 31) rfl s.S (i * 512) part 512 rfl T 0 part 512 rfl (bl ((rowOf (s.now i)).take part)) (by rw [CS.out]; simp) hr ht (bl_one _) ?_)
  go_wp2
  go_end0
  exact ⟨rfl, H1.out, S1.out⟩
end Go.Proofs.YtkmedlbokneegaaDoor

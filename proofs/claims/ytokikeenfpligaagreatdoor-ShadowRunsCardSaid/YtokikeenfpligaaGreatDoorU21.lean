/-
  THE WALK of (*Disk).Write. Conditions: a disk lies in memory; the bytes lie in memory, in no block of the disk's.
  THE WALKS of (*Disk).outlive, settle and Flush. Conditions: a disk lies in memory.
-/
import Derived.Deep.RegionHeld3
import Derived.Deep.DeepCutAuto
import Derived.Outline
import Derived.Laws.Cover3
import Derived.Deep.RegionLaw
import Derived.Test.YtokikeenfpligaaGreatDoorU20
namespace Go.Proofs.YtokikeenfpligaaGreatDoor
open Go.RowKit

set_option maxRecDepth 100000 in
theorem zero_s (w : World) : (zeroValue 136).run Tryz.prog w = .ok (.agg (Array.replicate 512 (.int .u8 0))) w := by
  obtain ⟨i, hi, hzz⟩ := Option.map_eq_some_iff.1 info_s
  simp only [Prod.mk.injEq] at hzz
  obtain ⟨hz, hs, hb⟩ := hzz
  simp [zeroValue, typeInfo, hi, hz]
set_option maxRecDepth 100000 in
theorem size_s (n : Nat) (h : n = 512) : (Tryz.prog.info? 136).map (·.size) = some n := by
  subst h
  kernel_rfl

/-- the sector behind the write is pending -/
def MarkedAt (B : Nat) (w : World) (s : St) (i : Nat) (wx : World) : Prop :=
  ∃ s2 T, DiskAt B wx s2 ∧ Step w s wx s2 ∧ s2.late i = some T ∧ ((s.late i = some T ∧ s2 = s) ∨ (s.late i = none ∧ ∃ v, s2 = s.mark i T v))

set_option maxRecDepth 100000 in
theorem ptr_eql (b : Option Nat) (W : World) : (binOp .eql 134 (ptr b) (.pointer none)).run Tryz.prog W = .ok (.bool b.isNone) W := by
  cases b <;> simp [ptr, go_sem]
set_option maxRecDepth 100000 in
theorem ptr_guard (x y : Operand) (b : Option Nat) (W : World) : (eqGuard .eql 134 x y (ptr b) (.pointer none)).run Tryz.prog W = .ok () W := by
  cases b <;> simp [ptr, go_sem]
theorem own_slice {w : World} {B : Nat} {e : TypeId} {size : Nat} {v : Value} {n : Nat} {xs : List Value} (h : w.ownsRow B e size v n xs) : ∃ ao cap, v = .slice ao n cap := by
  rcases h.2 with ⟨rfl, rfl⟩ | ⟨g, cap, cur, rfl, _⟩
  · exact ⟨_, _, rfl⟩
  · exact ⟨_, _, rfl⟩
/-- what a write makes of a disk -/
structure Wrote (s : St) (i : Nat) (f : Nat → Int) (s' : St) : Prop where
  n : s'.n = s.n
  D : s'.D = s.D
  sure : s'.sure = s.sure
  now : ∀ j, s'.now i j = f j
  nowo : ∀ k, k ≠ i → s'.now k = s.now k
  late : s'.late i ≠ none
  lateo : ∀ k, k ≠ i → s'.late k = s.late k
  pend : s'.pend = if s.late i = none then s.pend ++ [i] else s.pend
  writes : s'.writes = s.writes + 1
  left : s'.left = if 0 < s.left then s.left - 1 else s.left
def WroteAt (B : Nat) (w : World) (s : St) (i : Nat) (xs : List Int) (e : Ending) (w' : World) : Prop :=
  e = .returned .nilIface ∧ ∃ s', DiskAt B w' s' ∧ Step w s w' s' ∧ Wrote s i (fun j => xs.getD j 0) s'

theorem DiskAt.drew {B : Nat} {w : World} {s : St} (h : DiskAt B w s) : DiskAt B w.drew s := h.same (Nat.le_refl _) fun _ _ => rfl
theorem Step.drew {w w' : World} {s s' : St} (h : Step w s w' s') : Step w s w'.drew s' := ⟨h.os, h.tape, h.output, h.size, h.block, h.own⟩
theorem getD_byte {xs : List Int} (h : ∀ i (h : i < xs.length), 0 ≤ xs[i] ∧ xs[i] < 256) (i : Nat) : 0 ≤ xs.getD i 0 ∧ xs.getD i 0 < 256 := by
  by_cases hi : i < xs.length
  · have := h i hi
    simpa [List.getD_eq_getElem?_getD, hi] using this
  · simp [List.getD_eq_getElem?_getD, hi]
/-- what the write has made, put together -/
theorem wrote_of {s s2 : St} {i T : Nat} (f : Nat → Int) (x : Int) (hT : s2.late i = some T) (hcase : (s.late i = some T ∧ s2 = s) ∨ (s.late i = none ∧ ∃ v, s2 = s.mark i T v)) (hx : x = if 0 < s.left then s.left - 1 else s.left) :
    Wrote s i f { s2 with now := upd s2.now i f, left := x, writes := s.writes + 1 } := by
  rcases hcase with ⟨hl, rfl⟩ | ⟨hl, v, rfl⟩
  · refine ⟨rfl, rfl, rfl, fun j => by simp [upd], fun k hk => by funext j; simp [upd, hk], by show s2.late i ≠ none; rw [hT]; simp, fun k hk => rfl, ?_, rfl, hx⟩
    rw [if_neg (by rw [hl]; simp)]
  · refine ⟨rfl, rfl, rfl, fun j => by simp [upd], fun k hk => by funext j; simp [upd, St.mark, hk], by show (s.mark i T v).late i ≠ none; rw [hT]; simp, fun k hk => by simp [St.mark, hk], ?_, rfl, hx⟩
    rw [if_pos hl]
    rfl
set_option maxRecDepth 100000 in
theorem arr_at (a : Addr) (c : Nat) (W : World) : (Instr.arrayAt 136 (.slice (some a) 512 c)).run Tryz.prog W = .ok (.pointer (some a)) W := run_arrayAt _ _ _ _ _ _ _ Tryz.underlying136 (Nat.le_refl _)
set_option maxRecDepth 100000 in
theorem write_any {B : Nat} (s : St) (i : Nat) (w : World) (b off c : Nat) (xs : List Int) (h : DiskAt B w s) (hi : i < s.n) (hx : Lies w (some ⟨b, off, none⟩) xs) (hnb : ¬ s.has b) (hn : xs.length = 512) (hl : s.left ≠ 0) (w0 : 0 ≤ s.writes) (w1 : s.writes < 4611686018427387904) :
    Calls Tryz.prog 124 #[.pointer (some ⟨s.D, 0, none⟩), .int .i64 i, .slice (some ⟨b, off, none⟩) 512 c] w (WroteAt B w s i xs) := by
  have c1 := h.d1
  have c2 := h.d2
  have c4 := h.d4
  have hz := zero_s
  have cl := h.cL i hi
  have fl := h.fL i
  have hq := ptr_eql (s.late i)
  have hqg := fun x y => ptr_guard x y (s.late i)
  have ld := (h.lt s.D (.inl rfl)).2
  have lL := h.dL
  have HH := Lib.hid h
  have i0 : (0 : Int) ≤ (i : Int) := by omega
  have n1 := h.ok.n1
  have hleft : (s.left == 0) = false := by simpa using hl
  have lo := h.ok.l0
  have hi2 := h.ok.l1
  have nDL := h.ok.DL
  have nLD := Ne.symm h.ok.DL
  have HX := Lib.hid hx
  have HN := Lib.hid hn
  clear h hx hn hl
  go_enter Tryz.func124, Tryz.ntmps124
  go_upto_if 36 with (first | (go_at_call 69; refine (has_yes s i _ HH.out hi).mono ?_; rintro e w' ⟨rfl, rfl⟩))
  go_cut [] (fun wx => MarkedAt B w s i wx)
  case first =>
    cases hlt : s.late i with
    | some T =>
      go_wp2
      go_meet
      case rel => exact ⟨s, T, HH.out, Step.refl _ _, hlt, .inl ⟨hlt, rfl⟩⟩
    | none =>
      have HO := Lib.hid (own_markW HH.out i)
      have HS := Lib.hid (markW_size w s i)
      have HB := Lib.hid (Nat.le_trans HH.out.ok.bS (Nat.le_of_lt HH.out.dS))
      have HP := Lib.hid (pend_le HH.out.ok)
      have HLT := Lib.hid hlt
      rw [hlt] at cl hq hqg
      clear hlt
      go_wp2_with (at_builtin; refine wpList_push rfl (.tmp 48) (.tmp 50) rfl B s.pend.length s.pv (nats s.pend) rfl HO.out (w.heap.size + 1) 0 i rfl ?q1 (by have := HP.out; omega) (by have := HB.out; simp; omega) ?_)
      case q1 => go_simp
      intro v2 w2 hown hg hv
      have k := cell_of_block (o := 2) ((hg.block s.D (by have := HS.out; show _ < (markW w s i).heap.size; omega) (fun e => HH.out.ok.pD e.symm)).trans (markW_old w s i s.D ld nDL))
      have f := frozen_of_block (o := 2) ((hg.block s.D (by have := HS.out; show _ < (markW w s i).heap.size; omega) (fun e => HH.out.ok.pD e.symm)).trans (markW_old w s i s.D ld nDL))
      rw [c2] at k
      rw [HH.out.fD 2] at f
      have HR := Lib.hid (HH.out.mark i hi HLT.out v2 hown hg (by have := HS.out; intro q hq; rcases hv q hq with e | e; exact .inl e; exact .inr (by omega)))
      obtain ⟨ao2, cap2, rfl⟩ := own_slice hown
      clear hown hg hv
      go_wp2
      go_meet
      case rel => exact ⟨_, w.heap.size, HR.out.1, HR.out.2, by simp [St.mark], .inr ⟨HLT.out, _, rfl⟩⟩
  case rest =>
    obtain ⟨s2, T, hd, hst, hT, hcase⟩ := hcut
    obtain ⟨eD, eS, eL, en, el, ew, es⟩ : s2.D = s.D ∧ s2.S = s.S ∧ s2.L = s.L ∧ s2.n = s.n ∧ s2.left = s.left ∧ s2.writes = s.writes ∧ s2.sure = s.sure := by
      rcases hcase with ⟨_, rfl⟩ | ⟨_, v, rfl⟩ <;> exact ⟨rfl, rfl, rfl, rfl, rfl, rfl, rfl⟩
    have hbw : b < w.heap.size := World.block_lt_of_cell? w _ (HX.out.cell (k := 0) (by rw [HN.out]; omega))
    have hbb : wc.heap[b]? = w.heap[b]? := hst.block b hbw hnb
    have hbT : b ≠ T := by
      intro e
      rcases hst.own T (.inr (.inr (.inr (.inr ⟨i, hT⟩)))) with e2 | e2
      · exact hnb (e ▸ e2)
      · omega
    have r3 : wc.rangeAt b off (bl xs) := fun j v hv => by rw [cell_of_block hbb]; exact bl_lies HX.out j v hv
    have r4 : wc.there T 0 512 := fun j hj => ⟨by rw [Nat.zero_add, hd.cT i T hT j hj]; rfl, hd.fT i T hT _⟩
    have lt := hd.ok.lt i T hT
    have r1 := hd.d1
    have r2 := hd.cL i (by omega)
    rw [eD, eL, en] at r1
    rw [eL, hT] at r2
    change wc.cell? _ = some (.pointer (some ⟨T, 0, none⟩)) at r2
    have q1 : (wc.drew.setCells T 0 (bl xs)).cell? ⟨s.D, 1, none⟩ = some (.slice (some ⟨s.L, 0, none⟩) s.n s.n) := (cell_of_block (setCells_heap T _ _ _ _ (by rw [← eD]; exact Ne.symm lt.2.1))).trans r1
    have q2 : (wc.drew.setCells T 0 (bl xs)).cell? ⟨s.L, i, none⟩ = some (.pointer (some ⟨T, 0, none⟩)) := (cell_of_block (setCells_heap T _ _ _ _ (by rw [← eL]; exact Ne.symm lt.2.2.2.1))).trans r2
    have q3 : (wc.drew.setCells T 0 (bl xs)).rangeAt b off (bl xs) := fun j v hv => (cell_of_block (setCells_heap T _ _ _ _ hbT)).trans (r3 j v hv)
    have q4 : (wc.drew.setCells T 0 (bl xs)).there T 0 512 := World.there_setCells (w := wc.drew) r4 T 0 (bl xs)
    have hlen : (bl xs).length = 512 := by rw [bl_len, HN.out]
    have hu := Tryz.underlying136
    have hi3 := size_s (bl xs).length hlen
    have h1c := bl_one xs
    have hat := arr_at ⟨b, off, none⟩ c
    have H3 := Lib.hid (hd.drew.setNow i T hT (fun j => xs.getD j 0) (getD_byte HX.out.byte) (bl xs) 0 (by omega) (fun j hj => by rw [Nat.zero_add]; rw [bl_len] at hj; simp [bl, hj]) (fun j hj hq => by omega))
    have S3 := Lib.hid (hst.trans (Step.drew (Step.refl _ _)) |>.trans (Step.setCells (w := wc.drew) (s := s2) (s' := { s2 with now := upd s2.now i (fun j => xs.getD j 0) }) T (.inr (.inr (.inr (.inr ⟨i, hT⟩)))) 0 (bl xs) (fun k hk => .inl hk)))
    go_wp2
    go_region_held3 (fun w' => w'.cell? ⟨s.D, 1, none⟩ = some (.slice (some ⟨s.L, 0, none⟩) s.n s.n) ∧ w'.cell? ⟨s.L, i, none⟩ = some (.pointer (some ⟨T, 0, none⟩)) ∧ w'.rangeAt b off (bl xs) ∧ w'.there T 0 512) (first | exact ⟨r1, r2, r3, r4⟩ | exact ⟨q1, q2, q3, q4⟩) (fail)
    generalize wc.drew.setCells T 0 (bl xs) = w3 at H3 S3 ⊢
    have k4 := H3.out.d4
    change w3.cell? ⟨s2.D, 4, none⟩ = some (.int .i64 s2.left) at k4
    rw [eD, el] at k4
    have f4 := H3.out.fD 4
    change w3.frozen? ⟨s2.D, 4, none⟩ = false at f4
    rw [eD] at f4
    have HC := Lib.hid hcase
    have HT := Lib.hid hT
    have HE := Lib.hid (show s2.D = s.D ∧ s2.n = s.n ∧ s2.left = s.left ∧ s2.writes = s.writes ∧ s2.sure = s.sure from ⟨eD, en, el, ew, es⟩)
    clear q1 q2 q3 q4 r1 r2 r3 r4 hat hi3 hu h1c hlen hcase hT hd hst lt hbT hbb c1 c2 c4 cl fl hq hqg hz eS eL es
    by_cases hpos : 0 < s.left
    · have H4 := Lib.hid (H3.out.setLeft (s.left - 1) (by omega) (by omega))
      have e1 : (w3.setCell ⟨s.D, 4, none⟩ (.int .i64 (s.left - 1))).cell? ⟨s.D, 3, none⟩ = some (.int .i64 s.writes) := by
        have := H4.out.d3
        change (w3.setCell ⟨s2.D, 4, none⟩ (.int .i64 (s.left - 1))).cell? ⟨s2.D, 3, none⟩ = some (.int .i64 s2.writes) at this
        rwa [eD, ew] at this
      have e2 : (w3.setCell ⟨s.D, 4, none⟩ (.int .i64 (s.left - 1))).frozen? ⟨s.D, 3, none⟩ = false := by
        have := H4.out.fD 3
        change (w3.setCell ⟨s2.D, 4, none⟩ (.int .i64 (s.left - 1))).frozen? ⟨s2.D, 3, none⟩ = false at this
        rwa [eD] at this
      have HA := Lib.hid (add_any s.D s.writes _ e1 e2 w0 w1)
      clear e1 e2 eD el ew en
      go_wp2_with (go_at_call 144; refine HA.out.mono ?_; rintro e w' ⟨rfl, rfl⟩)
      go_ret
      rw [← HE.out.1]
      exact ⟨rfl, _, H4.out.setWrites (s.writes + 1), (S3.out.trans (Step.setD (s' := { s2 with now := upd s2.now i (fun j => xs.getD j 0), left := s.left - 1 }) 4 _ (fun k hk => .inl hk))).trans (Step.setD 3 _ (fun k hk => .inl hk)), wrote_of _ _ HT.out HC.out (by rw [if_pos hpos])⟩
    · have e1 : w3.cell? ⟨s.D, 3, none⟩ = some (.int .i64 s.writes) := by
        have := H3.out.d3
        change w3.cell? ⟨s2.D, 3, none⟩ = some (.int .i64 s2.writes) at this
        rwa [eD, ew] at this
      have e2 : w3.frozen? ⟨s.D, 3, none⟩ = false := by
        have := H3.out.fD 3
        change w3.frozen? ⟨s2.D, 3, none⟩ = false at this
        rwa [eD] at this
      have HA := Lib.hid (add_any s.D s.writes _ e1 e2 w0 w1)
      clear e1 e2 eD el ew en
      go_wp2_with (go_at_call 144; refine HA.out.mono ?_; rintro e w' ⟨rfl, rfl⟩)
      go_ret
      rw [← HE.out.1]
      refine ⟨rfl, _, H3.out.setWrites (s.writes + 1), S3.out.trans (Step.setD 3 _ (fun k hk => .inl hk)), ?_⟩
      have := wrote_of (fun j => xs.getD j 0) s2.left HT.out HC.out (by rw [if_neg (by omega), HE.out.2.2.1])
      exact this

set_option maxRecDepth 100000 in
theorem write_range {B : Nat} (s : St) (i : Int) (w : World) (v : Value) (h : DiskAt B w s) (hi : i < 0 ∨ (s.n : Int) ≤ i) :
    Calls Tryz.prog 124 #[.pointer (some ⟨s.D, 0, none⟩), .int .i64 i, v] w fun e w' => e = .returned (.iface 78 (.int .i64 4)) ∧ w = w' := by
  have HH := Lib.hid h
  have HI := Lib.hid hi
  clear h hi
  go_enter Tryz.func124, Tryz.ntmps124
  go_wp2_with (go_at_call 69; refine (has_no s i _ HH.out HI.out).mono ?_; rintro e w' ⟨rfl, rfl⟩)
  go_ret
  exact ⟨rfl, rfl⟩
set_option maxRecDepth 100000 in
theorem write_long {B : Nat} (s : St) (i : Nat) (w : World) (a : Option Addr) (n c : Nat) (h : DiskAt B w s) (hi : i < s.n) (hn : n ≠ 512) :
    Calls Tryz.prog 124 #[.pointer (some ⟨s.D, 0, none⟩), .int .i64 i, .slice a n c] w fun e w' => e = .returned (.iface 78 (.int .i64 2)) ∧ w = w' := by
  have HH := Lib.hid h
  have hne : ((n : Int) == 512) = false := by simp; omega
  have hne2 : ((n : Int) != 512) = true := by simp; omega
  clear h
  go_enter Tryz.func124, Tryz.ntmps124
  go_wp2_with (go_at_call 69; refine (has_yes s i _ HH.out hi).mono ?_; rintro e w' ⟨rfl, rfl⟩)
  go_ret
  exact ⟨rfl, rfl⟩
set_option maxRecDepth 100000 in
theorem write_full {B : Nat} (s : St) (i : Nat) (w : World) (a : Option Addr) (c : Nat) (h : DiskAt B w s) (hi : i < s.n) (hl : s.left = 0) :
    Calls Tryz.prog 124 #[.pointer (some ⟨s.D, 0, none⟩), .int .i64 i, .slice a 512 c] w fun e w' => e = .returned (.iface 78 (.int .i64 5)) ∧ w = w' := by
  have c4 := h.d4
  rw [hl] at c4
  have HH := Lib.hid h
  clear h hl
  go_enter Tryz.func124, Tryz.ntmps124
  go_wp2_with (go_at_call 69; refine (has_yes s i _ HH.out hi).mono ?_; rintro e w' ⟨rfl, rfl⟩)
  go_ret
  exact ⟨rfl, rfl⟩
end Go.Proofs.YtokikeenfpligaaGreatDoor
namespace Go.Proofs.YtokikeenfpligaaGreatDoor
open Go.RowKit

set_option maxRecDepth 100000 in
theorem step_copy_cells {ops : Array Oper} {o : Oper} {a : Act} {w : World} {K : Act → World → Prop} {Q : Exit → Act → World → Prop} {E : Prop} (hgd : o.guard = none) (d s : Operand)
    (ho : o.op = .call { callee := .builtin .copy, args := #[d, s], argTypes := #[72, 72] })
    (b off dLen dCap : Nat) (hd : a.eval d = .slice (some ⟨b, off, none⟩) dLen dCap) (b2 off2 sLen sCap : Nat) (hs : a.eval s = .slice (some ⟨b2, off2, none⟩) sLen sCap)
    (cs : List Value) (hn : cs.length = Nat.min sLen dLen) (hsrc : w.rangeAt b2 off2 cs) (ht : w.there b off cs.length) (h1 : ∀ v ∈ cs, v.oneCell' = true)
    (hK : K (a.put o.dst (goInt cs.length)) (w.setCells b off cs)) : if Region.wanted o (yielded ops a.tmps) = true then Oper.wp Tryz.prog o a w K Q else E := by
  have hw : Region.wanted o (yielded ops a.tmps) = true := by simp [Region.wanted, hgd]
  rw [if_pos hw]
  have hsz : (Tryz.prog.info? 5).map (·.size) = some 1 := by kernel_rfl
  have hrun := run_copy_cells (P := Tryz.prog) w 72 72 o.type 5 b off dLen dCap ⟨b2, off2, none⟩ sLen sCap cs Tryz.underlying72 hsz hn (fun j v hv => by rw [Addr.add_mid]; exact hsrc j v hv) (fun j hj => (ht j hj).1) (fun j hj => (ht j hj).2) h1
  unfold Oper.wp
  simp [execOp, ho, resolve, invoke, builtin, hd, hs, hrun, Result.andThen]
  exact hK

theorem pend_cell {B : Nat} {w : World} {s : St} (h : DiskAt B w s) (h0 : 0 < s.pend.length) : ∃ g cap, s.pv = .slice (some ⟨g, 0, none⟩) s.pend.length cap ∧ s.pend.length ≤ cap ∧ ∀ k (hk : k < s.pend.length), w.cell? ⟨g, k, none⟩ = some (.int .i64 (s.pend[k] : Int)) := by
  have hp := h.p
  rw [nats_il] at hp
  obtain ⟨ao, cap, hv, hi, hc, _⟩ := own_ints hp
  obtain ⟨g, off, ha, _⟩ := hi 0 (by simpa using h0)
  have hz : off = 0 := by
    rcases hp.2 with ⟨e, _⟩ | ⟨g', cap', cur, e, _⟩
    · rw [hv, ha] at e; cases e
    · rw [hv, ha] at e
      injection e with e1 e2 e3
      injection e1 with e4
      injection e4
  subst hz
  subst ha
  refine ⟨g, cap, hv, hc, fun k hk => ?_⟩
  obtain ⟨g', off', ha', hcell⟩ := hi k (by simpa using hk)
  obtain ⟨rfl, rfl⟩ : g = g' ∧ 0 = off' := by simpa using ha'
  rw [Nat.zero_add] at hcell
  rw [hcell]
  simp

/-- of what is sure of a sector the first bytes become what it is now -/
def St.out (s : St) (i part : Nat) : St := { s with sure := upd s.sure i (fun j => if j < part then s.now i j else s.sure i j) }
def OutAt (B : Nat) (w : World) (s : St) (i part : Nat) (e : Ending) (w' : World) : Prop :=
  e = .returned (.tuple #[]) ∧ DiskAt B w' (s.out i part) ∧ Step w s w' (s.out i part)
set_option maxRecDepth 100000 in
theorem outlive_any {B : Nat} (s : St) (p : Nat) (q x : Int) (part : Nat) (w : World) (h : DiskAt B w s) (hp : p < s.pend.length) (hq : q = p) (hx : x = part) (hpart : part ≤ 512) :
    Calls Tryz.prog 66 #[.pointer (some ⟨s.D, 0, none⟩), .int .i64 q, .int .i64 x] w (OutAt B w s s.pend[p] part) := by
  subst hq hx
  obtain ⟨g, cap, hv, hcap, hcell⟩ := pend_cell h (by omega)
  have hpc := hcell p hp
  generalize hI : s.pend[p] = i at hpc ⊢
  have hmem : i ∈ s.pend := by rw [← hI]; exact List.getElem_mem hp
  have hlt := (h.ok.mem i).1 hmem
  have hin := h.ok.lim i hlt
  obtain ⟨T, hT⟩ : ∃ T, s.late i = some T := by
    cases e : s.late i with
    | none => exact absurd e hlt
    | some T => exact ⟨T, rfl⟩
  have r0 := h.d0
  have r1 := h.d1
  have r2 := h.cL i hin
  have c2 := h.d2
  rw [hv] at c2
  rw [hT] at r2
  change w.cell? _ = some (.pointer (some ⟨T, 0, none⟩)) at r2
  have o := h.ok
  have lt := o.lt i T hT
  have n1 := o.n1
  have hle := pend_le o
  have i0 : (0 : Int) ≤ (i : Int) := by omega
  have i1 : (i : Int) < (s.n : Int) := by omega
  have p0 : (0 : Int) ≤ (part : Int) := by omega
  have p1 : (part : Int) ≤ 512 := by omega
  have hps : (p : Int) < (s.pend.length : Int) := by omega
  have ps0 : (0 : Int) ≤ (p : Int) := by omega
  have CS := Lib.hid (show (bl ((rowOf (s.now i)).take part)).length = part by rw [bl_len, List.length_take, rowOf_len]; omega)
  have hr : w.drew.rangeAt T 0 (bl ((rowOf (s.now i)).take part)) := fun j v hv => by
    have hj : j < part := by have := (List.getElem?_eq_some_iff.1 hv).1; rwa [CS.out] at this
    have e := h.cT i T hT j (by omega)
    rw [Nat.zero_add]
    refine Eq.trans e ?_
    rw [← hv]
    simp [bl, rowOf, hj, show j < 512 by omega]
  have ht : w.drew.there s.S (i * 512) (bl ((rowOf (s.now i)).take part)).length := fun j hj => by
    rw [CS.out] at hj
    exact ⟨by show (w.cell? _).isSome = true; rw [h.cS i j hin (by omega)]; rfl, h.fS _⟩
  have H1 := Lib.hid (h.drew.setSure i hin (fun j => if j < part then s.now i j else s.sure i j) (fun j => by by_cases e : j < part; rw [if_pos e]; exact o.un i j; rw [if_neg e]; exact o.us i j) (bl ((rowOf (s.now i)).take part)) 0 (by rw [CS.out]; omega) (fun j hj => by
    rw [CS.out] at hj
    rw [Nat.zero_add, if_pos hj]
    simp [bl, rowOf, hj, show j < 512 by omega]) (fun j hj hq => by rw [CS.out] at hq; rw [if_neg (by omega)]))
  have S1 := Lib.hid ((Step.drew (Step.refl w s)).trans (Step.setCells (w := w.drew) (s := s) (s' := s.out i part) s.S (.inr (.inl rfl)) (i * 512) (bl ((rowOf (s.now i)).take part)) (fun k hk => .inl hk)))
  rw [Nat.add_zero] at H1
  have q0 : (w.drew.setCells s.S (i * 512) (bl ((rowOf (s.now i)).take part))).cell? ⟨s.D, 0, none⟩ = some (.slice (some ⟨s.S, 0, none⟩) s.n s.n) := (cell_of_block (setCells_heap s.S _ _ _ _ o.DS)).trans r0
  have q1 : (w.drew.setCells s.S (i * 512) (bl ((rowOf (s.now i)).take part))).cell? ⟨s.D, 1, none⟩ = some (.slice (some ⟨s.L, 0, none⟩) s.n s.n) := (cell_of_block (setCells_heap s.S _ _ _ _ o.DS)).trans r1
  have q2 : (w.drew.setCells s.S (i * 512) (bl ((rowOf (s.now i)).take part))).cell? ⟨s.L, i, none⟩ = some (.pointer (some ⟨T, 0, none⟩)) := (cell_of_block (setCells_heap s.S _ _ _ _ (Ne.symm o.SL))).trans r2
  have HCP := Lib.hid hcell
  have HI2 := Lib.hid hI
  have HV := Lib.hid hv
  clear h o hI hcell hv hmem hlt hin hT lt hle
  go_enter Tryz.func66, Tryz.ntmps66
  go_wp2
  go_region_held3 (fun w' => w'.cell? ⟨s.D, 0, none⟩ = some (.slice (some ⟨s.S, 0, none⟩) s.n s.n) ∧ w'.cell? ⟨s.D, 1, none⟩ = some (.slice (some ⟨s.L, 0, none⟩) s.n s.n) ∧ w'.cell? ⟨s.L, i, none⟩ = some (.pointer (some ⟨T, 0, none⟩))) (first | exact ⟨r0, r1, r2⟩ | exact ⟨q0, q1, q2⟩) (refine step_copy_cells rfl (.tmp 21) (.tmp 31) rfl s.S (i * 512) part 512 rfl T 0 part 512 rfl (bl ((rowOf (s.now i)).take part)) (by rw [CS.out]; simp) hr ht (bl_one _) ?_)
  go_wp2
  go_end0
  exact ⟨rfl, H1.out, S1.out⟩
end Go.Proofs.YtokikeenfpligaaGreatDoor

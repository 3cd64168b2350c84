/-
  THE WALK of tile.fatesBy. No condition but those that each names.
-/
import Derived.Laws.ResultCell
import Derived.Laws.Rows
import Derived.Laws.Tables
import Derived.Test.YtlejohclijjhnaaGreatDoorL20
namespace Go.Proofs.YtlejohclijjhnaaGreatDoor
open Go.RowKit Ti Ru

theorem pick_nx (b l : Nat) (c : Bool) (n : Nat) : pick b l c n = nx b l c n := rfl
theorem frow_one (F : Nat → R3) (n : Nat) : (frow F n).all (·.oneCell') = true := by
  simp [frow, Value.oneCell']
set_option maxRecDepth 100000 in
theorem info_f (F : Nat → R3) : (Tryz.prog.info? 182).map (·.size) = some (frow F 18).size := by
  rw [frow_size]; kernel_rfl
theorem frow_18 : (#[.int .u32 0, .int .u32 0, .int .u32 0, .int .u32 0, .int .u32 0, .int .u32 0, .int .u32 0, .int .u32 0, .int .u32 0, .int .u32 0, .int .u32 0, .int .u32 0, .int .u32 0, .int .u32 0, .int .u32 0, .int .u32 0, .int .u32 0, .int .u32 0] : Array Value) = frow (fun _ => 0#32) 18 := rfl
/-- a call ends with an array in a block, and one more result -/
theorem post_row2 {P : Program} {fn : Func} {R : Ending → World → Prop} {a : Act} {w : World} {p u : Tmp} {ty : TypeId} (h : fn.results = #[.cell p ty, .tmp u]) (g : Nat) (t : TypeId) (cs : Array Value) (fr : Nat × Nat) (d : TypeDesc)
    (hu : P.underlying ty = some d) (hd : (match d with | .struct _ | .array _ _ => true | _ => false) = true) (hi : (P.info? ty).map (·.size) = some cs.size)
    (hp : a.tmps.getD p undef = .pointer (some ⟨g, 0, none⟩)) (hg : w.heap[g]? = some (.cells cs t fr)) (v : Value) (hv : a.tmps.getD u undef = v) (hdf : a.defers = []) (hR : R (.returned (.tuple #[.agg cs, v])) w) : bodyPost P fn R .ret a w := by
  refine bodyPost_ret (v := .tuple #[.agg cs, v]) ?_ hdf hR
  have hp' : a.tmps[p]?.getD undef = .pointer (some ⟨g, 0, none⟩) := by simpa using hp
  have hv' : a.tmps[u]?.getD undef = v := by simpa using hv
  simp [results, h, hp', hv', asAddr, run_loadVar_row w g t ty cs fr d hg hu hd hi]
theorem below_setRow {B : Nat} {a w : World} (h : Below B a w) (b : Nat) (hb : B ≤ b) (cs : Array Value) : Below B a (w.setRow b cs) :=
  ⟨h.os, h.tape, h.output, by simpa using h.size, fun k hk => (setRow_other w b k cs (by omega)).trans (h.block k hk)⟩
/-- the fates that are told so far -/
def parT (b l n : Nat) : Nat → R3 := fun j => if j < 2 * n then fatF b l j else 0#32
theorem parT_0 (b l : Nat) : parT b l 0 = fun _ => 0#32 := funext fun j => by simp [parT]
theorem parT_9 (b l : Nat) : frow (parT b l 9) 18 = frow (fatF b l) 18 := by
  apply Array.ext_getElem?
  intro i
  by_cases h : i < 18
  · rw [frow_get _ _ _ h, frow_get _ _ _ h]; simp [parT, h]
  · simp [frow, h]
theorem parT_up (b l n : Nat) : upd (upd (parT b l n) (n * 2) (wh (hs l n))) (n * 2 + 1) (wh (hs b n)) = parT b l (n + 1) := by
  funext j
  unfold upd parT
  by_cases e : j = n * 2 + 1
  · rw [if_pos e, if_pos (by omega), e, fat_born]
  · rw [if_neg e]
    by_cases e2 : j = n * 2
    · rw [if_pos e2, if_pos (by omega), e2, fat_live]
    · rw [if_neg e2]
      by_cases q : j < 2 * n
      · rw [if_pos q, if_pos (by omega)]
      · rw [if_neg q, if_neg (by omega)]
/-- what lies behind fatesBy's start: the rule, the answer, the fates -/
structure Three (b l n : Nat) (w ws : World) : Prop where
  rule : ws.heap[w.heap.size]? = some (.cells #[.int .u16 b, .int .u16 l] 44)
  res : ws.heap[w.heap.size + 1]? = some (.cells (frow (fun _ => 0#32) 18) 182)
  fat : ws.heap[w.heap.size + 2]? = some (.cells (frow (parT b l n) 18) 182)
  below : Below w.heap.size w ws
theorem three_new (b l : Nat) (w : World) : Three b l 0 w (((w.alloc (.cells #[.int .u16 b, .int .u16 l] 44)).alloc (.cells (frow (fun _ => 0#32) 18) 182)).alloc (.cells (frow (fun _ => 0#32) 18) 182)) := by
  have h1 := alX w (.cells #[.int .u16 b, .int .u16 l] 44)
  have k1 := heap_alloc_new w (.cells #[.int .u16 b, .int .u16 l] 44)
  have z1 : (w.alloc (.cells #[.int .u16 b, .int .u16 l] 44)).heap.size = w.heap.size + 1 := by simp
  generalize w.alloc (.cells #[.int .u16 b, .int .u16 l] 44) = w1 at *
  have h2 := alX w1 (.cells (frow (fun _ => 0#32) 18) 182)
  have k2 := heap_alloc_new w1 (.cells (frow (fun _ => 0#32) 18) 182)
  have z2 : (w1.alloc (.cells (frow (fun _ => 0#32) 18) 182)).heap.size = w1.heap.size + 1 := by simp
  generalize w1.alloc (.cells (frow (fun _ => 0#32) 18) 182) = w2 at *
  have h3 := alX w2 (.cells (frow (fun _ => 0#32) 18) 182)
  have k3 := heap_alloc_new w2 (.cells (frow (fun _ => 0#32) 18) 182)
  generalize w2.alloc (.cells (frow (fun _ => 0#32) 18) 182) = w3 at *
  refine ⟨?_, ?_, ?_, ?_⟩
  · exact (h3.block _ (by omega)).trans ((h2.block _ (by omega)).trans k1)
  · rw [← z1]; exact (h3.block _ (by omega)).trans k2
  · rw [parT_0, show w.heap.size + 2 = w2.heap.size by omega]; exact k3
  · exact h1.trans ((h2.mono (by omega)).trans (h3.mono (by omega)))
theorem Three.on {b l n : Nat} {w ws w1 : World} (h : Three b l n w ws) (k : Below ws.heap.size ws w1) : Three b l n w w1 :=
  ⟨(k.block _ (lt_of_block h.rule)).trans h.rule, (k.block _ (lt_of_block h.res)).trans h.res, (k.block _ (lt_of_block h.fat)).trans h.fat, h.below.trans (k.mono h.below.size)⟩
set_option maxRecDepth 100000 in
theorem fates_bad (b l : Nat) (hb : b < 65536) (hl : l < 65536) (h : mayR b l = false) (w : World) :
    Calls Tryz.prog 85 #[Rv b l] w fun e w' => e = .returned (.tuple #[.agg (frow (fun _ => 0#32) 18), .iface 63 (.int .i64 11)]) ∧ Below w.heap.size w w' := by
  have HN := Lib.hid (fun w => next_may b l true 0 hb hl h w)
  have HT := Lib.hid (three_new b l w)
  unfold Rv at HN ⊢
  clear hb hl h
  go_enter Tryz.func85, Tryz.ntmps85
  go_wp2
  rw [frow_18]
  generalize hws : (((w.alloc (.cells #[.int .u16 b, .int .u16 l] 44)).alloc (.cells (frow (fun _ => 0#32) 18) 182)).alloc (.cells (frow (fun _ => 0#32) 18) 182)) = ws0 at HT ⊢
  clear hws
  go_loopw [9] (fun i ws => i = .int .i64 0 ∧ Hid (Three b l 0 w ws)) (fun _ _ => 0)
  case atStart => exact ⟨rfl, HT⟩
  case round =>
    obtain ⟨rfl, HR⟩ := hrel
    have c0 := cell_of_row _ _ 0 _ _ _ HR.out.rule
    have c1 := cell_of_row _ _ 1 _ _ _ HR.out.rule
    go_wp2_with (first | (go_at_call 92; with_reducible refine (HN.out _).mono ?_; rintro e w1 ⟨rfl, hb1⟩; have HR1 := Lib.hid (HR.out.on hb1); clear hb1) | (refine wpList_store_row rfl 182 (.tmp 2) (.tmp 20) rfl (w.heap.size + 1) (frow (fun _ => 0#32) 18) rfl (congrArg Value.agg frow_18) 182 _ HR1.out.res (info_f _) rfl (frow_one _ _) ?_))
    refine post_row2 Tryz.results85 (w.heap.size + 1) 182 (frow (fun _ => 0#32) 18) (0, 0) _ Tryz.underlying182 rfl (info_f _) rfl (setRow_heap _ _ _ _ _ _ HR1.out.res) _ rfl rfl ⟨rfl, below_setRow HR1.out.below _ (by omega) _⟩
/-- the fates in a block of their own, and both others -/
theorem Three.live {b l n : Nat} {w ws : World} (h : Three b l n w ws) (_hn : n < 9) : ∀ x y : R3, x = wh (hs l n) → y = wh (hs b n) →
    Three b l (n + 1) w ((ws.setCell ⟨w.heap.size + 2, n * 2, none⟩ (.int .u32 (r3 x))).setCell ⟨w.heap.size + 2, n * 2 + 1, none⟩ (.int .u32 (r3 y))) := by
  rintro x y rfl rfl
  have o1 : ∀ k, ¬ k = w.heap.size + 2 → ((ws.setCell ⟨w.heap.size + 2, n * 2, none⟩ (.int .u32 (r3 (wh (hs l n))))).setCell ⟨w.heap.size + 2, n * 2 + 1, none⟩ (.int .u32 (r3 (wh (hs b n))))).heap[k]? = ws.heap[k]? := fun k hk => by
    rw [heap_setCell_other _ _ _ _ (by simpa using hk), heap_setCell_other _ _ _ _ (by simpa using hk)]
  refine ⟨(o1 _ (by omega)).trans h.rule, (o1 _ (by omega)).trans h.res, ?_, ?_⟩
  · rw [← parT_up]
    exact fr_set (fr_set h.fat _) _
  · exact (h.below.setCell (p := ⟨w.heap.size + 2, n * 2, none⟩) (by show w.heap.size ≤ w.heap.size + 2; omega) _).setCell (p := ⟨w.heap.size + 2, n * 2 + 1, none⟩) (by show w.heap.size ≤ w.heap.size + 2; omega) _
set_option maxRecDepth 100000 in
theorem fates_ok (b l : Nat) (h : mayR b l = true) (w : World) :
    Calls Tryz.prog 85 #[Rv b l] w fun e w' => e = .returned (.tuple #[.agg (frow (fatF b l) 18), .nilIface]) ∧ Below w.heap.size w w' := by
  have HN := Lib.hid (fun (x : Bool) (n : Nat) (hn : n ≤ 8) w => next_ok b l x n h hn w)
  have HT := Lib.hid (three_new b l w)
  unfold Rv at HN ⊢
  clear h
  go_enter Tryz.func85, Tryz.ntmps85
  go_wp2
  rw [frow_18]
  generalize hws : (((w.alloc (.cells #[.int .u16 b, .int .u16 l] 44)).alloc (.cells (frow (fun _ => 0#32) 18) 182)).alloc (.cells (frow (fun _ => 0#32) 18) 182)) = ws0 at HT ⊢
  clear hws
  go_loopw [9] (fun i ws => ∃ n : Nat, n ≤ 9 ∧ i = .int .i64 (n : Int) ∧ Hid (Three b l n w ws)) (fun i _ => 9 - (intOf i).toNat)
  case atStart => exact ⟨0, by omega, rfl, HT⟩
  case round =>
    obtain ⟨n, hn, rfl, HR⟩ := hrel
    have n0 : (0 : Int) ≤ (n : Int) := by omega
    by_cases hlt : n < 9
    · have n1 : (n : Int) < 9 := by omega
      have c0 := cell_of_row _ _ 0 _ _ _ HR.out.rule
      have c1 := cell_of_row _ _ 1 _ _ _ HR.out.rule
      have HNL := Lib.hid (fun w => HN.out true n (by omega) w)
      have HNB := Lib.hid (fun w => HN.out false n (by omega) w)
      have HU := Lib.hid (fun (ws : World) (q : Three b l n w ws) => q.live hlt)
      clear HN
      rw [show pick b l true n = hs l n from rfl] at HNL
      rw [show pick b l false n = hs b n from rfl] at HNB
      have HW := Lib.hid (fun c w => wholly_any c w)
      go_wp2_with (first | (go_at_call 92; with_reducible refine (HNL.out _).mono ?_; rintro e w1 ⟨rfl, hb1⟩; have HR1 := Lib.hid (HR.out.on hb1); have d0 := cell_of_row _ _ 0 _ _ _ HR1.out.rule; have d1 := cell_of_row _ _ 1 _ _ _ HR1.out.rule; clear hb1) | (go_at_call 92; with_reducible refine (HNB.out _).mono ?_; rintro e w2 ⟨rfl, hb2⟩; have HR2 := Lib.hid (HR1.out.on hb2); clear hb2))
      clear c0 c1 d0 d1 HNL HNB HR HR1
      generalize hs l n = p at HU ⊢
      generalize hs b n = q at HU ⊢
      have hg := show w2.heap[w.heap.size + 1 + 1]? = some (.cells (frow (parT b l n) 18) 182) from HR2.out.fat
      have k0 := fr_cell hg (show n * 2 < 18 by omega)
      have k1 := fr_cell hg (show n * 2 + 1 < 18 by omega)
      obtain ⟨k0, kf0⟩ := k0
      obtain ⟨k1, kf1⟩ := k1
      clear hg hlt
      go_region_with (first | (go_at_call 93; with_reducible refine (HW.out _ _).mono ?_; rintro e w' ⟨rfl, rfl⟩))
      go_wp2
      go_roundw
      case rel => exact ⟨n + 1, by omega, by go_num, (HU.out w2 HR2.out _ _ rfl rfl).on (Below.refl _ _).drew⟩
      case measure => simp [intOf]; omega
    · obtain rfl : n = 9 := by omega
      have hg := show wr.heap[w.heap.size + 1 + 1]? = some (.cells (frow (parT b l 9) 18) 182) from HR.out.fat
      rw [parT_9] at hg
      have HG := Lib.hid hg
      clear hg
      go_wp2_with (first | (refine wpList_load_row rfl 182 (.tmp 4) rfl (w.heap.size + 1 + 1) rfl 182 (frow (fatF b l) 18) (0, 0) _ HG.out Tryz.underlying182 rfl (info_f _) ?_) | (refine wpList_store_row rfl 182 (.tmp 2) (.tmp 43) rfl (w.heap.size + 1) (frow (fatF b l) 18) rfl rfl 182 _ HR.out.res (info_f _) rfl (frow_one _ _) ?_))
      refine post_row2 Tryz.results85 (w.heap.size + 1) 182 (frow (fatF b l) 18) (0, 0) _ Tryz.underlying182 rfl (info_f _) rfl (setRow_heap _ _ _ _ _ _ HR.out.res) _ rfl rfl ⟨rfl, below_setRow HR.out.below _ (by omega) _⟩
end Go.Proofs.YtlejohclijjhnaaGreatDoor

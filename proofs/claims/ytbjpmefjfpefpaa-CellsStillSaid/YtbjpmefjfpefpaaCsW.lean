/-
  THE WALK of CellsStill. Condition: what came in could be read.
-/
import Derived.Test.YtbjpmefjfpefpaaCr
import Derived.Test.YtbjpmefjfpefpaaCq
import Derived.Test.YtbjpmefjfpefpaaCin
import Derived.Test.YtbjpmefjfpefpaaRin
import Derived.Deep.DeepCutAuto
import Derived.BigQuiet
namespace Go.Proofs.Ytbjpmefjfpefpaa
open Go.RowKit Ru Ce

theorem cls4 (T : TypeId) (w : World) (a b c d : Cel) : Cls (w.alloc (.cells #[.int .i64 a.1, .int .i64 a.2, .int .i64 b.1, .int .i64 b.2, .int .i64 c.1, .int .i64 c.2, .int .i64 d.1, .int .i64 d.2] T)) (some ⟨w.heap.size, 0, none⟩) [a, b, c, d] := by
  have hh := heap_alloc_new w (.cells #[.int .i64 a.1, .int .i64 a.2, .int .i64 b.1, .int .i64 b.2, .int .i64 c.1, .int .i64 c.2, .int .i64 d.1, .int .i64 d.2] T)
  intro i hi
  refine ⟨w.heap.size, 0, rfl, ?_⟩
  rw [cell_of_row _ _ _ _ _ _ hh, cell_of_row _ _ _ _ _ _ hh]
  match i, hi with
  | 0, _ => exact ⟨rfl, rfl⟩
  | 1, _ => exact ⟨rfl, rfl⟩
  | 2, _ => exact ⟨rfl, rfl⟩
  | 3, _ => exact ⟨rfl, rfl⟩
def GotN (w : World) (T : List Cel) (m : Nat) (e : Ending) (w' : World) : Prop := ∃ ao cap, e = .returned (.tuple #[.slice ao m cap, .nilIface]) ∧ Cls w' ao T ∧ Below w.heap.size w w'
theorem gotN {w : World} {T : List Cel} {m : Nat} {e : Ending} {w' : World} (hm : T.length = m) (h : Got w T e w') : GotN w T m e w' := by
  obtain ⟨ao, cap, he, hc, _, hb⟩ := h
  exact ⟨ao, cap, by rw [← hm]; exact he, hc, hb⟩
def Yes (w : World) (e : Ending) (w' : World) : Prop := e = .returned (.bool true) ∧ Below w.heap.size w w'
theorem uw (n : Int) : ∃ k : Nat, k < 20 ∧ wrap64 ((IntKind.u64.wrap n).tmod 20) = (k : Int) := by
  have e : IntKind.u64.wrap n = n % 18446744073709551616 := by simp [IntKind.wrap, IntKind.bits, IntKind.signed]
  have h0 : 0 ≤ n % 18446744073709551616 := Int.emod_nonneg _ (by decide)
  rw [e, Int.tmod_eq_emod_of_nonneg h0]
  refine ⟨(n % 18446744073709551616 % 20).toNat, by omega, ?_⟩
  unfold wrap64
  omega
theorem tmx (c : Int) : -100000 < c.tmod 100000 ∧ c.tmod 100000 < 100000 := by
  constructor
  · have := Int.lt_tmod_of_pos c (b := 100000) (by decide); simpa using this
  · exact Int.tmod_lt_of_pos c (by decide)
theorem neq_same (p q : Int) (w : World) : (binOp .neq 31 (.agg #[.int .i64 p, .int .i64 q]) (.agg #[.int .i64 p, .int .i64 q])).run Try.prog w = .ok (.bool false) w := by
  have := neq_a (p, q) (p, q) w
  simpa using this
theorem still_mem (w : World) (X Y : Int) :
    ((((w.alloc (.cells #[.int .u16 8, .int .u16 12] 36)).alloc (.cells #[.int .i64 X, .int .i64 Y, .int .i64 (X + 1), .int .i64 Y, .int .i64 X, .int .i64 (Y + 1), .int .i64 (X + 1), .int .i64 (Y + 1)] 31)).alloc (.cells #[.int .i64 X, .int .i64 Y, .int .i64 (X + 1), .int .i64 Y, .int .i64 (X + 2), .int .i64 Y] 31)).heap[w.heap.size]? = some (.cells #[.int .u16 8, .int .u16 12] 36 (0, 0))) ∧
    Cls (((w.alloc (.cells #[.int .u16 8, .int .u16 12] 36)).alloc (.cells #[.int .i64 X, .int .i64 Y, .int .i64 (X + 1), .int .i64 Y, .int .i64 X, .int .i64 (Y + 1), .int .i64 (X + 1), .int .i64 (Y + 1)] 31)).alloc (.cells #[.int .i64 X, .int .i64 Y, .int .i64 (X + 1), .int .i64 Y, .int .i64 (X + 2), .int .i64 Y] 31)) (some ⟨w.heap.size + 1, 0, none⟩) (blockAt X Y) ∧
    Cls (((w.alloc (.cells #[.int .u16 8, .int .u16 12] 36)).alloc (.cells #[.int .i64 X, .int .i64 Y, .int .i64 (X + 1), .int .i64 Y, .int .i64 X, .int .i64 (Y + 1), .int .i64 (X + 1), .int .i64 (Y + 1)] 31)).alloc (.cells #[.int .i64 X, .int .i64 Y, .int .i64 (X + 1), .int .i64 Y, .int .i64 (X + 2), .int .i64 Y] 31)) (some ⟨w.heap.size + 1 + 1, 0, none⟩) (rowAt X Y) ∧
    Below w.heap.size w (((w.alloc (.cells #[.int .u16 8, .int .u16 12] 36)).alloc (.cells #[.int .i64 X, .int .i64 Y, .int .i64 (X + 1), .int .i64 Y, .int .i64 X, .int .i64 (Y + 1), .int .i64 (X + 1), .int .i64 (Y + 1)] 31)).alloc (.cells #[.int .i64 X, .int .i64 Y, .int .i64 (X + 1), .int .i64 Y, .int .i64 (X + 2), .int .i64 Y] 31)) := by
  have h0 := heap_alloc_new w (.cells #[.int .u16 8, .int .u16 12] 36)
  have s1 : (w.alloc (.cells #[.int .u16 8, .int .u16 12] 36)).heap.size = w.heap.size + 1 := World.size_alloc _ _
  have b1 := alX w (.cells #[.int .u16 8, .int .u16 12] 36)
  generalize w.alloc (.cells #[.int .u16 8, .int .u16 12] 36) = w1 at h0 s1 b1 ⊢
  have c1 := cls4 31 w1 (X, Y) (X + 1, Y) (X, Y + 1) (X + 1, Y + 1)
  rw [s1] at c1
  have h1 := (Below.heap_alloc w1 (.cells #[.int .i64 X, .int .i64 Y, .int .i64 (X + 1), .int .i64 Y, .int .i64 X, .int .i64 (Y + 1), .int .i64 (X + 1), .int .i64 (Y + 1)] 31) w.heap.size (lt_of_block h0)).trans h0
  have s2 : (w1.alloc (.cells #[.int .i64 X, .int .i64 Y, .int .i64 (X + 1), .int .i64 Y, .int .i64 X, .int .i64 (Y + 1), .int .i64 (X + 1), .int .i64 (Y + 1)] 31)).heap.size = w.heap.size + 1 + 1 := by rw [World.size_alloc, s1]
  have b2 := b1.alloc b1.size (.cells #[.int .i64 X, .int .i64 Y, .int .i64 (X + 1), .int .i64 Y, .int .i64 X, .int .i64 (Y + 1), .int .i64 (X + 1), .int .i64 (Y + 1)] 31)
  generalize w1.alloc (.cells #[.int .i64 X, .int .i64 Y, .int .i64 (X + 1), .int .i64 Y, .int .i64 X, .int .i64 (Y + 1), .int .i64 (X + 1), .int .i64 (Y + 1)] 31) = w2 at c1 h1 s2 b2 ⊢
  have c2 := cls3 31 w2 (X, Y) (X + 1, Y) (X + 2, Y)
  rw [s2] at c2
  exact ⟨(Below.heap_alloc w2 _ w.heap.size (lt_of_block h1)).trans h1, c1.below (alX _ _) (Nat.le_refl _), c2, b2.alloc b2.size _⟩
set_option maxRecDepth 100000 in
set_option maxHeartbeats 4000000 in
theorem still_walk (b l : Nat) (c : Cel) (n : Int) (W : World) (_w0 : b < 65536 ∧ l < 65536) (_w1 : I6 c) (_w2 : (Lit.int .i64 n).wf = true) :
    Calls Try.prog 4 #[.agg #[.int .u16 b, .int .u16 l], .agg #[.int .i64 c.1, .int .i64 c.2], .int .i64 n] W (Yes W) := by
  obtain ⟨c1, c2⟩ := c
  obtain ⟨k, hk20, hk⟩ := uw n
  obtain ⟨X, hX⟩ : ∃ X, c1.tmod 100000 = X := ⟨_, rfl⟩
  obtain ⟨Y, hY⟩ : ∃ Y, c2.tmod 100000 = Y := ⟨_, rfl⟩
  have hX2 := tmx c1
  have hY2 := tmx c2
  rw [hX] at hX2
  rw [hY] at hY2
  obtain ⟨x0, x1⟩ := hX2
  obtain ⟨y0, y1⟩ := hY2
  have HM := Lib.hid (fun w => may_ref b l w)
  have HL := Lib.hid (fun w => sure_any w)
  have k0 : (0 : Int) ≤ (k : Int) := by omega
  have k1 : (k : Int) < 20 := by omega
  have HB0 := Lib.hid (fun w a m cp (ha : Cls w a (blockAt X Y)) (hl : 4 = m) (ha2 : a = none → m = 0) (hm : m ≤ 9223372036854775807) => step_good 8 12 life_may a m cp (blockAt X Y) (blockAt X Y) k k rfl (by omega) (block_ok X Y ⟨by omega, by omega⟩ ⟨by omega, by omega⟩).2 (by rw [srt_self (block_srt X Y)]; exact stp_one (block_ok X Y ⟨by omega, by omega⟩ ⟨by omega, by omega⟩).1 (block_stays X Y) k) w ha hl ha2 hm)
  have HT := stp_two (row_ok X Y ⟨by omega, by omega⟩ ⟨by omega, by omega⟩).1 (col_ok X Y ⟨by omega, by omega⟩ ⟨by omega, by omega⟩) (row_turns X Y) (col_turns X Y) k
  have HR0 := Lib.hid (fun w a m cp (ha : Cls w a (rowAt X Y)) (hl : 3 = m) (ha2 : a = none → m = 0) (hm : m ≤ 9223372036854775807) => step_good 8 12 life_may a m cp (rowAt X Y) (rowAt X Y) (2 * k) (2 * (k : Int)) (by omega) (by omega) (row_ok X Y ⟨by omega, by omega⟩ ⟨by omega, by omega⟩).2 (by rw [srt_self (row_srt X Y)]; exact HT.1) w ha hl ha2 hm)
  have HC0 := Lib.hid (fun w a m cp (ha : Cls w a (rowAt X Y)) (hl : 3 = m) (ha2 : a = none → m = 0) (hm : m ≤ 9223372036854775807) => step_good 8 12 life_may a m cp (rowAt X Y) (colAt X Y) (2 * k + 1) (2 * (k : Int) + 1) (by omega) (by omega) (row_ok X Y ⟨by omega, by omega⟩ ⟨by omega, by omega⟩).2 (by rw [srt_self (row_srt X Y)]; exact HT.2) w ha hl ha2 hm)
  have HN0 := Lib.hid (fun (hm : mayR b l = true) w => step_good b l hm none 0 0 [] [] k k rfl (by omega) rfl (stp_one (by decide) (nxt_nil _) k) w (cls_nil _ _) rfl (fun _ => rfl) (by omega))
  clear HT
  unfold Rv at HM HB0 HR0 HC0 HN0

  cases hmay : mayR b l
  case' false =>
    rw [hmay] at HM
    go_enter Try.func4, Try.ntmps4
    go_wp2
    go_quiet (fail)
    go_upto_region 10 with (go_at_call 5; refine (HM.out _).mono ?_; rintro e w2 ⟨rfl, hb2⟩; have HB2 := Lib.hid ((bdn ((alX W (.cells #[.int .u16 b, .int .u16 l] 24)).alloc (by simp) (.cells #[.int .i64 c1, .int .i64 c2] 39)) nq).trans (hb2.mono (by simp; omega))); clear hb2)
  case' true =>
    rw [hmay] at HM
    have HNS := Lib.hid (HN0.out hmay)
    go_enter Try.func4, Try.ntmps4
    go_wp2
    go_quiet (fail)
    have hbx := (Below.heap_alloc (W.alloc (.cells #[.int .u16 b, .int .u16 l] 24)) (.cells #[.int .i64 c1, .int .i64 c2] 39) W.heap.size (by simp)).trans (heap_alloc_new W (.cells #[.int .u16 b, .int .u16 l] 24))
    have HBX := Lib.hid hbx
    clear hbx
    go_upto_region 10 with (first
      | (go_at_call 5; refine (HM.out _).mono ?_; rintro e w1 ⟨rfl, hb1⟩; have HB1 := Lib.hid ((bdn ((alX W (.cells #[.int .u16 b, .int .u16 l] 24)).alloc (by simp) (.cells #[.int .i64 c1, .int .i64 c2] 39)) nq).trans (hb1.mono (by simp; omega))); have hbx := (hb1.block W.heap.size (by simp; omega)).trans HBX.out; have e0 := cell_of_row _ _ 0 _ _ _ hbx; have e1 := cell_of_row _ _ 1 _ _ _ hbx; clear hb1 hbx)
      | (go_at_call 7; refine (HNS.out _).mono ?_; intro e w2 h2; obtain ⟨zo, zcap, rfl, _, _, hb2⟩ := h2; have HB2 := Lib.hid (HB1.out.trans (hb2.mono HB1.out.size)); clear hb2 e0 e1))
  all_goals
    obtain ⟨hlf, hbk, hrw, hbv⟩ := still_mem w2 X Y
    generalize (((w2.alloc (.cells #[.int .u16 8, .int .u16 12] 36)).alloc (.cells #[.int .i64 X, .int .i64 Y, .int .i64 (X + 1), .int .i64 Y, .int .i64 X, .int .i64 (Y + 1), .int .i64 (X + 1), .int .i64 (Y + 1)] 31)).alloc (.cells #[.int .i64 X, .int .i64 Y, .int .i64 (X + 1), .int .i64 Y, .int .i64 (X + 2), .int .i64 Y] 31)) = V at hlf hbk hrw hbv ⊢
    generalize w2.heap.size + 1 + 1 = g14 at hrw ⊢
    generalize w2.heap.size + 1 = g13 at hbk ⊢
    have HV := Lib.hid (And.intro hlf (And.intro hbk (And.intro hrw (HB2.out.trans (hbv.mono HB2.out.size)))))
    have l0 := cell_of_row _ _ 0 _ _ _ hlf
    have l1 := cell_of_row _ _ 1 _ _ _ hlf
    generalize w2.heap.size = g12 at HV l0 l1 ⊢
    clear hlf hbk hrw hbv HB2
    go_upto_region 11 with (go_at_call 7; refine (HB0.out _ _ _ _ HV.out.2.1 rfl (fun e => by cases e) (by omega)).mono ?_; intro e w3 h3; obtain ⟨ao, acap, rfl, ha3, hb3⟩ := gotN (m := 4) rfl h3; have H3 := Lib.hid (And.intro ((hb3.block g12 (lt_of_block HV.out.1)).trans HV.out.1) (And.intro (HV.out.2.1.below hb3 (Nat.le_refl _)) (And.intro (HV.out.2.2.1.below hb3 (Nat.le_refl _)) (And.intro (HV.out.2.2.2.trans (hb3.mono HV.out.2.2.2.size)) ha3)))); clear h3 ha3 hb3)
    have m0 := cell_of_row _ _ 0 _ _ _ H3.out.1
    have m1 := cell_of_row _ _ 1 _ _ _ H3.out.1
    clear l0 l1 HV
    go_upto_region 12 with (go_at_call 7; refine (HR0.out _ _ _ _ H3.out.2.2.1 rfl (fun e => by cases e) (by omega)).mono ?_; intro e w4 h4; obtain ⟨bo, bcap, rfl, ha4, hb4⟩ := gotN (m := 3) rfl h4; have H4 := Lib.hid (And.intro ((hb4.block g12 (lt_of_block H3.out.1)).trans H3.out.1) (And.intro (H3.out.2.1.below hb4 (Nat.le_refl _)) (And.intro (H3.out.2.2.1.below hb4 (Nat.le_refl _)) (And.intro (H3.out.2.2.2.1.trans (hb4.mono H3.out.2.2.2.1.size)) (And.intro (H3.out.2.2.2.2.below hb4 (Nat.le_refl _)) ha4))))); clear h4 ha4 hb4)
    have n0 := cell_of_row _ _ 0 _ _ _ H4.out.1
    have n1 := cell_of_row _ _ 1 _ _ _ H4.out.1
    clear m0 m1 H3
    go_wp2_with (go_at_call 7; refine (HC0.out _ _ _ _ H4.out.2.2.1 rfl (fun e => by cases e) (by omega)).mono ?_; intro e w5 h5; obtain ⟨co, ccap, rfl, ha5, hb5⟩ := gotN (m := 3) rfl h5; have H5 := Lib.hid (And.intro (H4.out.2.1.below hb5 (Nat.le_refl _)) (And.intro (H4.out.2.2.1.below hb5 (Nat.le_refl _)) (And.intro (H4.out.2.2.2.1.trans (hb5.mono H4.out.2.2.2.1.size)) (And.intro (H4.out.2.2.2.2.1.below hb5 (Nat.le_refl _)) (And.intro (H4.out.2.2.2.2.2.below hb5 (Nat.le_refl _)) ha5))))); clear h5 ha5 hb5)
    clear n0 n1 H4
    have hneq := neq_same
    go_loopw [21] (fun i wr => ∃ j : Nat, j ≤ 4 ∧ i = .int .i64 j ∧ Hid (∃ q, wr = w5.drewN q)) (fun i _ => 4 - (intOf i).toNat)
    case atStart => exact ⟨0, by omega, rfl, Lib.hid ⟨0, rfl⟩⟩
    case round =>
      obtain ⟨j, hj, rfl, HQ⟩ := hrel
      obtain ⟨q, hq⟩ := HQ.out
      have HQ1 := Lib.hid (show ∀ m, ∃ q, wr.drewN m = w5.drewN q from fun m => ⟨q + m, by rw [hq, World.drewN_drewN]⟩)
      have HW := Lib.hid (show Cls wr (some ⟨g13, 0, none⟩) (blockAt X Y) ∧ Cls wr (some ⟨g14, 0, none⟩) (rowAt X Y) ∧ Below W.heap.size W wr ∧ Cls wr ao (blockAt X Y) ∧ Cls wr bo (rowAt X Y) ∧ Cls wr co (colAt X Y) by
        rw [hq]
        exact ⟨H5.out.1, H5.out.2.1, bdn H5.out.2.2.1 _, H5.out.2.2.2.1, H5.out.2.2.2.2.1, H5.out.2.2.2.2.2⟩)
      clear hq HQ
      have j0 : (0 : Int) ≤ (j : Int) := by omega
      by_cases j3 : j < 3
      · have i3 : (j : Int) < 3 := by omega
        have i4 : (j : Int) < 4 := by omega
        have hb4 : j < (blockAt X Y).length := by show j < 4; omega
        have hb3 : j < (rowAt X Y).length := by show j < 3; omega
        have hc3 : j < (colAt X Y).length := by show j < 3; omega
        obtain ⟨_, _, e1, c0, c1⟩ := HW.out.1 j hb4
        obtain ⟨rfl, rfl⟩ := (by simpa using e1 : g13 = _ ∧ 0 = _)
        obtain ⟨_, _, e2, c2, c3⟩ := HW.out.2.1 j hb3
        obtain ⟨rfl, rfl⟩ := (by simpa using e2 : g14 = _ ∧ 0 = _)
        obtain ⟨ga, oa, rfl, c4, c5⟩ := HW.out.2.2.2.1 j hb4
        obtain ⟨gb, ob, rfl, c6, c7⟩ := HW.out.2.2.2.2.1 j hb3
        obtain ⟨gc, oc, rfl, c8, c9⟩ := HW.out.2.2.2.2.2 j hc3
        rw [Nat.zero_add] at c0 c1 c2 c3
        have ez : (colAt X Y)[j] = (X + 1, Y - 1 + (j : Int)) := by
          match j, j3 with
          | 0, _ => simp [colAt]
          | 1, _ => simp [colAt]
          | 2, _ => simp [colAt]; omega
        rw [ez] at c8 c9
        simp only at c8 c9
        generalize (blockAt X Y)[j] = x at c0 c1 c4 c5
        generalize (rowAt X Y)[j] = y at c2 c3 c6 c7
        have hw1 : IntKind.i64.wrap (X + 1) = X + 1 := IntWalk.i64_in _ (by omega)
        have hw2 : IntKind.i64.wrap (Y - 1) = Y - 1 := IntWalk.i64_in _ (by omega)
        have hw3 : IntKind.i64.wrap (Y - 1 + (j : Int)) = Y - 1 + (j : Int) := IntWalk.i64_in _ (by omega)
        clear e1 e2 ez hb4 hb3 hc3
        go_wp2
        go_quiet (fail)
        go_wp2
        go_roundw
        case rel => exact ⟨j + 1, by omega, by go_num, Lib.hid (HQ1.out _)⟩
        case measure => simp [intOf]; omega
      · by_cases j4 : j = 3
        · have i3 : ¬ (j : Int) < 3 := by omega
          have i4 : (j : Int) < 4 := by omega
          have hb4 : j < (blockAt X Y).length := by show j < 4; omega
          obtain ⟨_, _, e1, c0, c1⟩ := HW.out.1 j hb4
          obtain ⟨rfl, rfl⟩ := (by simpa using e1 : g13 = _ ∧ 0 = _)
          obtain ⟨ga, oa, rfl, c4, c5⟩ := HW.out.2.2.2.1 j hb4
          rw [Nat.zero_add] at c0 c1
          generalize (blockAt X Y)[j] = x at c0 c1 c4 c5
          have hd3 : decide ((j : Int) < 3) = false := by simpa using i3
          clear e1 hb4 j4
          go_wp2
          go_quiet (fail)
          go_wp2
          go_roundw
          case rel => exact ⟨j + 1, by omega, by go_num, Lib.hid (HQ1.out _)⟩
          case measure => simp [intOf]; omega
        · obtain rfl : j = 4 := by omega
          go_wp2_with (go_at_call 6; refine (HL.out _).mono ?_; rintro e w6 ⟨rfl, hb6⟩; have HB6 := Lib.hid (HW.out.2.2.1.trans (hb6.mono HW.out.2.2.1.size)); clear hb6)
          go_ret
          exact ⟨rfl, HB6.out⟩
end Go.Proofs.Ytbjpmefjfpefpaa

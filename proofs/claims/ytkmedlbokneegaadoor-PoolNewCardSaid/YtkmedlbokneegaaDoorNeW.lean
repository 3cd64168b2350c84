/-
  PoolNew of frames that can be, and the whole. No condition but that the input could be read.
-/
import Derived.Test.YtkmedlbokneegaaDoorNeA
namespace Go.Proofs.YtkmedlbokneegaaDoor
open Go.RowKit Go.Maps

set_option maxRecDepth 100000 in
set_option maxHeartbeats 600000 in
theorem newq_low (m : Nat) (hm1 : 1 ≤ m) (hm2 : m ≤ 1024) (i : Int) (hi : i < 0) (W : World) (hl : Laid W) :
    Calls Tryd.prog 4 #[.int .i64 (m : Int), .int .i64 i] W fun e w' => e = .returned (.bool true) ∧ Below W.heap.size W w' := by
  have HQ := Lib.hid (fresh_no m i (.inl hi))
  have x2 : ¬ (m : Int) < 1 := by omega
  have x3 : ¬ (1024 : Int) < (m : Int) := by omega
  have x4 : (0 : Int) < (m : Int) := by omega
  have x5 : i < 0 := hi
  have HLD := Lib.hid hl
  have hb0 : Below W.heap.size W W := Below.refl _ _
  clear hl
  go_enter Tryd.func4, Tryd.ntmps4
  go_upto_region 8 with (first | (go_at_call 14; refine (nop_read _ _).mono ?_; rintro e w' ⟨rfl, rfl⟩) | (go_at_call 16; refine (nop_write _ _ _).mono ?_; rintro e w' ⟨rfl, rfl⟩) | (go_at_call 17; refine (nop_pin _ _).mono ?_; rintro e w' ⟨rfl, rfl⟩) | (go_at_call 18; refine (nop_unpin _ _).mono ?_; rintro e w' ⟨rfl, rfl⟩) | (go_at_call 19; refine (nop_flush _).mono ?_; rintro e w' ⟨rfl, rfl⟩) | (go_at_call 20; refine (nop_frames _).mono ?_; rintro e w' ⟨rfl, rfl⟩) | (go_at_call 21; refine (nop_dirty _).mono ?_; rintro e w' ⟨rfl, rfl⟩) | (go_at_call 22; refine (nop_loads _).mono ?_; rintro e w' ⟨rfl, rfl⟩) | (go_at_call 15; refine (num_b (by assumption) HLD.out 1).mono ?_; rintro e w1 ⟨rfl, hbn⟩) | (go_at_call 7; refine (disk_new' (W := W) 3 _ rfl _ (by assumption) (by omega) (by omega)).mono ?_; rintro e wa ⟨D, H, rfl, h⟩; have hbd := h.b; have HD := Lib.hid h; clear h) | (go_at_call 8; refine (newp_no _ _ _ (by exact .inl rfl)).mono ?_; rintro e w' ⟨rfl, rfl⟩) | (go_at_call 8; refine (newp_at' 0 m _ (by omega) HD.out (by omega) (by omega) (show (0 : Int) ≤ 0 by decide) (show (0 : Int) ≤ (0 : Nat) by decide)).mono ?_; rintro e wb ⟨p, H1, rfl, h⟩; have HP := Lib.hid h.first; clear h))
  clear HD hb0
  go_wp2_with (first | (go_at_call 15; refine (num_pl HP.out HLD.out _).mono ?_; rintro e w2 ⟨rfl, hp2⟩; clear HP; have HP := Lib.hid hp2; clear hp2) | (go_at_call 20; refine (pl_frames_new HP.out hm1).mono ?_; rintro e w3 ⟨g, o, cap, rfl, c0, hp3⟩; clear HP; have HP := Lib.hid hp3; clear hp3) | (go_at_call 14; refine (pl_read_no HP.out _ 4 (by omega) HQ.out.1 (by decide) HQ.out.2.1).mono ?_; rintro e w4 ⟨rfl, hp4⟩; clear HP; have HP := Lib.hid hp4; clear hp4) | (go_at_call 18; refine (pl_unpin_is HP.out _ 4 (by omega) HQ.out.2.2 (by decide)).mono ?_; rintro e w5 ⟨rfl, hp5⟩; clear HP; have HP := Lib.hid hp5; clear hp5) | (go_at_call 11; refine (sure_pl HP.out).mono ?_; rintro e w9 ⟨rfl, hp9⟩; clear HP; have HP := Lib.hid hp9; clear hp9))
  go_ret
  exact ⟨rfl, HP.out.b⟩
set_option maxRecDepth 100000 in
set_option maxHeartbeats 600000 in
theorem newq_high (m : Nat) (hm1 : 1 ≤ m) (hm2 : m ≤ 1024) (i : Int) (hi : 2 < i) (W : World) (hl : Laid W) :
    Calls Tryd.prog 4 #[.int .i64 (m : Int), .int .i64 i] W fun e w' => e = .returned (.bool true) ∧ Below W.heap.size W w' := by
  have HQ := Lib.hid (fresh_no m i (.inr hi))
  have x2 : ¬ (m : Int) < 1 := by omega
  have x3 : ¬ (1024 : Int) < (m : Int) := by omega
  have x4 : (0 : Int) < (m : Int) := by omega
  have x5 : ¬ i < 0 := by omega
  have x6 : 2 < i := hi
  have HLD := Lib.hid hl
  have hb0 : Below W.heap.size W W := Below.refl _ _
  clear hl
  go_enter Tryd.func4, Tryd.ntmps4
  go_upto_region 8 with (first | (go_at_call 14; refine (nop_read _ _).mono ?_; rintro e w' ⟨rfl, rfl⟩) | (go_at_call 16; refine (nop_write _ _ _).mono ?_; rintro e w' ⟨rfl, rfl⟩) | (go_at_call 17; refine (nop_pin _ _).mono ?_; rintro e w' ⟨rfl, rfl⟩) | (go_at_call 18; refine (nop_unpin _ _).mono ?_; rintro e w' ⟨rfl, rfl⟩) | (go_at_call 19; refine (nop_flush _).mono ?_; rintro e w' ⟨rfl, rfl⟩) | (go_at_call 20; refine (nop_frames _).mono ?_; rintro e w' ⟨rfl, rfl⟩) | (go_at_call 21; refine (nop_dirty _).mono ?_; rintro e w' ⟨rfl, rfl⟩) | (go_at_call 22; refine (nop_loads _).mono ?_; rintro e w' ⟨rfl, rfl⟩) | (go_at_call 15; refine (num_b (by assumption) HLD.out 1).mono ?_; rintro e w1 ⟨rfl, hbn⟩) | (go_at_call 7; refine (disk_new' (W := W) 3 _ rfl _ (by assumption) (by omega) (by omega)).mono ?_; rintro e wa ⟨D, H, rfl, h⟩; have hbd := h.b; have HD := Lib.hid h; clear h) | (go_at_call 8; refine (newp_no _ _ _ (by exact .inl rfl)).mono ?_; rintro e w' ⟨rfl, rfl⟩) | (go_at_call 8; refine (newp_at' 0 m _ (by omega) HD.out (by omega) (by omega) (show (0 : Int) ≤ 0 by decide) (show (0 : Int) ≤ (0 : Nat) by decide)).mono ?_; rintro e wb ⟨p, H1, rfl, h⟩; have HP := Lib.hid h.first; clear h))
  clear HD hb0
  go_wp2_with (first | (go_at_call 15; refine (num_pl HP.out HLD.out _).mono ?_; rintro e w2 ⟨rfl, hp2⟩; clear HP; have HP := Lib.hid hp2; clear hp2) | (go_at_call 20; refine (pl_frames_new HP.out hm1).mono ?_; rintro e w3 ⟨g, o, cap, rfl, c0, hp3⟩; clear HP; have HP := Lib.hid hp3; clear hp3) | (go_at_call 14; refine (pl_read_no HP.out _ 4 (by omega) HQ.out.1 (by decide) HQ.out.2.1).mono ?_; rintro e w4 ⟨rfl, hp4⟩; clear HP; have HP := Lib.hid hp4; clear hp4) | (go_at_call 18; refine (pl_unpin_is HP.out _ 4 (by omega) HQ.out.2.2 (by decide)).mono ?_; rintro e w5 ⟨rfl, hp5⟩; clear HP; have HP := Lib.hid hp5; clear hp5) | (go_at_call 11; refine (sure_pl HP.out).mono ?_; rintro e w9 ⟨rfl, hp9⟩; clear HP; have HP := Lib.hid hp9; clear hp9))
  go_ret
  exact ⟨rfl, HP.out.b⟩
set_option maxRecDepth 100000 in
set_option maxHeartbeats 600000 in
theorem newq_in (m : Nat) (hm1 : 1 ≤ m) (hm2 : m ≤ 1024) (q : Nat) (hq : q < 3) (W : World) (hl : Laid W) :
    Calls Tryd.prog 4 #[.int .i64 (m : Int), .int .i64 (q : Int)] W fun e w' => e = .returned (.bool true) ∧ Below W.heap.size W w' := by
  have HQ := Lib.hid (fresh_bad m q hq)
  have x2 : ¬ (m : Int) < 1 := by omega
  have x3 : ¬ (1024 : Int) < (m : Int) := by omega
  have x4 : (0 : Int) < (m : Int) := by omega
  have x5 : (0 : Int) ≤ (q : Int) := by omega
  have x6 : ¬ 2 < (q : Int) := by omega
  have x7 : ¬ (q : Int) < 0 := by omega
  have HLD := Lib.hid hl
  have hb0 : Below W.heap.size W W := Below.refl _ _
  clear hl
  go_enter Tryd.func4, Tryd.ntmps4
  go_upto_region 8 with (first | (go_at_call 14; refine (nop_read _ _).mono ?_; rintro e w' ⟨rfl, rfl⟩) | (go_at_call 16; refine (nop_write _ _ _).mono ?_; rintro e w' ⟨rfl, rfl⟩) | (go_at_call 17; refine (nop_pin _ _).mono ?_; rintro e w' ⟨rfl, rfl⟩) | (go_at_call 18; refine (nop_unpin _ _).mono ?_; rintro e w' ⟨rfl, rfl⟩) | (go_at_call 19; refine (nop_flush _).mono ?_; rintro e w' ⟨rfl, rfl⟩) | (go_at_call 20; refine (nop_frames _).mono ?_; rintro e w' ⟨rfl, rfl⟩) | (go_at_call 21; refine (nop_dirty _).mono ?_; rintro e w' ⟨rfl, rfl⟩) | (go_at_call 22; refine (nop_loads _).mono ?_; rintro e w' ⟨rfl, rfl⟩) | (go_at_call 15; refine (num_b (by assumption) HLD.out 1).mono ?_; rintro e w1 ⟨rfl, hbn⟩) | (go_at_call 7; refine (disk_new' (W := W) 3 _ rfl _ (by assumption) (by omega) (by omega)).mono ?_; rintro e wa ⟨D, H, rfl, h⟩; have hbd := h.b; have HD := Lib.hid h; clear h) | (go_at_call 8; refine (newp_no _ _ _ (by exact .inl rfl)).mono ?_; rintro e w' ⟨rfl, rfl⟩) | (go_at_call 8; refine (newp_at' 0 m _ (by omega) HD.out (by omega) (by omega) (show (0 : Int) ≤ 0 by decide) (show (0 : Int) ≤ (0 : Nat) by decide)).mono ?_; rintro e wb ⟨p, H1, rfl, h⟩; have HP := Lib.hid h.first; clear h))
  clear HD hb0
  go_wp2_with (first | (go_at_call 15; refine (num_pl HP.out HLD.out _).mono ?_; rintro e w2 ⟨rfl, hp2⟩; clear HP; have HP := Lib.hid hp2; clear hp2) | (go_at_call 20; refine (pl_frames_new HP.out hm1).mono ?_; rintro e w3 ⟨g, o, cap, rfl, c0, hp3⟩; clear HP; have HP := Lib.hid hp3; clear hp3) | (go_at_call 14; refine (pl_read_no HP.out _ 7 (by omega) HQ.out.1 (by decide) HQ.out.2.1).mono ?_; rintro e w4 ⟨rfl, hp4⟩; clear HP; have HP := Lib.hid hp4; clear hp4) | (go_at_call 18; refine (pl_unpin_is HP.out _ 8 (by omega) HQ.out.2.2 (by decide)).mono ?_; rintro e w5 ⟨rfl, hp5⟩; clear HP; have HP := Lib.hid hp5; clear hp5) | (go_at_call 22; refine (loads_pl HP.out 1 rfl).mono ?_; rintro e w' ⟨rfl, rfl⟩) | (go_at_call 11; refine (sure_pl HP.out).mono ?_; rintro e w9 ⟨rfl, hp9⟩; clear HP; have HP := Lib.hid hp9; clear hp9))
  go_ret
  exact ⟨rfl, HP.out.b⟩
theorem new_walk (n0 n1 : Int) (W : World) (_w0 : (Lit.int .i64 n0).wf = true) (_w1 : (Lit.int .i64 n1).wf = true) (hL : Laid W) :
    Calls Tryd.prog 4 #[.int .i64 n0, .int .i64 n1] W fun e w' => e = .returned (.bool true) ∧ Below W.heap.size W w' := by
  by_cases h : n0 < 1 ∨ 1024 < n0
  · exact newq_bad n0 n1 W hL h
  · obtain ⟨m, rfl⟩ : ∃ m : Nat, n0 = m := ⟨n0.toNat, by omega⟩
    by_cases h1 : n1 < 0
    · exact newq_low m (by omega) (by omega) n1 h1 W hL
    · by_cases h2 : 2 < n1
      · exact newq_high m (by omega) (by omega) n1 h2 W hL
      · obtain ⟨q, rfl⟩ : ∃ q : Nat, n1 = q := ⟨n1.toNat, by omega⟩
        exact newq_in m (by omega) (by omega) q (by omega) W hL
end Go.Proofs.YtkmedlbokneegaaDoor

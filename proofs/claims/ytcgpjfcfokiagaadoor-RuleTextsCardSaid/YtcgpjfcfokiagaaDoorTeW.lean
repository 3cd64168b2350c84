/-
  RuleTexts, the walk. No condition but that the input could be read, and the package-level variable.
-/
import Derived.Test.YtcgpjfcfokiagaaDoorSu
import Derived.Test.YtcgpjfcfokiagaaDoorRg
import Derived.Test.YtcgpjfcfokiagaaDoorErr
namespace Go.Proofs.YtcgpjfcfokiagaaDoor
open Go.RowKit Ru

theorem num_ev (n : Int) (w : World) (hl : Laid w) :
    Calls Tryd.prog 10 #[ev n] w fun e w' => e = .returned (.int .i64 n) ∧ Below w.heap.size w w' := by
  unfold ev
  by_cases h : n = 0
  · subst h; exact num_nil w
  · rw [if_neg h]; exact num_err n w hl
set_option maxRecDepth 100000 in
set_option maxHeartbeats 1000000 in
theorem texts_walk (b l : Nat) (s : ByteArray) (W : World) (w0 : b < 65536 ∧ l < 65536) (ws : s.size ≤ maxLen) (hl : Laid W) :
    Calls Tryd.prog 3 #[.agg #[.int .u16 b, .int .u16 l], .string s] W fun e w' => e = .returned (.bool true) ∧ Below W.heap.size W w' := by
  unfold maxLen at ws
  have HL := Lib.hid hl
  clear hl
  by_cases hs : 200 < s.size
  · have i1 : (200 : Int) < (s.size : Int) := by omega
    clear hs w0
    go_enter Tryd.func3, Tryd.ntmps3
    go_wp2_with (go_at_call 6; refine (sure_any _).mono ?_; rintro e w4 ⟨rfl, hb⟩; have HB4 := Lib.hid (bel_to (alX W (.cells #[.int .u16 b, .int .u16 l] 24)) hb (by simp)); clear hb)
    go_ret
    exact ⟨rfl, HB4.out⟩
  · have i1 : ¬ (200 : Int) < (s.size : Int) := by omega
    have HP := Lib.hid (fun w => parse_any s w)
    have HQ := Lib.hid (fun w => parse_ref s (by omega) w)
    have HM := Lib.hid (fun w => may_ref b l w)
    have HF := Lib.hid (fun w hl => num_ev (prs (P (lb s))).2.2 w hl)
    generalize (prs (P (lb s))).1 = p1 at HP HQ
    generalize (prs (P (lb s))).2.1 = p2 at HP HQ
    generalize (prs (P (lb s))).2.2 = n at HP HQ HF
    generalize hev : ev n = v at HP HF
    clear hev
    cases hm : mayR b l
    · have HT := Lib.hid (fun w => text_bad b l w0.1 w0.2 hm w)
      have HC := Lib.hid (fun w => check_bad b l w0.1 w0.2 hm w)
      have HE := Lib.hid (fun w hl => num_err 11 w hl)
      rw [hm] at HM
      unfold Rv at HT HC HM HP HQ
      clear hm w0 hs
      go_enter Tryd.func3, Tryd.ntmps3
      go_wp2_with (first | (go_at_call 7; refine (HT.out _).mono ?_; rintro e w1 ⟨rfl, hb⟩; have HB1 := Lib.hid (bel_to (alX W (.cells #[.int .u16 b, .int .u16 l] 24)) hb (by simp)); have HX1 := Lib.hid ((hb.block W.heap.size (by simp)).trans (heap_alloc_new W _)); clear hb) | (go_at_call 8; refine (HP.out _).mono ?_; rintro e w2 ⟨rfl, hb⟩; have HB2 := Lib.hid (bel_to HB1.out hb HB1.out.size); have HX2 := Lib.hid ((hb.block _ (lt_of_block HX1.out)).trans HX1.out); have HY2 := Lib.hid (heap_alloc_new w2 (.cells #[.int .u16 p1, .int .u16 p2] 30)); clear hb) | (go_at_call 9; refine (HQ.out _).mono ?_; rintro e w3 ⟨rfl, hb⟩; have HB3 := Lib.hid (bel_to (HB2.out.alloc HB2.out.size _) hb (by have := HB2.out.size; simp; omega)); have HY3 := Lib.hid ((hb.block _ (by simp)).trans HY2.out); have HX3 := Lib.hid ((hb.block _ (by have := lt_of_block HX2.out; simp; omega)).trans ((Below.heap_alloc _ _ _ (lt_of_block HX2.out)).trans HX2.out)); have d0 := cell_of_row _ _ 0 _ _ _ HY3.out; have d1 := cell_of_row _ _ 1 _ _ _ HY3.out; have hz := lt_of_block HY3.out; have hz2 := lt_of_block HX3.out; have HZ3 := Lib.hid (heap_alloc_new w3 (.cells #[.int .u16 p1, .int .u16 p2] 24)); clear hb) | (go_at_call 10; with_reducible refine (HF.out _ (HL.out.below (HB3.out.alloc HB3.out.size _))).mono ?_; rintro e w4 ⟨rfl, hb⟩; have HB4 := Lib.hid (bel_to (HB3.out.alloc HB3.out.size _) hb (by have := HB3.out.size; simp; omega)); have HX4 := Lib.hid ((hb.block _ (by have := lt_of_block HX3.out; simp; omega)).trans ((Below.heap_alloc _ _ _ (lt_of_block HX3.out)).trans HX3.out)); have c0 := cell_of_row _ _ 0 _ _ _ HX4.out; have c1 := cell_of_row _ _ 1 _ _ _ HX4.out; clear hb) | (go_at_call 11; refine (HM.out _).mono ?_; rintro e w5 ⟨rfl, hb⟩; have HB5 := Lib.hid (bel_to HB4.out hb HB4.out.size); have HX5 := Lib.hid ((hb.block _ (lt_of_block HX4.out)).trans HX4.out); have c0 := cell_of_row _ _ 0 _ _ _ HX5.out; have c1 := cell_of_row _ _ 1 _ _ _ HX5.out; clear hb) | (go_at_call 10; with_reducible refine (HE.out _ (HL.out.below HB5.out)).mono ?_; rintro e w6 ⟨rfl, hb⟩; have HB6 := Lib.hid (bel_to HB5.out hb HB5.out.size); have HX6 := Lib.hid ((hb.block _ (lt_of_block HX5.out)).trans HX5.out); have c0 := cell_of_row _ _ 0 _ _ _ HX6.out; have c1 := cell_of_row _ _ 1 _ _ _ HX6.out; clear hb) | (go_at_call 12; refine (HC.out _).mono ?_; rintro e w7 ⟨rfl, hb⟩; have HB7 := Lib.hid (bel_to HB6.out hb HB6.out.size); clear hb) | (go_at_call 10; with_reducible refine (HE.out _ (HL.out.below HB7.out)).mono ?_; rintro e w8 ⟨rfl, hb⟩; have HB8 := Lib.hid (bel_to HB7.out hb HB7.out.size); clear hb) | (go_at_call 6; refine (sure_any _).mono ?_; rintro e w9 ⟨rfl, hb⟩; have HB9 := Lib.hid (bel_to HB8.out hb HB8.out.size); clear hb))
      go_ret
      exact ⟨rfl, HB9.out⟩
    · have HT := Lib.hid (fun w => text_ok b l hm w)
      have HC := Lib.hid (fun w => check_ok b l hm w)
      have HE := Lib.hid (fun w => text_ref b l w0.1 w0.2 w)
      rw [hm] at HM
      unfold Rv at HT HC HM HP HQ HE
      generalize str (txt b l) = u at HT HE
      clear hm w0 hs
      go_enter Tryd.func3, Tryd.ntmps3
      go_wp2_with (first | (go_at_call 7; refine (HT.out _).mono ?_; rintro e w1 ⟨rfl, hb⟩; have HB1 := Lib.hid (bel_to (alX W (.cells #[.int .u16 b, .int .u16 l] 24)) hb (by simp)); have HX1 := Lib.hid ((hb.block W.heap.size (by simp)).trans (heap_alloc_new W _)); clear hb) | (go_at_call 8; refine (HP.out _).mono ?_; rintro e w2 ⟨rfl, hb⟩; have HB2 := Lib.hid (bel_to HB1.out hb HB1.out.size); have HX2 := Lib.hid ((hb.block _ (lt_of_block HX1.out)).trans HX1.out); have HY2 := Lib.hid (heap_alloc_new w2 (.cells #[.int .u16 p1, .int .u16 p2] 30)); clear hb) | (go_at_call 9; refine (HQ.out _).mono ?_; rintro e w3 ⟨rfl, hb⟩; have HB3 := Lib.hid (bel_to (HB2.out.alloc HB2.out.size _) hb (by have := HB2.out.size; simp; omega)); have HY3 := Lib.hid ((hb.block _ (by simp)).trans HY2.out); have HX3 := Lib.hid ((hb.block _ (by have := lt_of_block HX2.out; simp; omega)).trans ((Below.heap_alloc _ _ _ (lt_of_block HX2.out)).trans HX2.out)); have d0 := cell_of_row _ _ 0 _ _ _ HY3.out; have d1 := cell_of_row _ _ 1 _ _ _ HY3.out; have hz := lt_of_block HY3.out; have hz2 := lt_of_block HX3.out; have HZ3 := Lib.hid (heap_alloc_new w3 (.cells #[.int .u16 p1, .int .u16 p2] 24)); clear hb) | (go_at_call 10; with_reducible refine (HF.out _ (HL.out.below (HB3.out.alloc HB3.out.size _))).mono ?_; rintro e w4 ⟨rfl, hb⟩; have HB4 := Lib.hid (bel_to (HB3.out.alloc HB3.out.size _) hb (by have := HB3.out.size; simp; omega)); have HX4 := Lib.hid ((hb.block _ (by have := lt_of_block HX3.out; simp; omega)).trans ((Below.heap_alloc _ _ _ (lt_of_block HX3.out)).trans HX3.out)); have c0 := cell_of_row _ _ 0 _ _ _ HX4.out; have c1 := cell_of_row _ _ 1 _ _ _ HX4.out; clear hb) | (go_at_call 11; refine (HM.out _).mono ?_; rintro e w5 ⟨rfl, hb⟩; have HB5 := Lib.hid (bel_to HB4.out hb HB4.out.size); have HX5 := Lib.hid ((hb.block _ (lt_of_block HX4.out)).trans HX4.out); have c0 := cell_of_row _ _ 0 _ _ _ HX5.out; have c1 := cell_of_row _ _ 1 _ _ _ HX5.out; clear hb) | (go_at_call 13; refine (HE.out _).mono ?_; rintro e w6 ⟨rfl, hb⟩; have HB6 := Lib.hid (bel_to HB5.out hb HB5.out.size); have HX6 := Lib.hid ((hb.block _ (lt_of_block HX5.out)).trans HX5.out); have c0 := cell_of_row _ _ 0 _ _ _ HX6.out; have c1 := cell_of_row _ _ 1 _ _ _ HX6.out; clear hb) | (go_at_call 12; refine (HC.out _).mono ?_; rintro e w7 ⟨rfl, hb⟩; have HB7 := Lib.hid (bel_to HB6.out hb HB6.out.size); clear hb) | (go_at_call 6; refine (sure_any _).mono ?_; rintro e w9 ⟨rfl, hb⟩; have HB9 := Lib.hid (bel_to HB7.out hb HB7.out.size); clear hb))
      go_ret
      exact ⟨rfl, HB9.out⟩
end Go.Proofs.YtcgpjfcfokiagaaDoor

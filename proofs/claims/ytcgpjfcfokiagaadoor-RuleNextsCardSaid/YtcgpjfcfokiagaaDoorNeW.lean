/-
  RuleNexts, the walk. No condition but that the input could be read, and the package-level variable.
-/
import Derived.Test.YtcgpjfcfokiagaaDoorSu
import Derived.Test.YtcgpjfcfokiagaaDoorRe
import Derived.Test.YtcgpjfcfokiagaaDoorErr
namespace Go.Proofs.YtcgpjfcfokiagaaDoor
open Go.RowKit Ru

/-- the statement's own rule in its box -/
abbrev qR (b l : Nat) : Obj := .cells #[.int .u16 b, .int .u16 l] 24
theorem box_cells {W V : World} {b l : Nat} (h : Below (W.alloc (qR b l)).heap.size (W.alloc (qR b l)) V) : V.cell? ⟨W.heap.size, 0, none⟩ = some (.int .u16 b) ∧ V.cell? ⟨W.heap.size, 1, none⟩ = some (.int .u16 l) := by
  have hn := (h.block W.heap.size (by simp)).trans (heap_alloc_new W _)
  exact ⟨cell_of_row _ _ 0 _ _ _ hn, cell_of_row _ _ 1 _ _ _ hn⟩
theorem laid_box {W V : World} {o : Obj} (hl : Laid W) (h : Below (W.alloc o).heap.size (W.alloc o) V) : Laid V := hl.below ((alX W o).trans (h.mono (by simp)))
theorem out_box {W V : World} {o : Obj} (h : Below (W.alloc o).heap.size (W.alloc o) V) : Below W.heap.size W V := (alX W o).trans (h.mono (by simp))
theorem nexts_walk (b l : Nat) (x : Bool) (n : Int) (W : World) (w0 : b < 65536 ∧ l < 65536) (_w2 : (Lit.int .i64 n).wf = true) (hl : Laid W) :
    Calls Tryd.prog 4 #[.agg #[.int .u16 b, .int .u16 l], .bool x, .int .i64 n] W fun e w' => e = .returned (.bool true) ∧ Below W.heap.size W w' := by
  have HL := Lib.hid hl
  have HM := Lib.hid (fun w => may_ref b l w)
  have HX := Lib.hid (fun V (h : Below (W.alloc (qR b l)).heap.size (W.alloc (qR b l)) V) => box_cells h)
  unfold qR at HX
  have HZ := Lib.hid (show Below (W.alloc (qR b l)).heap.size (W.alloc (qR b l)) (W.alloc (qR b l)) from Below.refl _ _)
  unfold qR at HZ
  clear hl
  cases hm : mayR b l
  · have HN := Lib.hid (fun w => next_may b l x n w0.1 w0.2 hm w)
    rw [hm] at HM
    unfold Rv at HN HM
    clear hm w0
    go_enter Tryd.func4, Tryd.ntmps4
    go_wp2_with (first | (go_at_call 14; refine (HN.out _).mono ?_; rintro e w1 ⟨rfl, hb⟩; have HB1 := Lib.hid (bel_on HZ.out hb); obtain ⟨c0, c1⟩ := HX.out _ HB1.out; clear hb) | (go_at_call 11; refine (HM.out _).mono ?_; rintro e w2 ⟨rfl, hb⟩; have HB2 := Lib.hid (bel_on HB1.out hb); obtain ⟨c0, c1⟩ := HX.out _ HB2.out; clear hb) | (go_at_call 10; refine (num_err 11 _ (laid_box HL.out HB2.out)).mono ?_; rintro e w3 ⟨rfl, hb⟩; have HB3 := Lib.hid (bel_on HB2.out hb); clear hb) | (go_at_call 6; refine (sure_any _).mono ?_; rintro e w4 ⟨rfl, hb⟩; have HB4 := Lib.hid (bel_on HB3.out hb); clear hb))
    go_ret
    exact ⟨rfl, out_box HB4.out⟩
  · rw [hm] at HM
    rcases (show (n < 0 ∨ (¬ n < 0 ∧ 8 < n)) ∨ (0 ≤ n ∧ n ≤ 8) by omega) with hn | hn
    · have HN := Lib.hid (fun w => next_arg b l x n hm (by omega) w)
      unfold Rv at HN HM
      clear hm w0
      rcases hn with h1 | ⟨h1, h2⟩
      all_goals
        go_enter Tryd.func4, Tryd.ntmps4
        go_wp2_with (first | (go_at_call 14; refine (HN.out _).mono ?_; rintro e w1 ⟨rfl, hb⟩; have HB1 := Lib.hid (bel_on HZ.out hb); obtain ⟨c0, c1⟩ := HX.out _ HB1.out; clear hb) | (go_at_call 11; refine (HM.out _).mono ?_; rintro e w2 ⟨rfl, hb⟩; have HB2 := Lib.hid (bel_on HB1.out hb); obtain ⟨c0, c1⟩ := HX.out _ HB2.out; clear hb) | (go_at_call 10; refine (num_err 1 _ (laid_box HL.out HB2.out)).mono ?_; rintro e w3 ⟨rfl, hb⟩; have HB3 := Lib.hid (bel_on HB2.out hb); clear hb) | (go_at_call 6; refine (sure_any _).mono ?_; rintro e w4 ⟨rfl, hb⟩; have HB4 := Lib.hid (bel_on HB3.out hb); clear hb))
        go_ret
        exact ⟨rfl, out_box HB4.out⟩
    · obtain ⟨k, rfl⟩ := Int.eq_ofNat_of_zero_le hn.1
      have HN := Lib.hid (fun w => next_ok b l x k hm (by omega) w)
      have HF := Lib.hid (fun w => next_ref b l x k w0.1 w0.2 (by omega) w)
      have n0 : ¬ (k : Int) < 0 := by omega
      have n1 : ¬ (8 : Int) < (k : Int) := by omega
      unfold Rv at HN HM HF
      clear hm w0 hn
      generalize pick b l x k = y at HN HF
      go_enter Tryd.func4, Tryd.ntmps4
      go_wp2_with (first | (go_at_call 14; refine (HN.out _).mono ?_; rintro e w1 ⟨rfl, hb⟩; have HB1 := Lib.hid (bel_on HZ.out hb); obtain ⟨c0, c1⟩ := HX.out _ HB1.out; clear hb) | (go_at_call 11; refine (HM.out _).mono ?_; rintro e w2 ⟨rfl, hb⟩; have HB2 := Lib.hid (bel_on HB1.out hb); obtain ⟨c0, c1⟩ := HX.out _ HB2.out; clear hb) | (go_at_call 15; refine (HF.out _).mono ?_; rintro e w3 ⟨rfl, hb⟩; have HB3 := Lib.hid (bel_on HB2.out hb); clear hb) | (go_at_call 6; refine (sure_any _).mono ?_; rintro e w4 ⟨rfl, hb⟩; have HB4 := Lib.hid (bel_on HB3.out hb); clear hb))
      go_ret
      exact ⟨rfl, out_box HB4.out⟩
end Go.Proofs.YtcgpjfcfokiagaaDoor

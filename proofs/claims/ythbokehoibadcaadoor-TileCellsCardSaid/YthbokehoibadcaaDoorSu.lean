/-
  THE WALKS of the statements' `sure` and `give`. No condition.
-/
import Derived.Test.YthbokehoibadcaaDoorKe
import Derived.Test.YthbokehoibadcaaDoorTe
namespace Go.Proofs.YthbokehoibadcaaDoor
open Go.RowKit Ti Ru

theorem rule_b3 : mayR 8 12 = true := by decide
theorem grown_three : liv (growB 8 12 1 (q4 123145302310912#64 0#64 0#64 0#64)) = 3 := by decide +kernel
theorem turned_one : rg (turnB (flipB 1#64)) ≠ 0 := by decide +kernel
theorem grow_b3 (w : World) : Calls Tryd.prog 15 #[.agg #[.int .u16 8, .int .u16 12], .agg #[.int .u64 123145302310912, .int .u64 0, .int .u64 0, .int .u64 0], .int .i64 1] w fun x w' => x = .returned (.tuple #[.int .u64 (rg (growB 8 12 1 (q4 123145302310912#64 0#64 0#64 0#64))), .nilIface]) ∧ Below w.heap.size w w' :=
  grow_fine 8 12 rule_b3 123145302310912#64 0#64 0#64 0#64 1 (by decide) w
theorem count_three (w : World) : Calls Tryd.prog 9 #[.int .u64 (rg (growB 8 12 1 (q4 123145302310912#64 0#64 0#64 0#64)))] w fun e w' => e = .returned (.int .i64 3) ∧ w = w' := by
  have h := count_any (growB 8 12 1 (q4 123145302310912#64 0#64 0#64 0#64)) w
  rw [grown_three] at h
  exact h
theorem flip_one (w : World) : Calls Tryd.prog 12 #[.int .u64 1] w fun e w' => e = .returned (.int .u64 (rg (flipB 1#64))) ∧ w = w' := flip_any 1#64 w
set_option maxRecDepth 100000 in
theorem sure_any (w : World) :
    Calls Tryd.prog 14 #[] w fun e w' => e = .returned (.bool true) ∧ Below w.heap.size w w' := by
  have HG := Lib.hid grow_b3
  have HC := Lib.hid count_three
  have HFl := Lib.hid flip_one
  have HT := Lib.hid (fun w => turn_any (flipB 1#64) w)
  have ht := Lib.hid (bne_iff_ne.2 turned_one)
  generalize growB 8 12 1 (q4 123145302310912#64 0#64 0#64 0#64) = G at HG HC
  generalize rg (turnB (flipB 1#64)) = R at HT ht
  go_enter Tryd.func14, Tryd.ntmps14
  go_wp2_with (first | (go_at_call 15; refine (HG.out _).mono ?_; rintro e w1 ⟨rfl, hb1⟩; have HB1 := Lib.hid ((alX w _).trans (hb1.mono (by simp))); clear hb1) | (go_at_call 9; refine (HC.out _).mono ?_; rintro e w2 ⟨rfl, rfl⟩) | (go_at_call 12; refine (HFl.out _).mono ?_; rintro e w2 ⟨rfl, rfl⟩) | (go_at_call 10; refine (HT.out _).mono ?_; rintro e w2 ⟨rfl, rfl⟩))
  go_ret
  exact ⟨by rw [ht.out]; rfl, HB1.out⟩
set_option maxRecDepth 100000 in
theorem give_any (a b c d : Int) (w : World) :
    Calls Tryd.prog 16 #[.agg #[.int .u64 a, .int .u64 b, .int .u64 c, .int .u64 d]] w fun e w' => e = .returned (.agg #[.int .u64 a, .int .u64 b, .int .u64 c, .int .u64 d]) ∧ Below w.heap.size w w' := by
  go_enter Tryd.func16, Tryd.ntmps16
  go_wp2
  have HX := two_boxes w (.cells #[.int .u64 a, .int .u64 b, .int .u64 c, .int .u64 d] 40) (.cells #[.int .u64 a, .int .u64 b, .int .u64 c, .int .u64 d] 43)
  exact bodyPost_ret (results_cell_row Tryd.results16 _ _ (w.heap.size + 1) 43 _ (0, 0) _ rfl HX.2.1 Tryd.underlying43 rfl (by kernel_rfl)) rfl ⟨rfl, HX.2.2.1⟩
/-- four numbers that came in, as tiles -/
theorem four_open {a b c d : Int} (h : (Lit.int .u64 a).wf = true ∧ (Lit.int .u64 b).wf = true ∧ (Lit.int .u64 c).wf = true ∧ (Lit.int .u64 d).wf = true) : ∃ A B C D : T6, a = rg A ∧ b = rg B ∧ c = rg C ∧ d = rg D := by
  have q : ∀ n : Int, (Lit.int .u64 n).wf = true → ∃ X : T6, n = rg X := fun n hn => by
    have h1 : IntKind.u64.min ≤ n ∧ n ≤ IntKind.u64.max := by simpa [Lit.wf] using hn
    have e0 : IntKind.u64.min = 0 := rfl
    have e1 : IntKind.u64.max = 18446744073709551615 := rfl
    exact ⟨BitVec.ofInt 64 n, (rg_of n (by omega) (by omega)).symm⟩
  obtain ⟨A, ha⟩ := q a h.1
  obtain ⟨B, hb⟩ := q b h.2.1
  obtain ⟨C, hc⟩ := q c h.2.2.1
  obtain ⟨D, hd⟩ := q d h.2.2.2
  exact ⟨A, B, C, D, ha, hb, hc, hd⟩
theorem one_open {n : Int} (hn : (Lit.int .u64 n).wf = true) : ∃ X : T6, n = rg X := by
  obtain ⟨A, _, _, _, h, _⟩ := four_open (a := n) (b := n) (c := n) (d := n) ⟨hn, hn, hn, hn⟩
  exact ⟨A, h⟩
end Go.Proofs.YthbokehoibadcaaDoor

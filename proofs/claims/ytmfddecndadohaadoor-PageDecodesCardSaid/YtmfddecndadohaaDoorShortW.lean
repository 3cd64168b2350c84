/-
  THE WALK of the statement on short bytes. Condition: errors.errorType is as the program's text lays it.
-/
import Derived.Test.YtmfddecndadohaaDoorSu
namespace Go.Proofs.YtmfddecndadohaaDoor
open Go.RowKit Crc

theorem zeros_bad512 : isGood (List.replicate 512 0) = false := by decide +kernel
set_option maxRecDepth 100000 in
theorem make_k (k : Nat) (hk : k ≤ 1099) (w : World) : (Instr.makeSlice 30 (.int .i64 k) (.int .i64 k)).run Tryd.prog w = .ok (.slice (some ⟨w.heap.size, 0, none⟩) k k) (w.alloc (.cells (Array.replicate k (.int .u8 0)) 5)) := by
  have h := run_make_row' (P := Tryd.prog) (w := w) 30 5 (.int .u8 0) 1 Tryd.underlying30 info_b rfl .i64 .i64 k (by omega) (by omega)
  rw [made_eq] at h
  exact h
set_option maxRecDepth 100000 in
theorem zeros_sum (w : World) :
    Calls Tryd.prog 19 #[.slice (some ⟨w.heap.size, 0, none⟩) 512 512] (w.alloc (.cells (Array.replicate 512 (.int .u8 0)) 5)) fun e w' => e = .returned (.tuple #[.agg #[.int .u8 0, .int .u32 0, .int .u64 0, .int .i64 0, .slice none 0 0], .iface 52 (.int .i64 7)]) ∧ Below w.heap.size w w' :=
  (decode_sum w.heap.size 0 512 (List.replicate 512 0) _ (by simp) ((blk_zeros w 512).lies (byte_zeros 512)) (by decide) zeros_bad512).mono fun e w' ⟨he, hb⟩ => ⟨he, (alX _ _).trans (hb.mono (by simp))⟩
set_option maxRecDepth 100000 in
theorem short_walk (a : Int) (w : World) (_ : (Lit.int .i64 a).wf = true) (hl : Laid w) :
    Calls Tryd.prog 8 #[.int .i64 a] w fun e w' => e = .returned (.bool true) ∧ Below w.heap.size w w' := by
  have hb := red_bd a 1100 (by decide) (by decide)
  obtain ⟨k, hk⟩ := Int.eq_ofNat_of_zero_le hb.1
  rw [hk] at hb
  have hb1 : k ≤ 1099 := by omega
  have HL := Lib.hid hl
  clear hb hl
  by_cases h5 : k = 512
  · subst h5
    have hmk := make512
    have hk' : wrap64 ((IntKind.u64.wrap a).tmod 1100) = 512 := hk
    clear hk hb1
    go_enter Tryd.func8, Tryd.ntmps8
    go_wp2_with (first | (go_at_call 19; refine (zeros_sum w).mono ?_; rintro e w1 ⟨rfl, hb1⟩; have HB1 := Lib.hid (hb1.alloc hb1.size (.cells zpg 29)); clear hb1) | (go_at_call 16; refine (num_err 7 _ (HL.out.below HB1.out)).mono ?_; rintro e w2 ⟨rfl, hb2⟩; have HB2 := Lib.hid (HB1.out.trans (hb2.mono HB1.out.size)); clear hb2) | (go_at_call 10; refine (sure_any _).mono ?_; rintro e w3 ⟨rfl, hb3⟩; have HB3 := Lib.hid (HB2.out.trans (hb3.mono HB2.out.size)); clear hb3))
    go_ret
    exact ⟨rfl, HB3.out⟩
  · have hmk := make_k k hb1
    have h1 : ((k : Int) != 512) = true := by rw [bne_iff_ne]; omega
    go_enter Tryd.func8, Tryd.ntmps8
    go_wp2_with (first | (go_at_call 19; refine (decode_long _ _ _ _ h5).mono ?_; rintro e w1 ⟨rfl, hb1⟩; have hb1' := (alX w (.cells (Array.replicate k (.int .u8 0)) 5)).trans (hb1.mono (by simp)); have HB1 := Lib.hid (hb1'.alloc hb1'.size (.cells zpg 29)); clear hb1 hb1') | (go_at_call 16; refine (num_err 2 _ (HL.out.below HB1.out)).mono ?_; rintro e w2 ⟨rfl, hb2⟩; have HB2 := Lib.hid (HB1.out.trans (hb2.mono HB1.out.size)); clear hb2) | (go_at_call 10; refine (sure_any _).mono ?_; rintro e w3 ⟨rfl, hb3⟩; have HB3 := Lib.hid (HB2.out.trans (hb3.mono HB2.out.size)); clear hb3))
    go_ret
    exact ⟨rfl, HB3.out⟩
end Go.Proofs.YtmfddecndadohaaDoor

/-
  THE WALK of the statement on sums against the document's own. Conditions: what came in could be read.
-/
import Derived.Test.YtefdmocfoopghaaPartsW
namespace Go.Proofs.Ytefdmocfoopghaa
open Go.RowKit Crc

theorem ref_n (s : BitVec 32) (a : Option Addr) (c n : Nat) (xs : List Int) (w : World) (hx : Lies w a xs) (hn : xs.length = n) (hm : n ≤ 9223372036854775807) :
    Calls Try.prog 11 #[.int .u32 (rg s), .slice a n c] w fun e w' => e = .returned (.int .u32 (rg (more s xs))) ∧ w = w' := by
  subst hn
  exact ref_any s a c xs w hx hm
theorem ref_0 (a : Option Addr) (c n : Nat) (xs : List Int) (w : World) (hx : Lies w a xs) (hn : xs.length = n) (hm : n ≤ 9223372036854775807) :
    Calls Try.prog 11 #[.int .u32 0, .slice a n c] w fun e w' => e = .returned (.int .u32 (rg (more 0#32 xs))) ∧ w = w' :=
  ref_n 0#32 a c n xs w hx hn hm
theorem lies_zeros (w : World) (n : Nat) : Lies (w.alloc (.cells (List.replicate n (Value.int .u8 0)).toArray 5)) (some ⟨w.heap.size, 0, none⟩) (List.replicate n 0) := by
  have e : List.replicate n (Value.int .u8 0) = bl (List.replicate n 0) := by simp [bl]
  rw [e]
  exact lies_block (heap_alloc_new _ _) (by intro i hi; simp)

set_option maxRecDepth 100000 in
set_option maxHeartbeats 2000000 in
theorem sums_walk (a0 : Option Addr) (len0 cap0 : Nat) (z0 : List Int) (a1 a2 : Int) (w : World) (w0 : IsRow .u8 w a0 len0 cap0 z0) (w1 : (Lit.int .u32 a1).wf = true) (_w2 : (Lit.int .i64 a2).wf = true) :
    Calls Try.prog 3 #[.slice a0 len0 cap0, .int .u32 a1, .int .i64 a2] w fun e w' => e = .returned (.bool true) ∧ Below w.heap.size w w' := by
  obtain ⟨xs, hx, lx, cx, mx⟩ := isrow_open w0
  by_cases hbig : 3000 < len0
  · go_enter Try.func3, Try.ntmps3
    go_wp2_with (first | (go_at_call 9; refine (sure_any _).mono ?_; rintro e w2 ⟨rfl, hb2⟩))
    go_ret
    exact ⟨rfl, hb2⟩
  · obtain ⟨s, rfl⟩ : ∃ s, a1 = rg s := ⟨b8 a1, (rg_b8 a1 (bounds_u32 w1).1 (by have := (bounds_u32 w1).2; omega)).symm⟩
    have hr := red_bd a2 300 (by decide) (by decide)
    obtain ⟨K, hK⟩ : ∃ K : Nat, wrap64 ((IntKind.u64.wrap a2).tmod 300) = (K : Int) := ⟨(wrap64 ((IntKind.u64.wrap a2).tmod 300)).toNat, by omega⟩
    rw [hK] at hr
    have hk3 : K < 300 := by omega
    have q3 : (rg (nts s (K : Int)) == rg (more s (List.replicate K 0))) = true := beq_of (congrArg rg (nts_more s K (by omega)))
    have q4 : (rg (nts s (-(K : Int))) == rg s) = true := beq_of (congrArg rg (nts_none s _ (by omega)))
    have hwk : IntKind.i64.wrap (-(K : Int)) = -(K : Int) := IntWalk.i64_in _ (by omega)
    have hmk := run_make_row' (P := Try.prog) 22 5 (.int .u8 0) 1 Try.underlying22 info_b rfl .i64 .i64 K (by omega) (by omega)
    rw [made_eq] at hmk
    have SX := Lib.hid lx
    have LX := Lib.hid hx
    have HB := Lib.hid (Below.refl w.heap.size w).drew
    clear w0 w1 lx hx hr
    go_enter Try.func3, Try.ntmps3
    go_wp2
    go_region_held3 (fun _ => True) (trivial) (first | (go_at_call 10; refine (sum_n _ _ _ _ _ SX.out.drew LX.out (by omega)).mono ?_; rintro e w' ⟨rfl, rfl⟩) | (go_at_call_of 11 (Value.int .u32 0); refine (ref_0 _ _ _ _ _ SX.out.drew LX.out (by omega)).mono ?_; rintro e w' ⟨rfl, rfl⟩) | (go_at_call 12; refine (more_n _ _ _ _ _ _ SX.out.drew LX.out (by omega)).mono ?_; rintro e w' ⟨rfl, rfl⟩) | (go_at_call_of 11 (Value.slice a0 len0 cap0); refine (ref_n _ _ _ _ _ _ SX.out.drew LX.out (by omega)).mono ?_; rintro e w' ⟨rfl, rfl⟩) | (go_at_call 13; refine (noughts_any _ _ (by omega) _).mono ?_; rintro e wk ⟨rfl, hbk⟩; have HB : Hid (Below w.heap.size w wk) := (by first | exact HB.out.trans (hbk.mono HB.out.size) | exact (HB.out.alloc HB.out.size _).trans (hbk.mono (HB.out.alloc HB.out.size _).size))) | (go_at_call 9; refine (sure_any _).mono ?_; rintro e wk ⟨rfl, hbk⟩; have HB : Hid (Below w.heap.size w wk) := (by first | exact HB.out.trans (hbk.mono HB.out.size) | exact (HB.out.alloc HB.out.size _).trans (hbk.mono (HB.out.alloc HB.out.size _).size))) | (go_at_call 11; (first | refine (ref_n s _ K K (List.replicate K 0) _ (lies_zeros _ K) List.length_replicate (by omega)).mono ?_ | refine (ref_n s _ K K (List.replicate K 0) _ ((lies_zeros w K).drew.below hbk) List.length_replicate (by omega)).mono ?_); rintro e w' ⟨rfl, rfl⟩))
    all_goals go_wp2
    all_goals go_ret
    all_goals exact ⟨rfl, HB.out⟩
end Go.Proofs.Ytefdmocfoopghaa

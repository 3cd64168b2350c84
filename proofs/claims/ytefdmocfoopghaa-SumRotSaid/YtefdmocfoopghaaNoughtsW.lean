/-
  THE WALK of the statement on noughts: so many, and so many more, are all of them; none change nothing; any number ends. Conditions: the numbers fit their kinds.
-/
import Derived.Test.YtefdmocfoopghaaSure
import Derived.IntWalk
import Derived.OpenShut
namespace Go.Proofs.Ytefdmocfoopghaa
open Go.RowKit Crc

theorem beq_of {a b : Int} (h : a = b) : (a == b) = true := by rw [h]; exact beq_self_eq_true b
theorem not_not32 (x : BitVec 32) : ~~~(~~~x) = x := BitVec.not_not
theorem nts_add (s : BitVec 32) (x y : Int) (h0 : 0 ≤ x) (h1 : 0 ≤ y) (h : x + y ≤ 1099511627776) : nts (nts s x) y = nts s (x + y) := by
  unfold nts
  rw [not_not32]
  have e1 : (min x 1099511627776).toNat = x.toNat := by omega
  have e2 : (min y 1099511627776).toNat = y.toNat := by omega
  have e3 : (min (x + y) 1099511627776).toNat = x.toNat + y.toNat := by omega
  rw [e1, e2, e3, it_add]
theorem nts_none (s : BitVec 32) (x : Int) (h : x ≤ 0) : nts s x = s := by
  unfold nts
  have e1 : (min x 1099511627776).toNat = 0 := by omega
  rw [e1, it_zero, not_not32]
theorem nts_cap (s : BitVec 32) (x : Int) (h : 0 ≤ x) : nts s (1099511627776 + x) = nts s 1099511627776 := by
  unfold nts
  have e1 : min (1099511627776 + x) 1099511627776 = 1099511627776 := by omega
  have e2 : min (1099511627776 : Int) 1099511627776 = 1099511627776 := by omega
  rw [e1, e2]
theorem up_zeros (r : BitVec 32) (n : Nat) : up r (List.replicate n 0) = it z n r := by
  unfold up
  have e : b8 0 = 0#32 := rfl
  rw [List.map_replicate, e, upv_zeros]
theorem nts_more (s : BitVec 32) (n : Nat) (h : n ≤ 1099511627776) : nts s n = more s (List.replicate n 0) := by
  unfold nts more
  have e1 : (min (n : Int) 1099511627776).toNat = n := by omega
  rw [e1, up_zeros]
theorem more_nought (s : BitVec 32) (w : World) :
    Calls Try.prog 12 #[.int .u32 (rg s), .slice (some ⟨w.heap.size, 0, none⟩) 1 1] (w.alloc (.cells #[.int .u8 0] 5)) fun e w' => e = .returned (.int .u32 (rg (more s [0]))) ∧ (w.alloc (.cells #[.int .u8 0] 5)) = w' :=
  more_any s _ 1 [0] _ (lies_block (heap_alloc_new _ _) (by unfold Byte; decide)) (by decide)
/-- int(uint(a) % m) -/
theorem red_bd (a m : Int) (hm : 0 < m) (hm2 : m ≤ 9223372036854775807) : 0 ≤ wrap64 ((IntKind.u64.wrap a).tmod m) ∧ wrap64 ((IntKind.u64.wrap a).tmod m) < m := by
  have h0 := wrap_u64_nonneg a
  rw [Int.tmod_eq_emod_of_nonneg h0]
  have h1 := Int.emod_nonneg (IntKind.u64.wrap a) (show m ≠ 0 by omega)
  have h2 := Int.emod_lt_of_pos (IntKind.u64.wrap a) hm
  rw [IntWalk.wrap64_in _ ⟨by omega, by omega⟩]
  exact ⟨h1, h2⟩

set_option maxRecDepth 100000 in
theorem noughts_walk (a0 a1 a2 : Int) (w : World) (w0 : (Lit.int .u32 a0).wf = true) (_w1 : (Lit.int .i64 a1).wf = true) (_w2 : (Lit.int .i64 a2).wf = true) :
    Calls Try.prog 4 #[.int .u32 a0, .int .i64 a1, .int .i64 a2] w fun e w' => e = .returned (.bool true) ∧ Below w.heap.size w w' := by
  obtain ⟨s, rfl⟩ : ∃ s, a0 = rg s := ⟨b8 a0, (rg_b8 a0 (bounds_u32 w0).1 (by have := (bounds_u32 w0).2; omega)).symm⟩
  have hxb := red_bd a1 549755813888 (by decide) (by decide)
  have hyb := red_bd a2 549755813888 (by decide) (by decide)
  obtain ⟨x, hx⟩ : ∃ x, wrap64 ((IntKind.u64.wrap a1).tmod 549755813888) = x := ⟨_, rfl⟩
  obtain ⟨y, hy⟩ : ∃ y, wrap64 ((IntKind.u64.wrap a2).tmod 549755813888) = y := ⟨_, rfl⟩
  rw [hx] at hxb
  rw [hy] at hyb
  have q1 := beq_of (congrArg rg (nts_add s x y (by omega) (by omega) (by omega)))
  have q2 := beq_of (congrArg rg (nts_none s 0 (by omega)))
  have q3 := beq_of (congrArg rg (nts_cap s x (by omega)))
  have q4 : (rg (nts s 1) == rg (more s [0])) = true := beq_of (congrArg rg (nts_more s 1 (by omega)))
  have HB := Lib.hid (Below.refl w.heap.size w)
  clear w0
  go_enter Try.func4, Try.ntmps4
  go_wp2_with (first | (go_at_call 13; refine (noughts_any _ _ (by omega) _).mono ?_; rintro e wk ⟨rfl, hbk⟩; have HB := Lib.hid (HB.out.trans (hbk.mono HB.out.size)); clear hbk) | (go_at_call 12; refine (more_nought _ _).mono ?_; rintro e wk ⟨rfl, rfl⟩; have HB := Lib.hid (HB.out.alloc HB.out.size (.cells #[.int .u8 0] 5))) | (go_at_call 9; refine (sure_any _).mono ?_; rintro e wk ⟨rfl, hbk⟩; have HB := Lib.hid (HB.out.trans (hbk.mono HB.out.size)); clear hbk))
  go_ret
  exact ⟨rfl, HB.out⟩
end Go.Proofs.Ytefdmocfoopghaa

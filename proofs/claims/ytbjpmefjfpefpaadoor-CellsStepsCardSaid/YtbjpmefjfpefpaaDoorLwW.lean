/-
  THE WALK of CellsLong. Condition: what came in could be read.
-/
import Derived.Test.YtbjpmefjfpefpaaDoorLw
import Derived.Test.YtbjpmefjfpefpaaDoorCq
import Derived.Test.YtbjpmefjfpefpaaDoorCin
import Derived.Test.YtbjpmefjfpefpaaDoorErr
import Derived.Deep.DeepCutAuto
namespace Go.Proofs.YtbjpmefjfpefpaaDoor
open Go.RowKit Ru Ce

def YesL (w : World) (e : Ending) (w' : World) : Prop := e = .returned (.bool true) ∧ Below w.heap.size w w'
theorem born2 (n : Int) : bits .and .u16 (IntKind.u16.wrap n) 2 = 0 ∨ bits .and .u16 (IntKind.u16.wrap n) 2 = 2 := by
  have e : IntKind.u16.wrap n = n % 65536 := by simp [IntKind.wrap, IntKind.bits, IntKind.signed]
  have h0 : 0 ≤ n % 65536 := Int.emod_nonneg _ (by decide)
  obtain ⟨a, ha⟩ := Int.eq_ofNat_of_zero_le h0
  rw [e, ha]
  have h1 := u16_and_nat a 2 (by omega) (by decide)
  have h2 : a &&& 2 = 0 ∨ a &&& 2 = 2 := by
    have h4 : a &&& 2 ≤ 2 := Nat.and_le_right
    have h5 : (a &&& 2).testBit 0 = false := by rw [Nat.testBit_and]; simp
    rw [Nat.testBit_zero, decide_eq_false_iff_not] at h5
    omega
  have h3 : bits .and .u16 (a : Int) 2 = ((a &&& 2 : Nat) : Int) := h1
  rw [h3]
  rcases h2 with h2 | h2 <;> rw [h2] <;> simp
theorem step_fail (bb ll : Nat) (hb : bb < 65536) (hl : ll < 65536) (a : Option Addr) (m c : Nat) (L : List Cel) (n : Int) (k : Nat) (hk : ¬ k = 0) (hE : stepN bb ll L n = k) (w : World) (ha : Cls w a L) (hn : L.length = m) (hz : a = none → m = 0) (hm : m ≤ 9223372036854775807) :
    Calls Tryd.prog 17 #[Rv bb ll, .slice a m c, .int .i64 n] w fun e w' => e = .returned (.tuple #[.slice none 0 0, .iface 62 (.int .i64 (k : Int))]) ∧ Below w.heap.size w w' := by
  refine (step_any bb ll hb hl a m c L n w ha hn hz hm).mono fun e w' h => ?_
  unfold StepR at h
  rwa [if_neg (by rw [hE]; exact hk), hE, errv_some hk] at h
theorem uw12 (n : Int) : ∃ k : Nat, k < 12 ∧ wrap64 ((IntKind.u64.wrap n).tmod 12) = (k : Int) := by
  have e : IntKind.u64.wrap n = n % 18446744073709551616 := by simp [IntKind.wrap, IntKind.bits, IntKind.signed]
  have h0 : 0 ≤ n % 18446744073709551616 := Int.emod_nonneg _ (by decide)
  rw [e, Int.tmod_eq_emod_of_nonneg h0]
  refine ⟨(n % 18446744073709551616 % 12).toNat, by omega, ?_⟩
  unfold wrap64
  omega
set_option maxRecDepth 100000 in
set_option maxHeartbeats 4000000 in
theorem long_walk (n : Int) (W : World) (_w0 : (Lit.int .i64 n).wf = true) (hl : Laid W) :
    Calls Tryd.prog 5 #[.int .i64 n] W (YesL W) := by
  obtain ⟨r, hr12, hr⟩ := uw12 n
  obtain ⟨K, hK⟩ : ∃ K, K = 4090 + r := ⟨_, rfl⟩
  have r0 : (0 : Int) ≤ (r : Int) := by omega
  have r1 : (r : Int) < 12 := by omega
  have hKr : 4090 + (r : Int) = (K : Int) := by omega
  have hK1 : 4090 ≤ K := by omega
  have hK2 : K ≤ 4101 := by omega
  have k0 : (4090 : Int) ≤ (K : Int) := by omega
  have k1 : (K : Int) ≤ 4101 := by omega
  clear hK
  obtain ⟨i0, hi, hz0, hz1, hz2⟩ := info_parts info_a
  have HI := Lib.hid hi
  have HI0 := Lib.hid hz0
  have HI1 := Lib.hid hz1
  have HI2 := Lib.hid hz2
  have HLD := Lib.hid hl
  clear hi hz0 hz1 hz2 hl
  go_enter Tryd.func5, Tryd.ntmps5
  go_wp2
  clear hr hKr r0 r1 hr12
  go_loopw [5, 4] (fun i v wr => ∃ k : Nat, k ≤ K ∧ i = .int .i64 k ∧ Hid (OwnC 38 wr W.heap.size v k (far3 k)) ∧ Hid (Below W.heap.size W wr)) (fun i _ _ => K - (intOf i).toNat)
  case atStart => exact ⟨0, by omega, rfl, Lib.hid (World.ownsRow_nil _ _ _ _), Lib.hid (Below.refl _ _)⟩
  case round =>
    obtain ⟨k, hk, rfl, HO, HB⟩ := hrel
    have i0' : (0 : Int) ≤ (k : Int) := by omega
    have i1' : (k : Int) ≤ 4101 := by omega
    by_cases hlt : k < K
    · have i2 : (k : Int) < (K : Int) := by omega
      have HK := Lib.hid (And.intro hlt hK2)
      have HBS := Lib.hid HB.out.size
      go_wp2_with (at_builtin; refine wpList_append_own _ rfl (.tmp 24) (.tmp 28) 27 rfl W.heap.size 38 i0 (cv (0, 0)) 2 16 Tryd.underlying27 HI.out HI0.out HI1.out HI2.out rfl (by decide) _ k (cl (far3 k)) rfl (HO.out.alloc _) ⟨wr.heap.size, 0, none⟩ 1 1 (cc (3 * (k : Int), 0)) rfl rfl (cells2 _ _ (3 * (k : Int), 0)) (cc_one _) (by have := HK.out; unfold maxLen; omega) (by have := HK.out; omega) (by have := HBS.out; simp; omega) ?_; intro v2 w5 hown hgrow _; have HO5 := Lib.hid (show OwnC 38 w5 W.heap.size v2 (k + 1) (far3 (k + 1)) by have h9 := hown; rw [cl_snoc] at h9; rw [far3_succ]; exact h9); have HB5 := Lib.hid ((HB.out.alloc HB.out.size (.cells #[.int .i64 (3 * (k : Int)), .int .i64 0] 38)).grown hgrow (by have := HBS.out; simp; omega) (fun j hj => (HO.out.lt j hj).1)); clear hown hgrow)
      go_roundw
      case rel => exact ⟨k + 1, by omega, by go_num, HO5, HB5⟩
      case measure => simp [intOf]; omega
    · obtain rfl : k = K := by omega
      have HK2 := Lib.hid (And.intro hK1 hK2)
      obtain ⟨ao, cap, rfl, hcls, hcap, hcm, hlen, hlt2, hnone⟩ := own_cls HO.out
      have HS := Lib.hid (sorted_any ao k cap (far3 k) wr hcls (far3_len k) hnone (by omega))
      obtain ⟨g, rfl⟩ : ∃ g, ao = some ⟨g, 0, none⟩ := by
        cases ao with
        | none => exact absurd (hnone rfl) (by omega)
        | some ad =>
          rcases HO.out.2 with ⟨e, _⟩ | ⟨g, c2, cur, e, _⟩
          · cases e
          · simp at e
            exact ⟨g, by rw [e.1]⟩
      have HCL := Lib.hid hcls
      have HC6 := Lib.hid (show Cls wr (some ⟨g, 0, none⟩) (far3 600) by have := hcls.take 600; rwa [far3_take (by omega)] at this)
      have hsl : ∀ V : World, (Instr.sliceAt 27 (.slice (some ⟨g, 0, none⟩) k cap) none (some (.int .i64 600)) none).run Tryd.prog V = .ok (.slice (some ⟨g, 0, none⟩) 600 cap) V := fun V => head_c 0 0 k cap 600 600 rfl (by omega) V |> fun _ => head_c g 0 k cap 600 600 rfl (by omega) V
      have HB0 := Lib.hid (fun V (hc : Cls V (some ⟨g, 0, none⟩) (far3 600)) => step_good 0 511 (by decide) (some ⟨g, 0, none⟩) 600 cap (far3 600) (far3 600) 1 1 rfl (by decide) (by rw [far3_chk (by decide)]; rfl) (by rw [srt_self (far3_srt 600)]; exact far3_same) V hc (far3_len 600) (fun e => by cases e) (by omega))
      have HB2 := Lib.hid (fun V (hc : Cls V (some ⟨g, 0, none⟩) (far3 600)) => step_fail 2 511 (by decide) (by decide) (some ⟨g, 0, none⟩) 600 cap (far3 600) 1 6 (by decide) (by
        unfold stepN
        rw [if_neg (by decide), if_neg (by decide), if_pos (by rw [far3_chk (by decide)]; rfl), srt_self (far3_srt 600)]
        have := far3_many
        rw [show (1 : Int).toNat = 1 from rfl, this]) V hc (far3_len 600) (fun e => by cases e) (by omega))
      have HSU := Lib.hid (fun V => sure_any V)
      unfold Rv at HB0 HB2
      have HF6 := Lib.hid (far3_len 600)
      have HWB := Lib.hid HB.out
      rcases born2 n with hbn | hbn
      · by_cases hbig : 4096 < k
        · have HSS := Lib.hid (show ∀ e w', SortedR wr (far3 k) e w' → e = .returned (.tuple #[.slice none 0 0, .iface 62 (.int .i64 2)]) ∧ Below wr.heap.size wr w' from fun e w' h => by
            unfold SortedR at h
            rw [far3_chk (by omega), if_pos hbig, if_neg (by decide)] at h
            exact h)
          have HS2 := Lib.hid (fun V (hc : Cls V (some ⟨g, 0, none⟩) (far3 k)) => step_fail 0 0 (by decide) (by decide) (some ⟨g, 0, none⟩) k cap (far3 k) 1 2 (by decide) (by
            unfold stepN
            rw [if_neg (by decide), if_neg (by decide), far3_chk (by omega), if_pos hbig, if_neg (by decide)]) V hc (far3_len k) (fun e => by cases e) (by omega))
          unfold Rv at HS2
          have i9 : (4096 : Int) < (k : Int) := by omega
          go_upto_region 11 with (first | (go_at_call 8; refine HS.out.mono ?_; intro e w1 h1; obtain ⟨rfl, hb1⟩ := HSS.out _ _ h1; have HR := Lib.hid hb1; clear h1 hb1) | (go_at_call 17; refine (HB0.out _ (HC6.out.below HR.out (Nat.le_refl _))).mono ?_; intro e w2 h2; obtain ⟨co, ccap, he2, _, _, hb2⟩ := h2; rw [HF6.out] at he2; subst he2; replace HR := Lib.hid (HR.out.trans (hb2.mono HR.out.size)); clear hb2))
          go_wp2_with (first | (go_at_call 11; refine (num_err _ _ (HLD.out.below (HWB.out.trans (HR.out.mono HWB.out.size)))).mono ?_; rintro e wn ⟨rfl, hbn2⟩; replace HR := Lib.hid (HR.out.trans (hbn2.mono HR.out.size)); clear hbn2) | (go_at_call 6; refine (HSU.out _).mono ?_; rintro e wn ⟨rfl, hbn2⟩; replace HR := Lib.hid (HR.out.trans (hbn2.mono HR.out.size)); clear hbn2) | (go_at_call 17; refine (HS2.out _ (HCL.out.below HR.out (Nat.le_refl _))).mono ?_; rintro e wn ⟨rfl, hbn2⟩; replace HR := Lib.hid (HR.out.trans (hbn2.mono HR.out.size)); clear hbn2))
          go_ret
          exact ⟨rfl, HWB.out.trans (HR.out.mono HWB.out.size)⟩
        · have HSS := Lib.hid (show ∀ e w', SortedR wr (far3 k) e w' → ∃ v, e = .returned (.tuple #[v, .nilIface]) ∧ OwnC 38 w' wr.heap.size v k (far3 k) ∧ Below wr.heap.size wr w' from fun e w' h => by
            unfold SortedR at h
            rw [far3_chk (by omega), if_neg hbig, if_pos rfl, srt_self (far3_srt k), far3_len] at h
            exact h)
          have i9 : ¬ (4096 : Int) < (k : Int) := by omega
          go_upto_region 11 with (first | (go_at_call 8; refine HS.out.mono ?_; intro e w1 h1; obtain ⟨v1, rfl, ho1, hb1⟩ := HSS.out _ _ h1; obtain ⟨bo, bcap, rfl, _⟩ := own_cls ho1; have HR := Lib.hid hb1; clear h1 hb1 ho1) | (go_at_call 17; refine (HB0.out _ (HC6.out.below HR.out (Nat.le_refl _))).mono ?_; intro e w2 h2; obtain ⟨co, ccap, he2, _, _, hb2⟩ := h2; rw [HF6.out] at he2; subst he2; replace HR := Lib.hid (HR.out.trans (hb2.mono HR.out.size)); clear hb2))
          go_wp2_with (first | (go_at_call 11; refine (num_err _ _ (HLD.out.below (HWB.out.trans (HR.out.mono HWB.out.size)))).mono ?_; rintro e wn ⟨rfl, hbn2⟩; replace HR := Lib.hid (HR.out.trans (hbn2.mono HR.out.size)); clear hbn2) | (go_at_call 6; refine (HSU.out _).mono ?_; rintro e wn ⟨rfl, hbn2⟩; replace HR := Lib.hid (HR.out.trans (hbn2.mono HR.out.size)); clear hbn2))
          go_ret
          exact ⟨rfl, HWB.out.trans (HR.out.mono HWB.out.size)⟩
      · by_cases hbig : 4096 < k
        · have HSS := Lib.hid (show ∀ e w', SortedR wr (far3 k) e w' → e = .returned (.tuple #[.slice none 0 0, .iface 62 (.int .i64 2)]) ∧ Below wr.heap.size wr w' from fun e w' h => by
            unfold SortedR at h
            rw [far3_chk (by omega), if_pos hbig, if_neg (by decide)] at h
            exact h)
          have HS2 := Lib.hid (fun V (hc : Cls V (some ⟨g, 0, none⟩) (far3 k)) => step_fail 0 0 (by decide) (by decide) (some ⟨g, 0, none⟩) k cap (far3 k) 1 2 (by decide) (by
            unfold stepN
            rw [if_neg (by decide), if_neg (by decide), far3_chk (by omega), if_pos hbig, if_neg (by decide)]) V hc (far3_len k) (fun e => by cases e) (by omega))
          unfold Rv at HS2
          have i9 : (4096 : Int) < (k : Int) := by omega
          go_upto_region 11 with (first | (go_at_call 8; refine HS.out.mono ?_; intro e w1 h1; obtain ⟨rfl, hb1⟩ := HSS.out _ _ h1; have HR := Lib.hid hb1; clear h1 hb1) | (go_at_call 17; refine (HB2.out _ (HC6.out.below HR.out (Nat.le_refl _))).mono ?_; rintro e w2 ⟨rfl, hb2⟩; replace HR := Lib.hid (HR.out.trans (hb2.mono HR.out.size)); clear hb2))
          go_wp2_with (first | (go_at_call 11; refine (num_err _ _ (HLD.out.below (HWB.out.trans (HR.out.mono HWB.out.size)))).mono ?_; rintro e wn ⟨rfl, hbn2⟩; replace HR := Lib.hid (HR.out.trans (hbn2.mono HR.out.size)); clear hbn2) | (go_at_call 6; refine (HSU.out _).mono ?_; rintro e wn ⟨rfl, hbn2⟩; replace HR := Lib.hid (HR.out.trans (hbn2.mono HR.out.size)); clear hbn2) | (go_at_call 17; refine (HS2.out _ (HCL.out.below HR.out (Nat.le_refl _))).mono ?_; rintro e wn ⟨rfl, hbn2⟩; replace HR := Lib.hid (HR.out.trans (hbn2.mono HR.out.size)); clear hbn2))
          go_ret
          exact ⟨rfl, HWB.out.trans (HR.out.mono HWB.out.size)⟩
        · have HSS := Lib.hid (show ∀ e w', SortedR wr (far3 k) e w' → ∃ v, e = .returned (.tuple #[v, .nilIface]) ∧ OwnC 38 w' wr.heap.size v k (far3 k) ∧ Below wr.heap.size wr w' from fun e w' h => by
            unfold SortedR at h
            rw [far3_chk (by omega), if_neg hbig, if_pos rfl, srt_self (far3_srt k), far3_len] at h
            exact h)
          have i9 : ¬ (4096 : Int) < (k : Int) := by omega
          go_upto_region 11 with (first | (go_at_call 8; refine HS.out.mono ?_; intro e w1 h1; obtain ⟨v1, rfl, ho1, hb1⟩ := HSS.out _ _ h1; obtain ⟨bo, bcap, rfl, _⟩ := own_cls ho1; have HR := Lib.hid hb1; clear h1 hb1 ho1) | (go_at_call 17; refine (HB2.out _ (HC6.out.below HR.out (Nat.le_refl _))).mono ?_; rintro e w2 ⟨rfl, hb2⟩; replace HR := Lib.hid (HR.out.trans (hb2.mono HR.out.size)); clear hb2))
          go_wp2_with (first | (go_at_call 11; refine (num_err _ _ (HLD.out.below (HWB.out.trans (HR.out.mono HWB.out.size)))).mono ?_; rintro e wn ⟨rfl, hbn2⟩; replace HR := Lib.hid (HR.out.trans (hbn2.mono HR.out.size)); clear hbn2) | (go_at_call 6; refine (HSU.out _).mono ?_; rintro e wn ⟨rfl, hbn2⟩; replace HR := Lib.hid (HR.out.trans (hbn2.mono HR.out.size)); clear hbn2))
          go_ret
          exact ⟨rfl, HWB.out.trans (HR.out.mono HWB.out.size)⟩
end Go.Proofs.YtbjpmefjfpefpaaDoor

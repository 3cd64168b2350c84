/-
  THE WALK of CellsSteps. Condition: what came in could be read.
-/
import Derived.Test.YtbjpmefjfpefpaaDoorDh
import Derived.Test.YtbjpmefjfpefpaaDoorCin
import Derived.Test.YtbjpmefjfpefpaaDoorRin
import Derived.Test.YtbjpmefjfpefpaaDoorLwW
import Derived.Deep.DeepCutAuto
namespace Go.Proofs.YtbjpmefjfpefpaaDoor
open Go.RowKit Ru Ce

/-- the rule's box -/
def R2 (w : World) (g bb ll : Nat) : Prop := w.cell? ⟨g, 0, none⟩ = some (.int .u16 bb) ∧ w.cell? ⟨g, 1, none⟩ = some (.int .u16 ll)
theorem R2.of {w : World} {g bb ll : Nat} (h : w.heap[g]? = some (.cells #[.int .u16 bb, .int .u16 ll] 48 (0, 0))) : R2 w g bb ll := ⟨cell_of_row _ _ 0 _ _ _ h, cell_of_row _ _ 1 _ _ _ h⟩
theorem R2.below {w w' : World} {g bb ll : Nat} (h : R2 w g bb ll) (hb : Below w.heap.size w w') : R2 w' g bb ll := by
  have h1 := World.block_lt_of_cell? w _ h.1
  exact ⟨(hb.cell (p := ⟨g, 0, none⟩) h1).trans h.1, (hb.cell (p := ⟨g, 1, none⟩) h1).trans h.2⟩
theorem step_fine (bb ll : Nat) (hb : bb < 65536) (hl : ll < 65536) (a : Option Addr) (m c : Nat) (L : List Cel) (n : Int) (T : List Cel) (hE : stepN bb ll L n = 0) (hT : stepV bb ll L n = T) (w : World) (ha : Cls w a L) (hn : L.length = m) (hz : a = none → m = 0) (hm : m ≤ 9223372036854775807) :
    Calls Tryd.prog 17 #[Rv bb ll, .slice a m c, .int .i64 n] w fun e w' => ∃ v, e = .returned (.tuple #[v, .nilIface]) ∧ OwnC 38 w' w.heap.size v T.length T ∧ Below w.heap.size w w' := by
  refine (step_any bb ll hb hl a m c L n w ha hn hz hm).mono fun e w' h => ?_
  unfold StepR at h
  rwa [if_pos hE, hT] at h
set_option maxRecDepth 100000 in
set_option maxHeartbeats 4000000 in
theorem steps_walk (b l : Nat) (a : Option Addr) (len cap : Nat) (L : List Cel) (n : Int) (W : World) (w0 : b < 65536 ∧ l < 65536) (w1 : IsC W a len L) (_w2 : (Lit.int .i64 n).wf = true) (hl : Laid W) :
    Calls Tryd.prog 4 #[.agg #[.int .u16 b, .int .u16 l], .slice a len cap, .int .i64 n] W (YesL W) := by
  have HSU := Lib.hid (fun V => sure_any V)
  have HLD := Lib.hid hl
  have HW1 := Lib.hid w1
  have HW0 := Lib.hid w0
  have HB0 := Lib.hid (alX W (.cells #[.int .u16 b, .int .u16 l] 48))
  have HX0 := Lib.hid (R2.of (heap_alloc_new W (.cells #[.int .u16 b, .int .u16 l] 48)))
  clear hl w0 w1
  by_cases h30 : 30 < len
  · have i1 : (30 : Int) < (len : Int) := by omega
    go_enter Tryd.func4, Tryd.ntmps4
    go_wp2_with (go_at_call 6; refine (HSU.out _).mono ?_; rintro e wn ⟨rfl, hbn⟩; have HR := Lib.hid (HB0.out.trans (hbn.mono HB0.out.size)); clear hbn)
    go_ret
    exact ⟨rfl, HR.out⟩
  · have i1 : ¬ (30 : Int) < (len : Int) := by omega
    have i2 : decide ((30 : Int) < (len : Int)) = false := decide_eq_false i1
    by_cases h6 : 6 < n ∧ n ≤ 64
    · obtain ⟨j1, j2⟩ := h6
      go_enter Tryd.func4, Tryd.ntmps4
      go_wp2_with (go_at_call 6; refine (HSU.out _).mono ?_; rintro e wn ⟨rfl, hbn⟩; have HR := Lib.hid (HB0.out.trans (hbn.mono HB0.out.size)); clear hbn)
      go_ret
      exact ⟨rfl, HR.out⟩
    · have HLN := Lib.hid (show L.length ≤ 30 by have := HW1.out.len; omega)
      have HGV := Lib.hid (fun V (hb : Below W.heap.size W V) => give_any a len cap L V (HW1.out.cls.below hb (Nat.le_refl _)) HW1.out.len (by omega))
      have HMY := Lib.hid (fun V => may_ref b l V)
      unfold Rv at HMY
      have HN6 := Lib.hid h6
      clear h30 h6
      cases hmay : mayR b l
      · rw [hmay] at HMY
        have HST := Lib.hid (fun ao m cp V ha hn hz hm => step_fail b l HW0.out.1 HW0.out.2 ao m cp L n 11 (by decide) (by unfold stepN; rw [if_pos hmay]) V ha hn hz hm)
        unfold Rv at HST
        clear hmay
        rcases (show ¬ 6 < n ∨ (6 < n ∧ ¬ n ≤ 64) by have := HN6.out; omega) with h5 | ⟨h4, h3⟩
        · have h6 : decide (6 < n) = false := decide_eq_false h5
          go_enter Tryd.func4, Tryd.ntmps4
          go_upto_region 3 with (fail)
          generalize W.alloc (.cells #[.int .u16 b, .int .u16 l] 48) = V0 at HB0 HX0 ⊢
          have KA := Lib.hid HX0.out
          have KD := Lib.hid (show R2 V0.drew W.heap.size b l from HX0.out)
          have KX := Lib.hid (show ∀ V1, Below V0.drew.heap.size V0.drew V1 → R2 V1 W.heap.size b l from fun V1 hb => KD.out.below hb)
          have HBD := Lib.hid HB0.out.drew
          have HBE := Lib.hid (show ∀ V1, Below V0.drew.heap.size V0.drew V1 → Below W.heap.size W V1 from fun V1 hb => HBD.out.trans (hb.mono HBD.out.size))
          unfold R2 at KA KD KX
          go_region_held3 (fun w' => w'.cell? ⟨W.heap.size, 0, none⟩ = some (.int .u16 b) ∧ w'.cell? ⟨W.heap.size, 1, none⟩ = some (.int .u16 l)) (first | with_reducible exact KA.out | with_reducible exact KD.out | with_reducible exact KE.out | with_reducible exact KF.out) (first | (go_at_call 7; refine (HGV.out _ HBD.out).mono ?_; rintro e V1 ⟨v1, rfl, ho1, hb1⟩; obtain ⟨ao, cp, rfl, hc1, hz1, hz2, hz3, hz4, hnone⟩ := own_cls ho1; have KE := Lib.hid (KX.out V1 hb1); have HC1 := Lib.hid hc1; have HN1 := Lib.hid hnone; clear hz1 hz2 hz3 hz4 ho1 hc1 hnone) | (go_at_call 17; refine (HST.out ao L.length cp V1 HC1.out rfl HN1.out (by have := HLN.out; omega)).mono ?_; rintro e V2 ⟨rfl, hb2⟩; have hb3 := hb1.trans (hb2.mono hb1.size); have KF := Lib.hid (KX.out V2 hb3)))
          have HR := Lib.hid (HBE.out V2 hb3)
          have HX2 := Lib.hid (KX.out V2 hb3)
          clear hb1 hb2 hb3 KA KD KE KF KX HBD HBE
          obtain ⟨d0, d1⟩ := HX2.out
          go_wp2_with (first | (go_at_call 18; refine (HMY.out _).mono ?_; rintro e wn ⟨rfl, hbn⟩; replace HX2 := Lib.hid (R2.below HX2.out hbn); replace HR := Lib.hid (HR.out.trans (hbn.mono HR.out.size)); obtain ⟨d2, d3⟩ := HX2.out; clear hbn) | (go_at_call 11; refine (num_err _ _ (HLD.out.below HR.out)).mono ?_; rintro e wn ⟨rfl, hbn⟩; replace HR := Lib.hid (HR.out.trans (hbn.mono HR.out.size)); clear hbn) | (go_at_call 6; refine (HSU.out _).mono ?_; rintro e wn ⟨rfl, hbn⟩; replace HR := Lib.hid (HR.out.trans (hbn.mono HR.out.size)); clear hbn))
          go_ret
          exact ⟨rfl, HR.out⟩
        · have h5 : decide (n ≤ 64) = false := decide_eq_false h3
          go_enter Tryd.func4, Tryd.ntmps4
          go_upto_region 3 with (fail)
          generalize W.alloc (.cells #[.int .u16 b, .int .u16 l] 48) = V0 at HB0 HX0 ⊢
          have KA := Lib.hid HX0.out
          have KD := Lib.hid (show R2 V0.drew W.heap.size b l from HX0.out)
          have KX := Lib.hid (show ∀ V1, Below V0.drew.heap.size V0.drew V1 → R2 V1 W.heap.size b l from fun V1 hb => KD.out.below hb)
          have HBD := Lib.hid HB0.out.drew
          have HBE := Lib.hid (show ∀ V1, Below V0.drew.heap.size V0.drew V1 → Below W.heap.size W V1 from fun V1 hb => HBD.out.trans (hb.mono HBD.out.size))
          unfold R2 at KA KD KX
          go_region_held3 (fun w' => w'.cell? ⟨W.heap.size, 0, none⟩ = some (.int .u16 b) ∧ w'.cell? ⟨W.heap.size, 1, none⟩ = some (.int .u16 l)) (first | with_reducible exact KA.out | with_reducible exact KD.out | with_reducible exact KE.out | with_reducible exact KF.out) (first | (go_at_call 7; refine (HGV.out _ HBD.out).mono ?_; rintro e V1 ⟨v1, rfl, ho1, hb1⟩; obtain ⟨ao, cp, rfl, hc1, hz1, hz2, hz3, hz4, hnone⟩ := own_cls ho1; have KE := Lib.hid (KX.out V1 hb1); have HC1 := Lib.hid hc1; have HN1 := Lib.hid hnone; clear hz1 hz2 hz3 hz4 ho1 hc1 hnone) | (go_at_call 17; refine (HST.out ao L.length cp V1 HC1.out rfl HN1.out (by have := HLN.out; omega)).mono ?_; rintro e V2 ⟨rfl, hb2⟩; have hb3 := hb1.trans (hb2.mono hb1.size); have KF := Lib.hid (KX.out V2 hb3)))
          have HR := Lib.hid (HBE.out V2 hb3)
          have HX2 := Lib.hid (KX.out V2 hb3)
          clear hb1 hb2 hb3 KA KD KE KF KX HBD HBE
          obtain ⟨d0, d1⟩ := HX2.out
          go_wp2_with (first | (go_at_call 18; refine (HMY.out _).mono ?_; rintro e wn ⟨rfl, hbn⟩; replace HX2 := Lib.hid (R2.below HX2.out hbn); replace HR := Lib.hid (HR.out.trans (hbn.mono HR.out.size)); obtain ⟨d2, d3⟩ := HX2.out; clear hbn) | (go_at_call 11; refine (num_err _ _ (HLD.out.below HR.out)).mono ?_; rintro e wn ⟨rfl, hbn⟩; replace HR := Lib.hid (HR.out.trans (hbn.mono HR.out.size)); clear hbn) | (go_at_call 6; refine (HSU.out _).mono ?_; rintro e wn ⟨rfl, hbn⟩; replace HR := Lib.hid (HR.out.trans (hbn.mono HR.out.size)); clear hbn))
          go_ret
          exact ⟨rfl, HR.out⟩
      · rw [hmay] at HMY
        by_cases hn64 : n < 0 ∨ 64 < n
        · have HST := Lib.hid (fun ao m cp V ha hn hz hm => step_fail b l HW0.out.1 HW0.out.2 ao m cp L n 1 (by decide) (by unfold stepN; rw [if_neg (by rw [hmay]; decide), if_pos hn64]) V ha hn hz hm)
          unfold Rv at HST
          clear hmay
          rcases (show n < 0 ∨ (¬ n < 0 ∧ 64 < n ∧ ¬ n ≤ 64 ∧ 6 < n) by omega) with h1 | ⟨h1, h2, h3, h4⟩
          · have h5 : ¬ 6 < n := by omega
            have h6 : decide (6 < n) = false := decide_eq_false h5
            clear hn64
            go_enter Tryd.func4, Tryd.ntmps4
            go_upto_region 3 with (fail)
            generalize W.alloc (.cells #[.int .u16 b, .int .u16 l] 48) = V0 at HB0 HX0 ⊢
            have KA := Lib.hid HX0.out
            have KD := Lib.hid (show R2 V0.drew W.heap.size b l from HX0.out)
            have KX := Lib.hid (show ∀ V1, Below V0.drew.heap.size V0.drew V1 → R2 V1 W.heap.size b l from fun V1 hb => KD.out.below hb)
            have HBD := Lib.hid HB0.out.drew
            have HBE := Lib.hid (show ∀ V1, Below V0.drew.heap.size V0.drew V1 → Below W.heap.size W V1 from fun V1 hb => HBD.out.trans (hb.mono HBD.out.size))
            unfold R2 at KA KD KX
            go_region_held3 (fun w' => w'.cell? ⟨W.heap.size, 0, none⟩ = some (.int .u16 b) ∧ w'.cell? ⟨W.heap.size, 1, none⟩ = some (.int .u16 l)) (first | with_reducible exact KA.out | with_reducible exact KD.out | with_reducible exact KE.out | with_reducible exact KF.out) (first | (go_at_call 7; refine (HGV.out _ HBD.out).mono ?_; rintro e V1 ⟨v1, rfl, ho1, hb1⟩; obtain ⟨ao, cp, rfl, hc1, hz1, hz2, hz3, hz4, hnone⟩ := own_cls ho1; have KE := Lib.hid (KX.out V1 hb1); have HC1 := Lib.hid hc1; have HN1 := Lib.hid hnone; clear hz1 hz2 hz3 hz4 ho1 hc1 hnone) | (go_at_call 17; refine (HST.out ao L.length cp V1 HC1.out rfl HN1.out (by have := HLN.out; omega)).mono ?_; rintro e V2 ⟨rfl, hb2⟩; have hb3 := hb1.trans (hb2.mono hb1.size); have KF := Lib.hid (KX.out V2 hb3)))
            have HR := Lib.hid (HBE.out V2 hb3)
            have HX2 := Lib.hid (KX.out V2 hb3)
            clear hb1 hb2 hb3 KA KD KE KF KX HBD HBE
            obtain ⟨d0, d1⟩ := HX2.out
            go_wp2_with (first | (go_at_call 18; refine (HMY.out _).mono ?_; rintro e wn ⟨rfl, hbn⟩; replace HX2 := Lib.hid (R2.below HX2.out hbn); replace HR := Lib.hid (HR.out.trans (hbn.mono HR.out.size)); obtain ⟨d2, d3⟩ := HX2.out; clear hbn) | (go_at_call 11; refine (num_err _ _ (HLD.out.below HR.out)).mono ?_; rintro e wn ⟨rfl, hbn⟩; replace HR := Lib.hid (HR.out.trans (hbn.mono HR.out.size)); clear hbn) | (go_at_call 6; refine (HSU.out _).mono ?_; rintro e wn ⟨rfl, hbn⟩; replace HR := Lib.hid (HR.out.trans (hbn.mono HR.out.size)); clear hbn))
            go_ret
            exact ⟨rfl, HR.out⟩
          · have h5 : decide (n ≤ 64) = false := decide_eq_false h3
            clear hn64
            go_enter Tryd.func4, Tryd.ntmps4
            go_upto_region 3 with (fail)
            generalize W.alloc (.cells #[.int .u16 b, .int .u16 l] 48) = V0 at HB0 HX0 ⊢
            have KA := Lib.hid HX0.out
            have KD := Lib.hid (show R2 V0.drew W.heap.size b l from HX0.out)
            have KX := Lib.hid (show ∀ V1, Below V0.drew.heap.size V0.drew V1 → R2 V1 W.heap.size b l from fun V1 hb => KD.out.below hb)
            have HBD := Lib.hid HB0.out.drew
            have HBE := Lib.hid (show ∀ V1, Below V0.drew.heap.size V0.drew V1 → Below W.heap.size W V1 from fun V1 hb => HBD.out.trans (hb.mono HBD.out.size))
            unfold R2 at KA KD KX
            go_region_held3 (fun w' => w'.cell? ⟨W.heap.size, 0, none⟩ = some (.int .u16 b) ∧ w'.cell? ⟨W.heap.size, 1, none⟩ = some (.int .u16 l)) (first | with_reducible exact KA.out | with_reducible exact KD.out | with_reducible exact KE.out | with_reducible exact KF.out) (first | (go_at_call 7; refine (HGV.out _ HBD.out).mono ?_; rintro e V1 ⟨v1, rfl, ho1, hb1⟩; obtain ⟨ao, cp, rfl, hc1, hz1, hz2, hz3, hz4, hnone⟩ := own_cls ho1; have KE := Lib.hid (KX.out V1 hb1); have HC1 := Lib.hid hc1; have HN1 := Lib.hid hnone; clear hz1 hz2 hz3 hz4 ho1 hc1 hnone) | (go_at_call 17; refine (HST.out ao L.length cp V1 HC1.out rfl HN1.out (by have := HLN.out; omega)).mono ?_; rintro e V2 ⟨rfl, hb2⟩; have hb3 := hb1.trans (hb2.mono hb1.size); have KF := Lib.hid (KX.out V2 hb3)))
            have HR := Lib.hid (HBE.out V2 hb3)
            have HX2 := Lib.hid (KX.out V2 hb3)
            clear hb1 hb2 hb3 KA KD KE KF KX HBD HBE
            obtain ⟨d0, d1⟩ := HX2.out
            go_wp2_with (first | (go_at_call 18; refine (HMY.out _).mono ?_; rintro e wn ⟨rfl, hbn⟩; replace HX2 := Lib.hid (R2.below HX2.out hbn); replace HR := Lib.hid (HR.out.trans (hbn.mono HR.out.size)); obtain ⟨d2, d3⟩ := HX2.out; clear hbn) | (go_at_call 11; refine (num_err _ _ (HLD.out.below HR.out)).mono ?_; rintro e wn ⟨rfl, hbn⟩; replace HR := Lib.hid (HR.out.trans (hbn.mono HR.out.size)); clear hbn) | (go_at_call 6; refine (HSU.out _).mono ?_; rintro e wn ⟨rfl, hbn⟩; replace HR := Lib.hid (HR.out.trans (hbn.mono HR.out.size)); clear hbn))
            go_ret
            exact ⟨rfl, HR.out⟩
        · obtain ⟨N, hN⟩ : ∃ N : Nat, n = N := ⟨n.toNat, by omega⟩
          subst hN
          have hN6 : N ≤ 6 := by have := HN6.out; omega
          have j0 : ¬ (N : Int) < 0 := by omega
          have j1 : ¬ (64 : Int) < (N : Int) := by omega
          have j2 : ¬ (6 : Int) < (N : Int) := by omega
          have j3 : decide ((6 : Int) < (N : Int)) = false := decide_eq_false j2
          have HRF := Lib.hid (fun V (hb : Below W.heap.size W V) => step_ref b l HW0.out.1 HW0.out.2 a len cap L N V (HW1.out.cls.below hb (Nat.le_refl _)) HW1.out.len HW1.out.max (by omega))
          unfold Rv at HRF
          by_cases hck : chkN L = 0
          · cases hst : stp (rul b l) (srt L) N with
            | none =>
              have hEk : stepN b l L (N : Int) = 6 := by
                unfold stepN
                rw [if_neg (by rw [hmay]; decide), if_neg hn64, if_pos hck, Int.toNat_natCast, hst]
              have HRQ := Lib.hid (show ∀ V e w', StepQ V (rul b l) L N e w' → e = .returned (.tuple #[.slice none 0 0, .int .i64 ((6 : Nat) : Int)]) ∧ Below V.heap.size V w' from fun V e w' h => by
                obtain ⟨hb, ⟨h1, _⟩ | ⟨_, _, h3⟩ | ⟨_, T, v, h2, _⟩⟩ := h
                · exact absurd hck h1
                · exact ⟨h3, hb⟩
                · rw [hst] at h2; cases h2)
              have hk0 : ¬ (6 : Nat) = 0 := by decide
              clear hck hst hn64 HN6
              obtain ⟨k, hk⟩ : ∃ k : Nat, k = 6 := ⟨_, rfl⟩
              rw [← hk] at hEk hk0 HRQ
              clear hk
              have HST := Lib.hid (fun ao m cp V ha hn hz hm => step_fail b l HW0.out.1 HW0.out.2 ao m cp L (N : Int) k hk0 hEk V ha hn hz hm)
              unfold Rv at HST
              clear hmay hEk hk0
              go_enter Tryd.func4, Tryd.ntmps4
              go_upto_region 3 with (fail)
              generalize W.alloc (.cells #[.int .u16 b, .int .u16 l] 48) = V0 at HB0 HX0 ⊢
              have KA := Lib.hid HX0.out
              have KD := Lib.hid (show R2 V0.drew W.heap.size b l from HX0.out)
              have KX := Lib.hid (show ∀ V1, Below V0.drew.heap.size V0.drew V1 → R2 V1 W.heap.size b l from fun V1 hb => KD.out.below hb)
              have HBD := Lib.hid HB0.out.drew
              have HBE := Lib.hid (show ∀ V1, Below V0.drew.heap.size V0.drew V1 → Below W.heap.size W V1 from fun V1 hb => HBD.out.trans (hb.mono HBD.out.size))
              unfold R2 at KA KD KX
              go_region_held3 (fun w' => w'.cell? ⟨W.heap.size, 0, none⟩ = some (.int .u16 b) ∧ w'.cell? ⟨W.heap.size, 1, none⟩ = some (.int .u16 l)) (first | with_reducible exact KA.out | with_reducible exact KD.out | with_reducible exact KE.out | with_reducible exact KF.out) (first | (go_at_call 7; refine (HGV.out _ HBD.out).mono ?_; rintro e V1 ⟨v1, rfl, ho1, hb1⟩; obtain ⟨ao, cp, rfl, hc1, hz1, hz2, hz3, hz4, hnone⟩ := own_cls ho1; have KE := Lib.hid (KX.out V1 hb1); have HC1 := Lib.hid hc1; have HN1 := Lib.hid hnone; clear hz1 hz2 hz3 hz4 ho1 hc1 hnone) | (go_at_call 17; refine (HST.out ao L.length cp V1 HC1.out rfl HN1.out (by have := HLN.out; omega)).mono ?_; rintro e V2 ⟨rfl, hb2⟩; have hb3 := hb1.trans (hb2.mono hb1.size); have KF := Lib.hid (KX.out V2 hb3)))
              have HR := Lib.hid (HBE.out V2 hb3)
              have HX2 := Lib.hid (KX.out V2 hb3)
              clear hb1 hb2 hb3 KA KD KE KF KX HBD HBE
              obtain ⟨d0, d1⟩ := HX2.out
              go_wp2_with (first | (go_at_call 18; refine (HMY.out _).mono ?_; rintro e wn ⟨rfl, hbn⟩; replace HX2 := Lib.hid (R2.below HX2.out hbn); replace HR := Lib.hid (HR.out.trans (hbn.mono HR.out.size)); obtain ⟨d2, d3⟩ := HX2.out; clear hbn) | (go_at_call 19; refine (HRF.out _ HR.out).mono ?_; intro e wn hsq; obtain ⟨rfl, hbn⟩ := HRQ.out _ _ _ hsq; replace HR := Lib.hid (HR.out.trans (hbn.mono HR.out.size)); clear hbn hsq) | (go_at_call 10; refine (same_any none 0 0 [] none 0 0 [] _ (cls_nil _ _) (cls_nil _ _) rfl rfl (by omega) (by omega)).mono ?_; rintro e wn ⟨rfl, hq⟩; obtain ⟨qq, rfl⟩ := hq; replace HR := Lib.hid (bdn HR.out qq)) | (go_at_call 11; refine (num_err _ _ (HLD.out.below HR.out)).mono ?_; rintro e wn ⟨rfl, hbn⟩; replace HR := Lib.hid (HR.out.trans (hbn.mono HR.out.size)); clear hbn) | (go_at_call 6; refine (HSU.out _).mono ?_; rintro e wn ⟨rfl, hbn⟩; replace HR := Lib.hid (HR.out.trans (hbn.mono HR.out.size)); clear hbn))
              go_ret
              exact ⟨rfl, HR.out⟩
            | some T =>
              have hE0 : stepN b l L (N : Int) = 0 := by
                unfold stepN
                rw [if_neg (by rw [hmay]; decide), if_neg hn64, if_pos hck, Int.toNat_natCast, hst]
              have hET : stepV b l L (N : Int) = T := by
                unfold stepV
                rw [Int.toNat_natCast, hst]
                rfl
              have HRQ := Lib.hid (show ∀ V e w', StepQ V (rul b l) L N e w' → ∃ v, e = .returned (.tuple #[v, .int .i64 0]) ∧ OwnC 24 w' V.heap.size v T.length T ∧ Below V.heap.size V w' from fun V e w' h => by
                obtain ⟨hb, ⟨h1, _⟩ | ⟨_, h2, _⟩ | ⟨_, T', v, h2, h3, h4⟩⟩ := h
                · exact absurd hck h1
                · rw [hst] at h2; cases h2
                · rw [hst] at h2
                  cases h2
                  exact ⟨v, h3, h4, hb⟩)
              clear hck hst hn64 HN6
              have HST := Lib.hid (fun ao m cp V ha hn hz hm => step_fine b l HW0.out.1 HW0.out.2 ao m cp L (N : Int) T hE0 hET V ha hn hz hm)
              unfold Rv at HST
              have hTT : decide (T = T) = true := decide_eq_true rfl
              clear hmay hE0 hET
              go_enter Tryd.func4, Tryd.ntmps4
              go_upto_region 3 with (fail)
              generalize W.alloc (.cells #[.int .u16 b, .int .u16 l] 48) = V0 at HB0 HX0 ⊢
              have KA := Lib.hid HX0.out
              have KD := Lib.hid (show R2 V0.drew W.heap.size b l from HX0.out)
              have KX := Lib.hid (show ∀ V1, Below V0.drew.heap.size V0.drew V1 → R2 V1 W.heap.size b l from fun V1 hb => KD.out.below hb)
              have HBD := Lib.hid HB0.out.drew
              have HBE := Lib.hid (show ∀ V1, Below V0.drew.heap.size V0.drew V1 → Below W.heap.size W V1 from fun V1 hb => HBD.out.trans (hb.mono HBD.out.size))
              unfold R2 at KA KD KX
              go_region_held3 (fun w' => w'.cell? ⟨W.heap.size, 0, none⟩ = some (.int .u16 b) ∧ w'.cell? ⟨W.heap.size, 1, none⟩ = some (.int .u16 l)) (first | with_reducible exact KA.out | with_reducible exact KD.out | with_reducible exact KE.out | with_reducible exact KF.out) (first | (go_at_call 7; refine (HGV.out _ HBD.out).mono ?_; rintro e V1 ⟨v1, rfl, ho1, hb1⟩; obtain ⟨ao, cp, rfl, hc1, hz1, hz2, hz3, hz4, hnone⟩ := own_cls ho1; have KE := Lib.hid (KX.out V1 hb1); have HC1 := Lib.hid hc1; have HN1 := Lib.hid hnone; clear hz1 hz2 hz3 hz4 ho1 hc1 hnone) | (go_at_call 17; refine (HST.out ao L.length cp V1 HC1.out rfl HN1.out (by have := HLN.out; omega)).mono ?_; rintro e V2 ⟨v2, rfl, ho2, hb2⟩; obtain ⟨bo, bcp, rfl, hc2, hz1, hz2, hz3, hz4, hz5⟩ := own_cls ho2; have HC2 := Lib.hid hc2; have HM2 := Lib.hid (show T.length ≤ 9223372036854775807 by omega); clear hz1 hz2 hz3 hz4 hz5 ho2 hc2; have hb3 := hb1.trans (hb2.mono hb1.size); have KF := Lib.hid (KX.out V2 hb3)))
              have HR := Lib.hid (HBE.out V2 hb3)
              have HX2 := Lib.hid (KX.out V2 hb3)
              clear hb1 hb2 hb3 KA KD KE KF KX HBD HBE
              obtain ⟨d0, d1⟩ := HX2.out
              go_wp2_with (first | (go_at_call 18; refine (HMY.out _).mono ?_; rintro e wn ⟨rfl, hbn⟩; replace HC2 := Lib.hid (HC2.out.below hbn (Nat.le_refl _)); replace HX2 := Lib.hid (R2.below HX2.out hbn); replace HR := Lib.hid (HR.out.trans (hbn.mono HR.out.size)); obtain ⟨d2, d3⟩ := HX2.out; clear hbn) | (go_at_call 19; refine (HRF.out _ HR.out).mono ?_; intro e wn hsq; obtain ⟨v3, rfl, ho3, hbn⟩ := HRQ.out _ _ _ hsq; obtain ⟨co, ccp, rfl, hc3, hz1, hz2, hz3, hz4, hz5⟩ := own_cls ho3; have HC3 := Lib.hid hc3; replace HC2 := Lib.hid (HC2.out.below hbn (Nat.le_refl _)); replace HR := Lib.hid (HR.out.trans (hbn.mono HR.out.size)); clear hbn hsq hz1 hz2 hz3 hz4 hz5 ho3 hc3) | (go_at_call 10; refine (same_any _ _ _ T _ _ _ T _ HC2.out HC3.out rfl rfl HM2.out HM2.out).mono ?_; rintro e wn ⟨rfl, hq⟩; obtain ⟨qq, rfl⟩ := hq; replace HR := Lib.hid (bdn HR.out qq)) | (go_at_call 11; refine (num_nil _).mono ?_; rintro e wn ⟨rfl, hbn⟩; replace HR := Lib.hid (HR.out.trans (hbn.mono HR.out.size)); clear hbn) | (go_at_call 6; refine (HSU.out _).mono ?_; rintro e wn ⟨rfl, hbn⟩; replace HR := Lib.hid (HR.out.trans (hbn.mono HR.out.size)); clear hbn))
              go_ret
              exact ⟨rfl, HR.out⟩
          · have hEk : stepN b l L (N : Int) = chkN L := by
              unfold stepN
              rw [if_neg (by rw [hmay]; decide), if_neg hn64, if_neg hck]
            have HRQ := Lib.hid (show ∀ V e w', StepQ V (rul b l) L N e w' → e = .returned (.tuple #[.slice none 0 0, .int .i64 (chkN L)]) ∧ Below V.heap.size V w' from fun V e w' h => by
              obtain ⟨hb, ⟨_, h3⟩ | ⟨h1, _⟩ | ⟨h1, _⟩⟩ := h
              · exact ⟨h3, hb⟩
              · exact absurd h1 hck
              · exact absurd h1 hck)
            have hk0 : ¬ chkN L = 0 := hck
            clear hck hn64 HN6
            generalize chkN L = k at hEk HRQ hk0
            have HST := Lib.hid (fun ao m cp V ha hn hz hm => step_fail b l HW0.out.1 HW0.out.2 ao m cp L (N : Int) k hk0 hEk V ha hn hz hm)
            unfold Rv at HST
            clear hmay hEk hk0
            go_enter Tryd.func4, Tryd.ntmps4
            go_upto_region 3 with (fail)
            generalize W.alloc (.cells #[.int .u16 b, .int .u16 l] 48) = V0 at HB0 HX0 ⊢
            have KA := Lib.hid HX0.out
            have KD := Lib.hid (show R2 V0.drew W.heap.size b l from HX0.out)
            have KX := Lib.hid (show ∀ V1, Below V0.drew.heap.size V0.drew V1 → R2 V1 W.heap.size b l from fun V1 hb => KD.out.below hb)
            have HBD := Lib.hid HB0.out.drew
            have HBE := Lib.hid (show ∀ V1, Below V0.drew.heap.size V0.drew V1 → Below W.heap.size W V1 from fun V1 hb => HBD.out.trans (hb.mono HBD.out.size))
            unfold R2 at KA KD KX
            go_region_held3 (fun w' => w'.cell? ⟨W.heap.size, 0, none⟩ = some (.int .u16 b) ∧ w'.cell? ⟨W.heap.size, 1, none⟩ = some (.int .u16 l)) (first | with_reducible exact KA.out | with_reducible exact KD.out | with_reducible exact KE.out | with_reducible exact KF.out) (first | (go_at_call 7; refine (HGV.out _ HBD.out).mono ?_; rintro e V1 ⟨v1, rfl, ho1, hb1⟩; obtain ⟨ao, cp, rfl, hc1, hz1, hz2, hz3, hz4, hnone⟩ := own_cls ho1; have KE := Lib.hid (KX.out V1 hb1); have HC1 := Lib.hid hc1; have HN1 := Lib.hid hnone; clear hz1 hz2 hz3 hz4 ho1 hc1 hnone) | (go_at_call 17; refine (HST.out ao L.length cp V1 HC1.out rfl HN1.out (by have := HLN.out; omega)).mono ?_; rintro e V2 ⟨rfl, hb2⟩; have hb3 := hb1.trans (hb2.mono hb1.size); have KF := Lib.hid (KX.out V2 hb3)))
            have HR := Lib.hid (HBE.out V2 hb3)
            have HX2 := Lib.hid (KX.out V2 hb3)
            clear hb1 hb2 hb3 KA KD KE KF KX HBD HBE
            obtain ⟨d0, d1⟩ := HX2.out
            go_wp2_with (first | (go_at_call 18; refine (HMY.out _).mono ?_; rintro e wn ⟨rfl, hbn⟩; replace HX2 := Lib.hid (R2.below HX2.out hbn); replace HR := Lib.hid (HR.out.trans (hbn.mono HR.out.size)); obtain ⟨d2, d3⟩ := HX2.out; clear hbn) | (go_at_call 19; refine (HRF.out _ HR.out).mono ?_; intro e wn hsq; obtain ⟨rfl, hbn⟩ := HRQ.out _ _ _ hsq; replace HR := Lib.hid (HR.out.trans (hbn.mono HR.out.size)); clear hbn hsq) | (go_at_call 10; refine (same_any none 0 0 [] none 0 0 [] _ (cls_nil _ _) (cls_nil _ _) rfl rfl (by omega) (by omega)).mono ?_; rintro e wn ⟨rfl, hq⟩; obtain ⟨qq, rfl⟩ := hq; replace HR := Lib.hid (bdn HR.out qq)) | (go_at_call 11; refine (num_err _ _ (HLD.out.below HR.out)).mono ?_; rintro e wn ⟨rfl, hbn⟩; replace HR := Lib.hid (HR.out.trans (hbn.mono HR.out.size)); clear hbn) | (go_at_call 6; refine (HSU.out _).mono ?_; rintro e wn ⟨rfl, hbn⟩; replace HR := Lib.hid (HR.out.trans (hbn.mono HR.out.size)); clear hbn))
            go_ret
            exact ⟨rfl, HR.out⟩
end Go.Proofs.YtbjpmefjfpefpaaDoor

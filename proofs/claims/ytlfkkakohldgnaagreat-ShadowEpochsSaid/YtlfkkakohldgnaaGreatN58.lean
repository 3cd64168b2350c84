/-
  ShadowEpochs, the walk. No condition but that the input could be read.
-/
import Derived.BigRegion
import Derived.Deep.RegionHeld3
import Derived.Test.YtlfkkakohldgnaaGreatN47
import Derived.Test.YtlfkkakohldgnaaGreatN48
namespace Go.Proofs.YtlfkkakohldgnaaGreat.Sh
open Go.RowKit Go.Maps

/-- behind i Commits -/
structure EpR (W w : World) (P D i : Nat) (σ : Sd) (pn : Nat → Sm.Pg) : Prop where
  ss : Ss W (10000 + 30000 * i) w σ pn pn
  P : σ.P = P
  D : σ.D = D
  m : σ.m = 2
  ep : σ.ep = i
  no : σ.nw = σ.kp
/-- behind a page that may have been written -/
structure EpM (W w : World) (P D i : Nat) (σ : Sd) (pn pn1 : Nat → Sm.Pg) : Prop where
  ss : Ss W (10000 + 30000 * i + 2) w σ pn pn1
  P : σ.P = P
  D : σ.D = D
  m : σ.m = 2
  ep : σ.ep = i
set_option maxRecDepth 100000 in
set_option maxHeartbeats 4000000 in
theorem epochs_walk (n0 : Int) (a : Option Addr) (len cap : Nat) (l : Nat → ActV) (W : World) (_w0 : (Lit.int .i64 n0).wf = true) (hw : IsActs W a len l) :
    Calls Tryz.prog 3 #[.int .i64 n0, .slice a len cap] W fun e w' => e = .returned (.bool true) ∧ Below W.heap.size W w' := by
  obtain ⟨k, hk, hk7⟩ := red_nat n0 7 (by omega) (by omega)
  have k0 : (0 : Int) ≤ (k : Int) := by omega
  have HA := Lib.hid hw
  have hlen := hw.1
  clear hw
  go_enter Tryz.func3, Tryz.ntmps3
  go_wp2_with fail
  refine (large_any a len cap l W HA.out).mono ?_
  rintro e w' ⟨B, rfl, rfl⟩
  cases B with
  | true =>
    go_wp2_with (go_at_call 5; refine (sure_any _).mono ?_; rintro e w' ⟨rfl, hb⟩; have HB := Lib.hid hb; clear hb)
    go_ret
    exact ⟨rfl, HB.out⟩
  | false =>
    go_wp2_with fail
    refine (disk_new (W := W) 30 W (Below.refl _ _) (by decide) (by decide)).mono ?_
    rintro e w1 ⟨D, H, rfl, hdk, _⟩
    have HDK := Lib.hid hdk
    clear hdk
    go_wp2_with fail
    refine (new_fresh 2 HDK.out (by decide) (by decide) (by decide) (by decide)).mono ?_
    rintro e w2 ⟨σ0, rfl, _, hss, e1, e2, e3, e4, e5, e6, e7⟩
    have HR0 := Lib.hid (show ∃ σ pn, EpR W w2 σ0.P D 0 σ pn from ⟨σ0, p0, hss, rfl, e1, e3, e4, e5.trans e6.symm⟩)
    clear hss e1 e2 e3 e4 e5 e6 e7
    generalize σ0.P = P at HR0 ⊢
    clear HDK
    go_wp2_with fail
    go_loopw [9, 10, 11] (fun x _ _ ws => ∃ i : Nat, i ≤ k + 1 ∧ x = .int .i64 i ∧ Hid (∃ σ pn, EpR W ws P D i σ pn)) (fun x _ _ _ => k + 1 - (intOf x).toNat)
    case atStart => exact ⟨0, by omega, rfl, HR0⟩
    case round =>
      obtain ⟨i, hi, rfl, HR⟩ := hrel
      have i0 : (0 : Int) ≤ (i : Int) := by omega
      obtain ⟨σ, pn, her⟩ := HR.out
      have HER := Lib.hid her
      clear her HR
      by_cases hlt : i < k + 1
      · have i1 : (i : Int) < 1 + (k : Int) := by omega
        have i2 : (i : Int) ≤ 7 := by omega
        go_upto_if 42 with (fail)
        go_cut [] (fun wx => Hid (∃ σ pn pn1, EpM W wx P D i σ pn pn1))
        case first =>
          by_cases hil : i < len
          · obtain ⟨b, o, rfl, hra, hok⟩ := HA.out.2 i hil
            have hbw := HER.out.ss.sh.ps.b
            have c1 : wr.cell? ⟨b, o + i * 7 + 1, none⟩ = some (.int .i64 (l i).n) := act_cell hbw hra 1 _ rfl
            have c2 : wr.cell? ⟨b, o + i * 7 + 2, none⟩ = some (.int .u8 (l i).ki) := act_cell hbw hra 2 _ rfl
            have c3 : wr.cell? ⟨b, o + i * 7 + 2 + 1, none⟩ = some (.int .u32 (l i).nu) := act_cell hbw hra 3 _ rfl
            have c4 : wr.cell? ⟨b, o + i * 7 + 2 + 2, none⟩ = some (.int .u64 (l i).ep) := act_cell hbw hra 4 _ rfl
            have c5 : wr.cell? ⟨b, o + i * 7 + 2 + 3, none⟩ = some (.int .i64 (l i).si) := act_cell hbw hra 5 _ rfl
            have c6 : wr.cell? ⟨b, o + i * 7 + 2 + 4, none⟩ = some (.slice (l i).a (l i).q (l i).c) := act_cell hbw hra 6 _ rfl
            have HOK := Lib.hid hok
            have i3 : (i : Int) < (len : Int) := by omega
            clear hra hok hbw
            go_wp2_with fail
            go_still_tail 11, (by kernel_rfl)
            change wpList _ _ _ _ _ wr.drew
            have HE2 := Lib.hid (HER.out.ss.below (Below.refl _ _).drew)
            have HP := Lib.hid HER.out.P
            have HRC := Lib.hid (HOK.out.pg.recs.below HE2.out.sh.ps.b)
            have HEQ := Lib.hid (And.intro HER.out.D (And.intro HER.out.m HER.out.ep))
            clear c1 c2 c3 c4 c5 c6 HER
            generalize wr.drew = v at HE2 HRC ⊢
            have HWR := Lib.hid (write_all HE2.out (l i).n (l i).ki (l i).nu (l i).ep (l i).si (l i).a (l i).q (l i).c (l i).rs HOK.out.pg.len HOK.out.pg.max HOK.out.pg.s1 HRC.out HOK.out.pg.k0 HOK.out.pg.k1 (by omega))
            rw [HP.out] at HWR
            go_wp2_with (go_at_call 8; refine HWR.out.mono ?_; rintro e w3 ⟨σ1, pn1, rfl, hs1, _, hq1, hk1, _, _⟩; have HM := Lib.hid (show ∃ σ pn pn1, EpM W w3 P D i σ pn pn1 from ⟨σ1, pn, pn1, hs1, hq1.1.trans HP.out, hq1.2.1.trans HEQ.out.1, hq1.2.2.2.trans HEQ.out.2.1, hk1.2.2.1.trans HEQ.out.2.2⟩); clear hs1 hq1 hk1)
            go_meet
            case rel => exact HM
          · have i3 : ¬ (i : Int) < (len : Int) := by omega
            have HM := Lib.hid (show ∃ σ pn pn1, EpM W wr P D i σ pn pn1 from ⟨σ, pn, pn, HER.out.ss.mono (by omega), HER.out.P, HER.out.D, HER.out.m, HER.out.ep⟩)
            go_wp2
            go_meet
            case rel => exact HM
        case rest =>
          obtain ⟨σ1, pk1, pn1, hem⟩ := hcut.out
          have HEM := Lib.hid hem
          obtain ⟨t, ht⟩ := istbl_ex hem.ss.sh.vf.bnd
          have HCM := Lib.hid (commit_all hem.ss t ht (by rw [hem.ep]; omega) (by omega))
          rw [hem.P] at HCM
          clear hem ht hcut HER
          go_wp2_with fail
          refine HCM.out.mono ?_
          rintro e w4 ⟨σ2, rfl, hs2, _, hq2, _, hc2⟩
          by_cases hno : σ1.S.free < t
          · rw [if_pos hno] at hs2 ⊢
            rw [errv1 (by decide)]
            have HB := Lib.hid hs2.sh.ps.b
            clear hs2 hq2 hc2 hno
            go_wp2_with (go_at_call 5; refine (sure_any _).mono ?_; rintro e w' ⟨rfl, hb⟩; have HB2 := Lib.hid (HB.out.trans (hb.mono HB.out.size)); clear hb)
            go_ret
            exact ⟨rfl, HB2.out⟩
          · rw [if_neg hno] at hs2 ⊢
            rw [errv0]
            obtain ⟨ha2, hk2, hn2, he2, ht2⟩ := hc2 hno
            have HS2 := Lib.hid hs2
            have HE2 := Lib.hid (show σ2.P = P ∧ σ2.D = D ∧ σ2.m = 2 ∧ σ2.ep = i + 1 ∧ σ2.nw = σ2.kp from ⟨hq2.1.trans HEM.out.P, hq2.2.1.trans HEM.out.D, hq2.2.2.2.trans HEM.out.m, by rw [he2, HEM.out.ep], hn2.trans hk2.symm⟩)
            have HOB := Lib.hid (open_beside hs2 ha2 1 (by decide) (by decide) (by omega))
            rw [HE2.out.2.1] at HOB
            clear hs2 hq2 hc2 hno ha2 hk2 hn2 he2 ht2
            go_wp2_with fail
            refine HOB.out.mono ?_
            rintro e w5 ⟨σ3, H3, rfl, hs3, hs4, _, f1, f2, f3, f4, f5⟩
            obtain ⟨g1, g2, g3, g4, g5⟩ := HE2.out
            have hfe : (σ2.S.free : Int) = (σ3.S.free : Int) := by
              have a1 := hs3.free
              have a2 := HS2.out.free
              rw [f1, f2, f4, f5] at a1
              rw [g5] at a2
              omega
            have c5o : w5.cell? ⟨σ3.P, 5, none⟩ = some (.int .i64 ((i : Int) + 1)) := by
              have := hs3.sh.hd.c5
              rw [f3, g4] at this
              exact this
            have c5s : w5.cell? ⟨P, 5, none⟩ = some (.int .i64 ((i : Int) + 1)) := by
              have := hs4.sh.hd.c5
              simp only at this
              rw [g1, g4] at this
              exact this
            have HFO := Lib.hid (free_any σ3.P σ3.G σ3.T σ3.S w5 hs3.sh.hd.c6 hs3.sh.sp)
            have HFS := Lib.hid (free_any P σ2.G σ2.T σ2.S w5 (by have := hs4.sh.hd.c6; simp only at this; rw [g1] at this; exact this) hs4.sh.sp)
            rw [hfe] at HFS
            have HKO := Lib.hid (show (kl σ3.nw).length = (kl σ2.kp).length by rw [f2])
            have HKS := Lib.hid (show (kl σ2.nw).length = (kl σ2.kp).length by rw [g5])
            have HPP := Lib.hid g1
            have HS3 := Lib.hid hs3
            have HS4 := Lib.hid hs4
            have HN5 := Lib.hid (show ∃ σ pn, EpR W w5 P D (i + 1) σ pn from ⟨_, _, hs4.mono (by omega), g1, g2, g3, g4, g5⟩)
            clear g1 g2 g3 g4 g5 hfe hs3 hs4 f1 f2 f3 f4 f5 HE2 HOB HCM HEM
            generalize (kl σ2.kp).length = c at HKO HKS
            generalize (σ3.S.free : Int) = fr at HFO HFS
            go_wp2_with (first | (go_at_call 11; refine (epoch_any _ ((i : Int) + 1) _ (by first | exact c5o | exact c5s)).mono ?_; rintro e w' ⟨rfl, rfl⟩) | (go_at_call 12; (first | with_reducible refine HFO.out.mono ?_ | with_reducible refine HFS.out.mono ?_); rintro e w' ⟨rfl, rfl⟩))
            clear c5o c5s
            refine (pages_any HS3.out.sh (by omega)).mono ?_
            rintro e w6 ⟨a1, c1, rfl, _, hb6, _⟩
            rw [HKO.out]
            have HS6 := Lib.hid (HS4.out.below hb6)
            have HN6 := Lib.hid (show ∃ σ pn, EpR W w6 P D (i + 1) σ pn from by obtain ⟨σ', pn', h⟩ := HN5.out; exact ⟨σ', pn', h.ss.below hb6, h.P, h.D, h.m, h.ep, h.no⟩)
            clear hb6 HN5 HS3 HS4
            have HPS := Lib.hid (show Calls Tryz.prog 13 #[.pointer (some ⟨P, 0, none⟩)] w6 (PagesL w6 (kl σ2.nw)) from by have h := pages_any HS6.out.sh (by omega); rw [show ({ σ2 with H := H3 } : Sd).P = P from HPP.out] at h; exact h)
            go_wp2_with fail
            refine HPS.out.mono ?_
            rintro e w7 ⟨a2, c2, rfl, _, hb7, _⟩
            have HN7 := Lib.hid (show ∃ σ pn, EpR W w7 P D (i + 1) σ pn from by obtain ⟨σ', pn', h⟩ := HN6.out; exact ⟨σ', pn', h.ss.below hb7, h.P, h.D, h.m, h.ep, h.no⟩)
            rw [HKS.out]
            clear hb7 HN6 HS6 HPS
            go_wp2
            go_roundw
            case rel => exact ⟨i + 1, by omega, by go_num, HN7⟩
            case measure => simp [intOf]; omega
      · obtain rfl : i = k + 1 := by omega
        have HB := Lib.hid HER.out.ss.sh.ps.b
        have i1 : ¬ ((k + 1 : Nat) : Int) < 1 + (k : Int) := by omega
        go_wp2_with (go_at_call 5; refine (sure_any _).mono ?_; rintro e w' ⟨rfl, hb⟩; have HB2 := Lib.hid (HB.out.trans (hb.mono HB.out.size)); clear hb)
        go_ret
        exact ⟨rfl, HB2.out⟩
end Go.Proofs.YtlfkkakohldgnaaGreat.Sh

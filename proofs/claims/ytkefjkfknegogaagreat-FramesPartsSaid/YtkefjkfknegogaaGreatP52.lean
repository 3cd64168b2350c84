/-
  THE WALK of FramesParts. Conditions: what came in could be read.
-/
import Derived.Test.YtkefjkfknegogaaGreatP50
import Derived.Test.YtkefjkfknegogaaGreatP49
namespace Go.Proofs.YtkefjkfknegogaaGreat.Fm
open Go.RowKit Ti Qd Go.Maps Go.WideMaps Ru

/-- how many are under way -/
def lenAt (w : World) (G : Nat) : Nat := match w.cell? ⟨G, 3, none⟩ with
  | some (.slice _ n _) => n
  | _ => 0
theorem lenAt_of {w : World} {G n c : Nat} {a : Option Addr} (h : w.cell? ⟨G, 3, none⟩ = some (.slice a n c)) : lenAt w G = n := by unfold lenAt; rw [h]
theorem Bs.lenAt {B P room b l G M : Nat} {s : MS} {w0 w : World} {H0 : Nat → Prop} {bx : List (Nat × Obj)} (h : Bs (Mc B P room b l G M s) w0 H0 bx w) : Fm.lenAt w G = s.U.length := by
  obtain ⟨_, _, c, _, _⟩ := h.under
  exact lenAt_of c
set_option maxRecDepth 100000 in
set_option maxHeartbeats 32000000 in
theorem parts_walk (r l : Nat) (a : Option Addr) (len cap : Nat) (zs : List Int) (c : Int × Int × Int) (W : World) (_w0 : r < 65536 ∧ l < 65536) (w1 : IsRow .u64 W a len cap zs) (_w2 : True) :
    Calls Tryz.prog 3 #[.agg #[.int .u16 r, .int .u16 l], .slice a len cap, .agg #[.int .i64 c.1, .int .i64 c.2.1, .int .i64 c.2.2]] W fun e w' => e = .returned (.bool true) ∧ Below W.heap.size W w' := by
  obtain ⟨K, J, N⟩ := c
  obtain ⟨X, hx, hlen⟩ := isrow_x w1
  have HX := Lib.hid (And.intro hx hlen)
  have HR0 := Lib.hid (ak_start r l K J N W)
  have HM := Lib.hid (show ∀ w, Calls Tryz.prog 4 #[.agg #[.int .u16 r, .int .u16 l]] w fun e w' => e = .returned (.bool (mayR r l)) ∧ Below w.heap.size w w' from fun w => may_ref r l w)
  obtain ⟨c0, c1⟩ := two_cells HR0.out.rule
  clear w1 hx hlen
  go_enter Tryz.func3, Tryz.ntmps3
  go_wp2_with fail
  refine (HM.out _).mono ?_
  rintro e w1 ⟨rfl, hb⟩
  have HR1 := Lib.hid (HR0.out.on hb)
  clear hb HR0 c0 c1
  cases hm : mayR r l with
  | false =>
    clear HM
    have HB := Lib.hid HR1.out.below
    go_wp2_with (go_at_call 5; refine (sure_any _).mono ?_; rintro e v4 ⟨rfl, hb⟩; have HB2 := Lib.hid (HB.out.trans (hb.mono HB.out.size)); clear hb)
    go_ret
    exact ⟨rfl, HB2.out⟩
  | true =>
    clear HM
    have HMY := Lib.hid hm
    clear hm
    obtain ⟨c0, c1⟩ := two_cells HR1.out.rule
    obtain ⟨d0, d1, d2⟩ := three_cells HR1.out.ask
    have HS := Lib.hid (show Calls Tryz.prog 6 #[.agg #[.int .u16 r, .int .u16 l], .slice a len cap, .agg #[.int .i64 K, .int .i64 J, .int .i64 N]] w1 (Scene w1 r l K) from scene_any r l a len cap X K J N w1 HMY.out (HX.out.1.below HR1.out.below) HX.out.2)
    go_wp2_with fail
    refine HS.out.mono ?_
    rintro e v0 ⟨B, P, G, M, p, j, L, id, H0, rfl, _, h2, h3, h4, h5, h6, h7, h8, h9, h10⟩
    obtain ⟨⟨k, T⟩, hT⟩ := whole_ok r l h9 h8 h2 h3 h10
    have HTW := Lib.hid hT
    have HBV := Lib.hid (show (∀ x, H0 x → B ≤ x) ∧ B ≤ v0.heap.size ∧ w1.heap.size ≤ B from ⟨fun x hx => ((mc_fpt B P 40000 r l G M ⟨L, K0, [], 0⟩).lt h4 x hx).1, h6, h5⟩)
    have HR3 := Lib.hid (HR1.out.on h7)
    have HAT := Lib.hid (fun (T : World → (Nat → Prop) → Prop) (bx : List (Nat × Obj)) (w : World) (hs : Bs T v0 H0 bx w) => show AkAt W w r l K J N ∧ B ≤ w.heap.size from ⟨HR3.out.on2 (hs.lt HBV.out.1 HBV.out.2.1) (by have := lt_of_block HR1.out.ask; have := HBV.out.2.2; omega), Nat.le_trans HBV.out.2.1 (hs.lt HBV.out.1 HBV.out.2.1).size⟩)
    have HS0 := Lib.hid (Bs.start h4)
    have HI := Lib.hid (And.intro h2 (And.intro h3 (And.intro h8 (And.intro h9 h10))))
    clear h2 h3 h4 h5 h6 h7 h8 h9 h10 hT HS c0 c1 d0 d1 d2 HR1 HR3 HX
    obtain ⟨H1, h1, _, h3⟩ := HS0.out.call
    have HC := Lib.hid (begin_f h1 (HAT.out _ _ _ HS0.out).2 rfl id j p (by have := HI.out.1; omega) HI.out.2.2.1 (by omega) (by have := HI.out.2.1; omega))
    have HN := Lib.hid h3
    clear h1 h3
    go_wp2_with fail
    refine HC.out.mono ?_
    rintro e v1 ⟨rfl, hg⟩
    have HS1 := Lib.hid (HN.out _ _ hg)
    clear hg HC HN HS0
    have HIV0 : Hid (Iv r l L id j ⟨L, K0, [nf id j], 0⟩) := Lib.hid (by
      obtain ⟨s0, p0, b0⟩ := start_ok (b := r) (l := l) (K := K0) (gok_new r l HI.out.2.2.2.1) (n := p) HI.out.2.2.1 (by have := HI.out.1; omega) (j := (j : Int)) (by omega) (by have := HI.out.2.1; omega) 0
      have hT := TT_le p HI.out.1
      have h10 := HI.out.2.2.2.2
      refine ⟨s0, b0, List.prefix_rfl, ?_⟩
      have p0' : pot (⟨L, K0, [nf id j], 0⟩ : MS).L (⟨L, K0, [nf id j], 0⟩ : MS).U = TT p := p0
      rw [p0']
      show L.length + 2 * TT p ≤ 9818
      omega)
    obtain ⟨pn, hpn, epn⟩ := red_nat N 200 (by decide) (by decide)
    have epn : wrap64 ((IntKind.u64.wrap N).tmod 200) = (pn : Int) := epn
    obtain ⟨d0, d1, d2⟩ := three_cells (HAT.out _ _ _ HS1.out).1.ask
    go_upto_region 7 with (fail)
    rw [epn]
    first | rw [show wrap64 (1 + (pn : Int)) = ((pn + 1 : Nat) : Int) by rw [wrap_small (by omega)]; omega] | rw [show (1 + (pn : Int)) = ((pn + 1 : Nat) : Int) by omega]
    clear d0 d1 d2 epn HTW
    obtain ⟨pt, hpt⟩ : ∃ pt : Nat, pt = pn + 1 := ⟨_, rfl⟩
    rw [← hpt]
    have hp0 : 0 < pt := by omega
    have hp1 : pt ≤ 200 := by omega
    have HPT := Lib.hid (And.intro hp0 hp1)
    clear hpn hpt hp0 hp1
    go_wp2
    go_loopw [8, 12] (fun x v wr => ∃ (g m : Nat) (s' : MS) (n : Nat), x = .pointer (some ⟨g, 0, none⟩) ∧ v = .int .i64 (n : Int) ∧ n ≤ 60 ∧ Hid (Iv r l L id j s') ∧ Hid (Bs (Mc B P 40000 r l g m s') v0 H0 [] wr)) (fun _ v _ => 60 - (intOf v).toNat)
    case atStart => exact ⟨G, M, _, 0, rfl, rfl, by omega, HIV0, HS1⟩
    case round =>
      clear HS1 HIV0
      obtain ⟨g, m, s1, n, rfl, rfl, hn, HI1, HR⟩ := hrel
      obtain ⟨H1, h1, _, h3⟩ := HR.out.call
      have HF := Lib.hid (frames_f h1 HI1.out.ok.small.1 HI1.out.ok.small.2)
      clear h1 h3
      cases hu : s1.U with
      | nil =>
        rw [hu] at HF
        clear hu
        go_wp2_with fail
        refine HF.out.mono ?_
        rintro e x0 ⟨ao, cp, nw, rfl, _, _, _, _, _, hb⟩
        have HS5 := Lib.hid (HR.out.below (mc_fpt B P 40000 r l g m s1) hb)
        clear hb HF HR
        obtain ⟨G2, hG2⟩ : ∃ zz, zz = g := ⟨_, rfl⟩
        obtain ⟨M2, hM2⟩ : ∃ zz, zz = m := ⟨_, rfl⟩
        obtain ⟨s2, hs2⟩ : ∃ zz, zz = s1 := ⟨_, rfl⟩
        have HSE := HS5
        have HIE := HI1
        rw [← hG2, ← hM2, ← hs2] at HSE
        rw [← hs2] at HIE
        rw [← hG2]
        clear hG2 hM2 hs2 HS5 HI1
        have HTT := Lib.hid (fun s => mc_fpt B P 40000 r l G2 M2 s)
        go_wp2
        go_loopw [] (fun wr => ∃ s', Hid (Iv r l L id j s') ∧ Hid (Bs (Mc B P 40000 r l G2 M2 s') v0 H0 [] wr)) (fun wr => lenAt wr G2)
        case atStart => exact ⟨s2, HIE, HSE⟩
        case round =>
          clear HSE HIE
          obtain ⟨s3, HI3, HR⟩ := hrel
          obtain ⟨H1, h1, _, h3⟩ := HR.out.call
          have HF := Lib.hid (frames_f h1 HI3.out.ok.small.1 HI3.out.ok.small.2)
          clear h1 h3
          have HLA := Lib.hid HR.out.lenAt
          cases hu : s3.U with
          | nil =>
            rw [hu] at HF
            have hen := HI3.out.end_ hu HI.out.2.2.1 HI.out.1 HI.out.2.1
            have HEN := Lib.hid hen
            clear hen hu HLA
            go_wp2_with fail
            refine HF.out.mono ?_
            rintro e x1 ⟨ao, cp, nw, rfl, _, _, _, _, _, hb⟩
            have HS5 := Lib.hid (HR.out.below (HTT.out _) hb)
            clear hb HF HR
            obtain ⟨H1, h1, _, _⟩ := HS5.out.call
            have HO := Lib.hid (out_f h1 true HEN.out.1)
            clear h1
            go_wp2_with fail
            refine HO.out.mono ?_
            rintro e x2 ⟨rfl, hb⟩
            have HS6 := Lib.hid (HS5.out.below (HTT.out _) hb)
            clear hb HO HS5
            obtain ⟨c0, c1⟩ := two_cells (HAT.out _ _ _ HS6.out).1.rule
            have HG := Lib.hid (show Calls Tryz.prog 13 #[.pointer (some ⟨P, 0, none⟩), .agg #[.int .u16 r, .int .u16 l]] x2 (NewG x2 P r l) from gnew_f P r l HMY.out x2)
            go_wp2_with fail
            refine HG.out.mono ?_
            rintro e x3 ⟨x, rfl, y1, y2, y3, y4, y5⟩
            have HS7 := Lib.hid (HS6.out.withg (HAT.out _ _ _ HS6.out).2 y5 y1 y2 y3 y4)
            clear y1 y2 y3 y4 y5 HG HS6 c0 c1
            obtain ⟨H1, h1, _, h3⟩ := HS7.out.call
            obtain ⟨Hg, k1, k2⟩ := Mg.grow h1
            have HC := Lib.hid (show Calls Tryz.prog 14 #[.pointer (some ⟨x.1, 0, none⟩), .int .i64 id, .int .i64 (j : Int)] x3 fun e w' => e = .returned (.tuple #[.int .i64 s3.out, .nilIface]) ∧ Gt B x3 x.1 P x.2 r l 40000 Hg (growQ r l p (s3.L, K0) id j).1 w' from by
              have := growP_ok HMY.out k1 HEN.out.2.2.2.1 p (by have := HI.out.1; omega) id HEN.out.2.2.2.2 j HI.out.2.1 HEN.out.2.2.1
              rw [HEN.out.2.1] at this
              exact this)
            have HX := Lib.hid (fun w' (hg : Gt B x3 x.1 P x.2 r l 40000 Hg (growQ r l p (s3.L, K0) id j).1 w') => h3 _ _ (k2 (growQ r l p (s3.L, K0) id j).1 w' hg))
            clear h1 h3 k1 k2
            go_wp2_with fail
            refine HC.out.mono ?_
            rintro e x4 ⟨rfl, hg⟩
            have HB := Lib.hid (HAT.out _ _ _ (HX.out _ hg)).1.below
            clear hg HC HX HS7
            generalize s3.out = o at *
            go_wp2_with (go_at_call 5; refine (sure_any _).mono ?_; rintro e v99 ⟨rfl, hb⟩; have HB2 := Lib.hid (HB.out.trans (hb.mono HB.out.size)); clear hb)
            go_ret
            exact ⟨rfl, HB2.out⟩
          | cons f t =>
            have hne : s3.U ≠ [] := by rw [hu]; simp
            rw [hu] at HF
            have HE := Lib.hid (And.intro hne (And.intro (HI3.out.run 1048576) (HI3.out.last hne)))
            have hlu : s3.U.length = t.length + 1 := by rw [hu]; rfl
            have HLU := Lib.hid hlu
            clear hu hne hlu
            have hpos : (0 : Int) < (t.length : Int) + 1 := by omega
            go_wp2_with fail
            refine HF.out.mono ?_
            rintro e x1 ⟨ao, cp, nw, rfl, _, _, _, _, _, hb⟩
            have HS5 := Lib.hid (HR.out.below (HTT.out _) hb)
            clear hb HF HR
            obtain ⟨kk, hkk⟩ : ∃ kk, kk = (runF r l 1048576 s3).1 := ⟨_, rfl⟩
            have hk1 : ¬ (kk : Int) < 1 := by have := HE.out.2.2.2; omega
            obtain ⟨H1, h1, _, h3⟩ := HS5.out.call
            have HC := Lib.hid (show Calls Tryz.prog 9 #[.pointer (some ⟨G2, 0, none⟩), .int .i64 1048576] x1 fun e w' => e = .returned (.tuple #[.int .i64 (kk : Int), .nilIface]) ∧ Goz (Mc B P 40000 r l G2 M2 (runF r l 1048576 s3).2) x1 H1 w' from by
              rw [hkk]
              exact run_f h1 (HAT.out _ _ _ HS5.out).2 HI3.out.ok HE.out.1 HMY.out (by decide) 1048576 (by decide) HE.out.2.1.2)
            have HN := Lib.hid h3
            have HKK := Lib.hid hkk
            clear h1 h3 hkk
            go_wp2_with fail
            refine HC.out.mono ?_
            rintro e x2 ⟨rfl, hg⟩
            have HS6 := Lib.hid (HN.out _ _ hg)
            clear hg HC HN HS5
            go_wp2
            go_roundw
            case rel => exact ⟨_, Lib.hid HE.out.2.1.1, HS6⟩
            case measure =>
              rw [HS6.out.lenAt, HLA.out, HE.out.2.2.1, HLU.out]
              simp
      | cons f t =>
        have hne : s1.U ≠ [] := by rw [hu]; simp
        rw [hu] at HF
        have HNE := Lib.hid hne
        clear hu hne
        have hpos : (0 : Int) < (t.length : Int) + 1 := by omega
        by_cases hlt : n < 60
        · have hlti : (n : Int) < 60 := by omega
          have hn0 : (0 : Int) ≤ (n : Int) := by omega
          go_wp2_with fail
          refine HF.out.mono ?_
          rintro e x0 ⟨ao, cp, nw, rfl, _, _, _, _, _, hb⟩
          have HS5 := Lib.hid (HR.out.below (mc_fpt B P 40000 r l g m s1) hb)
          clear hb HF HR
          obtain ⟨H1, h1, _, h3⟩ := HS5.out.call
          obtain ⟨s4, hs4⟩ : ∃ s, s = (runF r l pt s1).2 := ⟨_, rfl⟩
          obtain ⟨kk, hkk⟩ : ∃ kk, kk = (runF r l pt s1).1 := ⟨_, rfl⟩
          have hrun := HI1.out.run pt
          have HC := Lib.hid (show Calls Tryz.prog 9 #[.pointer (some ⟨g, 0, none⟩), .int .i64 (pt : Int)] x0 fun e w' => e = .returned (.tuple #[.int .i64 (kk : Int), .nilIface]) ∧ Goz (Mc B P 40000 r l g m s4) x0 H1 w' from by
            rw [hkk, hs4]
            have := run_f h1 (HAT.out _ _ _ HS5.out).2 HI1.out.ok HNE.out HMY.out (by decide) (pt : Int) (by have := HPT.out.2; omega) (by rw [Int.toNat_natCast]; exact hrun.2)
            rw [Int.toNat_natCast] at this
            exact this)
          have HI4 : Hid (Iv r l L id j s4) := by rw [hs4]; exact Lib.hid hrun.1
          have HN := Lib.hid h3
          clear h1 h3 hrun hs4 hkk
          go_wp2_with fail
          refine HC.out.mono ?_
          rintro e x1 ⟨rfl, hg⟩
          have HS6 := Lib.hid (HN.out _ _ hg)
          clear hg HC HN HS5
          obtain ⟨H1, h1, _, h3⟩ := HS6.out.call
          have HF := Lib.hid (frames_f h1 HI4.out.ok.small.1 HI4.out.ok.small.2)
          clear h1 h3
          cases hu : s4.U with
          | nil =>
            rw [hu] at HF
            clear hu
            go_wp2_with fail
            refine HF.out.mono ?_
            rintro e x2 ⟨ao, cp, nw, rfl, _, _, _, _, _, hb⟩
            have HS7 := Lib.hid (HS6.out.below (mc_fpt B P 40000 r l g m s4) hb)
            clear hb HF HS6
            obtain ⟨G2, hG2⟩ : ∃ zz, zz = g := ⟨_, rfl⟩
            obtain ⟨M2, hM2⟩ : ∃ zz, zz = m := ⟨_, rfl⟩
            obtain ⟨s2, hs2⟩ : ∃ zz, zz = s4 := ⟨_, rfl⟩
            have HSE := HS7
            have HIE := HI4
            rw [← hG2, ← hM2, ← hs2] at HSE
            rw [← hs2] at HIE
            rw [← hG2]
            clear hG2 hM2 hs2 HS7 HI4
            have HTT := Lib.hid (fun s => mc_fpt B P 40000 r l G2 M2 s)
            go_wp2
            go_loopw [] (fun wr => ∃ s', Hid (Iv r l L id j s') ∧ Hid (Bs (Mc B P 40000 r l G2 M2 s') v0 H0 [] wr)) (fun wr => lenAt wr G2)
            case atStart => exact ⟨s2, HIE, HSE⟩
            case round =>
              clear HSE HIE
              obtain ⟨s3, HI3, HR⟩ := hrel
              obtain ⟨H1, h1, _, h3⟩ := HR.out.call
              have HF := Lib.hid (frames_f h1 HI3.out.ok.small.1 HI3.out.ok.small.2)
              clear h1 h3
              have HLA := Lib.hid HR.out.lenAt
              cases hu : s3.U with
              | nil =>
                rw [hu] at HF
                have hen := HI3.out.end_ hu HI.out.2.2.1 HI.out.1 HI.out.2.1
                have HEN := Lib.hid hen
                clear hen hu HLA
                go_wp2_with fail
                refine HF.out.mono ?_
                rintro e x1 ⟨ao, cp, nw, rfl, _, _, _, _, _, hb⟩
                have HS5 := Lib.hid (HR.out.below (HTT.out _) hb)
                clear hb HF HR
                obtain ⟨H1, h1, _, _⟩ := HS5.out.call
                have HO := Lib.hid (out_f h1 true HEN.out.1)
                clear h1
                go_wp2_with fail
                refine HO.out.mono ?_
                rintro e x2 ⟨rfl, hb⟩
                have HS6 := Lib.hid (HS5.out.below (HTT.out _) hb)
                clear hb HO HS5
                obtain ⟨c0, c1⟩ := two_cells (HAT.out _ _ _ HS6.out).1.rule
                have HG := Lib.hid (show Calls Tryz.prog 13 #[.pointer (some ⟨P, 0, none⟩), .agg #[.int .u16 r, .int .u16 l]] x2 (NewG x2 P r l) from gnew_f P r l HMY.out x2)
                go_wp2_with fail
                refine HG.out.mono ?_
                rintro e x3 ⟨x, rfl, y1, y2, y3, y4, y5⟩
                have HS7 := Lib.hid (HS6.out.withg (HAT.out _ _ _ HS6.out).2 y5 y1 y2 y3 y4)
                clear y1 y2 y3 y4 y5 HG HS6 c0 c1
                obtain ⟨H1, h1, _, h3⟩ := HS7.out.call
                obtain ⟨Hg, k1, k2⟩ := Mg.grow h1
                have HC := Lib.hid (show Calls Tryz.prog 14 #[.pointer (some ⟨x.1, 0, none⟩), .int .i64 id, .int .i64 (j : Int)] x3 fun e w' => e = .returned (.tuple #[.int .i64 s3.out, .nilIface]) ∧ Gt B x3 x.1 P x.2 r l 40000 Hg (growQ r l p (s3.L, K0) id j).1 w' from by
                  have := growP_ok HMY.out k1 HEN.out.2.2.2.1 p (by have := HI.out.1; omega) id HEN.out.2.2.2.2 j HI.out.2.1 HEN.out.2.2.1
                  rw [HEN.out.2.1] at this
                  exact this)
                have HX := Lib.hid (fun w' (hg : Gt B x3 x.1 P x.2 r l 40000 Hg (growQ r l p (s3.L, K0) id j).1 w') => h3 _ _ (k2 (growQ r l p (s3.L, K0) id j).1 w' hg))
                clear h1 h3 k1 k2
                go_wp2_with fail
                refine HC.out.mono ?_
                rintro e x4 ⟨rfl, hg⟩
                have HB := Lib.hid (HAT.out _ _ _ (HX.out _ hg)).1.below
                clear hg HC HX HS7
                generalize s3.out = o at *
                go_wp2_with (go_at_call 5; refine (sure_any _).mono ?_; rintro e v99 ⟨rfl, hb⟩; have HB2 := Lib.hid (HB.out.trans (hb.mono HB.out.size)); clear hb)
                go_ret
                exact ⟨rfl, HB2.out⟩
              | cons f t =>
                have hne : s3.U ≠ [] := by rw [hu]; simp
                rw [hu] at HF
                have HE := Lib.hid (And.intro hne (And.intro (HI3.out.run 1048576) (HI3.out.last hne)))
                have hlu : s3.U.length = t.length + 1 := by rw [hu]; rfl
                have HLU := Lib.hid hlu
                clear hu hne hlu
                have hpos : (0 : Int) < (t.length : Int) + 1 := by omega
                go_wp2_with fail
                refine HF.out.mono ?_
                rintro e x1 ⟨ao, cp, nw, rfl, _, _, _, _, _, hb⟩
                have HS5 := Lib.hid (HR.out.below (HTT.out _) hb)
                clear hb HF HR
                obtain ⟨kk, hkk⟩ : ∃ kk, kk = (runF r l 1048576 s3).1 := ⟨_, rfl⟩
                have hk1 : ¬ (kk : Int) < 1 := by have := HE.out.2.2.2; omega
                obtain ⟨H1, h1, _, h3⟩ := HS5.out.call
                have HC := Lib.hid (show Calls Tryz.prog 9 #[.pointer (some ⟨G2, 0, none⟩), .int .i64 1048576] x1 fun e w' => e = .returned (.tuple #[.int .i64 (kk : Int), .nilIface]) ∧ Goz (Mc B P 40000 r l G2 M2 (runF r l 1048576 s3).2) x1 H1 w' from by
                  rw [hkk]
                  exact run_f h1 (HAT.out _ _ _ HS5.out).2 HI3.out.ok HE.out.1 HMY.out (by decide) 1048576 (by decide) HE.out.2.1.2)
                have HN := Lib.hid h3
                have HKK := Lib.hid hkk
                clear h1 h3 hkk
                go_wp2_with fail
                refine HC.out.mono ?_
                rintro e x2 ⟨rfl, hg⟩
                have HS6 := Lib.hid (HN.out _ _ hg)
                clear hg HC HN HS5
                go_wp2
                go_roundw
                case rel => exact ⟨_, Lib.hid HE.out.2.1.1, HS6⟩
                case measure =>
                  rw [HS6.out.lenAt, HLA.out, HE.out.2.2.1, HLU.out]
                  simp
          | cons f2 t2 =>
            have hne : s4.U ≠ [] := by rw [hu]; simp
            have hlen : s4.U.length = t2.length + 1 := by rw [hu]; rfl
            rw [hu] at HF
            have HNE4 := Lib.hid (And.intro hne (And.intro hu hlen))
            clear hu hne hlen
            have hz2 : (((t2.length : Int) + 1) == 0) = false := by rw [beq_eq_false_iff_ne]; omega
            go_wp2_with fail
            refine HF.out.mono ?_
            rintro e x2 ⟨ao, cp, nw, rfl, q1, q2, q3, q4, q5, hb⟩
            have HS7 := Lib.hid (HS6.out.below (mc_fpt B P 40000 r l g m s4) hb)
            have HNW := Lib.hid (And.intro q1 (And.intro q2 q3))
            clear hb HF HS6 q1 q2 q3 q4 q5
            obtain ⟨c0, c1⟩ := two_cells (HAT.out _ _ _ HS7.out).1.rule
            have HG := Lib.hid (show Calls Tryz.prog 10 #[.pointer (some ⟨P, 0, none⟩), .agg #[.int .u16 r, .int .u16 l]] x2 (NewM x2 P r l) from mnew_f P r l HMY.out x2)
            go_wp2_with fail
            refine HG.out.mono ?_
            rintro e x3 ⟨G', M', rfl, g1, g2, g3, g4⟩
            have HS8 := Lib.hid (HS7.out.with2 g3 g1 g2 (g4 B (HAT.out _ _ _ HS7.out).2) s4.L).swap
            have HB3 := Lib.hid g3
            clear g1 g2 g3 g4 HG c0 c1 HS7
            obtain ⟨H1, h1, h3⟩ := HS8.out.call2
            have HC := Lib.hid (show Calls Tryz.prog 11 #[.pointer (some ⟨G', 0, none⟩), .slice ao (t2.length + 1) cp] x3 fun e w' => e = .returned .nilIface ∧ Goz (Mc B P 40000 r l G' M' ⟨s4.L, K0, s4.U, 0⟩) x3 H1 w' from by
              have hlu : nw.length = t2.length + 1 := by
                have := congrArg List.length HNW.out.1
                rw [← HNE4.out.2.1, List.length_map, List.length_reverse, HNE4.out.2.2] at this
                exact this
              have q1 : nw.map Prod.fst = s4.U.reverse := by rw [HNE4.out.2.1]; exact HNW.out.1
              have hsm := HI4.out.ok.small.1
              have := load_f h1 (HAT.out _ _ _ HS8.out).2 rfl ao cp nw (HNW.out.2.1.bel HB3.out) (fun y hy => ⟨(HNW.out.2.2 y hy).1.bel HB3.out, hsm _ (List.mem_reverse.1 (q1 ▸ List.mem_map_of_mem hy)), (HNW.out.2.2 y hy).2⟩) (ldb_of HI4.out.ok HNE4.out.1 q1)
              rw [hlu, q1, List.reverse_reverse] at this
              exact this)
            have HN := Lib.hid h3
            clear h1 h3
            go_wp2_with fail
            refine HC.out.mono ?_
            rintro e x4 ⟨rfl, hg⟩
            have HS9 := Lib.hid (HN.out _ _ hg)
            clear hg HC HN HS8
            have HI5 := Lib.hid (HI4.out.load HNE4.out.1)
            obtain ⟨bb, hbb⟩ : ∃ bb, ((((n : Int) + 1) % 2) == 0) = bb := ⟨_, rfl⟩
            cases bb with
            | true =>
              have HSX := Lib.hid HS9.out.one
              clear HS9
              go_wp2
              go_roundw
              case rel => exact ⟨G', M', _, n + 1, rfl, by go_num, by omega, HI5, HSX⟩
              case measure => simp [intOf]; omega
            | false =>
              have HSX := Lib.hid HS9.out.swap.one
              clear HS9
              go_wp2
              go_roundw
              case rel => exact ⟨g, m, _, n + 1, rfl, by go_num, by omega, HI4, HSX⟩
              case measure => simp [intOf]; omega
        · have hge : ¬ (n : Int) < 60 := by omega
          go_wp2_with fail
          refine HF.out.mono ?_
          rintro e x0 ⟨ao, cp, nw, rfl, _, _, _, _, _, hb⟩
          have HS5 := Lib.hid (HR.out.below (mc_fpt B P 40000 r l g m s1) hb)
          clear hb HF HR
          obtain ⟨G2, hG2⟩ : ∃ zz, zz = g := ⟨_, rfl⟩
          obtain ⟨M2, hM2⟩ : ∃ zz, zz = m := ⟨_, rfl⟩
          obtain ⟨s2, hs2⟩ : ∃ zz, zz = s1 := ⟨_, rfl⟩
          have HSE := HS5
          have HIE := HI1
          rw [← hG2, ← hM2, ← hs2] at HSE
          rw [← hs2] at HIE
          rw [← hG2]
          clear hG2 hM2 hs2 HS5 HI1
          have HTT := Lib.hid (fun s => mc_fpt B P 40000 r l G2 M2 s)
          go_wp2
          go_loopw [] (fun wr => ∃ s', Hid (Iv r l L id j s') ∧ Hid (Bs (Mc B P 40000 r l G2 M2 s') v0 H0 [] wr)) (fun wr => lenAt wr G2)
          case atStart => exact ⟨s2, HIE, HSE⟩
          case round =>
            clear HSE HIE
            obtain ⟨s3, HI3, HR⟩ := hrel
            obtain ⟨H1, h1, _, h3⟩ := HR.out.call
            have HF := Lib.hid (frames_f h1 HI3.out.ok.small.1 HI3.out.ok.small.2)
            clear h1 h3
            have HLA := Lib.hid HR.out.lenAt
            cases hu : s3.U with
            | nil =>
              rw [hu] at HF
              have hen := HI3.out.end_ hu HI.out.2.2.1 HI.out.1 HI.out.2.1
              have HEN := Lib.hid hen
              clear hen hu HLA
              go_wp2_with fail
              refine HF.out.mono ?_
              rintro e x1 ⟨ao, cp, nw, rfl, _, _, _, _, _, hb⟩
              have HS5 := Lib.hid (HR.out.below (HTT.out _) hb)
              clear hb HF HR
              obtain ⟨H1, h1, _, _⟩ := HS5.out.call
              have HO := Lib.hid (out_f h1 true HEN.out.1)
              clear h1
              go_wp2_with fail
              refine HO.out.mono ?_
              rintro e x2 ⟨rfl, hb⟩
              have HS6 := Lib.hid (HS5.out.below (HTT.out _) hb)
              clear hb HO HS5
              obtain ⟨c0, c1⟩ := two_cells (HAT.out _ _ _ HS6.out).1.rule
              have HG := Lib.hid (show Calls Tryz.prog 13 #[.pointer (some ⟨P, 0, none⟩), .agg #[.int .u16 r, .int .u16 l]] x2 (NewG x2 P r l) from gnew_f P r l HMY.out x2)
              go_wp2_with fail
              refine HG.out.mono ?_
              rintro e x3 ⟨x, rfl, y1, y2, y3, y4, y5⟩
              have HS7 := Lib.hid (HS6.out.withg (HAT.out _ _ _ HS6.out).2 y5 y1 y2 y3 y4)
              clear y1 y2 y3 y4 y5 HG HS6 c0 c1
              obtain ⟨H1, h1, _, h3⟩ := HS7.out.call
              obtain ⟨Hg, k1, k2⟩ := Mg.grow h1
              have HC := Lib.hid (show Calls Tryz.prog 14 #[.pointer (some ⟨x.1, 0, none⟩), .int .i64 id, .int .i64 (j : Int)] x3 fun e w' => e = .returned (.tuple #[.int .i64 s3.out, .nilIface]) ∧ Gt B x3 x.1 P x.2 r l 40000 Hg (growQ r l p (s3.L, K0) id j).1 w' from by
                have := growP_ok HMY.out k1 HEN.out.2.2.2.1 p (by have := HI.out.1; omega) id HEN.out.2.2.2.2 j HI.out.2.1 HEN.out.2.2.1
                rw [HEN.out.2.1] at this
                exact this)
              have HX := Lib.hid (fun w' (hg : Gt B x3 x.1 P x.2 r l 40000 Hg (growQ r l p (s3.L, K0) id j).1 w') => h3 _ _ (k2 (growQ r l p (s3.L, K0) id j).1 w' hg))
              clear h1 h3 k1 k2
              go_wp2_with fail
              refine HC.out.mono ?_
              rintro e x4 ⟨rfl, hg⟩
              have HB := Lib.hid (HAT.out _ _ _ (HX.out _ hg)).1.below
              clear hg HC HX HS7
              generalize s3.out = o at *
              go_wp2_with (go_at_call 5; refine (sure_any _).mono ?_; rintro e v99 ⟨rfl, hb⟩; have HB2 := Lib.hid (HB.out.trans (hb.mono HB.out.size)); clear hb)
              go_ret
              exact ⟨rfl, HB2.out⟩
            | cons f t =>
              have hne : s3.U ≠ [] := by rw [hu]; simp
              rw [hu] at HF
              have HE := Lib.hid (And.intro hne (And.intro (HI3.out.run 1048576) (HI3.out.last hne)))
              have hlu : s3.U.length = t.length + 1 := by rw [hu]; rfl
              have HLU := Lib.hid hlu
              clear hu hne hlu
              have hpos : (0 : Int) < (t.length : Int) + 1 := by omega
              go_wp2_with fail
              refine HF.out.mono ?_
              rintro e x1 ⟨ao, cp, nw, rfl, _, _, _, _, _, hb⟩
              have HS5 := Lib.hid (HR.out.below (HTT.out _) hb)
              clear hb HF HR
              obtain ⟨kk, hkk⟩ : ∃ kk, kk = (runF r l 1048576 s3).1 := ⟨_, rfl⟩
              have hk1 : ¬ (kk : Int) < 1 := by have := HE.out.2.2.2; omega
              obtain ⟨H1, h1, _, h3⟩ := HS5.out.call
              have HC := Lib.hid (show Calls Tryz.prog 9 #[.pointer (some ⟨G2, 0, none⟩), .int .i64 1048576] x1 fun e w' => e = .returned (.tuple #[.int .i64 (kk : Int), .nilIface]) ∧ Goz (Mc B P 40000 r l G2 M2 (runF r l 1048576 s3).2) x1 H1 w' from by
                rw [hkk]
                exact run_f h1 (HAT.out _ _ _ HS5.out).2 HI3.out.ok HE.out.1 HMY.out (by decide) 1048576 (by decide) HE.out.2.1.2)
              have HN := Lib.hid h3
              have HKK := Lib.hid hkk
              clear h1 h3 hkk
              go_wp2_with fail
              refine HC.out.mono ?_
              rintro e x2 ⟨rfl, hg⟩
              have HS6 := Lib.hid (HN.out _ _ hg)
              clear hg HC HN HS5
              go_wp2
              go_roundw
              case rel => exact ⟨_, Lib.hid HE.out.2.1.1, HS6⟩
              case measure =>
                rw [HS6.out.lenAt, HLA.out, HE.out.2.2.1, HLU.out]
                simp
end Go.Proofs.YtkefjkfknegogaaGreat.Fm

/-
  THE WALK of FramesLoads. Conditions: what came in could be read.
-/
import Derived.Lib.AppendZeros
import Derived.Test.YtlejohclijjhnaaGreatDoorL42
import Derived.Test.YtlejohclijjhnaaGreatDoorL49
import Derived.Test.YtlejohclijjhnaaGreatDoorL50
namespace Go.Proofs.YtlejohclijjhnaaGreatDoor.Fm
open Go.RowKit Ti Qd Go.Maps Go.WideMaps Ru

set_option maxRecDepth 100000 in
set_option maxHeartbeats 8000000 in
theorem loads_walk (r l : Nat) (a : Option Addr) (len cap : Nat) (zs : List Int) (c : Int × Int × Int) (W : World) (_w0 : r < 65536 ∧ l < 65536) (w1 : IsRow .u64 W a len cap zs) (_w2 : True) (hlaid : Laid W) :
    Calls Tryz.prog 3 #[.agg #[.int .u16 r, .int .u16 l], .slice a len cap, .agg #[.int .i64 c.1, .int .i64 c.2.1, .int .i64 c.2.2]] W fun e w' => e = .returned (.bool true) ∧ Below W.heap.size W w' := by
  obtain ⟨K, J, N⟩ := c
  have HLD := Lib.hid hlaid
  obtain ⟨X, hx, hlen⟩ := isrow_x w1
  have HX := Lib.hid (And.intro hx hlen)
  have HR0 := Lib.hid (ak_start r l K J N W)
  have HM := Lib.hid (show ∀ w, Calls Tryz.prog 4 #[.agg #[.int .u16 r, .int .u16 l]] w fun e w' => e = .returned (.bool (mayR r l)) ∧ Below w.heap.size w w' from fun w => may_ref r l w)
  obtain ⟨c0, c1⟩ := two_cells HR0.out.rule
  clear w1 hx hlen hlaid
  go_enter Tryz.func3, Tryz.ntmps3
  go_wp2_with fail
  refine (HM.out _).mono ?_
  rintro e w1 ⟨rfl, hb⟩
  have HR1 := Lib.hid (HR0.out.on hb)
  clear hb HR0 c0 c1
  cases hm : mayR r l with
  | false =>
    clear HM
    have HB := Lib.hid HR1.out.below
    go_wp2_with (go_at_call 5; refine (sure_any _).mono ?_; rintro e v4 ⟨rfl, hb⟩; have HB2 := Lib.hid (HB.out.trans (hb.mono HB.out.size)); clear hb)
    go_ret
    exact ⟨rfl, HB2.out⟩
  | true =>
    clear HM
    have HMY := Lib.hid hm
    clear hm
    obtain ⟨c0, c1⟩ := two_cells HR1.out.rule
    obtain ⟨d0, d1, d2⟩ := three_cells HR1.out.ask
    have HS := Lib.hid (show Calls Tryz.prog 6 #[.agg #[.int .u16 r, .int .u16 l], .slice a len cap, .agg #[.int .i64 K, .int .i64 J, .int .i64 N]] w1 (Scene w1 r l K) from scene_any r l a len cap X K J N w1 HMY.out (HX.out.1.below HR1.out.below) HX.out.2)
    go_wp2_with fail
    refine HS.out.mono ?_
    rintro e v0 ⟨B, P, G, M, p, j, L, id, H0, rfl, _, h2, h3, h4, h5, h6, h7, h8, h9, h10⟩
    obtain ⟨⟨k, T⟩, hT⟩ := whole_ok r l h9 h8 h2 h3 h10
    have HTW := Lib.hid hT
    have HBV := Lib.hid (show (∀ x, H0 x → B ≤ x) ∧ B ≤ v0.heap.size ∧ w1.heap.size ≤ B from ⟨fun x hx => ((mc_fpt B P 40000 r l G M ⟨L, K0, [], 0⟩).lt h4 x hx).1, h6, h5⟩)
    have HR3 := Lib.hid (HR1.out.on h7)
    have HAT := Lib.hid (fun (T : World → (Nat → Prop) → Prop) (bx : List (Nat × Obj)) (w : World) (hs : Bs T v0 H0 bx w) => show AkAt W w r l K J N ∧ B ≤ w.heap.size from ⟨HR3.out.on2 (hs.lt HBV.out.1 HBV.out.2.1) (by have := lt_of_block HR1.out.ask; have := HBV.out.2.2; omega), Nat.le_trans HBV.out.2.1 (hs.lt HBV.out.1 HBV.out.2.1).size⟩)
    have HS0 := Lib.hid (Bs.start h4)
    have HI := Lib.hid (And.intro h2 (And.intro h3 (And.intro h8 (And.intro h9 h10))))
    clear h2 h3 h4 h5 h6 h7 h8 h9 h10 hT HS c0 c1 d0 d1 d2 HR1 HR3 HX
    obtain ⟨H1, h1, _, h3⟩ := HS0.out.call
    have HC := Lib.hid (begin_f h1 (HAT.out _ _ _ HS0.out).2 rfl id j p (by have := HI.out.1; omega) HI.out.2.2.1 (by omega) (by have := HI.out.2.1; omega))
    have HN := Lib.hid h3
    clear h1 h3
    go_wp2_with fail
    refine HC.out.mono ?_
    rintro e v1 ⟨rfl, hg⟩
    have HS1 := Lib.hid (HN.out _ _ hg)
    clear hg HC HN HS0
    have HIV0 : Hid (Iv r l L id j ⟨L, K0, [nf id j], 0⟩) := Lib.hid (by
      obtain ⟨s0, p0, b0⟩ := start_ok (b := r) (l := l) (K := K0) (gok_new r l HI.out.2.2.2.1) (n := p) HI.out.2.2.1 (by have := HI.out.1; omega) (j := (j : Int)) (by omega) (by have := HI.out.2.1; omega) 0
      have hT := TT_le p HI.out.1
      have h10 := HI.out.2.2.2.2
      refine ⟨s0, b0, List.prefix_rfl, ?_⟩
      have p0' : pot (⟨L, K0, [nf id j], 0⟩ : MS).L (⟨L, K0, [nf id j], 0⟩ : MS).U = TT p := p0
      rw [p0']
      show L.length + 2 * TT p ≤ 9818
      omega)
    obtain ⟨pn, hpn, epn⟩ := red_nat N 300 (by decide) (by decide)
    have epn : wrap64 ((IntKind.u64.wrap N).tmod 300) = (pn : Int) := epn
    obtain ⟨d0, d1, d2⟩ := three_cells (HAT.out _ _ _ HS1.out).1.ask
    obtain ⟨H1, h1, _, h3⟩ := HS1.out.call
    obtain ⟨s4, hs4⟩ : ∃ s, s = (runF r l pn ⟨L, K0, [nf id j], 0⟩).2 := ⟨_, rfl⟩
    obtain ⟨kk, hkk⟩ : ∃ kk, kk = (runF r l pn ⟨L, K0, [nf id j], 0⟩).1 := ⟨_, rfl⟩
    have hrun := HIV0.out.run pn
    have HC := Lib.hid (show Calls Tryz.prog 8 #[.pointer (some ⟨G, 0, none⟩), .int .i64 (wrap64 ((IntKind.u64.wrap N).tmod 300))] v1 fun e w' => e = .returned (.tuple #[.int .i64 (kk : Int), .nilIface]) ∧ Goz (Mc B P 40000 r l G M s4) v1 H1 w' from by
      rw [hkk, hs4, epn]
      have := run_f h1 (HAT.out _ _ _ HS1.out).2 HIV0.out.ok (by simp) HMY.out (by decide) (pn : Int) (by omega) (by rw [Int.toNat_natCast]; exact hrun.2)
      rw [Int.toNat_natCast] at this
      exact this)
    have HI4 : Hid (Iv r l L id j s4) := by rw [hs4]; exact Lib.hid hrun.1
    have HN := Lib.hid h3
    clear h1 h3 hrun hs4 hkk hpn epn HTW HIV0
    go_wp2_with fail
    refine HC.out.mono ?_
    rintro e x1 ⟨rfl, hg⟩
    have HS6 := Lib.hid (HN.out _ _ hg)
    clear hg HC HN HS1 d0 d1 d2
    obtain ⟨H1, h1, _, h3⟩ := HS6.out.call
    have HF := Lib.hid (frames_f h1 HI4.out.ok.small.1 HI4.out.ok.small.2)
    clear h1 h3
    cases hu : s4.U with
    | nil =>
      rw [hu] at HF
      clear hu
      go_wp2_with fail
      refine HF.out.mono ?_
      rintro e x2 ⟨ao, cp, nw, rfl, _, _, _, _, _, hb⟩
      have HB := Lib.hid (HAT.out _ _ _ (HS6.out.below (mc_fpt B P 40000 r l G M s4) hb)).1.below
      clear hb HF HS6
      go_wp2_with (go_at_call 5; refine (sure_any _).mono ?_; rintro e v99 ⟨rfl, hb⟩; have HB2 := Lib.hid (HB.out.trans (hb.mono HB.out.size)); clear hb)
      go_ret
      exact ⟨rfl, HB2.out⟩
    | cons f2 t2 =>
      have hne : s4.U ≠ [] := by rw [hu]; simp
      have hlen : s4.U.length = t2.length + 1 := by rw [hu]; rfl
      rw [hu] at HF
      have HNE4 := Lib.hid (And.intro hne (And.intro hu hlen))
      have hsm := HI4.out.ok.small.2
      have ht40 : (t2.length : Int) ≤ 1000 := by omega
      clear hu hne hlen hsm
      have hz2 : (((t2.length : Int) + 1) == 0) = false := by rw [beq_eq_false_iff_ne]; omega
      go_wp2_with fail
      refine HF.out.mono ?_
      rintro e x2 ⟨ao, cp, nw, rfl, q1, q2, q3, q4, q5, hb⟩
      have HS7 := Lib.hid (HS6.out.below (mc_fpt B P 40000 r l G M s4) hb)
      have HNW := Lib.hid (And.intro q1 (And.intro q2 (And.intro q3 (And.intro q4 q5))))
      clear hb HF HS6 q1 q2 q3 q4 q5
      obtain ⟨c0, c1⟩ := two_cells (HAT.out _ _ _ HS7.out).1.rule
      have HG := Lib.hid (show Calls Tryz.prog 10 #[.pointer (some ⟨P, 0, none⟩), .agg #[.int .u16 r, .int .u16 l]] x2 (NewM x2 P r l) from mnew_f P r l HMY.out x2)
      go_wp2_with fail
      refine HG.out.mono ?_
      rintro e x3 ⟨G', M', rfl, g1, g2, g3, g4⟩
      have HS8 := Lib.hid (HS7.out.with2 g3 g1 g2 (g4 B (HAT.out _ _ _ HS7.out).2) s4.L).swap
      have HB3 := Lib.hid g3
      clear g1 g2 g3 g4 HG c0 c1 HS7
      obtain ⟨d0, d1, d2⟩ := three_cells (HAT.out _ _ _ HS8.out).1.ask
      have eu : IntKind.u64.wrap ((t2.length : Int) + 1) = ((t2.length + 1 : Nat) : Int) := by
        rw [show ((t2.length : Int) + 1) = ((t2.length + 1 : Nat) : Int) by omega]
        exact IntWalk.u64_in _ (by omega)
      obtain ⟨k, hk, ek⟩ := red_nat K (t2.length + 1) (by omega) (by omega)
      go_upto_region 14 with (fail)
      have ek : wrap64 ((IntKind.u64.wrap K).tmod ((t2.length : Int) + 1)) = (k : Int) := by
        rw [show ((t2.length : Int) + 1) = ((t2.length + 1 : Nat) : Int) by omega]
        exact ek
      rw [ek]
      clear d0 d1 d2 ek eu
      have HE := Lib.hid (show nw.map Prod.fst = s4.U.reverse by rw [HNE4.out.2.1]; exact HNW.out.1)
      have HNL := Lib.hid (show nw.length = t2.length + 1 by rw [told_len HE.out, HNE4.out.2.2])
      have HFW := Lib.hid (show nw.length ≤ 39 by rw [told_len HE.out]; exact told_few HI4.out.ok)
      have HLF := Lib.hid (fun (W : World) (h : Below x3.heap.size x3 W) => ((HNW.out.2.1.bel HB3.out).bel h : LiesF W ao nw))
      have HLG := Lib.hid (fun (W : World) (h : Below x3.heap.size x3 W) (x : FH) (hx : x ∈ nw) => (((HNW.out.2.2.1 x hx).1.bel HB3.out).bel h : LiesI W x.2 x.1.got))
      have HM := Lib.hid (fun (W : World) (h : Below x3.heap.size x3 W) => HS8.out.below (m2_fpt _ _ _ _ _ _ _ _ _ _ _) h)
      have hk' : k < nw.length := by rw [HNL.out]; exact hk
      obtain ⟨nf0, hfo⟩ := (ldb_of HI4.out.ok HNE4.out.1 HE.out).ok k hk'
      have hzn := (HNW.out.2.2.1 nw[k] (List.getElem_mem hk')).2
      have hsl := HLG.out x3 (Below.refl _ _) nw[k] (List.getElem_mem hk')
      obtain ⟨z, hz⟩ : ∃ z, z = nw[k] := ⟨_, rfl⟩
      have HLZ := Lib.hid (fun (W : World) (h : Below x3.heap.size x3 W) => HLG.out W h nw[k] (List.getElem_mem hk'))
      rw [← hz] at hfo hzn hsl HLZ
      obtain ⟨⟨zi, zj, zs, zg⟩, zh⟩ := z
      obtain ⟨ah, ch, ezh, _⟩ := hsl
      simp only at ezh
      subst ezh
      have HZ := Lib.hid (And.intro hk' (And.intro hz (And.intro hfo hzn)))
      have HK := Lib.hid hk
      have HSL := Lib.hid (show ∀ x ∈ nw, ∃ a n c, x.2 = .slice a n c from fun x hx => by
        obtain ⟨a, c, e, _⟩ := HLG.out x3 (Below.refl _ _) x hx
        exact ⟨a, _, c, e⟩)
      have HLA := Lib.hid (fun (W : World) (h : Below x3.heap.size x3 W) => (HLD.out.below (HAT.out _ _ _ (HM.out W h)).1.below : Laid W))
      have HCB := Lib.hid (fun (W : World) (h : Below x3.heap.size x3 W) (g : Fr) (hw : (g = ⟨(s4.L.length : Int) + 5, zj, zs, zg⟩) ∨ (g = ⟨zi, 39, zs, zg⟩) ∨ (g = ⟨zi, zj, zs + 1, zg⟩) ∨ (g = ⟨zi, -1, zs, zg⟩)) => (show Calls Tryz.prog 45 #[.pointer (some ⟨G', 0, none⟩), fv g (.slice ah zg.length ch)] W fun e w' => e = .returned (.bool false) ∧ Below W.heap.size W w' from by
        obtain ⟨Hs, hst, _⟩ := (HM.out W h).one.store
        have hc := (HM.out W h).one.cells.1
        exact canBe_ways hst hc HZ.out.2.2.1 ah ch g hw))
      have HC4 := Lib.hid (fun (W : World) (h : Below x3.heap.size x3 W) (bb boff cz : Nat) (hz : W.cell? ⟨bb, boff, none⟩ = some (.int .i64 0)) => (show Calls Tryz.prog 45 #[.pointer (some ⟨G', 0, none⟩), fv ⟨zi, zj, zs + 1, zg⟩ (.slice (some ⟨bb, boff, none⟩) (zg.length + 1) cz)] W fun e w' => e = .returned (.bool false) ∧ Below W.heap.size W w' from by
        obtain ⟨Hs, hst, _⟩ := (HM.out W h).one.store
        have hc := (HM.out W h).one.cells.1
        exact canBe_way4 hst hc HZ.out.2.2.1 bb boff cz hz zg))
      have HLO := Lib.hid (fun (W : World) (h : Below x3.heap.size x3 W) (g off cap : Nat) (y : FH) (hy : ∃ a n c, y.2 = .slice a n c) (hl : LiesF W (some ⟨g, off, none⟩) (nw.set k y)) (hbad : ∀ W', Below W.heap.size W W' → Calls Tryz.prog 45 #[.pointer (some ⟨G', 0, none⟩), fv y.1 y.2] W' fun e w' => e = .returned (.bool false) ∧ Below W'.heap.size W' w') => (show Calls Tryz.prog 13 #[.pointer (some ⟨G', 0, none⟩), .slice (some ⟨g, off, none⟩) (t2.length + 1) cap] W fun e w' => e = .returned (.iface 63 (.int .i64 3)) ∧ Below W.heap.size W w' from by
        obtain ⟨H1, h1, _⟩ := (HM.out W h).call2
        have := load_set h1 HI4.out.ok HNE4.out.1 HE.out (HLG.out W h) (some ⟨g, off, none⟩) cap k HZ.out.1 y hy hl hbad
        rw [HNL.out] at this
        exact this))
      have HNU := Lib.hid (fun (W : World) (h : Below x3.heap.size x3 W) => num_err 3 W (HLA.out W h))
      have k0 : (0 : Int) ≤ (k : Int) := by omega
      have kb : (k : Int) < (t2.length : Int) + 1 := by have := HK.out; omega
      clear hk hfo hzn hz
      go_upto_region 15 with (fail)
      go_loopw [17] (fun i wr => ∃ q : Nat, q ≤ 6 ∧ i = .int .i64 (q : Int) ∧ Hid (Below x3.heap.size x3 wr)) (fun i _ => 6 - (intOf i).toNat)
      case atStart => exact ⟨0, by omega, rfl, Lib.hid (Below.refl _ _)⟩
      case round =>
        obtain ⟨q, hq, rfl, HB⟩ := hrel
        have q0 : (0 : Int) ≤ (q : Int) := by omega
        by_cases hlt : q < 6
        · have q1 : (q : Int) < 6 := by omega
          have HLT := Lib.hid hlt
          obtain ⟨ao', cap', w4, hap, how, hbw⟩ := append_now ao cp nw wr (HLF.out wr HB.out) HSL.out (by rw [HNL.out]; omega) (by have := HFW.out; omega)
          have how' : OwnF w4 wr.heap.size (.slice ao' nw.length cap') nw := how
          obtain ⟨g, off, rfl, hBg, hgl, hlf, hfz⟩ := own_at how' (by rw [HNL.out]; omega)
          have c := liesf_one hlf HZ.out.1
          rw [← HZ.out.2.1] at c
          obtain ⟨⟨c0, c1⟩, c2, c3⟩ := c
          rw [HNL.out] at hap
          have hb4 : Below x3.heap.size x3 w4 := HB.out.trans (hbw.mono HB.out.size)
          have HO := Lib.hid (And.intro how' (And.intro hBg (And.intro hgl (And.intro hlf (And.intro hfz (And.intro hb4 HB.out.size))))))
          clear how how' hBg hgl hlf hfz hb4 hbw hq hlt
          simp only at c0 c1 c2 c3
          go_upto_region 20 with (refine Lib.wpList_append_run _ rfl (.tmp 86) (.tmp 87) 40 40 rfl (.slice none 0 0) (.slice ao (t2.length + 1) cp) (by rfl) (by rfl) _ _ hap ?_)
          have hyr := heap_alloc_new w4 (.cells #[.int .i64 zi, .int .i64 zj, .int .i64 zs, .slice ah zg.length ch] 47)
          have hbW : Below x3.heap.size x3 (w4.alloc (.cells #[.int .i64 zi, .int .i64 zj, .int .i64 zs, .slice ah zg.length ch] 47)) := bstep HO.out.2.2.2.2.2.1 (alX w4 _)
          have hgW : (w4.alloc (.cells #[.int .i64 zi, .int .i64 zj, .int .i64 zs, .slice ah zg.length ch] 47)).heap[g]? = w4.heap[g]? := (alX w4 _).block g HO.out.2.2.1
          have hoW := HO.out.1.alloc (.cells #[.int .i64 zi, .int .i64 zj, .int .i64 zs, .slice ah zg.length ch] 47)
          obtain ⟨yb, hyb⟩ : ∃ yb, yb = w4.heap.size := ⟨_, rfl⟩
          have hgy : g < yb := by rw [hyb]; exact HO.out.2.2.1
          have hyl : yb < (w4.alloc (.cells #[.int .i64 zi, .int .i64 zj, .int .i64 zs, .slice ah zg.length ch] 47)).heap.size := by rw [hyb]; simp
          have hx4 : x3.heap.size ≤ g := Nat.le_trans HO.out.2.2.2.2.2.2 HO.out.2.1
          rw [← hyb] at hyr ⊢
          generalize w4.alloc (.cells #[.int .i64 zi, .int .i64 zj, .int .i64 zs, .slice ah zg.length ch] 47) = W at *
          have HW := Lib.hid (And.intro hbW (And.intro (liesf_blk HO.out.2.2.2.1 hgW) (And.intro (fun j => (World.frozen?_of_block (a := ⟨g, j, none⟩) hgW).trans (HO.out.2.2.2.2.1 j)) (And.intro hgy (And.intro hyl (And.intro hx4 (And.intro hyr hoW)))))))
          clear hyr hbW hgW hoW hyb hgy hyl hx4 c0 c1 c2 c3 hap
          have hq6 : q = 0 ∨ q = 1 ∨ q = 2 ∨ q = 3 ∨ q = 4 ∨ q = 5 := by have := HLT.out; omega
          clear q0 q1 HLT
          obtain ⟨y0, y1, y2, y3⟩ := row_y HW.out.2.2.2.2.2.2.1
          obtain ⟨z0, z1, z2, z3⟩ := row_yf HW.out.2.2.2.2.2.2.1
          rcases hq6 with rfl | rfl | rfl | rfl | rfl | rfl
          · obtain ⟨Hs, hst, _⟩ := (HM.out W HW.out.1).one.store
            have hst : St B W P s4.L 40000 Hs := hst
            have hsm := hst.small
            have HLN := Lib.hid (len_f hst)
            have hwl : wrap64 ((s4.L.length : Int) + 5) = (s4.L.length : Int) + 5 := by unfold wrap64; omega
            clear hst hsm
            go_wp2_with fail
            refine HLN.out.mono ?_
            rintro e W1 ⟨rfl, rfl⟩
            clear HLN
            go_upto_region 33 with (fail)
            have hy2 := heap_setCell_same W yb 0 _ _ (.int .i64 ((s4.L.length : Int) + 5)) HW.out.2.2.2.2.2.2.1
            have HY2 := Lib.hid (And.intro (show (W.setCell ⟨yb, 0, none⟩ (.int .i64 ((s4.L.length : Int) + 5))).heap[yb]? = some (.cells #[.int .i64 ((s4.L.length : Int) + 5), .int .i64 zj, .int .i64 zs, .slice ah zg.length ch] 47 (0, 0)) from hy2) (And.intro (HW.out.1.setCell (p := ⟨yb, 0, none⟩) (Nat.le_trans HW.out.2.2.2.2.2.1 (Nat.le_of_lt HW.out.2.2.2.1)) (.int .i64 ((s4.L.length : Int) + 5))) (show (W.setCell ⟨yb, 0, none⟩ (.int .i64 ((s4.L.length : Int) + 5))).heap[g]? = W.heap[g]? from heap_ne _ yb _ g _ (Nat.ne_of_lt HW.out.2.2.2.1))))
            clear hy2
            generalize W.setCell ⟨yb, 0, none⟩ (.int .i64 ((s4.L.length : Int) + 5)) = W2 at HY2 ⊢
            clear y0 y1 y2 y3 z0 z1 z2 z3
            obtain ⟨y0, y1, y2, y3⟩ := row_y HY2.out.1
            have HL := Lib.hid (HLO.out (put4 W2 g (off + k * 4) (.int .i64 ((s4.L.length : Int) + 5)) (.int .i64 zj) (.int .i64 zs) (.slice ah zg.length ch)) (put4_bel HY2.out.2.1 HW.out.2.2.2.2.2.1 _ _ _ _ _) g off cap' (⟨(s4.L.length : Int) + 5, zj, zs, zg⟩, .slice ah zg.length ch) ⟨_, _, _, rfl⟩ (liesf_put (liesf_blk HW.out.2.1 HY2.out.2.2) HZ.out.1 (⟨(s4.L.length : Int) + 5, zj, zs, zg⟩, .slice ah zg.length ch)) (fun W' hW' => HCB.out W' ((put4_bel HY2.out.2.1 HW.out.2.2.2.2.2.1 _ _ _ _ _).trans (hW'.mono (put4_bel HY2.out.2.1 HW.out.2.2.2.2.2.1 _ _ _ _ _).size)) _ (.inl rfl)))
            have HBP := Lib.hid (put4_bel (v0 := (.int .i64 ((s4.L.length : Int) + 5))) (v1 := (.int .i64 zj)) (v2 := (.int .i64 zs)) (v3 := .slice ah zg.length ch) (o := off + k * 4) HY2.out.2.1 HW.out.2.2.2.2.2.1)
            have hfg := fun j => (World.frozen?_of_block (a := ⟨g, j, none⟩) HY2.out.2.2).trans (HW.out.2.2.1 j)
            have f0 := hfg (off + k * 4)
            have f1 := hfg (off + k * 4 + 1)
            have f2 := hfg (off + k * 4 + 2)
            have f3 := hfg (off + k * 4 + 3)
            obtain ⟨⟨e0, e1⟩, e2, e3⟩ := liesf_one (liesf_blk HW.out.2.1 HY2.out.2.2) HZ.out.1
            clear hfg
            unfold put4 at HL HBP
            go_wp2_with fail
            refine HL.out.mono ?_
            rintro e w5 ⟨rfl, hb5⟩
            have HB5 := Lib.hid (bstep HBP.out hb5)
            clear hb5 HL HBP y0 y1 y2 y3 f0 f1 f2 f3 e0 e1 e2 e3
            go_wp2_with fail
            refine (HNU.out w5 HB5.out).mono ?_
            rintro e w6 ⟨rfl, hb6⟩
            have HB6 := Lib.hid (bstep HB5.out hb6)
            clear hb6
            go_wp2
            go_roundw
            case rel => exact ⟨0 + 1, by omega, rfl, HB6⟩
            case measure => simp [intOf]
          · go_upto_region 33 with (fail)
            have hy2 := heap_setCell_same W yb 1 _ _ (.int .i64 39) HW.out.2.2.2.2.2.2.1
            have HY2 := Lib.hid (And.intro (show (W.setCell ⟨yb, 1, none⟩ (.int .i64 39)).heap[yb]? = some (.cells #[.int .i64 zi, .int .i64 39, .int .i64 zs, .slice ah zg.length ch] 47 (0, 0)) from hy2) (And.intro (HW.out.1.setCell (p := ⟨yb, 1, none⟩) (Nat.le_trans HW.out.2.2.2.2.2.1 (Nat.le_of_lt HW.out.2.2.2.1)) (.int .i64 39)) (show (W.setCell ⟨yb, 1, none⟩ (.int .i64 39)).heap[g]? = W.heap[g]? from heap_ne _ yb _ g _ (Nat.ne_of_lt HW.out.2.2.2.1))))
            clear hy2
            generalize W.setCell ⟨yb, 1, none⟩ (.int .i64 39) = W2 at HY2 ⊢
            clear y0 y1 y2 y3 z0 z1 z2 z3
            obtain ⟨y0, y1, y2, y3⟩ := row_y HY2.out.1
            have HL := Lib.hid (HLO.out (put4 W2 g (off + k * 4) (.int .i64 zi) (.int .i64 39) (.int .i64 zs) (.slice ah zg.length ch)) (put4_bel HY2.out.2.1 HW.out.2.2.2.2.2.1 _ _ _ _ _) g off cap' (⟨zi, 39, zs, zg⟩, .slice ah zg.length ch) ⟨_, _, _, rfl⟩ (liesf_put (liesf_blk HW.out.2.1 HY2.out.2.2) HZ.out.1 (⟨zi, 39, zs, zg⟩, .slice ah zg.length ch)) (fun W' hW' => HCB.out W' ((put4_bel HY2.out.2.1 HW.out.2.2.2.2.2.1 _ _ _ _ _).trans (hW'.mono (put4_bel HY2.out.2.1 HW.out.2.2.2.2.2.1 _ _ _ _ _).size)) _ (.inr (.inl rfl))))
            have HBP := Lib.hid (put4_bel (v0 := (.int .i64 zi)) (v1 := (.int .i64 39)) (v2 := (.int .i64 zs)) (v3 := .slice ah zg.length ch) (o := off + k * 4) HY2.out.2.1 HW.out.2.2.2.2.2.1)
            have hfg := fun j => (World.frozen?_of_block (a := ⟨g, j, none⟩) HY2.out.2.2).trans (HW.out.2.2.1 j)
            have f0 := hfg (off + k * 4)
            have f1 := hfg (off + k * 4 + 1)
            have f2 := hfg (off + k * 4 + 2)
            have f3 := hfg (off + k * 4 + 3)
            obtain ⟨⟨e0, e1⟩, e2, e3⟩ := liesf_one (liesf_blk HW.out.2.1 HY2.out.2.2) HZ.out.1
            clear hfg
            unfold put4 at HL HBP
            go_wp2_with fail
            refine HL.out.mono ?_
            rintro e w5 ⟨rfl, hb5⟩
            have HB5 := Lib.hid (bstep HBP.out hb5)
            clear hb5 HL HBP y0 y1 y2 y3 f0 f1 f2 f3 e0 e1 e2 e3
            go_wp2_with fail
            refine (HNU.out w5 HB5.out).mono ?_
            rintro e w6 ⟨rfl, hb6⟩
            have HB6 := Lib.hid (bstep HB5.out hb6)
            clear hb6
            go_wp2
            go_roundw
            case rel => exact ⟨1 + 1, by omega, rfl, HB6⟩
            case measure => simp [intOf]
          · have hzs : zs = (zg.length : Int) := HZ.out.2.2.1.st
            have hzl : zg.length ≤ 1000 := by have := HZ.out.2.2.1.len; simp only at this; omega
            have hws : wrap64 (zs + 1) = zs + 1 := by unfold wrap64; omega
            clear hzs hzl
            go_upto_region 33 with (fail)
            have hy2 := heap_setCell_same W yb 2 _ _ (.int .i64 (zs + 1)) HW.out.2.2.2.2.2.2.1
            have HY2 := Lib.hid (And.intro (show (W.setCell ⟨yb, 2, none⟩ (.int .i64 (zs + 1))).heap[yb]? = some (.cells #[.int .i64 zi, .int .i64 zj, .int .i64 (zs + 1), .slice ah zg.length ch] 47 (0, 0)) from hy2) (And.intro (HW.out.1.setCell (p := ⟨yb, 2, none⟩) (Nat.le_trans HW.out.2.2.2.2.2.1 (Nat.le_of_lt HW.out.2.2.2.1)) (.int .i64 (zs + 1))) (show (W.setCell ⟨yb, 2, none⟩ (.int .i64 (zs + 1))).heap[g]? = W.heap[g]? from heap_ne _ yb _ g _ (Nat.ne_of_lt HW.out.2.2.2.1))))
            clear hy2
            generalize W.setCell ⟨yb, 2, none⟩ (.int .i64 (zs + 1)) = W2 at HY2 ⊢
            clear y0 y1 y2 y3 z0 z1 z2 z3
            obtain ⟨y0, y1, y2, y3⟩ := row_y HY2.out.1
            have HL := Lib.hid (HLO.out (put4 W2 g (off + k * 4) (.int .i64 zi) (.int .i64 zj) (.int .i64 (zs + 1)) (.slice ah zg.length ch)) (put4_bel HY2.out.2.1 HW.out.2.2.2.2.2.1 _ _ _ _ _) g off cap' (⟨zi, zj, zs + 1, zg⟩, .slice ah zg.length ch) ⟨_, _, _, rfl⟩ (liesf_put (liesf_blk HW.out.2.1 HY2.out.2.2) HZ.out.1 (⟨zi, zj, zs + 1, zg⟩, .slice ah zg.length ch)) (fun W' hW' => HCB.out W' ((put4_bel HY2.out.2.1 HW.out.2.2.2.2.2.1 _ _ _ _ _).trans (hW'.mono (put4_bel HY2.out.2.1 HW.out.2.2.2.2.2.1 _ _ _ _ _).size)) _ (.inr (.inr (.inl rfl)))))
            have HBP := Lib.hid (put4_bel (v0 := (.int .i64 zi)) (v1 := (.int .i64 zj)) (v2 := (.int .i64 (zs + 1))) (v3 := .slice ah zg.length ch) (o := off + k * 4) HY2.out.2.1 HW.out.2.2.2.2.2.1)
            have hfg := fun j => (World.frozen?_of_block (a := ⟨g, j, none⟩) HY2.out.2.2).trans (HW.out.2.2.1 j)
            have f0 := hfg (off + k * 4)
            have f1 := hfg (off + k * 4 + 1)
            have f2 := hfg (off + k * 4 + 2)
            have f3 := hfg (off + k * 4 + 3)
            obtain ⟨⟨e0, e1⟩, e2, e3⟩ := liesf_one (liesf_blk HW.out.2.1 HY2.out.2.2) HZ.out.1
            clear hfg
            unfold put4 at HL HBP
            go_wp2_with fail
            refine HL.out.mono ?_
            rintro e w5 ⟨rfl, hb5⟩
            have HB5 := Lib.hid (bstep HBP.out hb5)
            clear hb5 HL HBP y0 y1 y2 y3 f0 f1 f2 f3 e0 e1 e2 e3
            go_wp2_with fail
            refine (HNU.out w5 HB5.out).mono ?_
            rintro e w6 ⟨rfl, hb6⟩
            have HB6 := Lib.hid (bstep HB5.out hb6)
            clear hb6
            go_wp2
            go_roundw
            case rel => exact ⟨2 + 1, by omega, rfl, HB6⟩
            case measure => simp [intOf]
          · go_upto_region 33 with (fail)
            have hy2 := heap_setCell_same W yb 1 _ _ (.int .i64 (-1)) HW.out.2.2.2.2.2.2.1
            have HY2 := Lib.hid (And.intro (show (W.setCell ⟨yb, 1, none⟩ (.int .i64 (-1))).heap[yb]? = some (.cells #[.int .i64 zi, .int .i64 (-1), .int .i64 zs, .slice ah zg.length ch] 47 (0, 0)) from hy2) (And.intro (HW.out.1.setCell (p := ⟨yb, 1, none⟩) (Nat.le_trans HW.out.2.2.2.2.2.1 (Nat.le_of_lt HW.out.2.2.2.1)) (.int .i64 (-1))) (show (W.setCell ⟨yb, 1, none⟩ (.int .i64 (-1))).heap[g]? = W.heap[g]? from heap_ne _ yb _ g _ (Nat.ne_of_lt HW.out.2.2.2.1))))
            clear hy2
            generalize W.setCell ⟨yb, 1, none⟩ (.int .i64 (-1)) = W2 at HY2 ⊢
            clear y0 y1 y2 y3 z0 z1 z2 z3
            obtain ⟨y0, y1, y2, y3⟩ := row_y HY2.out.1
            have HL := Lib.hid (HLO.out (put4 W2 g (off + k * 4) (.int .i64 zi) (.int .i64 (-1)) (.int .i64 zs) (.slice ah zg.length ch)) (put4_bel HY2.out.2.1 HW.out.2.2.2.2.2.1 _ _ _ _ _) g off cap' (⟨zi, -1, zs, zg⟩, .slice ah zg.length ch) ⟨_, _, _, rfl⟩ (liesf_put (liesf_blk HW.out.2.1 HY2.out.2.2) HZ.out.1 (⟨zi, -1, zs, zg⟩, .slice ah zg.length ch)) (fun W' hW' => HCB.out W' ((put4_bel HY2.out.2.1 HW.out.2.2.2.2.2.1 _ _ _ _ _).trans (hW'.mono (put4_bel HY2.out.2.1 HW.out.2.2.2.2.2.1 _ _ _ _ _).size)) _ (.inr (.inr (.inr rfl)))))
            have HBP := Lib.hid (put4_bel (v0 := (.int .i64 zi)) (v1 := (.int .i64 (-1))) (v2 := (.int .i64 zs)) (v3 := .slice ah zg.length ch) (o := off + k * 4) HY2.out.2.1 HW.out.2.2.2.2.2.1)
            have hfg := fun j => (World.frozen?_of_block (a := ⟨g, j, none⟩) HY2.out.2.2).trans (HW.out.2.2.1 j)
            have f0 := hfg (off + k * 4)
            have f1 := hfg (off + k * 4 + 1)
            have f2 := hfg (off + k * 4 + 2)
            have f3 := hfg (off + k * 4 + 3)
            obtain ⟨⟨e0, e1⟩, e2, e3⟩ := liesf_one (liesf_blk HW.out.2.1 HY2.out.2.2) HZ.out.1
            clear hfg
            unfold put4 at HL HBP
            go_wp2_with fail
            refine HL.out.mono ?_
            rintro e w5 ⟨rfl, hb5⟩
            have HB5 := Lib.hid (bstep HBP.out hb5)
            clear hb5 HL HBP y0 y1 y2 y3 f0 f1 f2 f3 e0 e1 e2 e3
            go_wp2_with fail
            refine (HNU.out w5 HB5.out).mono ?_
            rintro e w6 ⟨rfl, hb6⟩
            have HB6 := Lib.hid (bstep HB5.out hb6)
            clear hb6
            go_wp2
            go_roundw
            case rel => exact ⟨3 + 1, by omega, rfl, HB6⟩
            case measure => simp [intOf]
          · have hzs : zs = (zg.length : Int) := HZ.out.2.2.1.st
            have hzl : zg.length ≤ 1000 := by have := HZ.out.2.2.1.len; simp only at this; omega
            have hws : wrap64 (zs + 1) = zs + 1 := by unfold wrap64; omega
            obtain ⟨bb, boff, cz, w2, hap, hbb, hz0, hb2⟩ := append_zero (w := W) (h := .slice ah zg.length ch) (got := zg) ((HLZ.out W HW.out.1).bel (alX W (.cells #[.int .i64 0] 3))) HZ.out.2.2.2 hzl
            have ya := (alX W (.cells #[.int .i64 0] 3)).block yb HW.out.2.2.2.2.1
            have y3a := (World.cell?_of_block (a := ⟨yb, 3, none⟩) ya).trans y3
            have hr2 := (hb2.block yb HW.out.2.2.2.2.1).trans HW.out.2.2.2.2.2.2.1
            have hr3 := heap_setCell_same w2 yb 3 _ _ (.slice (some ⟨bb, boff, none⟩) (zg.length + 1) cz) hr2
            have hny : ¬ bb = yb := by have := HW.out.2.2.2.2.1; omega
            have hng : ¬ bb = g := by have := HW.out.2.2.2.2.1; have := HW.out.2.2.2.1; omega
            have HY3 := Lib.hid (And.intro (show (w2.setCell ⟨yb, 3, none⟩ (.slice (some ⟨bb, boff, none⟩) (zg.length + 1) cz)).heap[yb]? = some (.cells #[.int .i64 zi, .int .i64 zj, .int .i64 zs, .slice (some ⟨bb, boff, none⟩) (zg.length + 1) cz] 47 (0, 0)) from hr3) (And.intro ((bstep HW.out.1 hb2).setCell (p := ⟨yb, 3, none⟩) (Nat.le_trans HW.out.2.2.2.2.2.1 (Nat.le_of_lt HW.out.2.2.2.1)) (.slice (some ⟨bb, boff, none⟩) (zg.length + 1) cz)) (And.intro (show (w2.setCell ⟨yb, 3, none⟩ (.slice (some ⟨bb, boff, none⟩) (zg.length + 1) cz)).heap[g]? = W.heap[g]? from (heap_ne _ yb _ g _ (Nat.ne_of_lt HW.out.2.2.2.1)).trans (hb2.block g (Nat.lt_trans HW.out.2.2.2.1 HW.out.2.2.2.2.1))) (show (w2.setCell ⟨yb, 3, none⟩ (.slice (some ⟨bb, boff, none⟩) (zg.length + 1) cz)).cell? ⟨bb, boff, none⟩ = some (.int .i64 0) from (World.cell?_of_block (a := ⟨bb, boff, none⟩) (heap_ne _ yb _ bb _ hny)).trans hz0))))
            have z3a := (row_yf hr2).2.2.2
            have y3b := (row_y hr2).2.2.2
            have HNB := Lib.hid (And.intro hny hng)
            clear hzs hzl ya hr2 hr3 hny hng hz0 hb2 hbb
            go_upto_region 32 with (refine Lib.wpList_append_run _ rfl (.tmp 118) (.tmp 120) 45 45 rfl (.slice (some ⟨W.heap.size, 0, none⟩) 1 1) (.slice ah zg.length ch) (by rfl) (by rfl) _ _ hap ?_)
            generalize w2.setCell ⟨yb, 3, none⟩ (.slice (some ⟨bb, boff, none⟩) (zg.length + 1) cz) = w3 at HY3 ⊢
            clear y0 y1 y2 y3 z0 z1 z2 z3 y3a z3a y3b hap
            obtain ⟨y0, y1, y2, y3⟩ := row_y HY3.out.1
            obtain ⟨z0, z1, z2, z3⟩ := row_yf HY3.out.1
            go_upto_region 33 with (fail)
            have hy2 := heap_setCell_same w3 yb 2 _ _ (.int .i64 (zs + 1)) HY3.out.1
            have HY2 := Lib.hid (And.intro (show (w3.setCell ⟨yb, 2, none⟩ (.int .i64 (zs + 1))).heap[yb]? = some (.cells #[.int .i64 zi, .int .i64 zj, .int .i64 (zs + 1), .slice (some ⟨bb, boff, none⟩) (zg.length + 1) cz] 47 (0, 0)) from hy2) (And.intro (HY3.out.2.1.setCell (p := ⟨yb, 2, none⟩) (Nat.le_trans HW.out.2.2.2.2.2.1 (Nat.le_of_lt HW.out.2.2.2.1)) (.int .i64 (zs + 1))) (show (w3.setCell ⟨yb, 2, none⟩ (.int .i64 (zs + 1))).heap[g]? = W.heap[g]? from (heap_ne _ yb _ g _ (Nat.ne_of_lt HW.out.2.2.2.1)).trans HY3.out.2.2.1)))
            have HZ2 := Lib.hid (show (w3.setCell ⟨yb, 2, none⟩ (.int .i64 (zs + 1))).cell? ⟨bb, boff, none⟩ = some (.int .i64 0) from (World.cell?_of_block (a := ⟨bb, boff, none⟩) (heap_ne _ yb _ bb _ HNB.out.1)).trans HY3.out.2.2.2)
            clear hy2
            generalize w3.setCell ⟨yb, 2, none⟩ (.int .i64 (zs + 1)) = W2 at HY2 HZ2 ⊢
            have hzp := (World.cell?_of_block (a := ⟨bb, boff, none⟩) (put4_heap W2 g (off + k * 4) bb (.int .i64 zi) (.int .i64 zj) (.int .i64 (zs + 1)) (.slice (some ⟨bb, boff, none⟩) (zg.length + 1) cz) HNB.out.2)).trans HZ2.out
            have HZP := Lib.hid hzp
            clear hzp
            clear y0 y1 y2 y3 z0 z1 z2 z3
            obtain ⟨y0, y1, y2, y3⟩ := row_y HY2.out.1
            have HL := Lib.hid (HLO.out (put4 W2 g (off + k * 4) (.int .i64 zi) (.int .i64 zj) (.int .i64 (zs + 1)) (.slice (some ⟨bb, boff, none⟩) (zg.length + 1) cz)) (put4_bel HY2.out.2.1 HW.out.2.2.2.2.2.1 _ _ _ _ _) g off cap' (⟨zi, zj, zs + 1, zg⟩, .slice (some ⟨bb, boff, none⟩) (zg.length + 1) cz) ⟨_, _, _, rfl⟩ (liesf_put (liesf_blk HW.out.2.1 HY2.out.2.2) HZ.out.1 (⟨zi, zj, zs + 1, zg⟩, .slice (some ⟨bb, boff, none⟩) (zg.length + 1) cz)) (fun W' hW' => HC4.out W' ((put4_bel HY2.out.2.1 HW.out.2.2.2.2.2.1 _ _ _ _ _).trans (hW'.mono (put4_bel HY2.out.2.1 HW.out.2.2.2.2.2.1 _ _ _ _ _).size)) bb boff cz ((hW'.cell (p := ⟨bb, boff, none⟩) (World.block_lt_of_cell? _ _ HZP.out)).trans HZP.out)))
            have HBP := Lib.hid (put4_bel (v0 := (.int .i64 zi)) (v1 := (.int .i64 zj)) (v2 := (.int .i64 (zs + 1))) (v3 := .slice (some ⟨bb, boff, none⟩) (zg.length + 1) cz) (o := off + k * 4) HY2.out.2.1 HW.out.2.2.2.2.2.1)
            have hfg := fun j => (World.frozen?_of_block (a := ⟨g, j, none⟩) HY2.out.2.2).trans (HW.out.2.2.1 j)
            have f0 := hfg (off + k * 4)
            have f1 := hfg (off + k * 4 + 1)
            have f2 := hfg (off + k * 4 + 2)
            have f3 := hfg (off + k * 4 + 3)
            obtain ⟨⟨e0, e1⟩, e2, e3⟩ := liesf_one (liesf_blk HW.out.2.1 HY2.out.2.2) HZ.out.1
            clear hfg
            unfold put4 at HL HBP
            go_wp2_with fail
            refine HL.out.mono ?_
            rintro e w5 ⟨rfl, hb5⟩
            have HB5 := Lib.hid (bstep HBP.out hb5)
            clear hb5 HL HBP y0 y1 y2 y3 f0 f1 f2 f3 e0 e1 e2 e3
            go_wp2_with fail
            refine (HNU.out w5 HB5.out).mono ?_
            rintro e w6 ⟨rfl, hb6⟩
            have HB6 := Lib.hid (bstep HB5.out hb6)
            clear hb6
            go_wp2
            go_roundw
            case rel => exact ⟨4 + 1, by omega, rfl, HB6⟩
            case measure => simp [intOf]
          · have hap5 := append_one (w := W) (B := wr.heap.size) (us := nw) HW.out.2.2.2.2.2.2.2 (by have h1 := HO.out.2.1; have h2 := HW.out.2.2.2.1; have h3 := HW.out.2.2.2.2.1; omega) (⟨zi, zj, zs, zg⟩, .slice ah zg.length ch) ⟨_, _, _, rfl⟩ (by have := HFW.out; omega)
            obtain ⟨ao5, cap5, w2, hap, how, hgr⟩ := hap5
            obtain ⟨ao9, cap9, e9, hl9, _, _⟩ := own_liesf how
            obtain ⟨rfl, rfl⟩ : ao9 = ao5 ∧ cap9 = cap5 := by
              injection e9 with h1 h2 h3
              exact ⟨h1.symm, h3.symm⟩
            have hb2 : Below x3.heap.size x3 w2 := HW.out.1.trans ⟨hgr.os, hgr.tape, hgr.output, hgr.size, fun j hj => hgr.block j (Nat.lt_of_lt_of_le hj HW.out.1.size) (by intro e; have e2 : g = j := (Option.some.inj e).symm; have := HW.out.2.2.2.2.2.1; omega)⟩
            obtain ⟨H1, h1, _⟩ := (HM.out w2 hb2).call2
            have hlm := load_more h1 HI4.out.ok HNE4.out.1 HE.out (HLG.out w2 hb2) ao9 cap9 k HZ.out.1 HFW.out (by rw [← HZ.out.2.1]; exact hl9)
            rw [HNL.out] at hlm hap
            have HL := Lib.hid hlm
            have HB2 := Lib.hid hb2
            clear hlm h1 hb2 hl9 e9 how hgr
            go_upto_region 33 with (refine Lib.wpList_append_run _ rfl (.tmp 94) (.tmp 96) 40 40 rfl (.slice (some ⟨g, off, none⟩) (t2.length + 1) cap') (.slice (some ⟨W.heap.size, 0, none⟩) 1 1) (by rfl) (by rfl) _ _ hap ?_)
            go_wp2_with fail
            refine HL.out.mono ?_
            rintro e w5 ⟨rfl, hb5⟩
            have HB5 := Lib.hid (bstep HB2.out hb5)
            clear hb5 HL hap y0 y1 y2 y3 z0 z1 z2 z3
            go_wp2_with fail
            refine (HNU.out w5 HB5.out).mono ?_
            rintro e w6 ⟨rfl, hb6⟩
            have HB6 := Lib.hid (bstep HB5.out hb6)
            clear hb6
            go_wp2
            go_roundw
            case rel => exact ⟨5 + 1, by omega, rfl, HB6⟩
            case measure => simp [intOf]
        · obtain rfl : q = 6 := by omega
          have HS9 := Lib.hid (HM.out wr HB.out)
          obtain ⟨H1, h1, h3⟩ := HS9.out.call2
          have hsm := HI4.out.ok.small.1
          have hlu := HNL.out
          have HC := Lib.hid (show Calls Tryz.prog 13 #[.pointer (some ⟨G', 0, none⟩), .slice ao (t2.length + 1) cp] wr fun e w' => e = .returned .nilIface ∧ Goz (Mc B P 40000 r l G' M' ⟨s4.L, K0, s4.U, 0⟩) wr H1 w' from by
            have := load_f h1 (HAT.out _ _ _ HS9.out).2 rfl ao cp nw (HLF.out wr HB.out) (fun y hy => ⟨HLG.out wr HB.out y hy, hsm _ (List.mem_reverse.1 (HE.out ▸ List.mem_map_of_mem hy)), (HNW.out.2.2.1 y hy).2⟩) (ldb_of HI4.out.ok HNE4.out.1 HE.out)
            rw [hlu, HE.out, List.reverse_reverse] at this
            exact this)
          have HN := Lib.hid h3
          clear h1 h3 hsm hlu HCB HC4 HLO HNU HLF HLG HLZ HM HLA hq hlt
          go_wp2_with fail
          refine HC.out.mono ?_
          rintro e x4 ⟨rfl, hg⟩
          have HS10 := Lib.hid (HN.out _ _ hg)
          clear hg HC HN HS9
          obtain ⟨H1, h1, _⟩ := HS10.out.call2
          have HF := Lib.hid (frames_f h1 HI4.out.ok.small.1 HI4.out.ok.small.2)
          clear h1
          rw [show (⟨s4.L, K0, s4.U, 0⟩ : MS).U = f2 :: t2 from HNE4.out.2.1] at HF
          go_wp2_with fail
          refine HF.out.mono ?_
          rintro e x5 ⟨ao6, cp6, nw6, rfl, _, _, _, _, _, hb⟩
          have HBE := Lib.hid (HAT.out _ _ _ (HS10.out.below (m2_fpt _ _ _ _ _ _ _ _ _ _ _) hb)).1.below
          clear hb HF HS10
          go_wp2_with (go_at_call 5; refine (sure_any _).mono ?_; rintro e v99 ⟨rfl, hb⟩; have HB2 := Lib.hid (HBE.out.trans (hb.mono HBE.out.size)); clear hb)
          go_ret
          exact ⟨rfl, HB2.out⟩
end Go.Proofs.YtlejohclijjhnaaGreatDoor.Fm

/-
  THE DOCUMENT's find, where a frame gives way. Conditions: the pool lies in memory.
-/
import Derived.Test.YtfhnnfheonkneaaDoorRe1
namespace Go.Proofs.YtfhnnfheonkneaaDoor
open Go.RowKit Go.Maps

theorem Box.to {w0 w : World} {g : Nat} {ρ : Rp} {T : TypeId} {cs : Array Value} (h : Box w0 w g ρ T cs) (X : Px) : Box w0 w g (ρ.to X) T cs := ⟨h.h, h.lo, h.off⟩
theorem rwith_g {w0 : World} (ρ0 ρ : Rp) (k : Nat) (f : Fr) (w : World) (h : RpGo w0 ρ0 w ρ) (hk : k < ρ.X.m) :
    Calls Tryd.prog 41 #[.agg ρ.cs, .int .i64 (k : Int), .agg (gcs f)] w fun e w' => ∃ ρ', e = .returned (.agg ρ'.cs) ∧ ρ'.X = ρ.X.put k f ∧ RpGo w ρ w' ρ' ∧ RpGo w0 ρ0 w' ρ' :=
  (rwith_any ρ k f w h.ok hk).mono fun _ _ ⟨ρ', he, hX, hg⟩ => ⟨ρ', he, hX, hg, h.trans hg⟩
theorem rdwrite_g {w0 : World} (ρ0 ρ : Rp) (i : Nat) (x : Int) (t : ByteArray) (w : World) (h : RpGo w0 ρ0 w ρ) (hx : x = i) (hi : i < ρ.X.d.n) (ht : t.size = 512) (hl : ρ.X.d.left ≠ 0) (k0 : 0 ≤ ρ.X.d.writes) (k1 : ρ.X.d.writes < 4611686018427387904) :
    Calls Tryd.prog 46 #[.agg #[.slice (some ⟨ρ.r.nb, 0, none⟩) ρ.r.n ρ.r.nc, .slice (some ⟨ρ.r.sb, 0, none⟩) ρ.r.n ρ.r.sc, .slice ρ.r.pa ρ.r.pend.length ρ.r.pc, .int .i64 ρ.r.writes, .int .i64 ρ.r.left], .int .i64 x, .string t] w fun e w' => ∃ r', e = .returned (.tuple #[.agg #[.slice (some ⟨r'.nb, 0, none⟩) r'.n r'.nc, .slice (some ⟨r'.sb, 0, none⟩) r'.n r'.sc, .slice r'.pa r'.pend.length r'.pc, .int .i64 r'.writes, .int .i64 r'.left], .int .i64 0]) ∧ RpGo w ρ w' (ρ.disk r' (ρ.X.d.wrote i t)) ∧ RpGo w0 ρ0 w' (ρ.disk r' (ρ.X.d.wrote i t)) := by
  subst hx
  exact (rdwrite_ok ρ i t w h.ok hi ht hl k0 k1).mono fun _ _ ⟨r', he, hg⟩ => ⟨r', he, hg, h.trans hg⟩
theorem rdfull_g {w0 : World} (ρ0 ρ : Rp) (i : Nat) (x : Int) (t : ByteArray) (w : World) (h : RpGo w0 ρ0 w ρ) (hx : x = i) (hi : i < ρ.X.d.n) (ht : t.size = 512) (hl : ρ.X.d.left = 0) :
    Calls Tryd.prog 46 #[.agg #[.slice (some ⟨ρ.r.nb, 0, none⟩) ρ.r.n ρ.r.nc, .slice (some ⟨ρ.r.sb, 0, none⟩) ρ.r.n ρ.r.sc, .slice ρ.r.pa ρ.r.pend.length ρ.r.pc, .int .i64 ρ.r.writes, .int .i64 ρ.r.left], .int .i64 x, .string t] w fun e w' => e = .returned (.tuple #[.agg #[.slice (some ⟨ρ.r.nb, 0, none⟩) ρ.r.n ρ.r.nc, .slice (some ⟨ρ.r.sb, 0, none⟩) ρ.r.n ρ.r.sc, .slice ρ.r.pa ρ.r.pend.length ρ.r.pc, .int .i64 ρ.r.writes, .int .i64 ρ.r.left], .int .i64 5]) ∧ RpGo w0 ρ0 w' ρ ∧ Below w.heap.size w w' := by
  subst hx
  exact (rdwrite_full ρ i t w h.ok hi ht hl).mono fun _ _ ⟨he, hb⟩ => ⟨he, h.b hb, hb⟩
theorem turn_cs (ρ : Rp) {m : Nat} (hm : ρ.X.m = m) : ρ.cs.setIfInBounds 6 (.int .i64 (((ρ.X.hand : Int) + 1) % (m : Int))) = (ρ.to ρ.X.turn).cs := by
  have e2 : ((ρ.X.hand : Int) + 1) % (m : Int) = (((ρ.X.hand + 1) % m : Nat) : Int) := by simp
  rw [e2, ← hm]
  rfl
set_option maxRecDepth 100000 in
set_option maxHeartbeats 4000000 in
theorem rfind_give (ρ : Rp) (i : Int) (w : World) {N : Nat} (h : ρ.Ok w) (o : ρ.X.Ok N) (ha : ρ.X.at i = none) (hc : ¬ ρ.X.c < ρ.X.m) (hi : 0 ≤ i ∧ i < ρ.X.d.n) (hN : N < 2305843009213693952) :
    Calls Tryd.prog 40 #[.agg ρ.cs, .int .i64 i] w (RpAt3 w ρ (findP ρ.X i)) := by
  have HP0 := Lib.hid (plF_none o hi.1 ha)
  have HE := Lib.hid (enter2 h)
  obtain ⟨kv, hkv⟩ : ∃ kv, plF ρ.X (-1) = kv := ⟨_, rfl⟩
  have HK := Lib.hid hkv
  have HM := Lib.hid h.m1
  have HO := Lib.hid o
  have HA := Lib.hid ha
  have HI := Lib.hid hi
  have HN := Lib.hid hN
  have HC := Lib.hid hc
  obtain rfl : kv = -1 := hkv.symm.trans (plF_full o hc)
  clear h o ha hi hkv hN hc
  go_enter Tryd.func40, Tryd.ntmps40
  go_upto_region 1 with (fail)
  change Code.wp _ _ _ _ ((w.alloc (.cells ρ.cs 38)).alloc (.cells zcs 38))
  generalize (w.alloc (.cells ρ.cs 38)).alloc (.cells zcs 38) = w1 at HE ⊢
  have HP := Lib.hid HE.out.p
  have HZ := Lib.hid HE.out.z
  have HG := Lib.hid HE.out.go
  clear HE
  go_upto_region 2 with (first | (refine ld_pool rfl _ rfl HP.out rfl ?_) | (go_at_call 45; refine (rplace_at ρ i (-1) _ HG.out.ok HP0.out HG.out).mono ?_; rintro e w2 ⟨rfl, hg2, hb2⟩; have HG2 := Lib.hid hg2; have HP2 := Lib.hid (HP.out.below hb2); have HZ2 := Lib.hid (HZ.out.below hb2); clear hg2 hb2))
  go_upto_region 6 with (first | (refine ld_pool rfl _ rfl HP2.out rfl ?_) | (go_at_call 45; refine (rplace_at ρ (-1) (-1) _ HG2.out.ok HK.out HG2.out).mono ?_; rintro e w3 ⟨rfl, hg3, hb3⟩; have HG3 := Lib.hid hg3; have HP3 := Lib.hid (HP2.out.below hb3); have HZ3 := Lib.hid (HZ2.out.below hb3); clear hg3 hb3))
  clear HP HZ HG HP2 HZ2 HG2 HP0
  have c5 := HP3.out.c5
  have HR := Lib.hid HG3.out.ok.row
  go_wp2
  go_loop [8, 9] (fun b x => ∃ k : Nat, k ≤ ρ.X.m ∧ x = .int .i64 k ∧ b = .bool (freeN ρ.X k)) (fun _ x => ρ.X.m - (intOf x).toNat)
  case atStart => exact ⟨0, by omega, rfl, rfl⟩
  case round =>
    obtain ⟨k, hk, rfl, rfl⟩ := hrel
    by_cases hlt : k < ρ.X.m
    · have g4 := HR.out.at4 hlt
      have hlt' : (k : Int) < (ρ.X.m : Int) := by omega
      have j0 : (0 : Int) ≤ (k : Int) := by omega
      have hm1 : ρ.X.m ≤ 1024 := HM.out.2
      have HX := Lib.hid (freeN_next ρ.X k)
      cases hf : freeN ρ.X k
      · rw [hf] at HX
        have e : (((ρ.X.fr k).h : Int) == 0) = ((ρ.X.fr k).h == 0) := by
          by_cases q : (ρ.X.fr k).h = 0
          · simp [q]
          · have q2 : ¬ ((ρ.X.fr k).h : Int) = 0 := by omega
            rw [beq_eq_false_iff_ne.2 q2, beq_eq_false_iff_ne.2 q]
        have HX2 := Lib.hid (show (((ρ.X.fr k).h : Int) == 0) = freeN ρ.X (k + 1) by rw [e, HX.out]; rfl)
        clear hf e HX
        generalize ((ρ.X.fr k).h : Int) = y at g4 HX2
        go_wp2
        go_round
        case rel => exact ⟨k + 1, by omega, by go_num, by rw [← HX2.out]⟩
        case measure => simp [intOf]; omega
      · rw [hf] at HX
        clear hf
        go_wp2
        go_round
        case rel => exact ⟨k + 1, by omega, by go_num, by rw [HX.out]; rfl⟩
        case measure => simp [intOf]; omega
    · obtain rfl : k = ρ.X.m := by omega
      rw [freeN_held]
      cases hh : ρ.X.held
      · have HH := Lib.hid hh
        clear hh
        go_wp2
        go_loopw [7, 10] (fun v x wr => ∃ (n : Nat) (ρ' : Rp), x = .int .i64 (n : Int) ∧ Hid (Seek w wr ρ i N v n ρ')) (fun _ x _ => 3 * ρ.X.m - (intOf x).toNat)
        case atStart =>
          obtain ⟨t, ht⟩ := Pass.start HO.out HH.out
          exact ⟨0, ρ, rfl, Lib.hid ⟨HP3.out, HZ3.out, HG3.out, rfl, .inl ⟨rfl, by omega, t, ht⟩⟩⟩
        case round =>
          obtain ⟨n, ρ', rfl, S⟩ := hrel
          rcases S.out.run with ⟨rfl, hn, t, hp⟩ | ⟨k, rfl, hk, hf⟩
          · have hn0 := hp.n0
            have i1 : (n : Int) < 3 * (ρ.X.m : Int) := by omega
            have i2 : (0 : Int) ≤ 3 * (ρ.X.m : Int) := by omega
            have i3 : 3 * (ρ.X.m : Int) ≤ 3072 := by have := HM.out.2; omega
            have hhd : ρ'.X.hand < ρ.X.m := by rw [← S.out.m]; exact hp.ok.hm
            have j0 : (0 : Int) ≤ (ρ'.X.hand : Int) := by omega
            have j1 : (ρ'.X.hand : Int) < (ρ.X.m : Int) := by omega
            have j2 : (ρ.X.m : Int) ≤ 1024 := by have := HM.out.2; omega
            have c5 := S.out.p.c5
            have c6 := S.out.p.c6
            have e1 := rem_next ρ'.X.hand ρ.X.m
            have e2 : ((ρ'.X.hand : Int) + 1) % (ρ.X.m : Int) = (((ρ'.X.hand + 1) % ρ.X.m : Nat) : Int) := by simp
            have HE2 := Lib.hid e2
            have hr := S.out.go.ok.row
            have hrm := S.out.m
            rw [hrm] at c5
            have g0 := hr.at0 (by rw [hrm]; exact hhd)
            have g1 := hr.at1 (by rw [hrm]; exact hhd)
            have g2 := hr.at2 (by rw [hrm]; exact hhd)
            have g3 := hr.at3 (by rw [hrm]; exact hhd)
            have g4 := hr.at4 (by rw [hrm]; exact hhd)
            have HPS := Lib.hid hp
            have HS := Lib.hid S.out
            have HRM := Lib.hid hrm
            have HHD := Lib.hid hhd
            have HN0 := Lib.hid hn0
            clear hp S hr hrm e2 hn hhd hn0
            go_upto_region 18 with (first | (refine st_newf (w1 := wr) (ρ := ρ') (f := ρ'.X.fr ρ'.X.hand) rfl _ _ rfl rfl rfl HS.out.go.below HS.out.go.ok rfl rfl ?_; intro w2 F hF hb2 hbox; have HB2 := Lib.hid hb2; have HF2 := Lib.hid hbox; have HP2 := Lib.hid (HS.out.p.below hb2); have HZ2 := Lib.hid (HS.out.z.below hb2); have HG2 := Lib.hid (HS.out.go.b hb2); have d5 := HP2.out.c5; rw [HRM.out] at d5; have d6 := HP2.out.c6; have df := HP2.out.fz 6; clear hb2 hbox))
            subst hF
            have FP : wr.heap.size ≠ w.heap.size := by have := HS.out.z.lt; omega
            have FZ : w.heap.size + 1 ≠ wr.heap.size := by have := HS.out.z.lt; omega
            have FL : w.heap.size ≤ wr.heap.size := HS.out.go.below.size
            change Code.wp _ _ _ _ (w2.setCell ⟨w.heap.size, 6, none⟩ (.int .i64 (((ρ'.X.hand : Int) + 1) % (ρ.X.m : Int))))
            have hO3 := Ony.cell w2 w.heap.size 6 (.int .i64 (((ρ'.X.hand : Int) + 1) % (ρ.X.m : Int)))
            have HP3 := Lib.hid ((HP2.out.set 6 (.int .i64 (((ρ'.X.hand : Int) + 1) % (ρ.X.m : Int))) (turn_cs ρ' HRM.out)).to ρ'.X.turn)
            have HG3 := Lib.hid ((HG2.out.ony hO3 (Nat.le_refl _) HP2.out.off).to (X := ρ'.X.turn) rfl rfl rfl)
            have HF3 := Lib.hid ((HF2.out.ony hO3 FP).to ρ'.X.turn)
            have HZ3 := Lib.hid ((HZ2.out.ony hO3 (by omega)).to ρ'.X.turn)
            clear hO3 HP2 HG2 HF2 HZ2 HB2 d5 d6 df c5 c6 g0 g1 g2 g3 g4 e1
            generalize w2.setCell ⟨w.heap.size, 6, none⟩ (.int .i64 (((ρ'.X.hand : Int) + 1) % (ρ.X.m : Int))) = w3 at HP3 HG3 HF3 HZ3 ⊢
            have g0 := HF3.out.g0
            have g1 := HF3.out.g1
            have g2 := HF3.out.g2
            have g3 := HF3.out.g3
            have g4 := HF3.out.g4
            have hN3 : 3 * ρ.X.m - n = (3 * ρ.X.m - (n + 1)) + 1 := by have := HN0.out; omega
            have hpass := HPS.out
            rw [hN3] at hpass
            have HPS := Lib.hid hpass
            have hn1 : n + 1 ≤ 3 * ρ.X.m := by have := HN0.out; omega
            clear hpass hN3
            by_cases hh : 0 < (ρ'.X.fr ρ'.X.hand).h
            · have hhi : (0 : Int) < ((ρ'.X.fr ρ'.X.hand).h : Int) := by omega
              have HHH := Lib.hid hh
              clear hh
              go_wp2
              go_roundw
              case rel => exact ⟨n + 1, ρ'.to ρ'.X.turn, by go_num, Lib.hid ⟨HP3.out, HZ3.out, HG3.out, HRM.out, .inl ⟨rfl, hn1, t, HPS.out.held HHH.out⟩⟩⟩
              case measure => simp [intOf]; omega
            · have hhi : ¬ (0 : Int) < ((ρ'.X.fr ρ'.X.hand).h : Int) := by omega
              have HHH := Lib.hid (show (ρ'.X.fr ρ'.X.hand).h = 0 by omega)
              clear hh
              cases hu : (ρ'.X.fr ρ'.X.hand).u
              · rw [hu] at g3
                have HU := Lib.hid hu
                have HT := Lib.hid (find_end (i := i) HA.out HC.out HH.out (HPS.out.goal.done HHH.out hu))
                clear hu
                cases hd : (ρ'.X.fr ρ'.X.hand).d
                · rw [hd] at g2
                  have HT1 := Lib.hid (HT.out.1 hd)
                  clear hd HT
                  go_wp2
                  go_roundw
                  case rel => exact ⟨n + 1, ρ'.to ρ'.X.turn, by go_num, Lib.hid ⟨HP3.out, HZ3.out, HG3.out, HRM.out, .inr ⟨ρ'.X.hand, rfl, HHD.out, HT1.out⟩⟩⟩
                  case measure => simp [intOf]; omega
                · rw [hd] at g2
                  have hsec := HPS.out.ok.sec ρ'.X.hand (by rw [HPS.out.c]; have := HO.out.cm; have := HC.out; have := HHD.out; omega)
                  have hsz : (ρ'.X.fr ρ'.X.hand).t.size = 512 := by
                    rcases HPS.out.ok.siz ρ'.X.hand with q | q
                    · exact q
                    · rw [q.2] at hd; cases hd
                  have HX0 := Lib.hid (show (ρ'.X.fr ρ'.X.hand).i = ((ρ'.X.fr ρ'.X.hand).i.toNat : Nat) by omega)
                  have HX1 := Lib.hid (show (ρ'.X.fr ρ'.X.hand).i.toNat < (ρ'.to ρ'.X.turn).X.d.n by show _ < ρ'.X.d.n; omega)
                  have HSZ := Lib.hid hsz
                  have HW := Lib.hid (show 0 ≤ (ρ'.to ρ'.X.turn).X.d.writes ∧ (ρ'.to ρ'.X.turn).X.d.writes < 4611686018427387904 by have h1 := HPS.out.ok.w0; have h2 := HPS.out.ok.wN; have h3 := HN.out; constructor; exact h1; show ρ'.X.d.writes < _; omega)
                  have c0 := HP3.out.c0
                  have c1 := HP3.out.c1
                  have c2 := HP3.out.c2
                  have c3 := HP3.out.c3
                  have c4 := HP3.out.c4
                  clear hsec hsz
                  by_cases hl : ρ'.X.d.left = 0
                  · have HT1 := Lib.hid (HT.out.2.1 hd hl)
                    have HL := Lib.hid (show (ρ'.to ρ'.X.turn).X.d.left = 0 from hl)
                    clear hd HT hl
                    go_wp2_with (first | (go_at_call 46; refine (rdfull_g ρ (ρ'.to ρ'.X.turn) _ _ _ _ HG3.out HX0.out HX1.out HSZ.out HL.out).mono ?_; rintro e w4 ⟨rfl, hg4, hb4⟩; have HG4 := Lib.hid hg4; have HP4 := Lib.hid (HP3.out.below hb4); have HZ4 := Lib.hid (HZ3.out.below hb4); clear hg4 hb4) | (refine st_newd (w1 := w4) (ρ := ρ'.to ρ'.X.turn) (r := ρ'.r) rfl _ _ rfl rfl rfl HG4.out.below HG4.out.ok rfl rfl ?_; intro w5 G hG hb5 hbox; have HG5 := Lib.hid (HG4.out.b hb5); have HP5 := Lib.hid (HP4.out.below hb5); have HZ5 := Lib.hid (HZ4.out.below hb5); clear hb5 hbox hG) | (refine ld_pool rfl _ rfl HP5.out rfl ?_) | (refine st_pool rfl _ _ rfl HZ5.out rfl rfl rfl ?_; intro w6 ho6 hz6; have HO6 := Lib.hid ho6; have HZ6 := Lib.hid hz6; clear ho6 hz6))
                    refine post_pool3 rfl HZ6.out rfl rfl rfl rfl ?_
                    rw [HT1.out]
                    exact ⟨_, rfl, rfl, HG5.out.ony HO6.out (by omega) HZ6.out.off⟩
                  · have HT1 := Lib.hid (HT.out.2.2 hd hl)
                    have HL := Lib.hid (show (ρ'.to ρ'.X.turn).X.d.left ≠ 0 from hl)
                    clear hd HT hl
                    go_wp2_with (first | (go_at_call 46; refine (rdwrite_g ρ (ρ'.to ρ'.X.turn) _ _ _ _ HG3.out HX0.out HX1.out HSZ.out HL.out HW.out.1 HW.out.2).mono ?_; rintro e w4 ⟨r', rfl, hg4, hG4⟩; have HG4 := Lib.hid hG4; have HP4 := Lib.hid (HP3.out.go hg4); have HZ4 := Lib.hid (HZ3.out.go hg4); clear hg4 hG4) | (refine st_newd (w1 := w4) (ρ := (ρ'.to ρ'.X.turn).disk r' ((ρ'.to ρ'.X.turn).X.d.wrote (ρ'.X.fr ρ'.X.hand).i.toNat (ρ'.X.fr ρ'.X.hand).t)) (r := r') rfl _ _ rfl rfl rfl HG4.out.below HG4.out.ok rfl rfl ?_; intro w5 G hG hb5 hbox; have HG5 := Lib.hid (HG4.out.b hb5); have HP5 := Lib.hid (HP4.out.below hb5); have HZ5 := Lib.hid (HZ4.out.below hb5); have HD5 := Lib.hid hbox; clear hb5 hbox) | (refine ld_disk rfl _ rfl HD5.out (by rw [hG]; rfl) ?_) | (refine st_disk (r := r') rfl _ _ rfl ((ρ'.to ρ'.X.turn).X.d.wrote (ρ'.X.fr ρ'.X.hand).i.toNat (ρ'.X.fr ρ'.X.hand).t) HP5.out rfl rfl ?_; intro w6 ho6 hz6; have HO6 := Lib.hid ho6; have HP6 := Lib.hid hz6; clear ho6 hz6))
                    go_roundw
                    case rel => exact ⟨n + 1, (ρ'.to ρ'.X.turn).disk r' ((ρ'.to ρ'.X.turn).X.d.wrote (ρ'.X.fr ρ'.X.hand).i.toNat (ρ'.X.fr ρ'.X.hand).t), by go_num, Lib.hid ⟨HP6.out, HZ5.out.ony HO6.out (by omega), HG5.out.ony HO6.out (Nat.le_refl _) HP6.out.off, HRM.out, .inr ⟨ρ'.X.hand, rfl, HHD.out, HT1.out⟩⟩⟩
                    case measure => simp [intOf]; omega
              · rw [hu] at g3
                have HU := Lib.hid hu
                clear hu
                have f3 := HF3.out.fz 3
                have HP4 := Lib.hid (HP3.out.ony (Ony.cell w3 wr.heap.size 3 (.bool false)) (fun e => FP e.symm))
                have HF4 := Lib.hid (HF3.out.set (cs' := gcs { ρ'.X.fr ρ'.X.hand with u := false }) 3 (.bool false) rfl)
                have HZ4 := Lib.hid (HZ3.out.ony (Ony.cell w3 wr.heap.size 3 (.bool false)) FZ)
                have HG4 := Lib.hid (HG3.out.ony (Ony.cell w3 wr.heap.size 3 (.bool false)) FL HF3.out.off)
                have HK4 := Lib.hid (show ρ'.X.hand < (ρ'.to ρ'.X.turn).X.m by show _ < ρ'.X.m; rw [HRM.out]; exact HHD.out)
                go_wp2_with (first | (refine ld_pool rfl _ rfl HP4.out rfl ?_) | (refine ld_frame rfl _ rfl HF4.out rfl ?_) | (go_at_call 41; refine (rwith_g ρ (ρ'.to ρ'.X.turn) ρ'.X.hand { ρ'.X.fr ρ'.X.hand with u := false } _ HG4.out HK4.out).mono ?_; rintro e w5 ⟨ρ2, rfl, hX, hg5, hG5⟩; have HX := Lib.hid hX; have HG5 := Lib.hid hG5; have HP5 := Lib.hid (HP4.out.go hg5); have HZ5 := Lib.hid (HZ4.out.go hg5); clear hX hg5 hG5) | (refine st_pool rfl _ _ rfl HP5.out rfl rfl rfl ?_; intro w6 ho6 hz6; have HO6 := Lib.hid ho6; have HP6 := Lib.hid hz6; clear ho6 hz6))
                go_roundw
                case rel =>
                  have e := HX.out
                  refine ⟨n + 1, ρ2, by go_num, Lib.hid ⟨HP6.out, HZ5.out.ony HO6.out (by omega), HG5.out.ony HO6.out (Nat.le_refl _) HP6.out.off, by rw [e]; exact HRM.out, .inl ⟨rfl, hn1, t, ?_⟩⟩⟩
                  rw [e]
                  exact HPS.out.used (by have := HO.out.cm; have := HC.out; omega) HHH.out HU.out
                case measure => simp [intOf]; omega
          · have k0 : ¬ (k : Int) < 0 := by omega
            have HF := Lib.hid hf
            have HK2 := Lib.hid (show k < ρ'.X.m by rw [S.out.m]; exact hk)
            have HP4 := Lib.hid S.out.p
            have HZ4 := Lib.hid S.out.z
            have HG4 := Lib.hid S.out.go
            clear hf hk S
            go_wp2_with (first | (refine ld_pool rfl _ rfl HP4.out rfl ?_) | (go_at_call 41; refine (rwith_at ρ ρ' k (Fr.new i) _ HG4.out HK2.out i ⟨#[]⟩ false false 0 rfl rfl).mono ?_; rintro e w4 ⟨ρ2, rfl, hX, hg4, hG4⟩; have HX := Lib.hid hX; have HG5 := Lib.hid hG4; have HZ5 := Lib.hid (HZ4.out.go hg4); clear hX hg4 hG4) | (refine st_pool rfl _ _ rfl HZ5.out rfl rfl rfl ?_; intro w5 ho5 hz5; have HO5 := Lib.hid ho5; have HZ6 := Lib.hid hz5; clear ho5 hz5))
            refine post_pool3 rfl HZ6.out rfl rfl rfl rfl ?_
            rw [HF.out]
            exact ⟨ρ2, rfl, HX.out, HG5.out.ony HO5.out (by omega) HZ6.out.off⟩
      · have HF := Lib.hid (find_pins' HA.out HC.out hh)
        clear hh
        go_wp2_with (first | (refine ld_pool rfl _ rfl HP3.out rfl ?_) | (refine st_pool rfl _ _ rfl HZ3.out rfl rfl rfl ?_; intro w5 ho5 hz5; have HO5 := Lib.hid ho5; have HZ6 := Lib.hid hz5; clear ho5 hz5))
        refine post_pool3 rfl HZ6.out rfl rfl rfl rfl ?_
        rw [HF.out]
        exact ⟨ρ, rfl, rfl, HG3.out.ony HO5.out (by omega) HZ6.out.off⟩
end Go.Proofs.YtfhnnfheonkneaaDoor

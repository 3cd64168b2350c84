/-
  THE DOCUMENT's Flush. Conditions: the pool lies in memory.
-/
import Derived.Test.YtfhnnfheonkneaaDoorRi
namespace Go.Proofs.YtfhnnfheonkneaaDoor
open Go.RowKit Go.Maps

theorem rdflush_g {w0 : World} (ρ0 ρ : Rp) (w : World) (h : RpGo w0 ρ0 w ρ) :
    Calls Tryd.prog 47 #[.agg #[.slice (some ⟨ρ.r.nb, 0, none⟩) ρ.r.n ρ.r.nc, .slice (some ⟨ρ.r.sb, 0, none⟩) ρ.r.n ρ.r.sc, .slice ρ.r.pa ρ.r.pend.length ρ.r.pc, .int .i64 ρ.r.writes, .int .i64 ρ.r.left]] w fun e w' => e = .returned (.agg #[.slice (some ⟨ρ.r.nb, 0, none⟩) ρ.r.n ρ.r.nc, .slice (some ⟨ρ.r.nb, 0, none⟩) ρ.r.n ρ.r.nc, .slice none 0 0, .int .i64 ρ.r.writes, .int .i64 ρ.r.left]) ∧ RpGo w ρ w' (ρ.disk ρ.r.sure ρ.X.d.flush) ∧ RpGo w0 ρ0 w' (ρ.disk ρ.r.sure ρ.X.d.flush) :=
  (refflush_ex ρ.r w).mono fun _ _ ⟨he, hb⟩ => ⟨he, rdflush_go h.ok hb, h.trans (rdflush_go h.ok hb)⟩
structure FlS (w wr : World) (ρ : Rp) (R : Px × Int) (N k : Nat) (ρ' : Rp) : Prop where
  p : Box w wr w.heap.size ρ' 38 ρ'.cs
  z : Box w wr (w.heap.size + 1) ρ' 38 zcs
  go : RpGo w ρ wr ρ'
  m : ρ'.X.m = ρ.X.m
  ok : ρ'.X.Ok (N + k)
  run : flushN (ρ.X.m - k) k ρ'.X = R
set_option maxRecDepth 100000 in
set_option maxHeartbeats 3000000 in
theorem rflush_any (ρ : Rp) (w : World) {N : Nat} (h : ρ.Ok w) (o : ρ.X.Ok N) (hN : N + 1025 < 2305843009213693952) :
    Calls Tryd.prog 24 #[.agg ρ.cs] w (RpAt2 w ρ (flushP ρ.X)) := by
  have HE := Lib.hid (enter2 h)
  have HNN := Lib.hid hN
  have HO := Lib.hid o
  have k3 := h.fits
  have HM := Lib.hid h.m1
  obtain ⟨R, hR⟩ : ∃ R, flushN ρ.X.m 0 ρ.X = R := ⟨_, rfl⟩
  have HR := Lib.hid hR
  have HF := Lib.hid (show flushP ρ.X = if R.2 = 0 then (R.1.disk R.1.d.flush, 0) else R by unfold flushP; rw [hR])
  clear h o hN hR
  go_enter Tryd.func24, Tryd.ntmps24
  go_upto_region 1 with (fail)
  change Code.wp _ _ _ _ ((w.alloc (.cells ρ.cs 38)).alloc (.cells zcs 38))
  generalize (w.alloc (.cells ρ.cs 38)).alloc (.cells zcs 38) = w1 at HE ⊢
  have HI0 := Lib.hid (show FlS w w1 ρ R N 0 ρ from ⟨HE.out.p, HE.out.z, HE.out.go, rfl, HO.out, HR.out⟩)
  clear HE
  go_wp2
  go_loopw [4] (fun x wr => ∃ (k : Nat) (ρ' : Rp), k ≤ ρ.X.m ∧ x = .int .i64 (k : Int) ∧ Hid (FlS w wr ρ R N k ρ')) (fun x _ => ρ.X.m - (intOf x).toNat)
  case atStart => exact ⟨0, ρ, by omega, rfl, HI0⟩
  case round =>
    obtain ⟨k, ρ', hk, rfl, S⟩ := hrel
    have c5 := S.out.p.c5
    rw [S.out.m] at c5
    by_cases hlt : k < ρ.X.m
    · have k0 : (0 : Int) ≤ (k : Int) := by omega
      have k1 : (k : Int) < (ρ.X.m : Int) := by omega
      have hkm : k < ρ'.X.m := by rw [S.out.m]; exact hlt
      have HKM := Lib.hid hkm
      have hr := S.out.go.ok.row
      have g0 := hr.at0 hkm
      have g1 := hr.at1 hkm
      have g2 := hr.at2 hkm
      have g3 := hr.at3 hkm
      have g4 := hr.at4 hkm
      have hrun := S.out.run
      rw [show ρ.X.m - k = (ρ.X.m - (k + 1)) + 1 by omega] at hrun
      have HRUN := Lib.hid hrun
      clear hr hrun hkm
      go_upto_region 5 with (first | (refine st_newf (w1 := wr) (ρ := ρ') (f := ρ'.X.fr k) rfl _ _ rfl rfl rfl S.out.go.below S.out.go.ok rfl rfl ?_; intro w2 F hF hb2 hbox; have HF2 := Lib.hid hbox; have HP2 := Lib.hid (S.out.p.below hb2); have HZ2 := Lib.hid (S.out.z.below hb2); have HG2 := Lib.hid (S.out.go.b hb2); clear hb2 hbox))
      subst hF
      have FP : wr.heap.size ≠ w.heap.size := by have := S.out.z.lt; omega
      have FZ : w.heap.size + 1 ≠ wr.heap.size := by have := S.out.z.lt; omega
      have FL : w.heap.size ≤ wr.heap.size := S.out.go.below.size
      clear g0 g1 g2 g3 g4 c5
      have g0 := HF2.out.g0
      have g1 := HF2.out.g1
      have g2 := HF2.out.g2
      cases hd : (ρ'.X.fr k).d
      · rw [hd] at g2
        have HC := Lib.hid (cleanP_no hd)
        clear hd
        go_wp2
        go_roundw
        case rel => exact ⟨k + 1, ρ', by omega, by go_num, Lib.hid ⟨HP2.out, HZ2.out, HG2.out, S.out.m, S.out.ok.mono (by omega), by have h := HRUN.out; rw [flushN_go (by rw [HC.out]), HC.out] at h; exact h⟩⟩
        case measure => simp [intOf]; omega
      · rw [hd] at g2
        have hkc : k < ρ'.X.c := by
          rcases Nat.lt_or_ge k ρ'.X.c with q | q
          · exact q
          · rw [S.out.ok.emp k q] at hd; cases hd
        have hsec := S.out.ok.sec k hkc
        have hsz : (ρ'.X.fr k).t.size = 512 := by
          rcases S.out.ok.siz k with q | q
          · exact q
          · rw [q.2] at hd; cases hd
        have HX0 := Lib.hid (show (ρ'.X.fr k).i = ((ρ'.X.fr k).i.toNat : Nat) by omega)
        have HX1 := Lib.hid (show (ρ'.X.fr k).i.toNat < ρ'.X.d.n by omega)
        have HSZ := Lib.hid hsz
        have HW := Lib.hid (show 0 ≤ ρ'.X.d.writes ∧ ρ'.X.d.writes < 4611686018427387904 by have h1 := S.out.ok.w0; have h2 := S.out.ok.wN; have h3 := HNN.out; have h4 := HM.out.2; constructor; exact h1; omega)
        have c0 := HP2.out.c0
        have c1 := HP2.out.c1
        have c2 := HP2.out.c2
        have c3 := HP2.out.c3
        have c4 := HP2.out.c4
        clear hsec hsz hkc
        by_cases hl : ρ'.X.d.left = 0
        · have HC := Lib.hid (cleanP_full hd hl)
          have HL := Lib.hid hl
          clear hd hl
          go_wp2_with (first | (go_at_call 46; refine (rdfull_g ρ ρ' _ _ _ _ HG2.out HX0.out HX1.out HSZ.out HL.out).mono ?_; rintro e w4 ⟨rfl, hg4, hb4⟩; have HG4 := Lib.hid hg4; have HP4 := Lib.hid (HP2.out.below hb4); have HZ4 := Lib.hid (HZ2.out.below hb4); clear hg4 hb4) | (refine st_newd (w1 := w4) (ρ := ρ') (r := ρ'.r) rfl _ _ rfl rfl rfl HG4.out.below HG4.out.ok rfl rfl ?_; intro w5 G hG hb5 hbox; have HG5 := Lib.hid (HG4.out.b hb5); have HP5 := Lib.hid (HP4.out.below hb5); have HZ5 := Lib.hid (HZ4.out.below hb5); clear hb5 hbox hG) | (refine ld_pool rfl _ rfl HP5.out rfl ?_) | (refine st_pool rfl _ _ rfl HZ5.out rfl rfl rfl ?_; intro w6 ho6 hz6; have HO6 := Lib.hid ho6; have HZ6 := Lib.hid hz6; clear ho6 hz6))
          refine post_pool2 rfl HZ6.out rfl rfl rfl ?_
          have hR : R = (ρ'.X, 5) := by have h := HRUN.out; rw [flushN_stop (by rw [HC.out]; exact (show (5 : Int) ≠ 0 by decide)), HC.out] at h; exact h.symm
          rw [HF.out, hR, if_neg (show ¬ (5 : Int) = 0 by decide)]
          exact ⟨_, rfl, rfl, HG5.out.ony HO6.out (by omega) HZ6.out.off⟩
        · have HC := Lib.hid (cleanP_ok hd hl)
          have HL := Lib.hid hl
          clear hd hl
          go_upto_region 10 with (first | (go_at_call 46; refine (rdwrite_g ρ ρ' _ _ _ _ HG2.out HX0.out HX1.out HSZ.out HL.out HW.out.1 HW.out.2).mono ?_; rintro e w4 ⟨r', rfl, hg4, hG4⟩; have HG4 := Lib.hid hG4; have HP4 := Lib.hid (HP2.out.go hg4); have HZ4 := Lib.hid (HZ2.out.go hg4); have HF4 := Lib.hid (HF2.out.go hg4); clear hg4 hG4) | (refine st_newd (w1 := w4) (ρ := ρ'.disk r' (ρ'.X.d.wrote (ρ'.X.fr k).i.toNat (ρ'.X.fr k).t)) (r := r') rfl _ _ rfl rfl rfl HG4.out.below HG4.out.ok rfl rfl ?_; intro w5 G hG hb5 hbox; have HG5 := Lib.hid (HG4.out.b hb5); have HP5 := Lib.hid (HP4.out.below hb5); have HZ5 := Lib.hid (HZ4.out.below hb5); have HF5 := Lib.hid (HF4.out.below hb5); have HD5 := Lib.hid hbox; clear hb5 hbox) | (refine ld_disk rfl _ rfl HD5.out (by rw [hG]; rfl) ?_) | (refine st_disk (r := r') rfl _ _ rfl (ρ'.X.d.wrote (ρ'.X.fr k).i.toNat (ρ'.X.fr k).t) HP5.out rfl rfl ?_; intro w6 ho6 hz6; have HP6 := Lib.hid hz6; have HZ6 := Lib.hid (HZ5.out.ony ho6 (by omega)); have HF6 := Lib.hid (HF5.out.ony ho6 FP); have HG6 := Lib.hid (HG5.out.ony ho6 (Nat.le_refl _) HP5.out.off); clear ho6 hz6))
          clear c0 c1 c2 c3 c4 g0 g1 g2
          have g2 := HF6.out.g2
          have f2 := HF6.out.fz 2
          have HP7 := Lib.hid (HP6.out.ony (Ony.cell w6 wr.heap.size 2 (.bool false)) (fun e => FP e.symm))
          have HF7 := Lib.hid (HF6.out.set (cs' := gcs { ρ'.X.fr k with d := false }) 2 (.bool false) rfl)
          have HZ7 := Lib.hid (HZ6.out.ony (Ony.cell w6 wr.heap.size 2 (.bool false)) FZ)
          have HG7 := Lib.hid (HG6.out.ony (Ony.cell w6 wr.heap.size 2 (.bool false)) FL HF6.out.off)
          go_wp2_with (first | (refine ld_pool rfl _ rfl HP7.out rfl ?_) | (refine ld_frame rfl _ rfl HF7.out rfl ?_) | (go_at_call 41; refine (rwith_g ρ (ρ'.disk r' (ρ'.X.d.wrote (ρ'.X.fr k).i.toNat (ρ'.X.fr k).t)) k { ρ'.X.fr k with d := false } _ HG7.out HKM.out).mono ?_; rintro e w8 ⟨ρ2, rfl, hX, hg8, hG8⟩; have HX := Lib.hid hX; have HG8 := Lib.hid hG8; have HP8 := Lib.hid (HP7.out.go hg8); have HZ8 := Lib.hid (HZ7.out.go hg8); clear hX hg8 hG8) | (refine st_pool rfl _ _ rfl HP8.out rfl rfl rfl ?_; intro w9 ho9 hz9; have HO9 := Lib.hid ho9; have HP9 := Lib.hid hz9; clear ho9 hz9))
          go_roundw
          case rel =>
            have e : ρ2.X = (cleanP ρ'.X k).1 := by rw [HX.out, HC.out]; rfl
            refine ⟨k + 1, ρ2, by omega, by go_num, Lib.hid ⟨HP9.out, HZ8.out.ony HO9.out (by omega), HG8.out.ony HO9.out (Nat.le_refl _) HP9.out.off, by rw [HX.out]; exact S.out.m, by rw [e]; exact clean_ok S.out.ok k, ?_⟩⟩
            rw [e]
            have h := HRUN.out
            rw [flushN_go (by rw [HC.out])] at h
            exact h
          case measure => simp [intOf]; omega
    · obtain rfl : k = ρ.X.m := by omega
      have hR : (ρ'.X, (0 : Int)) = R := by have h := S.out.run; rw [Nat.sub_self] at h; exact h
      have HRR := Lib.hid hR
      have c0 := S.out.p.c0
      have c1 := S.out.p.c1
      have c2 := S.out.p.c2
      have c3 := S.out.p.c3
      have c4 := S.out.p.c4
      clear hR
      go_wp2_with (first | (go_at_call 47; refine (rdflush_g ρ ρ' _ S.out.go).mono ?_; rintro e w4 ⟨rfl, hg4, hG4⟩; have HG4 := Lib.hid hG4; have HP4 := Lib.hid (S.out.p.go hg4); have HZ4 := Lib.hid (S.out.z.go hg4); clear hg4 hG4) | (refine st_disk (r := ρ'.r.sure) rfl _ _ rfl ρ'.X.d.flush HP4.out rfl rfl ?_; intro w6 ho6 hz6; have HP6 := Lib.hid hz6; have HZ6 := Lib.hid (HZ4.out.ony ho6 (by omega)); have HG6 := Lib.hid (HG4.out.ony ho6 (Nat.le_refl _) HP4.out.off); clear ho6 hz6) | (refine ld_pool rfl _ rfl HP6.out rfl ?_) | (refine st_pool rfl _ _ rfl HZ6.out rfl rfl rfl ?_; intro w7 ho7 hz7; have HO7 := Lib.hid ho7; have HZ7 := Lib.hid hz7; clear ho7 hz7))
      refine post_pool2 rfl HZ7.out rfl rfl rfl ?_
      rw [HF.out, ← HRR.out, if_pos rfl]
      exact ⟨_, rfl, rfl, HG6.out.ony HO7.out (by omega) HZ7.out.off⟩
end Go.Proofs.YtfhnnfheonkneaaDoor

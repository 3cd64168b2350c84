/-
  THE DOCUMENT's load, where no frame holds the sector. Conditions: the pool lies in memory.
-/
import Derived.Test.YtfhnnfheonkneaaDoorRg
namespace Go.Proofs.YtfhnnfheonkneaaDoor
open Go.RowKit Go.Maps

theorem rgood_g {w0 : World} (ρ0 ρ : Rp) (t : ByteArray) (b : Bool) (w : World) (h : RpGo w0 ρ0 w ρ) (ht : t.size = 512) (hb : goodT t = b) :
    Calls Tryd.prog 39 #[.string t] w fun e w' => e = .returned (.bool b) ∧ RpGo w0 ρ0 w' ρ ∧ Below w.heap.size w w' := by
  subst hb
  exact (rgood_any t w ht).mono fun _ _ ⟨he, hb⟩ => ⟨he, h.b hb, hb⟩
theorem st_newg {ops : Array Oper} {rest : List Oper} {o : Oper} {a : Act} {w : World} {Q : Exit → Act → World → Prop} (hgd : o.guard = none) (x y : Operand) (ho : o.op = .store 38 x y) {w0 w1 : World} {ρ0 ρ : Rp} {old : Array Value} (hw : w = w1.alloc (.cells old 38)) (h8 : old.size = 8) (hg : RpGo w0 ρ0 w1 ρ) (hx : a.eval x = .pointer (some ⟨w1.heap.size, 0, none⟩)) (hy : a.eval y = .agg ρ.cs)
    (h : ∀ w', Below w1.heap.size w1 w' → Box w0 w' w1.heap.size ρ 38 ρ.cs → wpList Tryd.prog ops Q rest (a.put o.dst undef) w') : wpList Tryd.prog ops Q (o :: rest) a w :=
  st_new hgd x y ho hw h8 hg.below hg.ok hx hy fun w' g hg2 hb hbox => by subst hg2; exact h w' hb hbox
theorem rfind_r {w0 : World} (ρ0 ρ : Rp) (i : Int) (w : World) {N : Nat} {Y : Px} {k : Nat} {c : Int} (hR : findP ρ.X i = (Y, k, c)) (h : RpGo w0 ρ0 w ρ) (o : ρ.X.Ok N) (hi : 0 ≤ i ∧ i < ρ.X.d.n) (hN : N < 2305843009213693952) :
    Calls Tryd.prog 40 #[.agg ρ.cs, .int .i64 i] w fun e w' => ∃ ρ', e = .returned (.tuple #[.agg ρ'.cs, .int .i64 (k : Int), .int .i64 c]) ∧ ρ'.X = Y ∧ RpGo w ρ w' ρ' ∧ RpGo w0 ρ0 w' ρ' := by
  have h2 := rfind_g ρ0 ρ i w h o hi hN
  rw [hR] at h2
  exact h2
set_option maxRecDepth 100000 in
set_option maxHeartbeats 3000000 in
theorem rload_none (ρ : Rp) (i : Nat) (w : World) {N : Nat} (h : ρ.Ok w) (o : ρ.X.Ok N) (hi : i < ρ.X.d.n) (ha : ρ.X.at (i : Int) = none) (hN : N + 1 < 2305843009213693952) :
    Calls Tryd.prog 43 #[.agg ρ.cs, .int .i64 (i : Int)] w (RpAt3 w ρ (handP ρ.X (i : Int))) := by
  have HE := Lib.hid (enter2 h)
  have HF0 := Lib.hid (handP_none (X := ρ.X) (i := (i : Int)) (by omega) ha)
  have HN := Lib.hid h.t.n
  have HP0 := Lib.hid (plF_none o (by omega : (0 : Int) ≤ (i : Int)) ha)
  have HM := Lib.hid h.m1
  have HO := Lib.hid o.load
  have HA := Lib.hid (show ρ.X.load.at (i : Int) = none from ha)
  have HNN := Lib.hid hN
  have i0 : ¬ (i : Int) < 0 := by omega
  have i1 : ¬ (ρ.X.d.n : Int) ≤ (i : Int) := by omega
  have i2 : (i : Int) < (ρ.X.d.n : Int) := by omega
  have i3 : (0 : Int) ≤ (i : Int) := by omega
  have n4 : (ρ.X.d.n : Int) ≤ 16384 := by have := o.n1; omega
  have HI := Lib.hid hi
  have l0 := o.l0
  have l1 : ρ.X.loads ≤ 2305843009213693952 := by have := o.lN; omega
  clear h o ha hi hN
  go_enter Tryd.func43, Tryd.ntmps43
  go_upto_region 1 with (fail)
  change Code.wp _ _ _ _ ((w.alloc (.cells ρ.cs 38)).alloc (.cells zcs 38))
  generalize (w.alloc (.cells ρ.cs 38)).alloc (.cells zcs 38) = w1 at HE ⊢
  have HP := Lib.hid HE.out.p
  have HZ := Lib.hid HE.out.z
  have HG := Lib.hid HE.out.go
  have c0 := HP.out.c0
  rw [HN.out] at c0
  clear HE
  go_upto_region 6 with (first | (refine ld_pool rfl _ rfl HP.out rfl ?_) | (go_at_call 45; refine (rplace_at ρ i (-1) _ HG.out.ok HP0.out HG.out).mono ?_; rintro e w2 ⟨rfl, hg2, hb2⟩; have HG2 := Lib.hid hg2; have HP2 := Lib.hid (HP.out.below hb2); have HZ2 := Lib.hid (HZ.out.below hb2); have c7 := HP2.out.c7; have f7 := HP2.out.fz 7; clear hg2 hb2))
  change Code.wp _ _ _ _ (w2.setCell ⟨w.heap.size, 7, none⟩ (.int .i64 (ρ.X.loads + 1)))
  have hO3 := Ony.cell w2 w.heap.size 7 (.int .i64 (ρ.X.loads + 1))
  have HP3 := Lib.hid ((HP2.out.set (cs' := (ρ.to ρ.X.load).cs) 7 (.int .i64 (ρ.X.loads + 1)) rfl).to ρ.X.load)
  have HG3 := Lib.hid ((HG2.out.ony hO3 (Nat.le_refl _) HP2.out.off).to (X := ρ.X.load) rfl rfl rfl)
  have HZ3 := Lib.hid ((HZ2.out.ony hO3 (by omega)).to ρ.X.load)
  clear hO3 HP2 HG2 HZ2 c7 f7 c0 HP HZ HG l0 l1
  generalize w2.setCell ⟨w.heap.size, 7, none⟩ (.int .i64 (ρ.X.loads + 1)) = w3 at HP3 HG3 HZ3 ⊢
  have c0 := HP3.out.c0
  have hn3 : (ρ.to ρ.X.load).r.n = ρ.X.d.n := HN.out
  rw [hn3] at c0
  have ht := HG3.out.ok.text (i := i) HI.out
  have HSZ := Lib.hid ht.2
  have t0 := ht.1
  clear ht hn3
  cases hg : goodT (ρ.X.d.cur i)
  · have HGD := Lib.hid (show goodT ((ρ.to ρ.X.load).X.d.cur i) = false from hg)
    have HF := Lib.hid (HF0.out.trans (fetchP_bad hg))
    clear hg
    go_wp2_with (first | (go_at_call 39; refine (rgood_g ρ (ρ.to ρ.X.load) _ false _ HG3.out HSZ.out HGD.out).mono ?_; rintro e w4 ⟨rfl, hg4, hb4⟩; have HG4 := Lib.hid hg4; have HP4 := Lib.hid (HP3.out.below hb4); have HZ4 := Lib.hid (HZ3.out.below hb4); clear hg4 hb4) | (refine ld_pool rfl _ rfl HP4.out rfl ?_) | (refine st_pool rfl _ _ rfl HZ4.out rfl rfl rfl ?_; intro w5 ho5 hz5; have HO5 := Lib.hid ho5; have HZ6 := Lib.hid hz5; clear ho5 hz5))
    refine post_pool3 rfl HZ6.out rfl rfl rfl rfl ?_
    rw [HF.out]
    exact ⟨_, rfl, rfl, HG4.out.ony HO5.out (by omega) HZ6.out.off⟩
  · have HGD := Lib.hid (show goodT ((ρ.to ρ.X.load).X.d.cur i) = true from hg)
    have hF1 := HF0.out.trans (fetchP_good hg)
    obtain ⟨Y, k, c, hR⟩ : ∃ Y k c, findP ρ.X.load (i : Int) = (Y, k, c) := ⟨_, _, _, rfl⟩
    rw [hR] at hF1
    have HF := Lib.hid hF1
    have HR := Lib.hid hR
    clear hg hF1 hR
    go_upto_region 10 with (first | (go_at_call 39; refine (rgood_g ρ (ρ.to ρ.X.load) _ true _ HG3.out HSZ.out HGD.out).mono ?_; rintro e w4 ⟨rfl, hg4, hb4⟩; have HG4 := Lib.hid hg4; have HP4 := Lib.hid (HP3.out.below hb4); have HZ4 := Lib.hid (HZ3.out.below hb4); clear hg4 hb4) | (refine ld_pool rfl _ rfl HP4.out rfl ?_) | (go_at_call 40; refine (rfind_r ρ (ρ.to ρ.X.load) (i : Int) _ HR.out HG4.out HO.out (by constructor; omega; have := HI.out; show (i : Int) < (ρ.X.d.n : Int); omega) HNN.out).mono ?_; rintro e w5 ⟨ρ1, rfl, hX, hg5, hG5⟩; have HX1 := Lib.hid hX; have HG5 := Lib.hid hG5; have HP5 := Lib.hid (HP4.out.go hg5); have HZ5 := Lib.hid (HZ4.out.go hg5); clear hX hg5 hG5) | (refine st_newg rfl _ _ rfl rfl rfl HG5.out rfl rfl ?_; intro w6 hb6 hbox; have HQ6 := Lib.hid hbox; have HG6 := Lib.hid (HG5.out.b hb6); have HP6 := Lib.hid (HP5.out.below hb6); have HZ6 := Lib.hid (HZ5.out.below hb6); have HB6 := Lib.hid hb6; clear hbox hb6))
    by_cases hc : c = 0
    · subst hc
      have hF := find_found HO.out HA.out (by rw [HR.out])
      rw [HR.out] at hF
      have HKM := Lib.hid (show k < ρ1.X.m by rw [HX1.out]; have h1 := hF.lt; have h2 := hF.cm; have h3 := hF.m; change k < Y.c at h1; change Y.c ≤ ρ.X.m at h2; change Y.m = ρ.X.m at h3; omega)
      have HFK := Lib.hid (show Y.fr k = Fr.new (i : Int) from hF.fk)
      have HYM := Lib.hid (show Y.m = ρ.X.m from hF.m)
      clear hF
      go_upto_region 13 with (first | (refine ld_pool rfl _ rfl HQ6.out rfl ?_) | (go_at_call 41; refine (rwith_at ρ ρ1 k ⟨(i : Int), ρ.X.d.cur i, false, false, 0⟩ _ HG6.out HKM.out (i : Int) (ρ.X.d.cur i) false false 0 rfl rfl).mono ?_; rintro e w7 ⟨ρ2, rfl, hX, hg7, hG7⟩; have HX2 := Lib.hid hX; have HG7 := Lib.hid hG7; have HP7 := Lib.hid (HP6.out.go hg7); have HZ7 := Lib.hid (HZ6.out.go hg7); clear hX hg7 hG7) | (refine st_pool rfl _ _ rfl HP7.out rfl rfl rfl ?_; intro w8 ho8 hp8; have HP8 := Lib.hid hp8; have HZ8 := Lib.hid (HZ7.out.ony ho8 (by omega)); have HG8 := Lib.hid (HG7.out.ony ho8 (Nat.le_refl _) hp8.off); clear ho8 hp8))
      have hX2 := HX2.out
      have hm2 : ρ2.X.m = ρ.X.m := by rw [hX2]; show ρ1.X.m = _; rw [HX1.out]; exact HYM.out
      have hk2 : k < ρ2.X.m := by rw [hX2]; exact HKM.out
      have hf2 : ρ2.X.fr k = ⟨(i : Int), ρ.X.d.cur i, false, false, 0⟩ := by rw [hX2, put_same]
      have HK2 := Lib.hid hk2
      have HM2 := Lib.hid hm2
      have c5 := HP8.out.c5
      rw [hm2] at c5
      have hr := HG8.out.ok.row
      have g0 := hr.at0 hk2
      have g1 := hr.at1 hk2
      have g2 := hr.at2 hk2
      have g3 := hr.at3 hk2
      have g4 := hr.at4 hk2
      rw [hf2] at g0 g1 g2 g3 g4
      have k0 : (0 : Int) ≤ (k : Int) := by omega
      have k1 : (k : Int) < (ρ.X.m : Int) := by omega
      have k3 : (ρ.X.m : Int) ≤ 1024 := by have := HM.out.2; omega
      clear hr hX2 hm2 hk2 hf2
      go_upto_region 14 with (first | (refine st_newf (w1 := w8) (ρ := ρ2) (f := ⟨(i : Int), ρ.X.d.cur i, false, false, 0⟩) rfl _ _ rfl rfl rfl HG8.out.below HG8.out.ok rfl rfl ?_; intro w9 F hF hb9 hbox; have HF9 := Lib.hid hbox; have HP9 := Lib.hid (HP8.out.below hb9); have HZ9 := Lib.hid (HZ8.out.below hb9); have HG9 := Lib.hid (HG8.out.b hb9); clear hb9 hbox))
      subst hF
      have FP : w8.heap.size ≠ w.heap.size := by have := HZ8.out.lt; omega
      have FZ : w.heap.size + 1 ≠ w8.heap.size := by have := HZ8.out.lt; omega
      have FL : w.heap.size ≤ w8.heap.size := HG8.out.below.size
      clear g0 g1 g2 g3 g4 c5
      have f3 := HF9.out.fz 3
      have g3 := HF9.out.g3
      have HPa := Lib.hid (HP9.out.ony (Ony.cell w9 w8.heap.size 3 (.bool true)) (fun e => FP e.symm))
      have HFa := Lib.hid (HF9.out.set (cs' := gcs ⟨(i : Int), ρ.X.d.cur i, false, true, 0⟩) 3 (.bool true) rfl)
      have HZa := Lib.hid (HZ9.out.ony (Ony.cell w9 w8.heap.size 3 (.bool true)) FZ)
      have HGa := Lib.hid (HG9.out.ony (Ony.cell w9 w8.heap.size 3 (.bool true)) FL HF9.out.off)
      go_wp2_with (first | (refine ld_pool rfl _ rfl HPa.out rfl ?_) | (refine ld_frame rfl _ rfl HFa.out rfl ?_) | (go_at_call 41; refine (rwith_g ρ ρ2 k ⟨(i : Int), ρ.X.d.cur i, false, true, 0⟩ _ HGa.out HK2.out).mono ?_; rintro e wb ⟨ρ3, rfl, hX, hgb, hGb⟩; have HX3 := Lib.hid hX; have HGb := Lib.hid hGb; have HZb := Lib.hid (HZa.out.go hgb); clear hX hgb hGb) | (refine st_pool rfl _ _ rfl HZb.out rfl rfl rfl ?_; intro wc hoc hzc; have HOc := Lib.hid hoc; have HZc := Lib.hid hzc; clear hoc hzc))
      refine post_pool3 rfl HZc.out rfl rfl rfl rfl ?_
      rw [HF.out]
      refine ⟨ρ3, rfl, ?_, HGb.out.ony HOc.out (by omega) HZc.out.off⟩
      rw [HX3.out, HX2.out, put_put, HX1.out]
      show Y.put k _ = Y.put k _
      rw [HFK.out]
      rfl
    · have hc2 : (c == 0) = false := by rw [beq_eq_false_iff_ne]; exact hc
      have HF2 := Lib.hid (HF.out.trans (if_neg hc))
      go_wp2_with (first | (refine ld_pool rfl _ rfl HQ6.out rfl ?_) | (refine st_pool rfl _ _ rfl HZ6.out rfl rfl rfl ?_; intro w7 ho7 hz7; have HO7 := Lib.hid ho7; have HZ7 := Lib.hid hz7; clear ho7 hz7))
      refine post_pool3 rfl HZ7.out rfl rfl rfl rfl ?_
      rw [HF2.out]
      exact ⟨ρ1, rfl, HX1.out, HG6.out.ony HO7.out (by omega) HZ7.out.off⟩
theorem rload_any (ρ : Rp) (i : Int) (w : World) {N : Nat} (h : ρ.Ok w) (o : ρ.X.Ok N) (hN : N + 1 < 2305843009213693952) :
    Calls Tryd.prog 43 #[.agg ρ.cs, .int .i64 i] w (RpAt3 w ρ (handP ρ.X i)) := by
  by_cases hi : i < 0 ∨ (ρ.X.d.n : Int) ≤ i
  · exact rload_no ρ i w h hi
  · cases ha : ρ.X.at i with
    | some k => exact rload_some ρ i k w h o hi ha
    | none =>
      obtain ⟨q, rfl⟩ : ∃ q : Nat, i = q := ⟨i.toNat, by omega⟩
      exact rload_none ρ q w h o (by omega) ha hN
end Go.Proofs.YtfhnnfheonkneaaDoor

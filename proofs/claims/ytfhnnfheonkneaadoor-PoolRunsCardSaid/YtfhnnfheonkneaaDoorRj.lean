/-
  THE DOCUMENT's Unpin. Conditions: the pool lies in memory.
-/
import Derived.Test.YtfhnnfheonkneaaDoorRi
namespace Go.Proofs.YtfhnnfheonkneaaDoor
open Go.RowKit Go.Maps

/-! Unpin -/
theorem upP_no {X : Px} {i : Int} (h : i < 0 ∨ (X.d.n : Int) ≤ i) : unpinP X i = (X, 4) := by unfold unpinP; rw [if_pos h]
theorem upP_none {X : Px} {i : Int} (h : ¬ (i < 0 ∨ (X.d.n : Int) ≤ i)) (ha : X.at i = none) : unpinP X i = (X, 8) := by unfold unpinP; rw [if_neg h, ha]
theorem upP_zero {X : Px} {i : Int} {k : Nat} (h : ¬ (i < 0 ∨ (X.d.n : Int) ≤ i)) (ha : X.at i = some k) (h0 : (X.fr k).h = 0) : unpinP X i = (X, 8) := by unfold unpinP; rw [if_neg h, ha]; simp only; rw [if_pos h0]
theorem upP_ok {X : Px} {i : Int} {k : Nat} (h : ¬ (i < 0 ∨ (X.d.n : Int) ≤ i)) (ha : X.at i = some k) (h0 : (X.fr k).h ≠ 0) : unpinP X i = (X.put k { X.fr k with h := (X.fr k).h - 1 }, 0) := by unfold unpinP; rw [if_neg h, ha]; simp only; rw [if_neg h0]
set_option maxRecDepth 100000 in
set_option maxHeartbeats 1600000 in
theorem runpin_any (ρ : Rp) (i : Int) (w : World) {N : Nat} (h : ρ.Ok w) (o : ρ.X.Ok N) (hN : N + 1 < 2305843009213693952) :
    Calls Tryd.prog 22 #[.agg ρ.cs, .int .i64 i] w (RpAt2 w ρ (unpinP ρ.X i)) := by
  have HE := Lib.hid (enter2 h)
  have HN := Lib.hid h.t.n
  have HNN := Lib.hid hN
  have HO := Lib.hid o
  have k3 := h.fits
  clear h o hN
  go_enter Tryd.func22, Tryd.ntmps22
  go_upto_region 1 with (fail)
  change Code.wp _ _ _ _ ((w.alloc (.cells ρ.cs 38)).alloc (.cells zcs 38))
  generalize (w.alloc (.cells ρ.cs 38)).alloc (.cells zcs 38) = w1 at HE ⊢
  have HP := Lib.hid HE.out.p
  have HZ := Lib.hid HE.out.z
  have HG := Lib.hid HE.out.go
  have c0 := HP.out.c0
  rw [HN.out] at c0
  clear HE
  by_cases h0 : i < 0
  · have HF := Lib.hid (upP_no (X := ρ.X) (.inl h0))
    go_wp2_with (first | (refine ld_pool rfl _ rfl HP.out rfl ?_) | (refine st_pool rfl _ _ rfl HZ.out rfl rfl rfl ?_; intro w5 ho5 hz5; have HO5 := Lib.hid ho5; have HZ6 := Lib.hid hz5; clear ho5 hz5))
    refine post_pool2 rfl HZ6.out rfl rfl rfl ?_
    rw [HF.out]
    exact ⟨ρ, rfl, rfl, HG.out.ony HO5.out (by omega) HZ6.out.off⟩
  by_cases h1 : (ρ.X.d.n : Int) ≤ i
  · have HF := Lib.hid (upP_no (X := ρ.X) (.inr h1))
    go_wp2_with (first | (refine ld_pool rfl _ rfl HP.out rfl ?_) | (refine st_pool rfl _ _ rfl HZ.out rfl rfl rfl ?_; intro w5 ho5 hz5; have HO5 := Lib.hid ho5; have HZ6 := Lib.hid hz5; clear ho5 hz5))
    refine post_pool2 rfl HZ6.out rfl rfl rfl ?_
    rw [HF.out]
    exact ⟨ρ, rfl, rfl, HG.out.ony HO5.out (by omega) HZ6.out.off⟩
  have hi : ¬ (i < 0 ∨ (ρ.X.d.n : Int) ≤ i) := by omega
  cases ha : ρ.X.at i with
  | none =>
    have HF := Lib.hid (upP_none hi ha)
    have HP0 := Lib.hid (plF_none HO.out (by omega : (0 : Int) ≤ i) ha)
    clear ha hi
    go_wp2_with (first | (go_at_call 45; refine (rplace_at ρ i (-1) _ HG.out.ok HP0.out HG.out).mono ?_; rintro e w2 ⟨rfl, hg2, hb2⟩; have HG2 := Lib.hid hg2; have HP2 := Lib.hid (HP.out.below hb2); have HZ2 := Lib.hid (HZ.out.below hb2); clear hg2 hb2) | (refine ld_pool rfl _ rfl HP.out rfl ?_) | (refine ld_pool rfl _ rfl HP2.out rfl ?_) | (refine st_pool rfl _ _ rfl HZ2.out rfl rfl rfl ?_; intro w5 ho5 hz5; have HO5 := Lib.hid ho5; have HZ6 := Lib.hid hz5; clear ho5 hz5))
    refine post_pool2 rfl HZ6.out rfl rfl rfl ?_
    rw [HF.out]
    exact ⟨ρ, rfl, rfl, HG2.out.ony HO5.out (by omega) HZ6.out.off⟩
  | some k =>
    have HP0 := Lib.hid (plF_some HO.out ha)
    have hk1 : k < ρ.X.m := by have := (at_some ha).1; have := HO.out.cm; omega
    have HK1 := Lib.hid hk1
    have k0 : (0 : Int) ≤ (k : Int) := by omega
    have k1 : (k : Int) < (ρ.X.m : Int) := by omega
    have k2 : ¬ (k : Int) < 0 := by omega
    have HA := Lib.hid ha
    have HI := Lib.hid hi
    clear ha hi hk1
    go_upto_region 4 with (first | (go_at_call 45; refine (rplace_at ρ i k _ HG.out.ok HP0.out HG.out).mono ?_; rintro e w2 ⟨rfl, hg2, hb2⟩; have HG2 := Lib.hid hg2; have HP2 := Lib.hid (HP.out.below hb2); have HZ2 := Lib.hid (HZ.out.below hb2); clear hg2 hb2) | (refine ld_pool rfl _ rfl HP.out rfl ?_))
    have c5 := HP2.out.c5
    have hr := HG2.out.ok.row
    have g4 := hr.at4 HK1.out
    by_cases hz : (ρ.X.fr k).h = 0
    · have HF := Lib.hid (upP_zero HI.out HA.out hz)
      rw [hz] at g4
      clear hz hr
      go_wp2_with (first | (refine ld_pool rfl _ rfl HP2.out rfl ?_) | (refine st_pool rfl _ _ rfl HZ2.out rfl rfl rfl ?_; intro w5 ho5 hz5; have HO5 := Lib.hid ho5; have HZ6 := Lib.hid hz5; clear ho5 hz5))
      refine post_pool2 rfl HZ6.out rfl rfl rfl ?_
      rw [HF.out]
      exact ⟨ρ, rfl, rfl, HG2.out.ony HO5.out (by omega) HZ6.out.off⟩
    · have HF := Lib.hid (upP_ok HI.out HA.out hz)
      obtain ⟨x, hx, hx0, hx1⟩ : ∃ x : Int, ((ρ.X.fr k).h : Int) = x ∧ x ≠ 0 ∧ 1 ≤ x ∧ x ≤ 2305843009213693952 := ⟨_, rfl, by omega, by have := HO.out.hN k; have := HNN.out; omega⟩
      have hx2 : (x == 0) = false := by rw [beq_eq_false_iff_ne]; exact hx0
      have HX := Lib.hid (show x - 1 = (((ρ.X.fr k).h - 1 : Nat) : Int) by omega)
      have HXX := Lib.hid hx
      have g0 := hr.at0 HK1.out
      have g1 := hr.at1 HK1.out
      have g2 := hr.at2 HK1.out
      have g3 := hr.at3 HK1.out
      rw [hx] at g4
      clear hr hz hx
      go_upto_region 7 with (first | (refine st_newf (w1 := w2) (ρ := ρ) (f := ρ.X.fr k) rfl _ _ rfl rfl rfl HG2.out.below HG2.out.ok rfl (by rw [← HXX.out]; rfl) ?_; intro w7 F hF hb7 hbox; have HF7 := Lib.hid hbox; have HQ7 := Lib.hid (HP2.out.below hb7); have HZ7 := Lib.hid (HZ2.out.below hb7); have HG7 := Lib.hid (HG2.out.b hb7); clear hb7 hbox))
      subst hF
      have FQ : w.heap.size ≠ w2.heap.size := by have := HP2.out.lt; omega
      have FZ : w.heap.size + 1 ≠ w2.heap.size := by have := HZ2.out.lt; omega
      have FL : w.heap.size ≤ w2.heap.size := HG2.out.below.size
      clear g0 g1 g2 g3 g4 c5
      have f4 := HF7.out.fz 4
      have g4 := HF7.out.g4
      rw [HXX.out] at g4
      have HQ8 := Lib.hid (HQ7.out.ony (Ony.cell w7 w2.heap.size 4 (.int .i64 (x - 1))) FQ)
      have HF8 := Lib.hid (HF7.out.set (cs' := gcs { ρ.X.fr k with h := (ρ.X.fr k).h - 1 }) 4 (.int .i64 (x - 1)) (by rw [HX.out]; rfl))
      have HZ8 := Lib.hid (HZ7.out.ony (Ony.cell w7 w2.heap.size 4 (.int .i64 (x - 1))) FZ)
      have HG8 := Lib.hid (HG7.out.ony (Ony.cell w7 w2.heap.size 4 (.int .i64 (x - 1))) FL HF7.out.off)
      go_wp2_with (first | (refine ld_pool rfl _ rfl HQ8.out rfl ?_) | (refine ld_frame rfl _ rfl HF8.out rfl ?_) | (go_at_call 41; refine (rwith_g ρ ρ k { ρ.X.fr k with h := (ρ.X.fr k).h - 1 } _ HG8.out HK1.out).mono ?_; rintro e w9 ⟨ρ2, rfl, hX, hg9, hG9⟩; have HX9 := Lib.hid hX; have HG9 := Lib.hid hG9; have HZ9 := Lib.hid (HZ8.out.go hg9); clear hX hg9 hG9) | (refine st_pool rfl _ _ rfl HZ9.out rfl rfl rfl ?_; intro wa hoa hza; have HOa := Lib.hid hoa; have HZa := Lib.hid hza; clear hoa hza))
      refine post_pool2 rfl HZa.out rfl rfl rfl ?_
      rw [HF.out]
      exact ⟨ρ2, rfl, HX9.out, HG9.out.ony HOa.out (by omega) HZa.out.off⟩
end Go.Proofs.YtfhnnfheonkneaaDoor

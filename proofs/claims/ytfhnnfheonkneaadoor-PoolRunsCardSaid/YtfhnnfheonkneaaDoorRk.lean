/-
  THE DOCUMENT's Write. Conditions: the pool lies in memory.
-/
import Derived.Test.YtfhnnfheonkneaaDoorRi
namespace Go.Proofs.YtfhnnfheonkneaaDoor
open Go.RowKit Go.Maps

theorem find_fit {N : Nat} {X : Px} (o : X.Ok N) (i : Int) (h : (findP X i).2.2 = 0) : (findP X i).2.1 < (findP X i).1.m ∧ ((findP X i).1.fr (findP X i).2.1).h ≤ N ∧ ((findP X i).1.fr (findP X i).2.1).i = i := by
  cases ha : X.at i with
  | some k =>
    rw [findP_some ha]
    have := (at_some ha).1
    have := o.cm
    exact ⟨by show k < X.m; omega, o.hN k, (at_some ha).2⟩
  | none =>
    have F := find_found o ha h
    have h1 := F.lt
    have h2 := F.cm
    have h3 := F.m
    rw [F.fk]
    exact ⟨by omega, Nat.zero_le _, rfl⟩
theorem post_pw {fn : Func} {R : Ending → World → Prop} {a : Act} {w0 w : World} {p p1 : Tmp} {g : Nat} {ρ0 ρ : Rp} {v1 : Value} (h : fn.results = #[.cell p 38, .tmp p1]) (hb : Box w0 w g ρ0 38 ρ.cs)
    (hp : a.tmps.getD p undef = .pointer (some ⟨g, 0, none⟩)) (h1 : a.tmps.getD p1 undef = v1) (hdf : a.defers = []) (hR : R (.returned (.tuple #[.agg ρ.cs, v1])) w) : bodyPost Tryd.prog fn R .ret a w := post_pool2 h hb hp h1 hdf hR
structure EnterW (w w1 : World) (ρ : Rp) : Prop where
  p : Box w w1 w.heap.size ρ 38 ρ.cs
  z : Box w w1 (w.heap.size + 1) ρ 38 zcs
  go : RpGo w ρ w1 ρ
set_option maxRecDepth 100000 in
set_option maxHeartbeats 1600000 in
theorem rwrite_any (ρ : Rp) (i : Int) (b : ByteArray) (w : World) {N : Nat} (h : ρ.Ok w) (o : ρ.X.Ok N) (hN : N + 1 < 2305843009213693952) :
    Calls Tryd.prog 18 #[.agg ρ.cs, .int .i64 i, .string b] w (RpAt2 w ρ (writeP ρ.X i b)) := by
  have HE := Lib.hid (enter2 h)
  have HN := Lib.hid h.t.n
  have HNN := Lib.hid hN
  have HO := Lib.hid o
  clear h o hN
  go_enter Tryd.func18, Tryd.ntmps18
  go_upto_region 1 with (fail)
  change Code.wp _ _ _ _ ((w.alloc (.cells ρ.cs 38)).alloc (.cells zcs 38))
  generalize (w.alloc (.cells ρ.cs 38)).alloc (.cells zcs 38) = w1 at HE ⊢
  have HP := Lib.hid HE.out.p
  have HZ := Lib.hid HE.out.z
  have HG := Lib.hid HE.out.go
  have c0 := HP.out.c0
  rw [HN.out] at c0
  clear HE
  by_cases h0 : i < 0
  · have HF := Lib.hid (writeP_range (X := ρ.X) (b := b) (.inl h0))
    go_wp2_with (first | (refine ld_pool rfl _ rfl HP.out rfl ?_) | (refine st_pool rfl _ _ rfl HZ.out rfl rfl rfl ?_; intro w5 ho5 hz5; have HO5 := Lib.hid ho5; have HZ6 := Lib.hid hz5; clear ho5 hz5))
    refine post_pool2 rfl HZ6.out rfl rfl rfl ?_
    rw [HF.out]
    exact ⟨ρ, rfl, rfl, HG.out.ony HO5.out (by omega) HZ6.out.off⟩
  by_cases h1 : (ρ.X.d.n : Int) ≤ i
  · have HF := Lib.hid (writeP_range (X := ρ.X) (b := b) (.inr h1))
    go_wp2_with (first | (refine ld_pool rfl _ rfl HP.out rfl ?_) | (refine st_pool rfl _ _ rfl HZ.out rfl rfl rfl ?_; intro w5 ho5 hz5; have HO5 := Lib.hid ho5; have HZ6 := Lib.hid hz5; clear ho5 hz5))
    refine post_pool2 rfl HZ6.out rfl rfl rfl ?_
    rw [HF.out]
    exact ⟨ρ, rfl, rfl, HG.out.ony HO5.out (by omega) HZ6.out.off⟩
  have hi : ¬ (i < 0 ∨ (ρ.X.d.n : Int) ≤ i) := by omega
  by_cases hb : b.size ≠ 512
  · have HF := Lib.hid (writeP_long hi hb)
    have hb2 : ((b.size : Int) == 512) = false := by rw [beq_eq_false_iff_ne]; omega
    have hb3 : ((b.size : Int) != 512) = true := by simp; omega
    clear hb hi
    go_wp2_with (first | (refine ld_pool rfl _ rfl HP.out rfl ?_) | (refine st_pool rfl _ _ rfl HZ.out rfl rfl rfl ?_; intro w5 ho5 hz5; have HO5 := Lib.hid ho5; have HZ6 := Lib.hid hz5; clear ho5 hz5))
    refine post_pool2 rfl HZ6.out rfl rfl rfl ?_
    rw [HF.out]
    exact ⟨ρ, rfl, rfl, HG.out.ony HO5.out (by omega) HZ6.out.off⟩
  have hb : b.size = 512 := by omega
  have HB := Lib.hid hb
  have hb2 : ((b.size : Int) == 512) = true := by rw [hb]; rfl
  have hb3 : ((b.size : Int) != 512) = false := by rw [hb]; rfl
  cases hg : goodT b
  · have HF := Lib.hid (writeP_sum hi hb hg)
    have HGD := Lib.hid hg
    clear hi hg hb
    go_wp2_with (first | (go_at_call 39; refine (rgood_g ρ ρ _ false _ HG.out HB.out HGD.out).mono ?_; rintro e w4 ⟨rfl, hg4, hb4⟩; have HG4 := Lib.hid hg4; have HP4 := Lib.hid (HP.out.below hb4); have HZ4 := Lib.hid (HZ.out.below hb4); clear hg4 hb4) | (refine ld_pool rfl _ rfl HP4.out rfl ?_) | (refine st_pool rfl _ _ rfl HZ4.out rfl rfl rfl ?_; intro w5 ho5 hz5; have HO5 := Lib.hid ho5; have HZ6 := Lib.hid hz5; clear ho5 hz5))
    refine post_pool2 rfl HZ6.out rfl rfl rfl ?_
    rw [HF.out]
    exact ⟨ρ, rfl, rfl, HG4.out.ony HO5.out (by omega) HZ6.out.off⟩
  · have hF1 := writeP_ok hi hb hg
    have HGD := Lib.hid hg
    obtain ⟨Y, k, c, hR⟩ : ∃ Y k c, findP ρ.X i = (Y, k, c) := ⟨_, _, _, rfl⟩
    have HFIT := Lib.hid (show c = 0 → k < Y.m ∧ (Y.fr k).h ≤ N ∧ (Y.fr k).i = i from fun hc => by have := find_fit HO.out i (by rw [hR]; exact hc); rw [hR] at this; exact this)
    rw [hR] at hF1
    have HF := Lib.hid hF1
    have HR := Lib.hid hR
    have HI := Lib.hid (show 0 ≤ i ∧ i < (ρ.X.d.n : Int) by omega)
    clear hi hg hb hF1 hR
    go_upto_region 8 with (first | (go_at_call 39; refine (rgood_g ρ ρ _ true _ HG.out HB.out HGD.out).mono ?_; rintro e w4 ⟨rfl, hg4, hb4⟩; have HG4 := Lib.hid hg4; have HP4 := Lib.hid (HP.out.below hb4); have HZ4 := Lib.hid (HZ.out.below hb4); clear hg4 hb4) | (refine ld_pool rfl _ rfl HP4.out rfl ?_) | (go_at_call 40; refine (rfind_r ρ ρ i _ HR.out HG4.out HO.out HI.out (by have := HNN.out; omega)).mono ?_; rintro e w5 ⟨ρ1, rfl, hX, hg5, hG5⟩; have HX1 := Lib.hid hX; have HG5 := Lib.hid hG5; have HZ5 := Lib.hid (HZ4.out.go hg5); clear hX hg5 hG5) | (refine st_newg rfl _ _ rfl rfl rfl HG5.out rfl rfl ?_; intro w6 hb6 hbox; have HQ6 := Lib.hid hbox; have HG6 := Lib.hid (HG5.out.b hb6); have HZ6 := Lib.hid (HZ5.out.below hb6); clear hbox hb6))
    by_cases hc : c = 0
    · obtain ⟨hk, hh, hfi⟩ := HFIT.out hc
      have HF1 := Lib.hid (HF.out.trans (if_pos hc))
      subst hc
      have hX := HX1.out
      have hk1 : k < ρ1.X.m := by rw [hX]; exact hk
      have HK1 := Lib.hid hk1
      have HFI := Lib.hid hfi
      have q0 := HQ6.out.c0
      have q1 := HQ6.out.c1
      have q2 := HQ6.out.c2
      have q3 := HQ6.out.c3
      have q4 := HQ6.out.c4
      have q5 := HQ6.out.c5
      have q6 := HQ6.out.c6
      have q7 := HQ6.out.c7
      have g4 := HG6.out.ok.row.at4 hk1
      have k0 : (0 : Int) ≤ (k : Int) := by omega
      have k1 : (k : Int) < (ρ1.X.m : Int) := by omega
      have k3 := HG6.out.ok.fits
      clear hk hk1 hX HFIT hh hfi c0
      go_upto_region 10 with (fail)
      go_still_tail 11, (by kernel_rfl)
      change wpList _ _ _ _ _ w6.drew
      have HZ7 := Lib.hid (HZ6.out.below (Below.refl _ _).drew)
      have HG7 := Lib.hid (HG6.out.b (Below.refl _ _).drew)
      clear q0 q1 q2 q3 q4 q5 q6 q7 g4 HG6 HQ6 HZ6
      generalize w6.drew = w7 at HZ7 HG7 ⊢
      go_wp2_with (first | (go_at_call 41; refine (rwith_at ρ ρ1 k ⟨i, b, true, true, (ρ1.X.fr k).h⟩ _ HG7.out HK1.out i b true true _ rfl rfl).mono ?_; rintro e w8 ⟨ρ2, rfl, hX, hg8, hG8⟩; have HX2 := Lib.hid hX; have HG8 := Lib.hid hG8; have HZ8 := Lib.hid (HZ7.out.go hg8); clear hX hg8 hG8) | (refine st_pool rfl _ _ rfl HZ8.out rfl rfl rfl ?_; intro w9 ho9 hz9; have HO9 := Lib.hid ho9; have HZ9 := Lib.hid hz9; clear ho9 hz9))
      refine post_pool2 rfl HZ9.out rfl rfl rfl ?_
      rw [HF1.out]
      refine ⟨ρ2, rfl, ?_, HG8.out.ony HO9.out (by omega) HZ9.out.off⟩
      rw [HX2.out, HX1.out]
      show Y.put k (Fr.mk i b true true (Y.fr k).h) = Y.put k (Fr.mk (Y.fr k).i b true true (Y.fr k).h)
      rw [HFI.out]
    · have hc2 : (c == 0) = false := by rw [beq_eq_false_iff_ne]; exact hc
      have HF2 := Lib.hid (HF.out.trans (if_neg hc))
      clear HFIT
      go_wp2_with (first | (refine ld_pool rfl _ rfl HQ6.out rfl ?_) | (refine st_pool rfl _ _ rfl HZ6.out rfl rfl rfl ?_; intro w7 ho7 hz7; have HO7 := Lib.hid ho7; have HZ7 := Lib.hid hz7; clear ho7 hz7))
      refine post_pool2 rfl HZ7.out rfl rfl rfl ?_
      rw [HF2.out]
      exact ⟨ρ1, rfl, HX1.out, HG6.out.ony HO7.out (by omega) HZ7.out.off⟩
end Go.Proofs.YtfhnnfheonkneaaDoor

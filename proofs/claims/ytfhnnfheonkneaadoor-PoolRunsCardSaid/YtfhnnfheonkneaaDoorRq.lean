/-
  AN ACT, done to both: all is made sure of. Conditions: both lie in memory, and are the same.
-/
import Derived.Test.YtfhnnfheonkneaaDoorRo
namespace Go.Proofs.YtfhnnfheonkneaaDoor
open Go.RowKit Go.Maps

theorem rflush_g {W w : World} {N p D : Nat} {ρ : Rp} {l : List Nat} {H : Nat → Prop} (h : Hid (Bo W w N p D ρ.X ρ l H)) (hN : N + 5000 < 2305843009213693952) :
    Calls Tryd.prog 24 #[.agg ρ.cs] w fun e w' => ∃ ρ', e = .returned (.tuple #[.agg ρ'.cs, .int .i64 (flushP ρ.X).2]) ∧ ρ'.X = (flushP ρ.X).1 ∧ RpGo w ρ w' ρ' :=
  rflush_any ρ w h.out.ok h.out.pl.ok (by omega)
set_option maxRecDepth 100000 in
set_option maxHeartbeats 800000 in
theorem act_flush {W w : World} {N p D : Nat} {H : Nat → Prop} (ρ : Rp) (A : ActV) (hl : Laid W) (h : Bo W w N p D ρ.X ρ [] H) (hN : N + 5000 < 2305843009213693952) (hb : A.b.size ≤ 9223372036854775807) (hk : wrap64 ((IntKind.u64.wrap A.kind).tmod 9) = 7) :
    Calls Tryd.prog 9 #[.pointer (some ⟨D, 0, none⟩), .pointer (some ⟨p, 0, none⟩), .agg ρ.cs, .agg (acs A)] w (ActAt W w (N + 2000) p D H ρ) := by
  have HE := Lib.hid (enterA A h.ok)
  have H0 := Lib.hid h
  clear h
  go_enter Tryd.func9, Tryd.ntmps9
  go_upto_region 1 with (fail)
  change Code.wp _ _ _ _ (((w.alloc (.cells ρ.cs 38)).alloc (.cells (acs A) 42)).alloc (.cells zcs 38))
  generalize ((w.alloc (.cells ρ.cs 38)).alloc (.cells (acs A) 42)).alloc (.cells zcs 38) = w1 at HE ⊢
  have HM := Lib.hid (mid_of H0.out HE.out)
  clear HE
  have a0 := HM.out.a.a0
  have a2 := HM.out.a.a2
  have a3 := HM.out.a.a3
  go_upto_region 2 with (first | (go_at_call 13; refine (marked_any A.b _ hb).mono ?_; rintro e w2 ⟨rfl, hb2⟩; have HM2 := Lib.hid (HM.out.below hb2); clear hb2))
  have a0 := HM2.out.a.a0
  have a2 := HM2.out.a.a2
  have a3 := HM2.out.a.a3
  go_upto_if 28 with (fail)
  go_cut [10] (fun v wx => v = .string (actT A) ∧ wx = w2)
  case first =>
    cases hbad : A.bad
    · rw [hbad] at a3
      go_wp2
      go_meet
      exact ⟨by unfold actT; rw [hbad]; rfl, rfl⟩
    · rw [hbad] at a3
      go_wp2
      go_meet
      exact ⟨by unfold actT; rw [hbad]; rfl, rfl⟩
  case rest =>
    obtain ⟨rfl, rfl⟩ := hcut
    go_upto_region 5 with (fail)
    rw [hk]
    have a1 := HM2.out.a.a1
    go_upto_region 18 with (first | (refine ld_pool rfl _ rfl HM2.out.p rfl ?_) | (go_at_call 24; refine (rflush_g (Lib.hid HM2.out.bo) (by omega)).mono ?_; rintro e w5 ⟨ρ1, rfl, hX, hg5⟩; have HX1 := Lib.hid hX; have HG5 := Lib.hid hg5; have HB5 := Lib.hid (HM2.out.bo.ref hg5); have HZ5 := Lib.hid (HM2.out.z.go hg5); have HA5 := Lib.hid (HM2.out.a.go hg5); clear hX hg5) | (refine st_newg rfl _ _ rfl rfl rfl (RpGo.refl HG5.out.ok) rfl rfl ?_; intro w6 hb6 hbox; have HQ6 := Lib.hid hbox; have HB6 := Lib.hid (HB5.out.more hb6 (by have := hbox.lt; exact this)); have HZ6 := Lib.hid (HZ5.out.below hb6); have HA6 := Lib.hid (HA5.out.below hb6); have HG6 := Lib.hid ((HM2.out.go.trans HG5.out).b hb6); clear hbox hb6))
    have hq := HB6.out.own w5.heap.size (by simp)
    have hA := HB6.out.own (w.heap.size + 1) (by simp)
    have hR := HB6.out.own (w.heap.size + 2) (by simp)
    have HNQ := Lib.hid hq.1
    have HNA := Lib.hid hA.1
    have HNR := Lib.hid hR.1
    have HQR := Lib.hid (show w5.heap.size ≠ w.heap.size + 1 + 1 from fun e => by have := HZ5.out.lt; omega)
    have HAR := Lib.hid (show w.heap.size + 1 ≠ w.heap.size + 1 + 1 by omega)
    have H9 := Lib.hid (nine_of HQ6.out HA6.out.a1)
    obtain ⟨z0, z1, z2, z3, z4, z5, z6, z7⟩ := HZ6.out.z
    have HRL := Lib.hid hR.2.2.1
    have n0 : PlN W N w6.drew p D ρ.X w6 H := HB6.out.pl.first.drew
    clear hq hA hR
    go_region_held (fun w' => w'.cell? ⟨w5.heap.size, 0, none⟩ = some (.slice (some ⟨ρ1.r.nb, 0, none⟩) ρ1.r.n ρ1.r.nc) ∧ w'.cell? ⟨w5.heap.size, 1, none⟩ = some (.slice (some ⟨ρ1.r.sb, 0, none⟩) ρ1.r.n ρ1.r.sc) ∧ w'.cell? ⟨w5.heap.size, 2, none⟩ = some (.slice ρ1.r.pa ρ1.r.pend.length ρ1.r.pc) ∧ w'.cell? ⟨w5.heap.size, 3, none⟩ = some (.int .i64 ρ1.r.writes) ∧ w'.cell? ⟨w5.heap.size, 4, none⟩ = some (.int .i64 ρ1.r.left) ∧ w'.cell? ⟨w5.heap.size, 5, none⟩ = some (.slice (some ⟨ρ1.L, 0, none⟩) ρ1.X.m ρ1.lc) ∧ w'.cell? ⟨w5.heap.size, 6, none⟩ = some (.int .i64 (ρ1.X.hand : Int)) ∧ w'.cell? ⟨w5.heap.size, 7, none⟩ = some (.int .i64 ρ1.X.loads) ∧ w'.cell? ⟨w.heap.size + 1, 1, none⟩ = some (.int .i64 A.i)) (first | with_reducible exact pn9 (by assumption) H9.out HNQ.out HNA.out | with_reducible exact on9 (ony8 _ _ _) (by assumption) HQR.out HAR.out) (first | (go_at_call 25; refine (pl_flush (by assumption) (by omega)).mono ?_; rintro e w7 ⟨rfl, n7⟩) | (go_at_call 19; refine (num_plv (by assumption) hl _).mono ?_; rintro e w8 ⟨rfl, n8⟩; have y0 := PlN.cell n8 z0 HNR.out; have y1 := PlN.cell n8 z1 HNR.out; have y2 := PlN.cell n8 z2 HNR.out; have y3 := PlN.cell n8 z3 HNR.out; have y4 := PlN.cell n8 z4 HNR.out; have y5 := PlN.cell n8 z5 HNR.out; have y6 := PlN.cell n8 z6 HNR.out; have y7 := PlN.cell n8 z7 HNR.out; have f0 := PlN.frozen n8 HRL.out HNR.out (HZ6.out.fz 0); have f1 := PlN.frozen n8 HRL.out HNR.out (HZ6.out.fz 1); have f2 := PlN.frozen n8 HRL.out HNR.out (HZ6.out.fz 2); have f3 := PlN.frozen n8 HRL.out HNR.out (HZ6.out.fz 3); have f4 := PlN.frozen n8 HRL.out HNR.out (HZ6.out.fz 4); have f5 := PlN.frozen n8 HRL.out HNR.out (HZ6.out.fz 5); have f6 := PlN.frozen n8 HRL.out HNR.out (HZ6.out.fz 6); have f7 := PlN.frozen n8 HRL.out HNR.out (HZ6.out.fz 7)))
    have hz8 : Box w w8 (w.heap.size + 1 + 1) ρ1 38 zcs := ⟨(PlN.block n8 HRL.out HNR.out).trans HZ6.out.h, HZ6.out.lo, HZ6.out.off⟩
    have HO9 := Lib.hid (ony8 w8 (w.heap.size + 1 + 1) ρ1)
    have HZ9 := Lib.hid (box8 hz8 ρ1)
    have H8 := Lib.hid n8
    clear y0 y1 y2 y3 y4 y5 y6 y7 f0 f1 f2 f3 f4 f5 f6 f7 z0 z1 z2 z3 z4 z5 z6 z7 n0 n7 n8 hz8
    generalize hw9 : World.setCell _ _ _ = w9
    have e9 : set8 w8 (w.heap.size + 1 + 1) ρ1 = w9 := hw9
    clear hw9
    rw [e9] at HO9 HZ9
    clear e9
    go_wp2
    refine post_pool2 (v1 := .bool true) rfl HZ9.out rfl rfl rfl ?_
    have hn := H8.out
    rw [← HX1.out] at hn
    obtain ⟨_, ⟨H', k1, k2⟩, k3⟩ := act_fin (K := N + 2000) HB6.out HG6.out hn (R := w.heap.size + 1 + 1) (by simp) (by omega) HO9.out (by have := H0.out.pl.ok.m1; omega)
    exact ⟨ρ1, H', rfl, k1, k2, k3, fun hf => by rw [HX1.out]; exact full_flush _ hf⟩
end Go.Proofs.YtfhnnfheonkneaaDoor

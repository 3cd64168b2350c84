/-
  THE DOCUMENT's load. Conditions: the pool lies in memory.
-/
import Derived.Test.YtfhnnfheonkneaaDoorRf
namespace Go.Proofs.YtfhnnfheonkneaaDoor
open Go.RowKit Go.Maps

theorem rfind_any (ρ : Rp) (i : Int) (w : World) {N : Nat} (h : ρ.Ok w) (o : ρ.X.Ok N) (hi : 0 ≤ i ∧ i < ρ.X.d.n) (hN : N < 2305843009213693952) :
    Calls Tryd.prog 40 #[.agg ρ.cs, .int .i64 i] w (RpAt3 w ρ (findP ρ.X i)) := by
  cases ha : ρ.X.at i with
  | some k => exact rfind_some ρ i k w h o ha
  | none =>
    by_cases hc : ρ.X.c < ρ.X.m
    · exact rfind_fresh ρ i w h o ha hc hi hN
    · exact rfind_give ρ i w h o ha hc hi hN
theorem rfind_g {w0 : World} (ρ0 ρ : Rp) (i : Int) (w : World) {N : Nat} (h : RpGo w0 ρ0 w ρ) (o : ρ.X.Ok N) (hi : 0 ≤ i ∧ i < ρ.X.d.n) (hN : N < 2305843009213693952) :
    Calls Tryd.prog 40 #[.agg ρ.cs, .int .i64 i] w fun e w' => ∃ ρ', e = .returned (.tuple #[.agg ρ'.cs, .int .i64 ((findP ρ.X i).2.1 : Int), .int .i64 (findP ρ.X i).2.2]) ∧ ρ'.X = (findP ρ.X i).1 ∧ RpGo w ρ w' ρ' ∧ RpGo w0 ρ0 w' ρ' :=
  (rfind_any ρ i w h.ok o hi hN).mono fun _ _ ⟨ρ', he, hX, hg⟩ => ⟨ρ', he, hX, hg, h.trans hg⟩
/-- a sector's text, as the document's disk has it -/
theorem Rp.Ok.text {w : World} {ρ : Rp} (h : ρ.Ok w) {i : Nat} (hi : i < ρ.X.d.n) : w.cell? ⟨ρ.r.nb, i, none⟩ = some (.string (ρ.X.d.cur i)) ∧ (ρ.X.d.cur i).size = 512 := by
  have hn : i < ρ.r.n := by rw [h.t.n]; exact hi
  obtain ⟨b, off, ha, hc⟩ := h.r.N i (by rw [txs_len]; exact hn)
  obtain ⟨rfl, rfl⟩ : ρ.r.nb = b ∧ 0 = off := by simpa using ha
  rw [txs_get, h.t.cur i hi, Nat.zero_add] at hc
  exact ⟨hc, by rw [← h.t.cur i hi, strOfNums_size, rowOf_len]⟩
set_option maxRecDepth 100000 in
set_option maxHeartbeats 800000 in
theorem rload_no (ρ : Rp) (i : Int) (w : World) (h : ρ.Ok w) (hi : i < 0 ∨ (ρ.X.d.n : Int) ≤ i) :
    Calls Tryd.prog 43 #[.agg ρ.cs, .int .i64 i] w (RpAt3 w ρ (handP ρ.X i)) := by
  have HE := Lib.hid (enter2 h)
  have HF := Lib.hid (handP_no hi)
  have HN := Lib.hid h.t.n
  clear h
  go_enter Tryd.func43, Tryd.ntmps43
  go_upto_region 1 with (fail)
  change Code.wp _ _ _ _ ((w.alloc (.cells ρ.cs 38)).alloc (.cells zcs 38))
  generalize (w.alloc (.cells ρ.cs 38)).alloc (.cells zcs 38) = w1 at HE ⊢
  have HP := Lib.hid HE.out.p
  have HZ := Lib.hid HE.out.z
  have HG := Lib.hid HE.out.go
  have c0 := HP.out.c0
  rw [HN.out] at c0
  clear HE
  by_cases h0 : i < 0
  · clear hi
    go_wp2_with (first | (refine ld_pool rfl _ rfl HP.out rfl ?_) | (refine st_pool rfl _ _ rfl HZ.out rfl rfl rfl ?_; intro w5 ho5 hz5; have HO5 := Lib.hid ho5; have HZ6 := Lib.hid hz5; clear ho5 hz5))
    refine post_pool3 rfl HZ6.out rfl rfl rfl rfl ?_
    rw [HF.out]
    exact ⟨ρ, rfl, rfl, HG.out.ony HO5.out (by omega) HZ6.out.off⟩
  · have h1 : (ρ.X.d.n : Int) ≤ i := by omega
    clear hi
    go_wp2_with (first | (refine ld_pool rfl _ rfl HP.out rfl ?_) | (refine st_pool rfl _ _ rfl HZ.out rfl rfl rfl ?_; intro w5 ho5 hz5; have HO5 := Lib.hid ho5; have HZ6 := Lib.hid hz5; clear ho5 hz5))
    refine post_pool3 rfl HZ6.out rfl rfl rfl rfl ?_
    rw [HF.out]
    exact ⟨ρ, rfl, rfl, HG.out.ony HO5.out (by omega) HZ6.out.off⟩
set_option maxRecDepth 100000 in
set_option maxHeartbeats 1600000 in
theorem rload_some (ρ : Rp) (i : Int) (k : Nat) (w : World) {N : Nat} (h : ρ.Ok w) (o : ρ.X.Ok N) (hi : ¬ (i < 0 ∨ (ρ.X.d.n : Int) ≤ i)) (ha : ρ.X.at i = some k) :
    Calls Tryd.prog 43 #[.agg ρ.cs, .int .i64 i] w (RpAt3 w ρ (handP ρ.X i)) := by
  have HE := Lib.hid (enter2 h)
  have HF := Lib.hid (handP_some hi ha)
  have HN := Lib.hid h.t.n
  have HP0 := Lib.hid (plF_some o ha)
  have HKM := Lib.hid (show k < ρ.X.m by have := (at_some ha).1; have := o.cm; omega)
  have HM := Lib.hid h.m1
  have i0 : ¬ i < 0 := by omega
  have i1 : ¬ (ρ.X.d.n : Int) ≤ i := by omega
  have k0 : (0 : Int) ≤ (k : Int) := by omega
  have k1 : (k : Int) < (ρ.X.m : Int) := by have := HKM.out; omega
  have k2 : ¬ (k : Int) < 0 := by omega
  have k3 : (ρ.X.m : Int) ≤ 1024 := by have := HM.out.2; omega
  clear h o ha hi
  go_enter Tryd.func43, Tryd.ntmps43
  go_upto_region 1 with (fail)
  change Code.wp _ _ _ _ ((w.alloc (.cells ρ.cs 38)).alloc (.cells zcs 38))
  generalize (w.alloc (.cells ρ.cs 38)).alloc (.cells zcs 38) = w1 at HE ⊢
  have HP := Lib.hid HE.out.p
  have HZ := Lib.hid HE.out.z
  have HG := Lib.hid HE.out.go
  have c0 := HP.out.c0
  rw [HN.out] at c0
  clear HE
  go_upto_region 13 with (first | (refine ld_pool rfl _ rfl HP.out rfl ?_) | (go_at_call 45; refine (rplace_at ρ i k _ HG.out.ok HP0.out HG.out).mono ?_; rintro e w2 ⟨rfl, hg2, hb2⟩; have HG2 := Lib.hid hg2; have HP2 := Lib.hid (HP.out.below hb2); have HZ2 := Lib.hid (HZ.out.below hb2); clear hg2 hb2))
  clear c0 HP HZ HG
  have c5 := HP2.out.c5
  have hr := HG2.out.ok.row
  have g0 := hr.at0 HKM.out
  have g1 := hr.at1 HKM.out
  have g2 := hr.at2 HKM.out
  have g3 := hr.at3 HKM.out
  have g4 := hr.at4 HKM.out
  clear hr
  go_upto_region 14 with (first | (refine st_newf (w1 := w2) (ρ := ρ) (f := ρ.X.fr k) rfl _ _ rfl rfl rfl HG2.out.below HG2.out.ok rfl rfl ?_; intro w3 F hF hb3 hbox; have HF3 := Lib.hid hbox; have HP3 := Lib.hid (HP2.out.below hb3); have HZ3 := Lib.hid (HZ2.out.below hb3); have HG3 := Lib.hid (HG2.out.b hb3); clear hb3 hbox))
  subst hF
  have FP : w2.heap.size ≠ w.heap.size := by have := HZ2.out.lt; omega
  have FZ : w.heap.size + 1 ≠ w2.heap.size := by have := HZ2.out.lt; omega
  have FL : w.heap.size ≤ w2.heap.size := HG2.out.below.size
  clear g0 g1 g2 g3 g4 c5
  have f3 := HF3.out.fz 3
  have g3 := HF3.out.g3
  have HP4 := Lib.hid (HP3.out.ony (Ony.cell w3 w2.heap.size 3 (.bool true)) (fun e => FP e.symm))
  have HF4 := Lib.hid (HF3.out.set (cs' := gcs { ρ.X.fr k with u := true }) 3 (.bool true) rfl)
  have HZ4 := Lib.hid (HZ3.out.ony (Ony.cell w3 w2.heap.size 3 (.bool true)) FZ)
  have HG4 := Lib.hid (HG3.out.ony (Ony.cell w3 w2.heap.size 3 (.bool true)) FL HF3.out.off)
  go_wp2_with (first | (refine ld_pool rfl _ rfl HP4.out rfl ?_) | (refine ld_frame rfl _ rfl HF4.out rfl ?_) | (go_at_call 41; refine (rwith_g ρ ρ k { ρ.X.fr k with u := true } _ HG4.out HKM.out).mono ?_; rintro e w5 ⟨ρ2, rfl, hX, hg5, hG5⟩; have HX := Lib.hid hX; have HG5 := Lib.hid hG5; have HZ5 := Lib.hid (HZ4.out.go hg5); clear hX hg5 hG5) | (refine st_pool rfl _ _ rfl HZ5.out rfl rfl rfl ?_; intro w6 ho6 hz6; have HO6 := Lib.hid ho6; have HZ6 := Lib.hid hz6; clear ho6 hz6))
  refine post_pool3 rfl HZ6.out rfl rfl rfl rfl ?_
  rw [HF.out]
  exact ⟨ρ2, rfl, HX.out, HG5.out.ony HO6.out (by omega) HZ6.out.off⟩
end Go.Proofs.YtfhnnfheonkneaaDoor

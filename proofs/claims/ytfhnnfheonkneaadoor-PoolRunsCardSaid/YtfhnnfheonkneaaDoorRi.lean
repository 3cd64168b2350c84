/-
  THE DOCUMENT's Read, Pin and Unpin. Conditions: the pool lies in memory.
  THE DOCUMENT's Pin. Conditions: the pool lies in memory.
-/
import Derived.StillTailTactics
import Derived.Test.YtfhnnfheonkneaaDoorRh
namespace Go.Proofs.YtfhnnfheonkneaaDoor
open Go.RowKit Go.Maps

theorem hand_fit {N : Nat} {X : Px} (o : X.Ok N) (i : Int) (h : (handP X i).2.2 = 0) : (handP X i).2.1 < (handP X i).1.m ∧ ((handP X i).1.fr (handP X i).2.1).h ≤ N := by
  by_cases hi : i < 0 ∨ (X.d.n : Int) ≤ i
  · rw [handP_no hi] at h; exact absurd (show (4 : Int) = 0 from h) (by decide)
  · cases ha : X.at i with
    | some k =>
      rw [handP_some hi ha]
      have := (at_some ha).1
      have := o.cm
      refine ⟨by show k < X.m; omega, ?_⟩
      show ((X.put k _).fr k).h ≤ N
      rw [put_same]
      exact o.hN k
    | none =>
      obtain ⟨q, rfl⟩ : ∃ q : Nat, i = q := ⟨i.toNat, by omega⟩
      rw [handP_none hi ha] at h ⊢
      cases hg : goodT (X.d.cur q)
      · rw [fetchP_bad hg] at h; exact absurd (show (7 : Int) = 0 from h) (by decide)
      · rw [fetchP_good hg] at h ⊢
        by_cases hc : (findP X.load (q : Int)).2.2 = 0
        · rw [if_pos hc]
          have F := find_found o.load (show X.load.at (q : Int) = none from ha) hc
          have h1 := F.lt
          have h2 := F.cm
          have h3 := F.m
          refine ⟨?_, ?_⟩
          · show (findP X.load (q : Int)).2.1 < (findP X.load (q : Int)).1.m
            omega
          · show (((findP X.load (q : Int)).1.put _ _).fr (findP X.load (q : Int)).2.1).h ≤ N
            rw [put_same]
            show ((findP X.load (q : Int)).1.fr (findP X.load (q : Int)).2.1).h ≤ N
            rw [F.fk]
            exact Nat.zero_le _
        · rw [if_neg hc] at h; exact absurd h hc
/-- a pool is stored cell by cell -/
abbrev set8 (w : World) (g : Nat) (ρ : Rp) : World := (((((((w.setCell ⟨g, 0, none⟩ (.slice (some ⟨ρ.r.nb, 0, none⟩) ρ.r.n ρ.r.nc)).setCell ⟨g, 1, none⟩ (.slice (some ⟨ρ.r.sb, 0, none⟩) ρ.r.n ρ.r.sc)).setCell ⟨g, 2, none⟩ (.slice ρ.r.pa ρ.r.pend.length ρ.r.pc)).setCell ⟨g, 3, none⟩ (.int .i64 ρ.r.writes)).setCell ⟨g, 4, none⟩ (.int .i64 ρ.r.left)).setCell ⟨g, 5, none⟩ (.slice (some ⟨ρ.L, 0, none⟩) ρ.X.m ρ.lc)).setCell ⟨g, 6, none⟩ (.int .i64 (ρ.X.hand : Int))).setCell ⟨g, 7, none⟩ (.int .i64 ρ.X.loads)
theorem Ony.trans {g : Nat} {w w1 w2 : World} (h : Ony g w w1) (h2 : Ony g w1 w2) : Ony g w w2 := ⟨h2.os.trans h.os, h2.tape.trans h.tape, h2.output.trans h.output, h2.size.trans h.size, fun k hk => (h2.block k hk).trans (h.block k hk)⟩
theorem ony8 (w : World) (g : Nat) (ρ : Rp) : Ony g w (set8 w g ρ) :=
  (((((((Ony.cell w g 0 _).trans (Ony.cell _ g 1 _)).trans (Ony.cell _ g 2 _)).trans (Ony.cell _ g 3 _)).trans (Ony.cell _ g 4 _)).trans (Ony.cell _ g 5 _)).trans (Ony.cell _ g 6 _)).trans (Ony.cell _ g 7 _)
theorem box8 {w0 w : World} {g : Nat} {ρ0 : Rp} {T : TypeId} (h : Box w0 w g ρ0 T zcs) (ρ : Rp) : Box w0 (set8 w g ρ) g ρ0 T ρ.cs :=
  (((((((h.set 0 _ rfl).set 1 _ rfl).set 2 _ rfl).set 3 _ rfl).set 4 _ rfl).set 5 _ rfl).set 6 _ rfl).set 7 _ (by simp [zcs, Rp.cs])
theorem Box.z {w0 w : World} {g : Nat} {ρ0 : Rp} {T : TypeId} (h : Box w0 w g ρ0 T zcs) : w.cell? ⟨g, 0, none⟩ = some (.slice none 0 0) ∧ w.cell? ⟨g, 1, none⟩ = some (.slice none 0 0) ∧ w.cell? ⟨g, 2, none⟩ = some (.slice none 0 0) ∧ w.cell? ⟨g, 3, none⟩ = some (.int .i64 0) ∧ w.cell? ⟨g, 4, none⟩ = some (.int .i64 0) ∧ w.cell? ⟨g, 5, none⟩ = some (.slice none 0 0) ∧ w.cell? ⟨g, 6, none⟩ = some (.int .i64 0) ∧ w.cell? ⟨g, 7, none⟩ = some (.int .i64 0) :=
  ⟨h.cell 0, h.cell 1, h.cell 2, h.cell 3, h.cell 4, h.cell 5, h.cell 6, h.cell 7⟩
theorem rload_r {w0 : World} (ρ0 ρ : Rp) (i : Int) (w : World) {N : Nat} {Y : Px} {k : Nat} {c : Int} (hR : handP ρ.X i = (Y, k, c)) (h : RpGo w0 ρ0 w ρ) (o : ρ.X.Ok N) (hN : N + 1 < 2305843009213693952) :
    Calls Tryd.prog 43 #[.agg ρ.cs, .int .i64 i] w fun e w' => ∃ ρ', e = .returned (.tuple #[.agg ρ'.cs, .int .i64 (k : Int), .int .i64 c]) ∧ ρ'.X = Y ∧ RpGo w ρ w' ρ' ∧ RpGo w0 ρ0 w' ρ' := by
  have h2 := rload_any ρ i w h.ok o hN
  rw [hR] at h2
  exact h2.mono fun _ _ ⟨ρ', he, hX, hg⟩ => ⟨ρ', he, hX, hg, h.trans hg⟩
def RpAtR (w : World) (ρ : Rp) (R : Px × ByteArray × Int) (e : Ending) (w' : World) : Prop := ∃ ρ', e = .returned (.tuple #[.agg ρ'.cs, .string R.2.1, .int .i64 R.2.2]) ∧ ρ'.X = R.1 ∧ RpGo w ρ w' ρ'
def RpAt2 (w : World) (ρ : Rp) (R : Px × Int) (e : Ending) (w' : World) : Prop := ∃ ρ', e = .returned (.tuple #[.agg ρ'.cs, .int .i64 R.2]) ∧ ρ'.X = R.1 ∧ RpGo w ρ w' ρ'
set_option maxRecDepth 100000 in
set_option maxHeartbeats 800000 in
theorem rread_any (ρ : Rp) (i : Int) (w : World) {N : Nat} (h : ρ.Ok w) (o : ρ.X.Ok N) (hN : N + 1 < 2305843009213693952) :
    Calls Tryd.prog 27 #[.agg ρ.cs, .int .i64 i] w (RpAtR w ρ (readP ρ.X i)) := by
  have HE := Lib.hid (enter2 h)
  have HM := Lib.hid h.m1
  have HNN := Lib.hid hN
  have HO := Lib.hid o
  obtain ⟨Y, k, c, hR⟩ : ∃ Y k c, handP ρ.X i = (Y, k, c) := ⟨_, _, _, rfl⟩
  have HR := Lib.hid hR
  have HF := Lib.hid (show readP ρ.X i = (Y, if c = 0 then (Y.fr k).t else ⟨#[]⟩, c) by unfold readP; rw [hR])
  have HKM := Lib.hid (show c = 0 → k < Y.m from fun hc => by have := (hand_fit o i (by rw [hR]; exact hc)).1; rw [hR] at this; exact this)
  clear h o hN hR
  go_enter Tryd.func27, Tryd.ntmps27
  go_upto_region 1 with (fail)
  change Code.wp _ _ _ _ ((w.alloc (.cells ρ.cs 38)).alloc (.cells zcs 38))
  generalize (w.alloc (.cells ρ.cs 38)).alloc (.cells zcs 38) = w1 at HE ⊢
  have HP := Lib.hid HE.out.p
  have HZ := Lib.hid HE.out.z
  have HG := Lib.hid HE.out.go
  clear HE
  go_upto_region 2 with (first | (refine ld_pool rfl _ rfl HP.out rfl ?_) | (go_at_call 43; refine (rload_r ρ ρ i _ HR.out HG.out HO.out HNN.out).mono ?_; rintro e w5 ⟨ρ1, rfl, hX, hg5, hG5⟩; have HX1 := Lib.hid hX; have HG5 := Lib.hid hG5; have HZ5 := Lib.hid (HZ.out.go hg5); clear hX hg5 hG5) | (refine st_newg rfl _ _ rfl rfl rfl HG5.out rfl rfl ?_; intro w6 hb6 hbox; have HQ6 := Lib.hid hbox; have HG6 := Lib.hid (HG5.out.b hb6); have HZ6 := Lib.hid (HZ5.out.below hb6); clear hbox hb6))
  by_cases hc : c = 0
  · have hk := HKM.out hc
    subst hc
    have hX := HX1.out
    have hk1 : k < ρ1.X.m := by rw [hX]; exact hk
    have q0 := HQ6.out.c0
    have q1 := HQ6.out.c1
    have q2 := HQ6.out.c2
    have q3 := HQ6.out.c3
    have q4 := HQ6.out.c4
    have q5 := HQ6.out.c5
    have q6 := HQ6.out.c6
    have q7 := HQ6.out.c7
    have g1 := HG6.out.ok.row.at1 hk1
    have k0 : (0 : Int) ≤ (k : Int) := by omega
    have k1 : (k : Int) < (ρ1.X.m : Int) := by omega
    have k3 : (ρ1.X.m : Int) ≤ 1024 := by have := HG6.out.ok.m1.2; omega
    clear hk hk1 hX HKM
    go_upto_region 4 with (fail)
    obtain ⟨z0, z1, z2, z3, z4, z5, z6, z7⟩ := HZ6.out.z
    have f0 := HZ6.out.fz 0
    have f1 := HZ6.out.fz 1
    have f2 := HZ6.out.fz 2
    have f3 := HZ6.out.fz 3
    have f4 := HZ6.out.fz 4
    have f5 := HZ6.out.fz 5
    have f6 := HZ6.out.fz 6
    have f7 := HZ6.out.fz 7
    have n1 : w5.heap.size ≠ w.heap.size + 1 := by have := HZ5.out.lt; omega
    have n2 := n1.symm
    have n3 : ρ1.L ≠ w.heap.size + 1 := fun e => HZ6.out.off (.inr (.inr (.inl e.symm)))
    have n4 := n3.symm
    go_region
    have HO8 := Lib.hid (ony8 w6 (w.heap.size + 1) ρ1)
    have HZ8 := Lib.hid (box8 HZ6.out ρ1)
    clear z0 z1 z2 z3 z4 z5 z6 z7 f0 f1 f2 f3 f4 f5 f6 f7 n1 n2 n3 n4
    generalize hw8 : World.setCell _ _ _ = w8
    have e8 : set8 w6 (w.heap.size + 1) ρ1 = w8 := hw8
    clear hw8
    rw [e8] at HO8 HZ8
    clear e8
    go_wp2
    refine post_pool3 rfl (HZ8.out.below (Below.refl _ _).drew) rfl rfl rfl rfl ?_
    rw [HF.out]
    refine ⟨ρ1, ?_, HX1.out, (HG6.out.ony HO8.out (by omega) HZ8.out.off).b (Below.refl _ _).drew⟩
    rw [← HX1.out]
    rfl
  · have hc2 : (c == 0) = false := by rw [beq_eq_false_iff_ne]; exact hc
    have HC := Lib.hid hc
    clear HKM
    go_wp2_with (first | (refine ld_pool rfl _ rfl HQ6.out rfl ?_) | (refine st_pool rfl _ _ rfl HZ6.out rfl rfl rfl ?_; intro w7 ho7 hz7; have HO7 := Lib.hid ho7; have HZ7 := Lib.hid hz7; clear ho7 hz7))
    refine post_pool3 rfl HZ7.out rfl rfl rfl rfl ?_
    rw [HF.out, if_neg HC.out]
    exact ⟨ρ1, rfl, HX1.out, HG6.out.ony HO7.out (by omega) HZ7.out.off⟩
end Go.Proofs.YtfhnnfheonkneaaDoor
namespace Go.Proofs.YtfhnnfheonkneaaDoor
open Go.RowKit Go.Maps

theorem Rp.Ok.fits {w : World} {ρ : Rp} (h : ρ.Ok w) : (ρ.X.m : Int) ≤ 1024 := by have := h.m1.2; omega
set_option maxRecDepth 100000 in
set_option maxHeartbeats 1600000 in
theorem rpin_any (ρ : Rp) (i : Int) (w : World) {N : Nat} (h : ρ.Ok w) (o : ρ.X.Ok N) (hN : N + 1 < 2305843009213693952) :
    Calls Tryd.prog 20 #[.agg ρ.cs, .int .i64 i] w (RpAt2 w ρ (pinP ρ.X i)) := by
  have HE := Lib.hid (enter2 h)
  have HNN := Lib.hid hN
  have HO := Lib.hid o
  obtain ⟨Y, k, c, hR⟩ : ∃ Y k c, handP ρ.X i = (Y, k, c) := ⟨_, _, _, rfl⟩
  have HR := Lib.hid hR
  have HF := Lib.hid (show pinP ρ.X i = if c = 0 then (Y.put k { Y.fr k with h := (Y.fr k).h + 1 }, 0) else (Y, c) by unfold pinP; rw [hR])
  have HKM := Lib.hid (show c = 0 → k < Y.m ∧ (Y.fr k).h ≤ N from fun hc => by have := hand_fit o i (by rw [hR]; exact hc); rw [hR] at this; exact this)
  clear h o hN hR
  go_enter Tryd.func20, Tryd.ntmps20
  go_upto_region 1 with (fail)
  change Code.wp _ _ _ _ ((w.alloc (.cells ρ.cs 38)).alloc (.cells zcs 38))
  generalize (w.alloc (.cells ρ.cs 38)).alloc (.cells zcs 38) = w1 at HE ⊢
  have HP := Lib.hid HE.out.p
  have HZ := Lib.hid HE.out.z
  have HG := Lib.hid HE.out.go
  clear HE
  go_upto_region 2 with (first | (refine ld_pool rfl _ rfl HP.out rfl ?_) | (go_at_call 43; refine (rload_r ρ ρ i _ HR.out HG.out HO.out HNN.out).mono ?_; rintro e w5 ⟨ρ1, rfl, hX, hg5, hG5⟩; have HX1 := Lib.hid hX; have HG5 := Lib.hid hG5; have HZ5 := Lib.hid (HZ.out.go hg5); clear hX hg5 hG5) | (refine st_newg rfl _ _ rfl rfl rfl HG5.out rfl rfl ?_; intro w6 hb6 hbox; have HQ6 := Lib.hid hbox; have HG6 := Lib.hid (HG5.out.b hb6); have HZ6 := Lib.hid (HZ5.out.below hb6); clear hbox hb6))
  by_cases hc : c = 0
  · obtain ⟨hk, hh⟩ := HKM.out hc
    have HF1 := Lib.hid (HF.out.trans (if_pos hc))
    subst hc
    have hX := HX1.out
    have hk1 : k < ρ1.X.m := by rw [hX]; exact hk
    have HK1 := Lib.hid hk1
    have q5 := HQ6.out.c5
    have hr := HG6.out.ok.row
    have g0 := hr.at0 hk1
    have g1 := hr.at1 hk1
    have g2 := hr.at2 hk1
    have g3 := hr.at3 hk1
    have g4 := hr.at4 hk1
    have k0 : (0 : Int) ≤ (k : Int) := by omega
    have k1 : (k : Int) < (ρ1.X.m : Int) := by omega
    have k3 := HG6.out.ok.fits
    have hh0 : (0 : Int) ≤ ((ρ1.X.fr k).h : Int) := by omega
    have hh1 : ((ρ1.X.fr k).h : Int) ≤ 2305843009213693952 := by rw [hX]; have := HNN.out; omega
    clear hk hk1 hX HKM hr hh
    go_upto_region 5 with (first | (refine st_newf (w1 := w6) (ρ := ρ1) (f := ρ1.X.fr k) rfl _ _ rfl rfl rfl HG6.out.below HG6.out.ok rfl rfl ?_; intro w7 F hF hb7 hbox; have HF7 := Lib.hid hbox; have HQ7 := Lib.hid (HQ6.out.below hb7); have HZ7 := Lib.hid (HZ6.out.below hb7); have HG7 := Lib.hid (HG6.out.b hb7); clear hb7 hbox))
    subst hF
    have FQ : w5.heap.size ≠ w6.heap.size := by have := HQ6.out.lt; omega
    have FZ : w.heap.size + 1 ≠ w6.heap.size := by have := HZ6.out.lt; omega
    have FL : w.heap.size ≤ w6.heap.size := HG6.out.below.size
    clear g0 g1 g2 g3 g4 q5
    have f4 := HF7.out.fz 4
    have g4 := HF7.out.g4
    have HQ8 := Lib.hid (HQ7.out.ony (Ony.cell w7 w6.heap.size 4 (.int .i64 (((ρ1.X.fr k).h : Int) + 1))) FQ)
    have HF8 := Lib.hid (HF7.out.set (cs' := gcs { ρ1.X.fr k with h := (ρ1.X.fr k).h + 1 }) 4 (.int .i64 (((ρ1.X.fr k).h : Int) + 1)) rfl)
    have HZ8 := Lib.hid (HZ7.out.ony (Ony.cell w7 w6.heap.size 4 (.int .i64 (((ρ1.X.fr k).h : Int) + 1))) FZ)
    have HG8 := Lib.hid (HG7.out.ony (Ony.cell w7 w6.heap.size 4 (.int .i64 (((ρ1.X.fr k).h : Int) + 1))) FL HF7.out.off)
    go_wp2_with (first | (refine ld_pool rfl _ rfl HQ8.out rfl ?_) | (refine ld_frame rfl _ rfl HF8.out rfl ?_) | (go_at_call 41; refine (rwith_g ρ ρ1 k { ρ1.X.fr k with h := (ρ1.X.fr k).h + 1 } _ HG8.out HK1.out).mono ?_; rintro e w9 ⟨ρ2, rfl, hX, hg9, hG9⟩; have HX := Lib.hid hX; have HG9 := Lib.hid hG9; have HZ9 := Lib.hid (HZ8.out.go hg9); clear hX hg9 hG9) | (refine st_pool rfl _ _ rfl HZ9.out rfl rfl rfl ?_; intro wa hoa hza; have HOa := Lib.hid hoa; have HZa := Lib.hid hza; clear hoa hza))
    refine post_pool2 rfl HZa.out rfl rfl rfl ?_
    rw [HF1.out]
    refine ⟨ρ2, rfl, ?_, HG9.out.ony HOa.out (by omega) HZa.out.off⟩
    rw [HX.out, HX1.out]
  · have hc2 : (c == 0) = false := by rw [beq_eq_false_iff_ne]; exact hc
    have HC := Lib.hid hc
    clear HKM
    go_wp2_with (first | (refine ld_pool rfl _ rfl HQ6.out rfl ?_) | (refine st_pool rfl _ _ rfl HZ6.out rfl rfl rfl ?_; intro w7 ho7 hz7; have HO7 := Lib.hid ho7; have HZ7 := Lib.hid hz7; clear ho7 hz7))
    refine post_pool2 rfl HZ7.out rfl rfl rfl ?_
    rw [HF.out, if_neg HC.out]
    exact ⟨ρ1, rfl, HX1.out, HG6.out.ony HO7.out (by omega) HZ7.out.off⟩
end Go.Proofs.YtfhnnfheonkneaaDoor

/-
  ShadowNew, the walk. No condition but that the input could be read.
  ShadowNew where there can be one, and the whole. No condition but that the input could be read.
-/
import Derived.Test.YtlfkkakohldgnaaGreatDoorN50
import Derived.Test.YtlfkkakohldgnaaGreatDoorN26
namespace Go.Proofs.YtlfkkakohldgnaaGreatDoor.Sh
open Go.RowKit Go.Maps

set_option maxRecDepth 100000 in
set_option maxHeartbeats 2000000 in
theorem new_small (n0 : Int) (k : Nat) (hk : wrap64 ((IntKind.u64.wrap n0).tmod 40) = k) (hk40 : (k : Int) < 40) (m : Int) (h : k + 1 < 4) (W : World) (hl : Laid W) :
    Calls Tryz.prog 4 #[.int .i64 n0, .int .i64 m] W fun e w' => e = .returned (.bool true) ∧ Below W.heap.size W w' := by
  have x1 : 1 + (k : Int) < 4 := by omega
  have x0 : (0 : Int) ≤ (k : Int) := by omega
  have HLD := Lib.hid hl
  have HB := Lib.hid (Below.refl W.heap.size W)
  clear hl
  go_enter Tryz.func4, Tryz.ntmps4
  go_upto_region 9 with (first | (go_at_call 14; refine (read_nil 0 _).mono ?_; rintro e w' ⟨rfl, hb⟩; have HB1 := Lib.hid ((HB.out.trans (hb.mono HB.out.size)).alloc (HB.out.trans (hb.mono HB.out.size)).size (.cells #[.int .u8 0, .int .u32 0, .int .u64 0, .int .i64 0, .slice none 0 0] 47)); clear HB hb; have HB := HB1; clear HB1) | (go_at_call 16; refine (num_err 1 _ (HLD.out.below HB.out)).mono ?_; rintro e w' ⟨rfl, hb⟩; have HB1 := Lib.hid (HB.out.trans (hb.mono HB.out.size)); clear HB hb; have HB := HB1; clear HB1) | (go_at_call 19; refine (write_nil 0 0 0 0 1 none 0 0 _).mono ?_; rintro e w' ⟨rfl, hb⟩; have HB1 := Lib.hid (HB.out.trans (hb.mono HB.out.size)); clear HB hb; have HB := HB1; clear HB1) | (go_at_call 20; refine (drop_nil' 0 _).mono ?_; rintro e w' ⟨rfl, rfl⟩) | (go_at_call 21; refine (commit_nil _).mono ?_; rintro e w' ⟨rfl, rfl⟩) | (go_at_call 22; refine (abort_nil _).mono ?_; rintro e w' ⟨rfl, rfl⟩) | (go_at_call 23; refine (epoch_nil _).mono ?_; rintro e w' ⟨rfl, rfl⟩) | (go_at_call 24; refine (free_nil _).mono ?_; rintro e w' ⟨rfl, rfl⟩) | (go_at_call 25; refine (pages_nil _).mono ?_; rintro e w' ⟨rfl, rfl⟩) | (go_at_call 11; refine (new_no (on_nil 1 _)).mono ?_; rintro e w' ⟨rfl, rfl⟩) | (go_at_call 17; refine (open_no (on_nil 1 _)).mono ?_; rintro e w' ⟨rfl, rfl⟩))
  go_upto_region 13 with (go_at_call 10; refine (disk_new' (W := W) (k + 1) _ (by omega) _ HB.out (by omega) (by omega)).mono ?_; rintro e wa ⟨D, H, rfl, h⟩; have HD := Lib.hid h; clear h)
  have HON := Lib.hid (show OnNo (.pointer (some ⟨D, 0, none⟩)) m wa from on_small m (dks_new HD.out) h)
  clear HB
  have HB := Lib.hid HD.out.b
  go_wp2_with (first | (go_at_call 17; refine (open_no HON.out).mono ?_; rintro e w' ⟨rfl, rfl⟩) | (go_at_call 11; refine (new_no HON.out).mono ?_; rintro e w' ⟨rfl, rfl⟩) | (go_at_call 16; refine (num_err 1 _ (HLD.out.below HB.out)).mono ?_; rintro e w' ⟨rfl, hb⟩; have HB1 := Lib.hid (HB.out.trans (hb.mono HB.out.size)); clear HB hb; have HB := HB1; clear HB1) | (go_at_call 9; refine (sure_any _).mono ?_; rintro e w' ⟨rfl, hb⟩; have HB1 := Lib.hid (HB.out.trans (hb.mono HB.out.size)); clear HB hb; have HB := HB1; clear HB1))
  go_ret
  exact ⟨rfl, HB.out⟩
set_option maxRecDepth 100000 in
set_option maxHeartbeats 2000000 in
theorem new_low (n0 : Int) (k : Nat) (hk : wrap64 ((IntKind.u64.wrap n0).tmod 40) = k) (hk40 : (k : Int) < 40) (m : Int) (h : 4 ≤ k + 1) (hm : m < 1) (W : World) (hl : Laid W) :
    Calls Tryz.prog 4 #[.int .i64 n0, .int .i64 m] W fun e w' => e = .returned (.bool true) ∧ Below W.heap.size W w' := by
  have x1 : ¬ 1 + (k : Int) < 4 := by omega
  have x0 : (0 : Int) ≤ (k : Int) := by omega
  have HLD := Lib.hid hl
  have HB := Lib.hid (Below.refl W.heap.size W)
  clear hl
  go_enter Tryz.func4, Tryz.ntmps4
  go_upto_region 9 with (first | (go_at_call 14; refine (read_nil 0 _).mono ?_; rintro e w' ⟨rfl, hb⟩; have HB1 := Lib.hid ((HB.out.trans (hb.mono HB.out.size)).alloc (HB.out.trans (hb.mono HB.out.size)).size (.cells #[.int .u8 0, .int .u32 0, .int .u64 0, .int .i64 0, .slice none 0 0] 47)); clear HB hb; have HB := HB1; clear HB1) | (go_at_call 16; refine (num_err 1 _ (HLD.out.below HB.out)).mono ?_; rintro e w' ⟨rfl, hb⟩; have HB1 := Lib.hid (HB.out.trans (hb.mono HB.out.size)); clear HB hb; have HB := HB1; clear HB1) | (go_at_call 19; refine (write_nil 0 0 0 0 1 none 0 0 _).mono ?_; rintro e w' ⟨rfl, hb⟩; have HB1 := Lib.hid (HB.out.trans (hb.mono HB.out.size)); clear HB hb; have HB := HB1; clear HB1) | (go_at_call 20; refine (drop_nil' 0 _).mono ?_; rintro e w' ⟨rfl, rfl⟩) | (go_at_call 21; refine (commit_nil _).mono ?_; rintro e w' ⟨rfl, rfl⟩) | (go_at_call 22; refine (abort_nil _).mono ?_; rintro e w' ⟨rfl, rfl⟩) | (go_at_call 23; refine (epoch_nil _).mono ?_; rintro e w' ⟨rfl, rfl⟩) | (go_at_call 24; refine (free_nil _).mono ?_; rintro e w' ⟨rfl, rfl⟩) | (go_at_call 25; refine (pages_nil _).mono ?_; rintro e w' ⟨rfl, rfl⟩) | (go_at_call 11; refine (new_no (on_nil 1 _)).mono ?_; rintro e w' ⟨rfl, rfl⟩) | (go_at_call 17; refine (open_no (on_nil 1 _)).mono ?_; rintro e w' ⟨rfl, rfl⟩))
  go_upto_region 13 with (go_at_call 10; refine (disk_new' (W := W) (k + 1) _ (by omega) _ HB.out (by omega) (by omega)).mono ?_; rintro e wa ⟨D, H, rfl, h⟩; have HD := Lib.hid h; clear h)
  have HON := Lib.hid (show OnNo (.pointer (some ⟨D, 0, none⟩)) m wa from on_frames m (dks_new HD.out) h (.inl hm))
  clear HB
  have HB := Lib.hid HD.out.b
  go_wp2_with (first | (go_at_call 17; refine (open_no HON.out).mono ?_; rintro e w' ⟨rfl, rfl⟩) | (go_at_call 11; refine (new_no HON.out).mono ?_; rintro e w' ⟨rfl, rfl⟩) | (go_at_call 16; refine (num_err 1 _ (HLD.out.below HB.out)).mono ?_; rintro e w' ⟨rfl, hb⟩; have HB1 := Lib.hid (HB.out.trans (hb.mono HB.out.size)); clear HB hb; have HB := HB1; clear HB1) | (go_at_call 9; refine (sure_any _).mono ?_; rintro e w' ⟨rfl, hb⟩; have HB1 := Lib.hid (HB.out.trans (hb.mono HB.out.size)); clear HB hb; have HB := HB1; clear HB1))
  go_ret
  exact ⟨rfl, HB.out⟩
set_option maxRecDepth 100000 in
set_option maxHeartbeats 2000000 in
theorem new_high (n0 : Int) (k : Nat) (hk : wrap64 ((IntKind.u64.wrap n0).tmod 40) = k) (hk40 : (k : Int) < 40) (m : Int) (h : 4 ≤ k + 1) (hm : 1024 < m) (W : World) (hl : Laid W) :
    Calls Tryz.prog 4 #[.int .i64 n0, .int .i64 m] W fun e w' => e = .returned (.bool true) ∧ Below W.heap.size W w' := by
  have x1 : ¬ 1 + (k : Int) < 4 := by omega
  have x2 : ¬ m < 1 := by omega
  have x0 : (0 : Int) ≤ (k : Int) := by omega
  have HLD := Lib.hid hl
  have HB := Lib.hid (Below.refl W.heap.size W)
  clear hl
  go_enter Tryz.func4, Tryz.ntmps4
  go_upto_region 9 with (first | (go_at_call 14; refine (read_nil 0 _).mono ?_; rintro e w' ⟨rfl, hb⟩; have HB1 := Lib.hid ((HB.out.trans (hb.mono HB.out.size)).alloc (HB.out.trans (hb.mono HB.out.size)).size (.cells #[.int .u8 0, .int .u32 0, .int .u64 0, .int .i64 0, .slice none 0 0] 47)); clear HB hb; have HB := HB1; clear HB1) | (go_at_call 16; refine (num_err 1 _ (HLD.out.below HB.out)).mono ?_; rintro e w' ⟨rfl, hb⟩; have HB1 := Lib.hid (HB.out.trans (hb.mono HB.out.size)); clear HB hb; have HB := HB1; clear HB1) | (go_at_call 19; refine (write_nil 0 0 0 0 1 none 0 0 _).mono ?_; rintro e w' ⟨rfl, hb⟩; have HB1 := Lib.hid (HB.out.trans (hb.mono HB.out.size)); clear HB hb; have HB := HB1; clear HB1) | (go_at_call 20; refine (drop_nil' 0 _).mono ?_; rintro e w' ⟨rfl, rfl⟩) | (go_at_call 21; refine (commit_nil _).mono ?_; rintro e w' ⟨rfl, rfl⟩) | (go_at_call 22; refine (abort_nil _).mono ?_; rintro e w' ⟨rfl, rfl⟩) | (go_at_call 23; refine (epoch_nil _).mono ?_; rintro e w' ⟨rfl, rfl⟩) | (go_at_call 24; refine (free_nil _).mono ?_; rintro e w' ⟨rfl, rfl⟩) | (go_at_call 25; refine (pages_nil _).mono ?_; rintro e w' ⟨rfl, rfl⟩) | (go_at_call 11; refine (new_no (on_nil 1 _)).mono ?_; rintro e w' ⟨rfl, rfl⟩) | (go_at_call 17; refine (open_no (on_nil 1 _)).mono ?_; rintro e w' ⟨rfl, rfl⟩))
  go_upto_region 13 with (go_at_call 10; refine (disk_new' (W := W) (k + 1) _ (by omega) _ HB.out (by omega) (by omega)).mono ?_; rintro e wa ⟨D, H, rfl, h⟩; have HD := Lib.hid h; clear h)
  have HON := Lib.hid (show OnNo (.pointer (some ⟨D, 0, none⟩)) m wa from on_frames m (dks_new HD.out) h (.inr hm))
  clear HB
  have HB := Lib.hid HD.out.b
  go_wp2_with (first | (go_at_call 17; refine (open_no HON.out).mono ?_; rintro e w' ⟨rfl, rfl⟩) | (go_at_call 11; refine (new_no HON.out).mono ?_; rintro e w' ⟨rfl, rfl⟩) | (go_at_call 16; refine (num_err 1 _ (HLD.out.below HB.out)).mono ?_; rintro e w' ⟨rfl, hb⟩; have HB1 := Lib.hid (HB.out.trans (hb.mono HB.out.size)); clear HB hb; have HB := HB1; clear HB1) | (go_at_call 9; refine (sure_any _).mono ?_; rintro e w' ⟨rfl, hb⟩; have HB1 := Lib.hid (HB.out.trans (hb.mono HB.out.size)); clear HB hb; have HB := HB1; clear HB1))
  go_ret
  exact ⟨rfl, HB.out⟩
end Go.Proofs.YtlfkkakohldgnaaGreatDoor.Sh
namespace Go.Proofs.YtlfkkakohldgnaaGreatDoor.Sh
open Go.RowKit Go.Maps

theorem new_dks {W w : World} {D n N : Nat} {Hd : Nat → Prop} (m : Nat) (h : DkS W w D n (fun _ => zT) N Hd) (hHd : ∀ k, Hd k → k < w.heap.size) (h4 : 4 ≤ n) (hn : n ≤ 16384) (h1 : 1 ≤ m) (h2 : m ≤ 1024) (hN : N + 10000 < 2305843009213693952) :
    Calls Tryz.prog 11 #[.pointer (some ⟨D, 0, none⟩), .int .i64 (m : Int)] w (NewC W (N + 10000) D n m) := by
  refine (new_any m h hHd (by obtain ⟨d, hd, _⟩ := h; exact hd.b.size) h4 hn h1 h2 (fun _ => none) rt_zero hN).mono ?_
  rintro e w' ⟨σ, he, hsh, hiv, e1, e2, e3, e4, e5, e6, e7⟩
  exact ⟨σ, he, hsh.mono (by omega), ⟨(hsh.less (fun _ _ => trivial)).mono (by omega), hiv.kept⟩, e1, e2, e3, e4, e5, e6, e7⟩
theorem free_none {W w : World} {N : Nat} {σ : Sd} {pk pn : Nat → Sm.Pg} (h : Ss W N w σ pk pn) (hn : σ.nw = fun _ => 0) (hk : σ.kp = fun _ => 0) (ht : σ.tb = []) : σ.S.free + 2 = σ.n := by
  have := h.free
  rw [hn, hk, lateL_same, kl_none, ht] at this
  simp only [List.length_nil] at this
  omega
set_option maxRecDepth 100000 in
set_option maxHeartbeats 2000000 in
theorem new_ok (n0 : Int) (k : Nat) (hk : wrap64 ((IntKind.u64.wrap n0).tmod 40) = k) (hk40 : (k : Int) < 40) (m : Nat) (h : 4 ≤ k + 1) (hm1 : 1 ≤ m) (hm2 : m ≤ 1024) (W : World) (hl : Laid W) :
    Calls Tryz.prog 4 #[.int .i64 n0, .int .i64 (m : Int)] W fun e w' => e = .returned (.bool true) ∧ Below W.heap.size W w' := by
  have x1 : ¬ 1 + (k : Int) < 4 := by omega
  have x2 : ¬ (m : Int) < 1 := by omega
  have x3 : ¬ (1024 : Int) < (m : Int) := by omega
  have x0 : (0 : Int) ≤ (k : Int) := by omega
  have HLD := Lib.hid hl
  have HB := Lib.hid (Below.refl W.heap.size W)
  clear hl
  go_enter Tryz.func4, Tryz.ntmps4
  go_upto_region 9 with (first | (go_at_call 14; refine (read_nil 0 _).mono ?_; rintro e w' ⟨rfl, hb⟩; have HB1 := Lib.hid ((HB.out.trans (hb.mono HB.out.size)).alloc (HB.out.trans (hb.mono HB.out.size)).size (.cells #[.int .u8 0, .int .u32 0, .int .u64 0, .int .i64 0, .slice none 0 0] 47)); clear HB hb; have HB := HB1; clear HB1) | (go_at_call 16; refine (num_err 1 _ (HLD.out.below HB.out)).mono ?_; rintro e w' ⟨rfl, hb⟩; have HB1 := Lib.hid (HB.out.trans (hb.mono HB.out.size)); clear HB hb; have HB := HB1; clear HB1) | (go_at_call 19; refine (write_nil 0 0 0 0 1 none 0 0 _).mono ?_; rintro e w' ⟨rfl, hb⟩; have HB1 := Lib.hid (HB.out.trans (hb.mono HB.out.size)); clear HB hb; have HB := HB1; clear HB1) | (go_at_call 20; refine (drop_nil' 0 _).mono ?_; rintro e w' ⟨rfl, rfl⟩) | (go_at_call 21; refine (commit_nil _).mono ?_; rintro e w' ⟨rfl, rfl⟩) | (go_at_call 22; refine (abort_nil _).mono ?_; rintro e w' ⟨rfl, rfl⟩) | (go_at_call 23; refine (epoch_nil _).mono ?_; rintro e w' ⟨rfl, rfl⟩) | (go_at_call 24; refine (free_nil _).mono ?_; rintro e w' ⟨rfl, rfl⟩) | (go_at_call 25; refine (pages_nil _).mono ?_; rintro e w' ⟨rfl, rfl⟩) | (go_at_call 11; refine (new_no (on_nil 1 _)).mono ?_; rintro e w' ⟨rfl, rfl⟩) | (go_at_call 17; refine (open_no (on_nil 1 _)).mono ?_; rintro e w' ⟨rfl, rfl⟩))
  go_upto_region 13 with (go_at_call 10; refine (disk_new' (W := W) (k + 1) _ (by omega) _ HB.out (by omega) (by omega)).mono ?_; rintro e wa ⟨D, H, rfl, h⟩; have HD := Lib.hid h; clear h)
  clear HB
  go_wp2_with fail
  refine (open_none m (dks_new HD.out) HD.out.lt h (by omega) hm1 hm2 zT_bad zT_bad (by decide)).mono ?_
  rintro e w2 ⟨p, H2, rfl, hps, _⟩
  have HP2 := Lib.hid hps
  clear hps
  obtain ⟨H3, hdk, hH3⟩ := HP2.out.disk
  have HD3 := Lib.hid hdk
  have HH3 := Lib.hid hH3
  clear hdk hH3
  go_wp2_with fail
  refine (new_dks m HD3.out (fun b q => (HP2.out.lt b (HH3.out b q)).2) h (by omega) hm1 hm2 (by decide)).mono ?_
  rintro e w3 ⟨σ, rfl, _, hss, e1, e2, e3, e4, e5, e6, e7⟩
  have HS := Lib.hid hss
  have HB := Lib.hid hss.sh.ps.b
  have hfi : (σ.S.free : Int) = 1 + (k : Int) - 2 := by have := free_none hss e5 e6 e7; omega
  have HFR := Lib.hid hfi
  have HE := Lib.hid (And.intro e1 (And.intro e2 (And.intro e3 (And.intro e4 (And.intro e5 (And.intro e6 e7))))))
  clear hss hfi e1 e2 e3 e4 e5 e6 e7
  go_upto_region 19 with (first | (go_at_call 16; refine (num_err 8 _ (HLD.out.below HB.out)).mono ?_; rintro e w' ⟨rfl, hb⟩; have HB1 := Lib.hid (HB.out.trans (hb.mono HB.out.size)); have HS1 := Lib.hid (HS.out.below hb); clear HB HS hb; have HB := HB1; have HS := HS1; clear HB1 HS1) | (go_at_call 24; refine (free_any σ.P σ.G σ.T σ.S _ HS.out.sh.hd.c6 HS.out.sh.sp).mono ?_; rw [HFR.out]; rintro e w' ⟨rfl, rfl⟩))
  have HOP := Lib.hid (open_all HS.out m hm1 hm2 (by decide))
  rw [HE.out.1] at HOP
  clear HB
  go_wp2_with fail
  refine HOP.out.mono ?_
  rintro e w5 ⟨σ3, rfl, hs3, _, _, f1, f2, f3, f4, f5, f6, f7⟩
  have HS3 := Lib.hid hs3
  have HB := Lib.hid hs3.sh.ps.b
  have hfi : (σ3.S.free : Int) = 1 + (k : Int) - 2 := by have := free_none hs3 (f5.trans HE.out.2.2.2.2.2.1) (f4.trans HE.out.2.2.2.2.2.1) (f7.trans HE.out.2.2.2.2.2.2); have := HE.out.2.1; omega
  have HFR3 := Lib.hid hfi
  have HE3 := Lib.hid (f6.trans HE.out.2.2.2.1)
  clear hs3 hfi f1 f2 f3 f4 f5 f6 f7
  go_wp2_with (first | (go_at_call 24; refine (free_any σ3.P σ3.G σ3.T σ3.S _ HS3.out.sh.hd.c6 HS3.out.sh.sp).mono ?_; rw [HFR3.out]; rintro e w' ⟨rfl, rfl⟩) | (go_at_call 23; refine (epoch_any σ3.P (σ3.ep : Int) _ HS3.out.sh.hd.c5).mono ?_; rw [HE3.out]; rintro e w' ⟨rfl, rfl⟩) | (go_at_call 9; refine (sure_any _).mono ?_; rintro e w' ⟨rfl, hb⟩; have HB1 := Lib.hid (HB.out.trans (hb.mono HB.out.size)); clear HB hb; have HB := HB1; clear HB1))
  go_ret
  exact ⟨rfl, HB.out⟩
theorem new_walk (n0 n1 : Int) (W : World) (_w0 : (Lit.int .i64 n0).wf = true) (_w1 : (Lit.int .i64 n1).wf = true) (hl : Laid W) :
    Calls Tryz.prog 4 #[.int .i64 n0, .int .i64 n1] W fun e w' => e = .returned (.bool true) ∧ Below W.heap.size W w' := by
  obtain ⟨k, hk, hk40⟩ := red_nat n0 40 (by omega) (by omega)
  by_cases h : k + 1 < 4
  · exact new_small n0 k hk hk40 n1 h W hl
  · by_cases h1 : n1 < 1
    · exact new_low n0 k hk hk40 n1 (by omega) h1 W hl
    · by_cases h2 : 1024 < n1
      · exact new_high n0 k hk hk40 n1 (by omega) h2 W hl
      · obtain ⟨m, rfl⟩ : ∃ m : Nat, n1 = (m : Int) := ⟨n1.toNat, by omega⟩
        exact new_ok n0 k hk hk40 m (by omega) (by omega) (by omega) W hl
end Go.Proofs.YtlfkkakohldgnaaGreatDoor.Sh

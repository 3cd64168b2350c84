/-
  THE DOCUMENT's find. Conditions: the pool lies in memory.
  THE DOCUMENT's find, where no frame holds the sector. Conditions: the pool lies in memory.
-/
import Derived.Test.YtfhnnfheonkneaaDoorRd
namespace Go.Proofs.YtfhnnfheonkneaaDoor
open Go.RowKit Go.Maps

def RpAt3 (w : World) (ρ : Rp) (R : Px × Nat × Int) (e : Ending) (w' : World) : Prop := ∃ ρ', e = .returned (.tuple #[.agg ρ'.cs, .int .i64 (R.2.1 : Int), .int .i64 R.2.2]) ∧ ρ'.X = R.1 ∧ RpGo w ρ w' ρ'
/-- a call ends with a pool, and two numbers -/
theorem post_pool3 {fn : Func} {R : Ending → World → Prop} {a : Act} {w0 w : World} {p p1 p2 : Tmp} {g : Nat} {ρ0 ρ : Rp} {v1 v2 : Value} (h : fn.results = #[.cell p 38, .tmp p1, .tmp p2]) (hb : Box w0 w g ρ0 38 ρ.cs)
    (hp : a.tmps.getD p undef = .pointer (some ⟨g, 0, none⟩)) (h1 : a.tmps.getD p1 undef = v1) (h2 : a.tmps.getD p2 undef = v2) (hdf : a.defers = []) (hR : R (.returned (.tuple #[.agg ρ.cs, v1, v2])) w) : bodyPost Tryd.prog fn R .ret a w := by
  refine bodyPost_ret (v := .tuple #[.agg ρ.cs, v1, v2]) ?_ hdf hR
  have hp' : a.tmps[p]?.getD undef = .pointer (some ⟨g, 0, none⟩) := by simpa using hp
  have h1' : a.tmps[p1]?.getD undef = v1 := by simpa using h1
  have h2' : a.tmps[p2]?.getD undef = v2 := by simpa using h2
  simp [results, h, hp', h1', h2', asAddr, run_loadVar_row w g _ _ ρ.cs (0, 0) _ hb.h Tryd.underlying38 rfl info_rp]
theorem post_pool2 {fn : Func} {R : Ending → World → Prop} {a : Act} {w0 w : World} {p p1 : Tmp} {g : Nat} {ρ0 ρ : Rp} {v1 : Value} (h : fn.results = #[.cell p 38, .tmp p1]) (hb : Box w0 w g ρ0 38 ρ.cs)
    (hp : a.tmps.getD p undef = .pointer (some ⟨g, 0, none⟩)) (h1 : a.tmps.getD p1 undef = v1) (hdf : a.defers = []) (hR : R (.returned (.tuple #[.agg ρ.cs, v1])) w) : bodyPost Tryd.prog fn R .ret a w := by
  refine bodyPost_ret (v := .tuple #[.agg ρ.cs, v1]) ?_ hdf hR
  have hp' : a.tmps[p]?.getD undef = .pointer (some ⟨g, 0, none⟩) := by simpa using hp
  have h1' : a.tmps[p1]?.getD undef = v1 := by simpa using h1
  simp [results, h, hp', h1', asAddr, run_loadVar_row w g _ _ ρ.cs (0, 0) _ hb.h Tryd.underlying38 rfl info_rp]
theorem rplace_at {w0 : World} (ρ : Rp) (i v : Int) (w : World) (h : ρ.Ok w) (hv : plF ρ.X i = v) (hG : RpGo w0 ρ w ρ) :
    Calls Tryd.prog 45 #[.agg ρ.cs, .int .i64 i] w fun e w' => e = .returned (.int .i64 v) ∧ RpGo w0 ρ w' ρ ∧ Below w.heap.size w w' := by
  subst hv
  exact (rplace_any ρ i w h).mono fun _ _ ⟨he, hb⟩ => ⟨he, hG.b hb, hb⟩
set_option maxRecDepth 100000 in
set_option maxHeartbeats 800000 in
theorem rfind_some (ρ : Rp) (i : Int) (k : Nat) (w : World) {N : Nat} (h : ρ.Ok w) (o : ρ.X.Ok N) (ha : ρ.X.at i = some k) :
    Calls Tryd.prog 40 #[.agg ρ.cs, .int .i64 i] w (RpAt3 w ρ (findP ρ.X i)) := by
  have HP0 := Lib.hid (plF_some o ha)
  have HE := Lib.hid (enter2 h)
  have HF := Lib.hid (findP_some ha)
  have k0 : (0 : Int) ≤ (k : Int) := by omega
  clear h o ha
  go_enter Tryd.func40, Tryd.ntmps40
  go_upto_region 1 with (fail)
  change Code.wp _ _ _ _ ((w.alloc (.cells ρ.cs 38)).alloc (.cells zcs 38))
  generalize (w.alloc (.cells ρ.cs 38)).alloc (.cells zcs 38) = w1 at HE ⊢
  have HP := Lib.hid HE.out.p
  have HZ := Lib.hid HE.out.z
  have HG := Lib.hid HE.out.go
  clear HE
  go_wp2_with (first | (refine ld_pool rfl _ rfl HP.out rfl ?_) | (go_at_call 45; refine (rplace_at ρ i k _ HG.out.ok HP0.out HG.out).mono ?_; rintro e w2 ⟨rfl, hg2, hb2⟩; have HG := Lib.hid hg2; have HP := Lib.hid (HP.out.below hb2); have HZ := Lib.hid (HZ.out.below hb2); clear hg2 hb2) | (refine st_pool rfl _ _ rfl HZ.out rfl rfl rfl ?_; intro w3 ho3 hz3; have HO3 := Lib.hid ho3; have HZ3 := Lib.hid hz3; clear ho3 hz3))
  refine post_pool3 rfl HZ3.out rfl rfl rfl rfl ?_
  rw [HF.out]
  exact ⟨ρ, rfl, rfl, HG.out.ony HO3.out (by omega) HZ3.out.off⟩
end Go.Proofs.YtfhnnfheonkneaaDoor
namespace Go.Proofs.YtfhnnfheonkneaaDoor
open Go.RowKit Go.Maps

theorem rwith_at {w0 : World} (ρ0 ρ : Rp) (k : Nat) (f : Fr) (w : World) (h : RpGo w0 ρ0 w ρ) (hk : k < ρ.X.m) (i : Int) (t : ByteArray) (d u : Bool) (x : Int) (hf : f = ⟨i, t, d, u, f.h⟩) (hx : x = (f.h : Int)) :
    Calls Tryd.prog 41 #[.agg ρ.cs, .int .i64 (k : Int), .agg #[.int .i64 i, .string t, .bool d, .bool u, .int .i64 x]] w fun e w' => ∃ ρ', e = .returned (.agg ρ'.cs) ∧ ρ'.X = ρ.X.put k f ∧ RpGo w ρ w' ρ' ∧ RpGo w0 ρ0 w' ρ' := by
  subst hx
  have h2 := rwith_any ρ k f w h.ok hk
  have e : gcs f = #[.int .i64 i, .string t, .bool d, .bool u, .int .i64 (f.h : Int)] := by rw [hf]; rfl
  rw [e] at h2
  exact h2.mono fun _ _ ⟨ρ', he, hX, hg⟩ => ⟨ρ', he, hX, hg, h.trans hg⟩
def freeN (X : Px) (k : Nat) : Bool := (List.range k).any fun j => (X.fr j).h == 0
theorem freeN_next (X : Px) (k : Nat) : freeN X (k + 1) = (freeN X k || (X.fr k).h == 0) := by
  unfold freeN
  rw [List.range_succ, List.any_append]
  simp
theorem freeN_held (X : Px) : freeN X X.m = !X.held := by
  unfold freeN Px.held
  rw [List.not_all_eq_any_not]
  congr 1
  funext k
  by_cases h : (X.fr k).h = 0
  · simp [h]
  · have : 0 < (X.fr k).h := by omega
    simp [h, this]
/-- the loop's state -/
structure Seek (w wr : World) (ρ : Rp) (i : Int) (N : Nat) (v : Value) (n : Nat) (ρ' : Rp) : Prop where
  p : Box w wr w.heap.size ρ' 38 ρ'.cs
  z : Box w wr (w.heap.size + 1) ρ' 38 zcs
  go : RpGo w ρ wr ρ'
  m : ρ'.X.m = ρ.X.m
  run : (v = .int .i64 (-1) ∧ n ≤ 3 * ρ.X.m ∧ ∃ t, Pass N ρ.X ρ'.X t (3 * ρ.X.m - n)) ∨ (∃ k : Nat, v = .int .i64 (k : Int) ∧ k < ρ.X.m ∧ findP ρ.X i = (ρ'.X.put k (Fr.new i), k, 0))
set_option maxRecDepth 100000 in
set_option maxHeartbeats 800000 in
theorem rfind_fresh (ρ : Rp) (i : Int) (w : World) {N : Nat} (h : ρ.Ok w) (o : ρ.X.Ok N) (ha : ρ.X.at i = none) (hc : ρ.X.c < ρ.X.m) (hi : 0 ≤ i ∧ i < ρ.X.d.n) (hN : N < 2305843009213693952) :
    Calls Tryd.prog 40 #[.agg ρ.cs, .int .i64 i] w (RpAt3 w ρ (findP ρ.X i)) := by
  have HP0 := Lib.hid (plF_none o hi.1 ha)
  have HE := Lib.hid (enter2 h)
  obtain ⟨kv, hkv⟩ : ∃ kv, plF ρ.X (-1) = kv := ⟨_, rfl⟩
  have HM := Lib.hid h.m1
  have HO := Lib.hid o
  have HA := Lib.hid ha
  have HI := Lib.hid hi
  have HN := Lib.hid hN
  have HC := Lib.hid hc
  obtain rfl : kv = (ρ.X.c : Int) := hkv.symm.trans (plF_empty o hc)
  have HK := Lib.hid (show plF ρ.X (-1) = (ρ.X.c : Int) from hkv)
  have HFP := Lib.hid (findP_fresh ha hc)
  clear h o ha hi hkv hN hc
  go_enter Tryd.func40, Tryd.ntmps40
  go_upto_region 1 with (fail)
  change Code.wp _ _ _ _ ((w.alloc (.cells ρ.cs 38)).alloc (.cells zcs 38))
  generalize (w.alloc (.cells ρ.cs 38)).alloc (.cells zcs 38) = w1 at HE ⊢
  have HP := Lib.hid HE.out.p
  have HZ := Lib.hid HE.out.z
  have HG := Lib.hid HE.out.go
  clear HE
  go_upto_region 2 with (first | (refine ld_pool rfl _ rfl HP.out rfl ?_) | (go_at_call 45; refine (rplace_at ρ i (-1) _ HG.out.ok HP0.out HG.out).mono ?_; rintro e w2 ⟨rfl, hg2, hb2⟩; have HG2 := Lib.hid hg2; have HP2 := Lib.hid (HP.out.below hb2); have HZ2 := Lib.hid (HZ.out.below hb2); clear hg2 hb2))
  go_upto_region 6 with (first | (refine ld_pool rfl _ rfl HP2.out rfl ?_) | (go_at_call 45; refine (rplace_at ρ (-1) (ρ.X.c : Int) _ HG2.out.ok HK.out HG2.out).mono ?_; rintro e w3 ⟨rfl, hg3, hb3⟩; have HG3 := Lib.hid hg3; have HP3 := Lib.hid (HP2.out.below hb3); have HZ3 := Lib.hid (HZ2.out.below hb3); clear hg3 hb3))
  clear HP HZ HG HP2 HZ2 HG2 HP0
  have c5 := HP3.out.c5
  have HR := Lib.hid HG3.out.ok.row
  go_wp2
  go_loop [8, 9] (fun b x => ∃ k : Nat, k ≤ ρ.X.m ∧ x = .int .i64 k ∧ b = .bool (freeN ρ.X k)) (fun _ x => ρ.X.m - (intOf x).toNat)
  case atStart => exact ⟨0, by omega, rfl, rfl⟩
  case round =>
    obtain ⟨k, hk, rfl, rfl⟩ := hrel
    by_cases hlt : k < ρ.X.m
    · have g4 := HR.out.at4 hlt
      have hlt' : (k : Int) < (ρ.X.m : Int) := by omega
      have j0 : (0 : Int) ≤ (k : Int) := by omega
      have hm1 : ρ.X.m ≤ 1024 := HM.out.2
      have HX := Lib.hid (freeN_next ρ.X k)
      cases hf : freeN ρ.X k
      · rw [hf] at HX
        have e : (((ρ.X.fr k).h : Int) == 0) = ((ρ.X.fr k).h == 0) := by
          by_cases q : (ρ.X.fr k).h = 0
          · simp [q]
          · have q2 : ¬ ((ρ.X.fr k).h : Int) = 0 := by omega
            rw [beq_eq_false_iff_ne.2 q2, beq_eq_false_iff_ne.2 q]
        have HX2 := Lib.hid (show (((ρ.X.fr k).h : Int) == 0) = freeN ρ.X (k + 1) by rw [e, HX.out]; rfl)
        clear hf e HX
        generalize ((ρ.X.fr k).h : Int) = y at g4 HX2
        go_wp2
        go_round
        case rel => exact ⟨k + 1, by omega, by go_num, by rw [← HX2.out]⟩
        case measure => simp [intOf]; omega
      · rw [hf] at HX
        clear hf
        go_wp2
        go_round
        case rel => exact ⟨k + 1, by omega, by go_num, by rw [HX.out]; rfl⟩
        case measure => simp [intOf]; omega
    · obtain rfl : k = ρ.X.m := by omega
      have c0 : (0 : Int) ≤ (ρ.X.c : Int) := by omega
      have c1 : ¬ (ρ.X.c : Int) < 0 := by omega
      generalize freeN ρ.X ρ.X.m = fb
      go_wp2
      go_loop [7, 10] (fun v x => v = .int .i64 (ρ.X.c : Int) ∧ x = .int .i64 0) (fun _ _ => 0)
      case atStart => exact ⟨rfl, rfl⟩
      case round =>
        obtain ⟨rfl, rfl⟩ := hrel
        go_wp2_with (first | (refine ld_pool rfl _ rfl HP3.out rfl ?_) | (go_at_call 41; refine (rwith_at ρ ρ ρ.X.c (Fr.new i) _ HG3.out HC.out i ⟨#[]⟩ false false 0 rfl rfl).mono ?_; rintro e w4 ⟨ρ2, rfl, hX, hg4, hG4⟩; have HX := Lib.hid hX; have HG4 := Lib.hid hG4; have HZ4 := Lib.hid (HZ3.out.go hg4); clear hX hg4 hG4) | (refine st_pool rfl _ _ rfl HZ4.out rfl rfl rfl ?_; intro w5 ho5 hz5; have HO5 := Lib.hid ho5; have HZ5 := Lib.hid hz5; clear ho5 hz5))
        refine post_pool3 rfl HZ5.out rfl rfl rfl rfl ?_
        rw [HFP.out]
        have e := HX.out
        refine ⟨ρ2.to (ρ.X.more.put ρ.X.c (Fr.new i)), ?_, rfl, (HG4.out.ony HO5.out (by omega) HZ5.out.off).to (by rw [e]; rfl) (by rw [e]; rfl) (by rw [e]; rfl)⟩
        rw [to_cs (by rw [e]; rfl) (by rw [e]; rfl) (by rw [e]; rfl)]
        rfl
end Go.Proofs.YtfhnnfheonkneaaDoor

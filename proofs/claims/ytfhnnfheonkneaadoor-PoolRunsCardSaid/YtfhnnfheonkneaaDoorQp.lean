/-
  THE WALK of the pool's find. Conditions: a pool lies in memory, and there is such a sector.
  THE WALK of the pool's find, where a frame gives way; and find whole. Conditions: a pool lies in memory, and there is such a sector.
-/
import Derived.Test.YtfhnnfheonkneaaDoorQo
namespace Go.Proofs.YtfhnnfheonkneaaDoor
open Go.RowKit Go.Maps

def frp (F : Nat) (r : Px × Nat × Int) : Value := if r.2.2 = 0 then framePtr F r.2.1 else .pointer none
def FoundAt (B N : Nat) (w : World) (μ : Mp) (r : Px × Nat × Int) (e : Ending) (w' : World) : Prop :=
  e = .returned (.tuple #[frp μ.F r, errv r.2.2]) ∧ Goes B N w μ r.1 w'
theorem findP_some {X : Px} {i : Int} {k : Nat} (h : X.at i = some k) : findP X i = (X, k, 0) := by unfold findP; rw [h]
theorem findP_fresh {X : Px} {i : Int} (h : X.at i = none) (hc : X.c < X.m) : findP X i = (X.more.put X.c (Fr.new i), X.c, 0) := by unfold findP; rw [h]; simp only; rw [if_pos hc]
theorem findP_give {X : Px} {i : Int} (h : X.at i = none) (hc : ¬ X.c < X.m) : findP X i = (if (giveP X).2.2 = 0 then ((giveP X).1.put (giveP X).2.1 (Fr.new i), (giveP X).2.1, 0) else ((giveP X).1, 0, (giveP X).2.2)) := by unfold findP; rw [h]; simp only; rw [if_neg hc]
theorem ret_found {F : Nat} {r : Px × Nat × Int} {k : Nat} (h0 : r.2.2 = 0) (hk : r.2.1 = k) : Ending.returned (.tuple #[.pointer (some ⟨F, k * 5, none⟩), .nilIface]) = .returned (.tuple #[frp F r, errv r.2.2]) := by
  unfold frp framePtr
  rw [if_pos h0, h0, hk, errv0]
theorem ret_none {F : Nat} {r : Px × Nat × Int} {c : Int} (hc : r.2.2 = c) (h0 : c ≠ 0) : Ending.returned (.tuple #[.pointer none, .iface 48 (.int .i64 c)]) = .returned (.tuple #[frp F r, errv r.2.2]) := by
  unfold frp
  rw [if_neg (by rw [hc]; exact h0), hc, errv1 h0]
set_option maxRecDepth 100000 in
set_option maxHeartbeats 1000000 in
theorem find_some {B N : Nat} (μ : Mp) (i : Int) (k : Nat) (w : World) (h : PoolAt B N w μ) (hi : 0 ≤ i ∧ i < μ.X.d.n) (ha : μ.X.at i = some k) :
    Calls Tryd.prog 35 #[.pointer (some ⟨μ.P, 0, none⟩), .int .i64 i] w (FoundAt B (N + 1) w μ (findP μ.X i)) := by
  rw [findP_some ha]
  obtain ⟨hk, hki⟩ := at_some ha
  have c1 := h.core.hd.c1
  have c2 := h.core.hd.c2
  have hn1 := h.core.ok.n1
  have hkey := key_of (x := i) (by omega)
  have hkm : k < μ.X.m := by have := h.core.ok.cm; omega
  have hm1 := h.core.ok.m1
  have i0 : (0 : Int) ≤ (k : Int) := by omega
  have i1 : (k : Int) < (μ.X.m : Int) := by omega
  have HO := Lib.hid (show Owns w μ.M μ.X.c μ.D from h.mo)
  have HH := Lib.hid ((h.mp.has i).2 ⟨k, hk, hki⟩)
  have HA := Lib.hid (show μ.D.atKey (.int .i64 i) (.lit (.int .i64 0)) = .lit (.int .i64 (k : Int)) by rw [← hki]; exact h.mp.at' k hk)
  have HP := Lib.hid h
  clear h ha hki
  go_enter Tryd.func35, Tryd.ntmps35
  go_wp2_with (at_lookup; refine wpList_lookup_own_ok_int _ rfl _ _ 63 rfl 3 3 .i64 klaw Tryd.underlying63 Tryd.underlying3 (zeroI _) μ.M μ.X.c μ.D rfl HO.out _ _ rfl hkey ?_; intro c hat hwc; rw [HA.out] at hat; obtain rfl : (k : Int) = c := (by injection hat with e; injection e); rw [HH.out]; clear hat hwc)
  go_ret2
  exact ⟨ret_found rfl rfl, μ, HP.out.mono (by omega), Stp.refl _ _, rfl, rfl, rfl, rfl⟩
set_option maxRecDepth 100000 in
set_option maxHeartbeats 1000000 in
theorem find_fresh {B N : Nat} (μ : Mp) (i : Int) (w : World) (h : PoolAt B N w μ) (hi : 0 ≤ i ∧ i < μ.X.d.n) (ha : μ.X.at i = none) (hc : μ.X.c < μ.X.m) :
    Calls Tryd.prog 35 #[.pointer (some ⟨μ.P, 0, none⟩), .int .i64 i] w (FoundAt B (N + 1) w μ (findP μ.X i)) := by
  rw [findP_fresh ha hc]
  have c1 := h.core.hd.c1
  have c2 := h.core.hd.c2
  have hn1 := h.core.ok.n1
  have hkey := key_of (x := i) (by omega)
  have hm1 := h.core.ok.m1
  have i0 : (0 : Int) ≤ (μ.X.c : Int) := by omega
  have i1 : (μ.X.c : Int) < (μ.X.m : Int) := by omega
  have hne : ((μ.X.c : Int) == (μ.X.m : Int)) = false := by simp; omega
  have HO := Lib.hid (show Owns w μ.M μ.X.c μ.D from h.mo)
  have HH := Lib.hid (show Maps.has μ.D (.int .i64 i) = false by
    cases hh : Maps.has μ.D (.int .i64 i)
    · rfl
    · obtain ⟨k, h1, h2⟩ := (h.mp.has i).1 hh
      exact absurd h2 (at_none ha k h1))
  have HSZ := Lib.hid h.mp.size
  have HP := Lib.hid h
  have HC := Lib.hid hc
  have HAT := Lib.hid ha
  have PF := h.core.fx.PF
  have HPM := Lib.hid h.core.fx.PM
  have HFM := Lib.hid (show μ.M ≠ μ.F from fun e => h.core.fx.FM e.symm)
  have HPL := Lib.hid (World.block_lt_of_cell? w _ h.core.hd.c0)
  have HI := Lib.hid hi
  clear h ha hi
  have hwc := WalkArith.wf_i64 (n := (μ.X.c : Int)) (by omega)
  have hcm : μ.X.c < maxLen := by unfold maxLen; omega
  have HM := Lib.hid HP.out.mo.lt
  go_enter Tryd.func35, Tryd.ntmps35
  go_upto_region 10 with (first | (at_lookup; refine wpList_lookup_own_ok_int _ rfl _ _ 63 rfl 3 3 .i64 klaw Tryd.underlying63 Tryd.underlying3 (zeroI _) μ.M μ.X.c μ.D rfl HO.out _ _ rfl hkey ?_; intro c hat hwc; rw [HH.out]; clear hat hwc) | (at_len; refine wpList_len_own _ rfl _ 63 rfl 3 3 Tryd.underlying63 _ μ.M μ.X.c μ.D rfl HO.out ?_; rw [HSZ.out]))
  go_wp2_with (first | (refine wpList_store_frame rfl (.tmp 52) (.tmp 51) rfl HP.out.core.row HC.out i rfl rfl ?_; intro w1 hF; have d2 := (World.cell?_of_block (hF.block μ.P PF)).trans c2; have d1 := (World.cell?_of_block (hF.block μ.P PF)).trans c1; have HO1 := Lib.hid (owns_same HO.out (hF.block μ.M HFM.out)); have HF := Lib.hid hF; clear hF) | (at_mapUpdate; refine wpList_mapUpdate_in _ rfl _ _ _ 63 rfl 3 3 klaw Tryd.underlying63 _ μ.M μ.X.c μ.D rfl HO1.out hcm _ _ _ rfl rfl hkey _ [] (plainElem_int Tryd.underlying3 hwc) ?_; intro w2 hown2 hturn2; have e1 := (World.cell?_of_block (hturn2.grown.block μ.P (by rw [HF.out.size]; exact HPL.out) (fun e => HPM.out (Option.some.inj e)))).trans d1; have HO2 := Lib.hid hown2; have HT := Lib.hid hturn2; clear hown2 hturn2))
  go_ret2
  have hok := HP.out.core.ok.fill HI.out HC.out HAT.out
  exact ⟨ret_found rfl rfl, _, ⟨HP.out.core.newF (M := N + 1) (c := μ.X.c + 1) i HF.out HM.out HT.out _ (hok.mono (by omega)), HO2.out, HP.out.mp.fresh HAT.out⟩, stp_newF HF.out HT.out, rfl, rfl, rfl, rfl⟩
end Go.Proofs.YtfhnnfheonkneaaDoor
namespace Go.Proofs.YtfhnnfheonkneaaDoor
open Go.RowKit Go.Maps

theorem give_any {B N : Nat} (μ : Mp) (w : World) (h : PoolAt B N w μ) (hc : μ.X.c = μ.X.m) (hN : N < 2305843009213693952) :
    Calls Tryd.prog 57 #[.pointer (some ⟨μ.P, 0, none⟩)] w (GiveAt B (N + 1) w μ (giveP μ.X)) := by
  cases hh : μ.X.held
  · exact give_not μ w h hc hh hN
  · exact give_held μ w h hh
/-- what gives way -/
structure Gave (X Y : Px) (k : Nat) : Prop where
  c : Y.c = X.c
  m : Y.m = X.m
  n : Y.d.n = X.d.n
  lt : k < Y.c
  i : ∀ j, (Y.fr j).i = (X.fr j).i
theorem turned_i {X Y : Px} {k : Nat} (h : Turned X Y k) (j : Nat) : (Y.fr j).i = (X.fr j).i := by rcases h.fr j with e | e <;> rw [e]
theorem cleanP_n (X : Px) (k : Nat) : (cleanP X k).1.d.n = X.d.n := by
  unfold cleanP
  split
  · rfl
  · split <;> rfl
theorem give_gave {N : Nat} {X : Px} (o : X.Ok N) (hc : X.c = X.m) (h : (giveP X).2.2 = 0) : Gave X (giveP X).1 (giveP X).2.1 := by
  cases hh : X.held
  · obtain ⟨t, ht, h0⟩ := held_no hh
    have hf := far_le X t o.m0
    have T := (turn_any (3 * X.m) X t o hc ht h0 (by omega)).1
    rw [giveP_not hh] at h ⊢
    generalize turnP (3 * X.m) X = r at T h ⊢
    obtain ⟨Y, k⟩ := r
    simp only at T h ⊢
    rw [if_pos h]
    have C := cleanP_c Y k
    exact ⟨C.1.trans T.c, C.2.1.trans T.m, (cleanP_n Y k).trans (by rw [T.d]), by rw [C.1, T.c, hc]; exact T.lt, fun j => (C.2.2 j).trans (turned_i T j)⟩
  · rw [giveP_held hh] at h
    exact absurd (show (10 : Int) = 0 from h) (by decide)
theorem give_zero {B N : Nat} {w : World} {μ : Mp} {Y : Px} {k f : Nat} {vs : Array Value} (h : Calls Tryd.prog f vs w (GiveAt B N w μ (Y, k, 0))) : Calls Tryd.prog f vs w fun e w' => e = .returned (.tuple #[.int .i64 (k : Int), .nilIface]) ∧ Given B N w μ Y k w' :=
  h.mono fun _ _ ⟨he, _, hg⟩ => ⟨he.trans (by show Ending.returned (.tuple #[.int .i64 (k : Int), errv 0]) = _; rw [errv0]), hg rfl⟩
theorem give_bad {B N : Nat} {w : World} {μ : Mp} {Y : Px} {k f : Nat} {err : Int} {vs : Array Value} (h : Calls Tryd.prog f vs w (GiveAt B N w μ (Y, k, err))) (hne : err ≠ 0) : Calls Tryd.prog f vs w fun e w' => e = .returned (.tuple #[.int .i64 (k : Int), .iface 48 (.int .i64 err)]) ∧ Goes B N w μ Y w' :=
  h.mono fun _ _ ⟨he, hg, _⟩ => ⟨he.trans (by show Ending.returned (.tuple #[.int .i64 (k : Int), errv err]) = _; rw [errv1 hne]), hg hne⟩
theorem at_congr {X Y : Px} (hc : Y.c = X.c) (hi : ∀ j, (Y.fr j).i = (X.fr j).i) (i : Int) : Y.at i = X.at i := by
  unfold Px.at
  rw [hc]
  congr 1
  funext k
  rw [hi]
set_option maxRecDepth 100000 in
set_option maxHeartbeats 1000000 in
theorem find_give {B N : Nat} (μ : Mp) (i : Int) (w : World) (h : PoolAt B N w μ) (hi : 0 ≤ i ∧ i < μ.X.d.n) (ha : μ.X.at i = none) (hc : ¬ μ.X.c < μ.X.m) (hN : N < 2305843009213693952) :
    Calls Tryd.prog 35 #[.pointer (some ⟨μ.P, 0, none⟩), .int .i64 i] w (FoundAt B (N + 1) w μ (findP μ.X i)) := by
  rw [findP_give ha hc]
  have hcm : μ.X.c = μ.X.m := by have := h.core.ok.cm; omega
  have c1 := h.core.hd.c1
  have c2 := h.core.hd.c2
  have hn1 := h.core.ok.n1
  have hkey := key_of (x := i) (by omega)
  have hm1 := h.core.ok.m1
  have hne : ((μ.X.m : Int) == (μ.X.m : Int)) = true := beq_self_eq_true _
  have HO := Lib.hid (show Owns w μ.M μ.X.c μ.D from h.mo)
  have HH := Lib.hid (show Maps.has μ.D (.int .i64 i) = false by
    cases hh : Maps.has μ.D (.int .i64 i)
    · rfl
    · obtain ⟨k, h1, h2⟩ := (h.mp.has i).1 hh
      exact absurd h2 (at_none ha k h1))
  have HSZ := Lib.hid (h.mp.size.trans hcm)
  have HG := Lib.hid (give_any μ w h hcm hN)
  have HGV := Lib.hid (give_gave h.core.ok hcm)
  have HAT := Lib.hid ha
  have HI := Lib.hid hi
  generalize giveP μ.X = r at HG HGV ⊢
  obtain ⟨Y, k, err⟩ := r
  simp only at HGV ⊢
  clear h ha hi hcm hc
  by_cases he : err = 0
  · subst he
    rw [if_pos rfl]
    have HV := Lib.hid (HGV.out rfl)
    clear HGV
    have HG2 := Lib.hid (give_zero HG.out)
    clear HG
    go_enter Tryd.func35, Tryd.ntmps35
    go_upto_region 10 with (first | (at_lookup; refine wpList_lookup_own_ok_int _ rfl _ _ 63 rfl 3 3 .i64 klaw Tryd.underlying63 Tryd.underlying3 (zeroI _) μ.M μ.X.c μ.D rfl HO.out _ _ rfl hkey ?_; intro c hat hwc; rw [HH.out]; clear hat hwc) | (at_len; refine wpList_len_own _ rfl _ 63 rfl 3 3 Tryd.underlying63 _ μ.M μ.X.c μ.D rfl HO.out ?_; rw [HSZ.out]) | (go_at_call 57; refine HG2.out.mono ?_; rintro e w3 ⟨rfl, hg⟩; have HG3 := Lib.hid hg; clear hg))
    obtain ⟨μ2, hcore, hmp, hown, hs, ⟨eP, eF, eD⟩, eX⟩ := HG3.out
    have hkY : k < μ2.X.c := by rw [eX]; exact HV.out.lt
    have hm2 : k < μ2.X.m := by have := hcore.ok.cm; omega
    have em : μ2.X.m = μ.X.m := by rw [eX]; exact HV.out.m
    have d1 := hcore.hd.c1
    have d2 := hcore.hd.c2
    have PF := hcore.fx.PF
    have HPM := Lib.hid hcore.fx.PM
    have HFM := Lib.hid (show μ2.M ≠ μ2.F from fun e => hcore.fx.FM e.symm)
    have HPL := Lib.hid (World.block_lt_of_cell? w3 _ hcore.hd.c0)
    have i0 : (0 : Int) ≤ (k : Int) := by omega
    have i1 : (k : Int) < (μ.X.m : Int) := by omega
    have hwk := WalkArith.wf_i64 (n := (k : Int)) (by omega)
    have hcl : μ2.X.c < maxLen := by unfold maxLen; have := hcore.ok.cm; omega
    have HS := Lib.hid hs
    have HC := Lib.hid hcore
    have HMP := Lib.hid hmp
    have HOW := Lib.hid hown
    have HX := Lib.hid eX
    have HE := Lib.hid (show μ2.P = μ.P ∧ μ2.F = μ.F ∧ μ2.s.D = μ.s.D from ⟨eP, eF, eD⟩)
    have HKY := Lib.hid hkY
    rw [eP, eF, em] at d1
    rw [eP] at d2
    clear hs hcore hmp hown eX eP eF eD em hkY HG3
    go_wp2_with (first | (refine wpList_store_frame rfl (.tmp 52) (.tmp 51) rfl HC.out.row hm2 i (by rw [HE.out.2.1]; rfl) rfl ?_; intro w1 hF; have d12 := (World.cell?_of_block (hF.block μ2.P PF)).trans ((congrArg (fun p => w3.cell? ⟨p, 2, none⟩) HE.out.1).trans d2); have d11 := (World.cell?_of_block (hF.block μ2.P PF)).trans ((congrArg (fun p => w3.cell? ⟨p, 1, none⟩) HE.out.1).trans d1); rw [HE.out.1] at d12 d11; have HO1 := Lib.hid (owns_same HOW.out (hF.block μ2.M HFM.out)); have HF := Lib.hid hF; clear hF) | (at_mapUpdate; refine wpList_mapUpdate_in _ rfl _ _ _ 63 rfl 3 3 klaw Tryd.underlying63 _ μ2.M μ2.X.c _ rfl HO1.out hcl _ _ _ rfl rfl hkey _ [] (plainElem_int Tryd.underlying3 hwk) ?_; intro w2 hown2 hturn2; have e1 := (World.cell?_of_block (hturn2.grown.block μ2.P (by rw [HF.out.size]; exact HPL.out) (fun e => HPM.out (Option.some.inj e)))).trans ((congrArg (fun p => w1.cell? ⟨p, 1, none⟩) HE.out.1).trans d11); rw [HE.out.1] at e1; have HO2 := Lib.hid hown2; have HT := Lib.hid hturn2; clear hown2 hturn2))
    go_ret2
    have hat2 : μ2.X.at i = none := by rw [HX.out, at_congr HV.out.c HV.out.i]; exact HAT.out
    have hi2 : 0 ≤ i ∧ i < μ2.X.d.n := by rw [HX.out, HV.out.n]; exact HI.out
    have hok := HC.out.ok.over hi2 HKY.out hat2
    have hM2 : μ2.M < w3.heap.size := HOW.out.lt
    have hmo := HMP.out.over HC.out.ok HKY.out hat2
    rw [← show (μ2.X.fr k).i = (Y.fr k).i by rw [HX.out]] at HO2
    have hO3 := owns_tight HO2.out
    rw [hmo.size] at hO3
    refine ⟨ret_found rfl rfl, _, ⟨HC.out.newF (M := N + 1) (c := μ2.X.c) i HF.out hM2 HT.out _ hok, hO3, hmo⟩, HS.out.trans (stp_newF HF.out HT.out), HE.out.1, HE.out.2.1, HE.out.2.2, ?_⟩
    show (μ2.X.cut μ2.X.c).put k (Fr.new i) = Y.put k (Fr.new i)
    rw [HX.out]
    rfl
  · rw [if_neg he]
    have HG2 := Lib.hid (give_bad HG.out he)
    clear HG
    go_enter Tryd.func35, Tryd.ntmps35
    go_wp2_with (first | (at_lookup; refine wpList_lookup_own_ok_int _ rfl _ _ 63 rfl 3 3 .i64 klaw Tryd.underlying63 Tryd.underlying3 (zeroI _) μ.M μ.X.c μ.D rfl HO.out _ _ rfl hkey ?_; intro c hat hwc; rw [HH.out]; clear hat hwc) | (at_len; refine wpList_len_own _ rfl _ 63 rfl 3 3 Tryd.underlying63 _ μ.M μ.X.c μ.D rfl HO.out ?_; rw [HSZ.out]) | (go_at_call 57; refine HG2.out.mono ?_; rintro e w3 ⟨rfl, hg⟩; have HG3 := Lib.hid hg; clear hg))
    go_ret2
    exact ⟨ret_none rfl he, HG3.out⟩
theorem find_any {B N : Nat} (μ : Mp) (i : Int) (w : World) (h : PoolAt B N w μ) (hi : 0 ≤ i ∧ i < μ.X.d.n) (hN : N < 2305843009213693952) :
    Calls Tryd.prog 35 #[.pointer (some ⟨μ.P, 0, none⟩), .int .i64 i] w (FoundAt B (N + 1) w μ (findP μ.X i)) := by
  cases ha : μ.X.at i with
  | some k => exact find_some μ i k w h hi ha
  | none =>
    by_cases hc : μ.X.c < μ.X.m
    · exact find_fresh μ i w h hi ha hc
    · exact find_give μ i w h hi ha hc hN
end Go.Proofs.YtfhnnfheonkneaaDoor

/-
  THE WALK of the pool's find. Conditions: a pool lies in memory, and there is such a sector.
-/
import Derived.Test.YtkmedlbokneegaaDoorGj
namespace Go.Proofs.YtkmedlbokneegaaDoor
open Go.RowKit Go.Maps

def frp (F : Nat) (r : Px × Nat × Int) : Value := if r.2.2 = 0 then framePtr F r.2.1 else .pointer none
def FoundAt (B N : Nat) (w : World) (μ : Mp) (r : Px × Nat × Int) (e : Ending) (w' : World) : Prop :=
  e = .returned (.tuple #[frp μ.F r, errv r.2.2]) ∧ Goes B N w μ r.1 w'
theorem findP_some {X : Px} {i : Int} {k : Nat} (h : X.at i = some k) : findP X i = (X, k, 0) := by unfold findP; rw [h]
theorem findP_fresh {X : Px} {i : Int} (h : X.at i = none) (hc : X.c < X.m) : findP X i = (X.more.put X.c (Fr.new i), X.c, 0) := by unfold findP; rw [h]; simp only; rw [if_pos hc]
theorem findP_give {X : Px} {i : Int} (h : X.at i = none) (hc : ¬ X.c < X.m) : findP X i = (if (giveP X).2.2 = 0 then ((giveP X).1.put (giveP X).2.1 (Fr.new i), (giveP X).2.1, 0) else ((giveP X).1, 0, (giveP X).2.2)) := by unfold findP; rw [h]; simp only; rw [if_neg hc]
theorem ret_found {F : Nat} {r : Px × Nat × Int} {k : Nat} (h0 : r.2.2 = 0) (hk : r.2.1 = k) : Ending.returned (.tuple #[.pointer (some ⟨F, k * 5, none⟩), .nilIface]) = .returned (.tuple #[frp F r, errv r.2.2]) := by
  unfold frp framePtr
  rw [if_pos h0, h0, hk, errv0]
theorem ret_none {F : Nat} {r : Px × Nat × Int} {c : Int} (hc : r.2.2 = c) (h0 : c ≠ 0) : Ending.returned (.tuple #[.pointer none, .iface 60 (.int .i64 c)]) = .returned (.tuple #[frp F r, errv r.2.2]) := by
  unfold frp
  rw [if_neg (by rw [hc]; exact h0), hc, errv1 h0]
set_option maxRecDepth 100000 in
set_option maxHeartbeats 1000000 in
theorem find_some {B N : Nat} (μ : Mp) (i : Int) (k : Nat) (w : World) (h : PoolAt B N w μ) (hi : 0 ≤ i ∧ i < μ.X.d.n) (ha : μ.X.at i = some k) :
    Calls Tryd.prog 40 #[.pointer (some ⟨μ.P, 0, none⟩), .int .i64 i] w (FoundAt B (N + 1) w μ (findP μ.X i)) := by
  rw [findP_some ha]
  obtain ⟨hk, hki⟩ := at_some ha
  have c1 := h.core.hd.c1
  have c2 := h.core.hd.c2
  have hn1 := h.core.ok.n1
  have hkey := key_of (x := i) (by omega)
  have hkm : k < μ.X.m := by have := h.core.ok.cm; omega
  have hm1 := h.core.ok.m1
  have i0 : (0 : Int) ≤ (k : Int) := by omega
  have i1 : (k : Int) < (μ.X.m : Int) := by omega
  have HO := Lib.hid (show Owns w μ.M μ.X.c μ.D from h.mo)
  have HH := Lib.hid ((h.mp.has i).2 ⟨k, hk, hki⟩)
  have HA := Lib.hid (show μ.D.atKey (.int .i64 i) (.lit (.int .i64 0)) = .lit (.int .i64 (k : Int)) by rw [← hki]; exact h.mp.at' k hk)
  have HP := Lib.hid h
  clear h ha hki
  go_enter Tryd.func40, Tryd.ntmps40
  go_wp2_with (at_lookup; refine wpList_lookup_own_ok_int _ rfl _ _ 74 rfl 3 3 .i64 klaw Tryd.underlying74 Tryd.underlying3 (zeroI _) μ.M μ.X.c μ.D rfl HO.out _ _ rfl hkey ?_; intro c hat hwc; rw [HA.out] at hat; obtain rfl : (k : Int) = c := (by injection hat with e; injection e); rw [HH.out]; clear hat hwc)
  go_ret2
  exact ⟨ret_found rfl rfl, μ, HP.out.mono (by omega), Stp.refl _ _, rfl, rfl, rfl, rfl⟩
set_option maxRecDepth 100000 in
set_option maxHeartbeats 1000000 in
theorem find_fresh {B N : Nat} (μ : Mp) (i : Int) (w : World) (h : PoolAt B N w μ) (hi : 0 ≤ i ∧ i < μ.X.d.n) (ha : μ.X.at i = none) (hc : μ.X.c < μ.X.m) :
    Calls Tryd.prog 40 #[.pointer (some ⟨μ.P, 0, none⟩), .int .i64 i] w (FoundAt B (N + 1) w μ (findP μ.X i)) := by
  rw [findP_fresh ha hc]
  have c1 := h.core.hd.c1
  have c2 := h.core.hd.c2
  have hn1 := h.core.ok.n1
  have hkey := key_of (x := i) (by omega)
  have hm1 := h.core.ok.m1
  have i0 : (0 : Int) ≤ (μ.X.c : Int) := by omega
  have i1 : (μ.X.c : Int) < (μ.X.m : Int) := by omega
  have hne : ((μ.X.c : Int) == (μ.X.m : Int)) = false := by simp; omega
  have HO := Lib.hid (show Owns w μ.M μ.X.c μ.D from h.mo)
  have HH := Lib.hid (show Maps.has μ.D (.int .i64 i) = false by
    cases hh : Maps.has μ.D (.int .i64 i)
    · rfl
    · obtain ⟨k, h1, h2⟩ := (h.mp.has i).1 hh
      exact absurd h2 (at_none ha k h1))
  have HSZ := Lib.hid h.mp.size
  have HP := Lib.hid h
  have HC := Lib.hid hc
  have HAT := Lib.hid ha
  have PF := h.core.fx.PF
  have HPM := Lib.hid h.core.fx.PM
  have HFM := Lib.hid (show μ.M ≠ μ.F from fun e => h.core.fx.FM e.symm)
  have HPL := Lib.hid (World.block_lt_of_cell? w _ h.core.hd.c0)
  have HI := Lib.hid hi
  clear h ha hi
  have hwc := WalkArith.wf_i64 (n := (μ.X.c : Int)) (by omega)
  have hcm : μ.X.c < maxLen := by unfold maxLen; omega
  have HM := Lib.hid HP.out.mo.lt
  go_enter Tryd.func40, Tryd.ntmps40
  go_upto_region 10 with (first | (at_lookup; refine wpList_lookup_own_ok_int _ rfl _ _ 74 rfl 3 3 .i64 klaw Tryd.underlying74 Tryd.underlying3 (zeroI _) μ.M μ.X.c μ.D rfl HO.out _ _ rfl hkey ?_; intro c hat hwc; rw [HH.out]; clear hat hwc) | (at_len; refine wpList_len_own _ rfl _ 74 rfl 3 3 Tryd.underlying74 _ μ.M μ.X.c μ.D rfl HO.out ?_; rw [HSZ.out]))
  go_wp2_with (first | (refine wpList_store_frame rfl (.tmp 52) (.tmp 51) rfl HP.out.core.row HC.out i rfl rfl ?_; intro w1 hF; have d2 := (World.cell?_of_block (hF.block μ.P PF)).trans c2; have d1 := (World.cell?_of_block (hF.block μ.P PF)).trans c1; have HO1 := Lib.hid (owns_same HO.out (hF.block μ.M HFM.out)); have HF := Lib.hid hF; clear hF) | (at_mapUpdate; refine wpList_mapUpdate_in _ rfl _ _ _ 74 rfl 3 3 klaw Tryd.underlying74 _ μ.M μ.X.c μ.D rfl HO1.out hcm _ _ _ rfl rfl hkey _ [] (plainElem_int Tryd.underlying3 hwc) ?_; intro w2 hown2 hturn2; have e1 := (World.cell?_of_block (hturn2.grown.block μ.P (by rw [HF.out.size]; exact HPL.out) (fun e => HPM.out (Option.some.inj e)))).trans d1; have HO2 := Lib.hid hown2; have HT := Lib.hid hturn2; clear hown2 hturn2))
  go_ret2
  have hok := HP.out.core.ok.fill HI.out HC.out HAT.out
  exact ⟨ret_found rfl rfl, _, ⟨HP.out.core.newF (M := N + 1) (c := μ.X.c + 1) i HF.out HM.out HT.out _ (hok.mono (by omega)), HO2.out, HP.out.mp.fresh HAT.out⟩, stp_newF HF.out HT.out, rfl, rfl, rfl, rfl⟩
end Go.Proofs.YtkmedlbokneegaaDoor

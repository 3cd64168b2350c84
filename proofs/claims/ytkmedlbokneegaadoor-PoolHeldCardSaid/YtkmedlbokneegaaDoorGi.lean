/-
  THE WALK of the pool's giveWay. Conditions: a pool lies in memory, all of whose frames hold a sector.
-/
import Derived.Test.YtkmedlbokneegaaDoorDk
namespace Go.Proofs.YtkmedlbokneegaaDoor
open Go.RowKit Go.Maps

theorem klaw : Keyed Tryd.prog 3 := int_keyed Tryd.underlying3
set_option maxRecDepth 100000 in
theorem zeroI (w : World) : (zeroValue 3).run Tryd.prog w = .ok (.int .i64 0) w := by kernel_rfl
theorem key_of {x : Int} (h : -9223372036854775808 ≤ x ∧ x ≤ 9223372036854775807) : keyOf Tryd.prog 3 (.int .i64 x) = some (.int .i64 x) := keyOf_int_mk Tryd.underlying3 (WalkArith.wf_i64 h)

theorem giveP_held {X : Px} (h : X.held = true) : giveP X = (X, 0, 10) := by unfold giveP; rw [if_pos h]
theorem giveP_not {X : Px} (h : X.held = false) : giveP X = ((cleanP (turnP (3 * X.m) X).1 (turnP (3 * X.m) X).2).1, if (cleanP (turnP (3 * X.m) X).1 (turnP (3 * X.m) X).2).2 = 0 then (turnP (3 * X.m) X).2 else 0, (cleanP (turnP (3 * X.m) X).1 (turnP (3 * X.m) X).2).2) := by unfold giveP; rw [if_neg (by rw [h]; decide)]
/-- a frame that gives way: its sector is no longer in the map -/
def Given (B N : Nat) (w : World) (μ : Mp) (X : Px) (k : Nat) (w' : World) : Prop :=
  ∃ μ', Core B N w' μ' ∧ MapOk μ'.X μ'.D ∧ Owns w' μ'.M μ'.X.c (μ'.D.del (.int .i64 (X.fr k).i)) ∧ Stp w μ.all w' μ'.all ∧ (μ'.P = μ.P ∧ μ'.F = μ.F ∧ μ'.s.D = μ.s.D) ∧ μ'.X = X
def GiveAt (B N : Nat) (w : World) (μ : Mp) (r : Px × Nat × Int) (e : Ending) (w' : World) : Prop :=
  e = .returned (.tuple #[.int .i64 (r.2.1 : Int), errv r.2.2]) ∧ (r.2.2 ≠ 0 → Goes B N w μ r.1 w') ∧ (r.2.2 = 0 → Given B N w μ r.1 r.2.1 w')
theorem Goes.trans {B N M : Nat} {w w1 w2 : World} {μ μ1 : Mp} {X : Px} (hs : Stp w μ.all w1 μ1.all) (he : μ1.P = μ.P ∧ μ1.F = μ.F ∧ μ1.s.D = μ.s.D) (hN : N ≤ M) (h : Goes B N w1 μ1 X w2) : Goes B M w μ X w2 := by
  obtain ⟨μ2, h1, h2, h3, h4, h5, h6⟩ := h
  exact ⟨μ2, h1.mono hN, hs.trans h2, h3.trans he.1, h4.trans he.2.1, h5.trans he.2.2, h6⟩
theorem cleanP_c (X : Px) (k : Nat) : (cleanP X k).1.c = X.c ∧ (cleanP X k).1.m = X.m ∧ ∀ j, ((cleanP X k).1.fr j).i = (X.fr j).i := by
  unfold cleanP
  split
  · exact ⟨rfl, rfl, fun _ => rfl⟩
  · split
    · exact ⟨rfl, rfl, fun _ => rfl⟩
    · refine ⟨rfl, rfl, fun j => ?_⟩
      rw [put_fr]
      split
      · rename_i e; rw [e]
      · rfl
set_option maxRecDepth 100000 in
set_option maxHeartbeats 1000000 in
theorem give_held {B N : Nat} (μ : Mp) (w : World) (h : PoolAt B N w μ) (hh : μ.X.held = true) :
    Calls Tryd.prog 63 #[.pointer (some ⟨μ.P, 0, none⟩)] w (GiveAt B (N + 1) w μ (giveP μ.X)) := by
  have c1 := h.core.hd.c1
  have HC := Lib.hid (contains_any μ.F μ.X.m μ.X μ.a μ.cp w h.core.ok.m1 h.core.row)
  have HP := Lib.hid h
  rw [giveP_held hh]
  rw [hh] at HC
  clear h hh
  go_enter Tryd.func63, Tryd.ntmps63
  go_wp2_with (go_at_call 79; refine HC.out.mono ?_; rintro e w' ⟨rfl, hb⟩; have HB := Lib.hid hb; clear hb)
  go_ret2
  exact ⟨by show _ = Ending.returned (.tuple #[_, errv 10]); rw [errv1 (by decide)]; rfl, fun _ => ⟨_, (HP.out.below HB.out).mono (by omega), .of_below HB.out, rfl, rfl, rfl, rfl⟩, fun e => absurd (show (10 : Int) = 0 from e) (by decide)⟩
set_option maxRecDepth 100000 in
set_option maxHeartbeats 1000000 in
theorem give_not {B N : Nat} (μ : Mp) (w : World) (h : PoolAt B N w μ) (hc : μ.X.c = μ.X.m) (hh : μ.X.held = false) (hN : N < 2305843009213693952) :
    Calls Tryd.prog 63 #[.pointer (some ⟨μ.P, 0, none⟩)] w (GiveAt B (N + 1) w μ (giveP μ.X)) := by
  have c1 := h.core.hd.c1
  have hm1 := h.core.ok.m1
  have HC := Lib.hid (contains_any μ.F μ.X.m μ.X μ.a μ.cp w h.core.ok.m1 h.core.row)
  have HT : Hid (Turned μ.X (turnP (3 * μ.X.m) μ.X).1 (turnP (3 * μ.X.m) μ.X).2) := by
    obtain ⟨t, ht, h0⟩ := held_no hh
    have hf := far_le μ.X t h.core.ok.m0
    exact Lib.hid (turn_any _ μ.X t h.core.ok hc ht h0 (by omega)).1
  have HTW := fun w' (hb : Below w.heap.size w w') => turn_any' μ w' (h.below hb) hc hh
  have HP := Lib.hid h
  rw [giveP_not hh]
  rw [hh] at HC
  generalize turnP (3 * μ.X.m) μ.X = r at HT HTW ⊢
  have HTWH := Lib.hid HTW
  have HCM := Lib.hid hc
  clear h hh HTW hc
  obtain ⟨Y, k⟩ := r
  have hk := HT.out.lt
  simp only at hk HT HTWH ⊢
  have i0 : (0 : Int) ≤ (k : Int) := by omega
  have i1 : (k : Int) < (μ.X.m : Int) := by omega
  have hkc : k < Y.c := by have := HT.out.c; have := HCM.out; omega
  have hcc := cleanP_c Y k
  rcases hz : cleanP Y k with ⟨Z, err⟩
  simp only [hz] at hcc ⊢
  have HCC := Lib.hid hcc
  have HZ := Lib.hid hz
  clear hz hcc
  by_cases he : err = 0
  · subst he
    rw [if_pos rfl]
    go_enter Tryd.func63, Tryd.ntmps63
    go_upto_region 5 with (first | (go_at_call 79; refine HC.out.mono ?_; rintro e w1 ⟨rfl, hb⟩; have HB := Lib.hid hb; clear hb) | (go_at_call 80; refine (HTWH.out _ HB.out).mono ?_; rintro e w2 ⟨rfl, hg⟩; have HG := Lib.hid hg; clear hg))
    obtain ⟨μ1, hp1, hs1, eP, eF, eD, eX⟩ := HG.out
    have HE := Lib.hid (show μ1.P = μ.P ∧ μ1.F = μ.F ∧ μ1.s.D = μ.s.D from ⟨eP, eF, eD⟩)
    have HS1 := Lib.hid ((Stp.of_below HB.out).trans hs1)
    have em : μ1.X.m = μ.X.m := by rw [eX]; exact HT.out.m
    have c1 := hp1.core.hd.c1
    have HCL := Lib.hid (clean_any μ1 k w2 hp1 (by rw [eX]; exact hkc) hN)
    rw [eP, eF, em] at c1
    rw [eP, eF, eX] at HCL
    have HP1 := Lib.hid hp1
    have HX1 := Lib.hid eX
    clear hp1 hs1 eP eF eD eX em HG
    unfold framePtr at HCL
    rw [HZ.out] at HCL
    rw [errv0] at HCL
    go_upto_region 9 with (go_at_call 41; refine HCL.out.mono ?_; rintro e w3 ⟨rfl, hg⟩; have HG := Lib.hid hg; clear hg)
    obtain ⟨μ2, hp2, hs2, eP, eF, eD, eX⟩ := HG.out
    have em : k < μ2.X.m := by rw [eX, HCC.out.2.1, HT.out.m]; exact hk
    have hkc2 : k < μ2.X.c := by rw [eX, HCC.out.1]; exact hkc
    have c2 := hp2.core.hd.c2
    have g0 := hp2.core.row.at0 em
    have hsec := hp2.core.ok.sec k hkc2
    have hn1 := hp2.core.ok.n1
    have hkey := key_of (x := (μ2.X.fr k).i) (by omega)
    have HO := Lib.hid (show Owns w3.drew μ2.M μ2.X.c μ2.D from hp2.mo.drew)
    have HP2 := Lib.hid hp2
    have HS2 := Lib.hid hs2
    have HE2 := Lib.hid (show μ2.P = μ.P ∧ μ2.F = μ.F ∧ μ2.s.D = μ.s.D from ⟨eP.trans HE.out.1, eF.trans HE.out.2.1, eD.trans HE.out.2.2⟩)
    rw [HE2.out.1] at c2
    rw [HE2.out.2.1] at g0
    have HX2 := Lib.hid eX
    clear hp2 hs2 eP eF eD eX em hkc2 HG hsec
    go_still_tail 8, (by kernel_rfl)
    change wpList _ _ _ _ _ w3.drew
    go_wp2_with (at_delete; refine wpList_delete_own _ rfl _ _ 74 3 rfl 3 klaw Tryd.underlying74 _ μ2.M μ2.X.c μ2.D rfl HO.out _ _ rfl hkey ?_; intro w4 hown4 hturn4; have HO4 := Lib.hid hown4; have HT4 := Lib.hid hturn4; clear hown4 hturn4)
    go_ret2
    have hg4 := HT4.out.grown
    have hd := HP2.out.drew
    have hb4 : ∀ b, b ≠ μ2.M → b < w3.drew.heap.size → w4.heap[b]? = w3.drew.heap[b]? := fun b hb hl => hg4.block b hl (fun e => hb (Option.some.inj e))
    refine ⟨by show _ = Ending.returned (.tuple #[_, errv 0]); rw [errv0]; rfl, fun e => absurd rfl e, fun _ => ⟨μ2, hd.core.moved hg4.size fun b hb hM => hb4 b hM (hd.lt b hb).2, hd.mp, ?_, HS1.out.trans (HS2.out.trans (.write μ2.M (.inl (.inr (.inr (.inl rfl)))) hg4.os hg4.tape hg4.output hg4.size (fun b hl hb => hb4 b hb hl) (fun b hb => .inl hb))), HE2.out, HX2.out⟩⟩
    rw [HX2.out] at HO4
    have := HO4.out
    rw [← HX2.out] at this ⊢
    exact this
  · rw [if_neg he]
    go_enter Tryd.func63, Tryd.ntmps63
    go_upto_region 5 with (first | (go_at_call 79; refine HC.out.mono ?_; rintro e w1 ⟨rfl, hb⟩; have HB := Lib.hid hb; clear hb) | (go_at_call 80; refine (HTWH.out _ HB.out).mono ?_; rintro e w2 ⟨rfl, hg⟩; have HG := Lib.hid hg; clear hg))
    obtain ⟨μ1, hp1, hs1, eP, eF, eD, eX⟩ := HG.out
    have HE := Lib.hid (show μ1.P = μ.P ∧ μ1.F = μ.F ∧ μ1.s.D = μ.s.D from ⟨eP, eF, eD⟩)
    have HS1 := Lib.hid ((Stp.of_below HB.out).trans hs1)
    have em : μ1.X.m = μ.X.m := by rw [eX]; exact HT.out.m
    have c1 := hp1.core.hd.c1
    have HCL := Lib.hid (clean_any μ1 k w2 hp1 (by rw [eX]; exact hkc) hN)
    rw [eP, eF, em] at c1
    rw [eP, eF, eX] at HCL
    have HP1 := Lib.hid hp1
    have HX1 := Lib.hid eX
    clear hp1 hs1 eP eF eD eX em HG
    unfold framePtr at HCL
    rw [HZ.out] at HCL
    rw [errv1 he] at HCL
    go_wp2_with (go_at_call 41; refine HCL.out.mono ?_; rintro e w3 ⟨rfl, hg⟩; have HG := Lib.hid hg; clear hg)
    go_ret2
    exact ⟨by show _ = Ending.returned (.tuple #[_, errv err]); rw [errv1 he]; rfl, fun _ => Goes.trans HS1.out HE.out (Nat.le_refl _) HG.out, fun e => absurd e he⟩
end Go.Proofs.YtkmedlbokneegaaDoor

/-
  THE WALK of the pool's Pin. Conditions: a pool lies in memory.
-/
import Derived.Test.YtkmedlbokneegaaDoorNl
namespace Go.Proofs.YtkmedlbokneegaaDoor
open Go.RowKit Go.Maps

def pinE (r : Px × Nat × Int) : Px × Int := if r.2.2 = 0 then (r.1.put r.2.1 { r.1.fr r.2.1 with h := (r.1.fr r.2.1).h + 1 }, 0) else (r.1, r.2.2)
theorem pinP_eq (X : Px) (i : Int) : pinP X i = pinE (handP X i) := rfl
set_option maxRecDepth 100000 in
set_option maxHeartbeats 1000000 in
theorem pin_any {B N : Nat} (μ : Mp) (i : Int) (w : World) (h : PoolAt B N w μ) (hN : N + 3 < 2305843009213693952) :
    Calls Tryd.prog 17 #[.pointer (some ⟨μ.P, 0, none⟩), .int .i64 i] w (ErrAt B (N + 3) w μ (pinP μ.X i)) := by
  have hh := hand_any μ i w h (by omega)
  have hlt := hand_lt h.core.ok i
  rw [pinP_eq]
  generalize handP μ.X i = r at hh hlt ⊢
  obtain ⟨Y, k, err⟩ := r
  simp only at hlt
  by_cases he : err = 0
  · subst he
    have HF := Lib.hid (found_zero hh)
    have HLT := Lib.hid (hlt rfl)
    have hE : pinE (Y, k, 0) = (Y.put k { Y.fr k with h := (Y.fr k).h + 1 }, 0) := by unfold pinE; rw [if_pos rfl]
    rw [hE]
    clear h hh hlt hE
    go_enter Tryd.func17, Tryd.ntmps17
    go_upto_region 4 with (go_at_call 35; refine HF.out.mono ?_; rintro e w2 ⟨rfl, hg⟩; have HG := Lib.hid hg; clear hg)
    obtain ⟨μ2, hp2, hs2, eP, eF, eD, eX⟩ := HG.out
    have hkc : k < μ2.X.c := by rw [eX]; exact HLT.out
    have hkm : k < μ2.X.m := by have := hp2.core.ok.cm; omega
    have g4 := hp2.core.row.at4 hkm
    have z4 := hp2.core.row.fz (k * 5 + 4)
    have hhN := hp2.core.ok.hN k
    have HON := Lib.hid (onF_held hp2.core.row hkm ((μ2.X.fr k).h + 1))
    have HP := Lib.hid (hp2.put (M := N + 3) { μ2.X.fr k with h := (μ2.X.fr k).h + 1 } (μ2.a k) (μ2.cp k) HON.out rfl (hp2.core.fit hkm) (hp2.core.ok.put hkc rfl (hp2.core.ok.siz k) (by show (μ2.X.fr k).h + 1 ≤ N + 3; omega) (by omega)))
    have HS := Lib.hid (hs2.trans (stp_put (f := { μ2.X.fr k with h := (μ2.X.fr k).h + 1 }) (a := μ2.a k) (c := μ2.cp k) HON.out (fun b off e => .inl (.inr ⟨k, off, hkm, e⟩))))
    have HX1 := Lib.hid (show ((μ2.X.fr k).h : Int) + 1 = (((μ2.X.fr k).h + 1 : Nat) : Int) by omega)
    have HE := Lib.hid (show μ2.P = μ.P ∧ μ2.F = μ.F ∧ μ2.s.D = μ.s.D from ⟨eP, eF, eD⟩)
    have HX := Lib.hid eX
    have hx2 : (0 : Int) ≤ ((μ2.X.fr k).h : Int) := by omega
    have hx3 : ((μ2.X.fr k).h : Int) < 2305843009213693952 := by omega
    rw [eF] at g4 z4
    rw [eF] at HP HS
    clear hp2 hs2 eP eF eD eX HG HON hkc hkm hhN
    generalize ((μ2.X.fr k).h : Int) = x at g4 HX1 hx2 hx3
    go_wp2
    go_ret
    have hp := HP.out
    have hs := HS.out
    rw [← HX1.out] at hp hs
    exact ⟨errv0 ▸ rfl, _, hp, hs, HE.out.1, HE.out.2.1, HE.out.2.2, by show μ2.X.put k _ = Y.put k _; rw [HX.out]⟩
  · have HF := Lib.hid (found_bad hh he)
    have hE : pinE (Y, k, err) = (Y, err) := by unfold pinE; rw [if_neg he]
    rw [hE]
    have HE := Lib.hid he
    clear h hh hlt hE he
    go_enter Tryd.func17, Tryd.ntmps17
    go_wp2_with (go_at_call 35; refine HF.out.mono ?_; rintro e w2 ⟨rfl, hg⟩; have HG := Lib.hid hg; clear hg)
    go_ret
    obtain ⟨μ2, hp2, hr⟩ := HG.out
    exact ⟨ret_e HE.out, μ2, hp2.mono (by omega), hr⟩
/-- what the statements meet -/
theorem pl_pin {W w w0 : World} {N p D : Nat} {X : Px} {H0 : Nat → Prop} (h : PlN W N w p D X w0 H0) (i : Int) (hN : N + 3 < 2305843009213693952) :
    Calls Tryd.prog 17 #[.pointer (some ⟨p, 0, none⟩), .int .i64 i] w fun e w' => e = .returned (errv (pinP X i).2) ∧ PlN W (N + 3) w' p D (pinP X i).1 w0 H0 := by
  obtain ⟨H, ⟨μ, h1, rfl, rfl, rfl, rfl, h6⟩, hst⟩ := h
  exact (pin_any μ i w h1 hN).mono fun _ _ ⟨he, hg⟩ => ⟨he, goes_pl h1 rfl rfl h6 hst hg⟩
end Go.Proofs.YtkmedlbokneegaaDoor

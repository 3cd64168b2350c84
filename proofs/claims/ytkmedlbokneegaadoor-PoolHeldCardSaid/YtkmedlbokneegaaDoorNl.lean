/-
  THE WALKS of the pool's Pin and Unpin, and of a pool that is not there. Conditions: a pool lies in memory, or none.
-/
import Derived.Test.YtkmedlbokneegaaDoorDo
namespace Go.Proofs.YtkmedlbokneegaaDoor
open Go.RowKit Go.Maps

/-! no pool -/
set_option maxRecDepth 100000 in
theorem hand_nil (i : Int) (w : World) : Calls Tryd.prog 35 #[.pointer none, .int .i64 i] w fun e w' => e = .returned (.tuple #[.pointer none, .iface 60 (.int .i64 1)]) ∧ w = w' := by
  go_enter Tryd.func35, Tryd.ntmps35
  go_wp2_with (go_at_call 38; refine (check_nil i _).mono ?_; rintro e w' ⟨rfl, rfl⟩)
  go_ret2
  exact ⟨rfl, rfl⟩
set_option maxRecDepth 100000 in
theorem nop_read (i : Int) (w : World) : Calls Tryd.prog 14 #[.pointer none, .int .i64 i] w fun e w' => e = .returned (.tuple #[.slice none 0 0, .iface 60 (.int .i64 1)]) ∧ w = w' := by
  go_enter Tryd.func14, Tryd.ntmps14
  go_wp2_with (go_at_call 35; refine (hand_nil i _).mono ?_; rintro e w' ⟨rfl, rfl⟩)
  go_ret2
  exact ⟨rfl, rfl⟩
set_option maxRecDepth 100000 in
theorem nop_write (i : Int) (b : Value) (w : World) : Calls Tryd.prog 16 #[.pointer none, .int .i64 i, b] w fun e w' => e = .returned (.iface 60 (.int .i64 1)) ∧ w = w' := by
  go_enter Tryd.func16, Tryd.ntmps16
  go_wp2_with (go_at_call 38; refine (check_nil i _).mono ?_; rintro e w' ⟨rfl, rfl⟩)
  go_ret
  exact ⟨rfl, rfl⟩
set_option maxRecDepth 100000 in
theorem nop_pin (i : Int) (w : World) : Calls Tryd.prog 17 #[.pointer none, .int .i64 i] w fun e w' => e = .returned (.iface 60 (.int .i64 1)) ∧ w = w' := by
  go_enter Tryd.func17, Tryd.ntmps17
  go_wp2_with (go_at_call 35; refine (hand_nil i _).mono ?_; rintro e w' ⟨rfl, rfl⟩)
  go_ret
  exact ⟨rfl, rfl⟩
set_option maxRecDepth 100000 in
theorem nop_unpin (i : Int) (w : World) : Calls Tryd.prog 18 #[.pointer none, .int .i64 i] w fun e w' => e = .returned (.iface 60 (.int .i64 1)) ∧ w = w' := by
  go_enter Tryd.func18, Tryd.ntmps18
  go_wp2_with (go_at_call 38; refine (check_nil i _).mono ?_; rintro e w' ⟨rfl, rfl⟩)
  go_ret
  exact ⟨rfl, rfl⟩
set_option maxRecDepth 100000 in
theorem nop_flush (w : World) : Calls Tryd.prog 19 #[.pointer none] w fun e w' => e = .returned (.iface 60 (.int .i64 1)) ∧ w = w' := by
  go_enter Tryd.func19, Tryd.ntmps19
  go_wp2
  go_ret
  exact ⟨rfl, rfl⟩
set_option maxRecDepth 100000 in
theorem nop_frames (w : World) : Calls Tryd.prog 20 #[.pointer none] w fun e w' => e = .returned (.slice none 0 0) ∧ w = w' := by
  go_enter Tryd.func20, Tryd.ntmps20
  go_wp2
  go_ret
  exact ⟨rfl, rfl⟩
set_option maxRecDepth 100000 in
theorem nop_dirty (w : World) : Calls Tryd.prog 21 #[.pointer none] w fun e w' => e = .returned (.slice none 0 0) ∧ w = w' := by
  go_enter Tryd.func21, Tryd.ntmps21
  go_wp2
  go_ret
  exact ⟨rfl, rfl⟩
set_option maxRecDepth 100000 in
theorem nop_loads (w : World) : Calls Tryd.prog 22 #[.pointer none] w fun e w' => e = .returned (.int .i64 0) ∧ w = w' := by
  go_enter Tryd.func22, Tryd.ntmps22
  go_wp2
  go_ret
  exact ⟨rfl, rfl⟩

/-! Unpin -/
theorem unpinP_no {X : Px} {i : Int} (h : i < 0 ∨ (X.d.n : Int) ≤ i) : unpinP X i = (X, 4) := by unfold unpinP; rw [if_pos h]
theorem unpinP_none {X : Px} {i : Int} (h : ¬ (i < 0 ∨ (X.d.n : Int) ≤ i)) (ha : X.at i = none) : unpinP X i = (X, 8) := by unfold unpinP; rw [if_neg h, ha]
theorem unpinP_zero {X : Px} {i : Int} {k : Nat} (h : ¬ (i < 0 ∨ (X.d.n : Int) ≤ i)) (ha : X.at i = some k) (h0 : (X.fr k).h = 0) : unpinP X i = (X, 8) := by unfold unpinP; rw [if_neg h, ha]; simp only; rw [if_pos h0]
theorem unpinP_some {X : Px} {i : Int} {k : Nat} (h : ¬ (i < 0 ∨ (X.d.n : Int) ≤ i)) (ha : X.at i = some k) (h0 : (X.fr k).h ≠ 0) : unpinP X i = (X.put k { X.fr k with h := (X.fr k).h - 1 }, 0) := by unfold unpinP; rw [if_neg h, ha]; simp only; rw [if_neg h0]
theorem onF_held {w : World} {F m : Nat} {fr : Nat → Fr} {a : Nat → Option Addr} {cp : Nat → Nat} (h : Row w F m fr a cp) {k : Nat} (hk : k < m) (n : Nat) :
    OnF w (w.setCell ⟨F, k * 5 + 4, none⟩ (.int .i64 (n : Int))) F k (fv { fr k with h := n } (a k) (cp k)) := by
  refine ((OnF.refl (h.c k hk)).set 4 (by omega) _).congr fun j hj => ?_
  match j, hj with
  | 0, _ => rfl
  | 1, _ => rfl
  | 2, _ => rfl
  | 3, _ => rfl
  | 4, _ => rfl
def ErrAt (B N : Nat) (w : World) (μ : Mp) (r : Px × Int) (e : Ending) (w' : World) : Prop := e = .returned (errv r.2) ∧ Goes B N w μ r.1 w'
theorem ret_e {c : Int} (h : c ≠ 0) : Ending.returned (.iface 60 (.int .i64 c)) = .returned (errv c) := by rw [errv1 h]
set_option maxRecDepth 100000 in
set_option maxHeartbeats 1000000 in
theorem unpin_any {B N : Nat} (μ : Mp) (i : Int) (w : World) (h : PoolAt B N w μ) (hN : N < 2305843009213693952) :
    Calls Tryd.prog 18 #[.pointer (some ⟨μ.P, 0, none⟩), .int .i64 i] w (ErrAt B N w μ (unpinP μ.X i)) := by
  by_cases hr : i < 0 ∨ (μ.X.d.n : Int) ≤ i
  · rw [unpinP_no hr]
    have HC := Lib.hid (check_no μ i w h hr)
    have HP := Lib.hid h
    clear h hr
    go_enter Tryd.func18, Tryd.ntmps18
    go_wp2_with (go_at_call 38; refine HC.out.mono ?_; rintro e w1 ⟨rfl, rfl⟩)
    go_ret
    exact ⟨ret_e (c := 4) (by decide), _, HP.out, Stp.refl _ _, rfl, rfl, rfl, rfl⟩
  · have HC := Lib.hid (check_ok μ i w h (by omega) (by omega))
    have c1 := h.core.hd.c1
    have c2 := h.core.hd.c2
    have hn1 := h.core.ok.n1
    have hkey := key_of (x := i) (by omega)
    have HO := Lib.hid (show Owns w μ.M μ.X.c μ.D from h.mo)
    cases ha : μ.X.at i with
    | some k =>
      obtain ⟨hk, hki⟩ := at_some ha
      have hkm : k < μ.X.m := by have := h.core.ok.cm; omega
      have hm1 := h.core.ok.m1
      have i0 : (0 : Int) ≤ (k : Int) := by omega
      have i1 : (k : Int) < (μ.X.m : Int) := by omega
      have g4 := h.core.row.at4 hkm
      have z4 := h.core.row.fz (k * 5 + 4)
      have hhN := h.core.ok.hN k
      have HH := Lib.hid ((h.mp.has i).2 ⟨k, hk, hki⟩)
      have HA := Lib.hid (show μ.D.atKey (.int .i64 i) (.lit (.int .i64 0)) = .lit (.int .i64 (k : Int)) by rw [← hki]; exact h.mp.at' k hk)
      by_cases h0 : (μ.X.fr k).h = 0
      · rw [unpinP_zero hr ha h0]
        rw [h0] at g4
        have HP := Lib.hid h
        clear h ha hki hr hkm hk h0 hhN
        go_enter Tryd.func18, Tryd.ntmps18
        go_wp2_with (first | (go_at_call 38; refine HC.out.mono ?_; rintro e w1 ⟨rfl, rfl⟩) | (at_lookup; refine wpList_lookup_own_ok_int _ rfl _ _ 74 rfl 3 3 .i64 klaw Tryd.underlying74 Tryd.underlying3 (zeroI _) μ.M μ.X.c μ.D rfl HO.out _ _ rfl hkey ?_; intro c hat hwc; rw [HA.out] at hat; obtain rfl : (k : Int) = c := (by injection hat with e; injection e); rw [HH.out]; clear hat hwc))
        go_ret
        exact ⟨ret_e (c := 8) (by decide), _, HP.out, Stp.refl _ _, rfl, rfl, rfl, rfl⟩
      · rw [unpinP_some hr ha h0]
        have HON := Lib.hid (onF_held h.core.row hkm ((μ.X.fr k).h - 1))
        have HP := Lib.hid (h.put (M := N) { μ.X.fr k with h := (μ.X.fr k).h - 1 } (μ.a k) (μ.cp k) HON.out rfl (h.core.fit hkm) (h.core.ok.put hk rfl (h.core.ok.siz k) (by show (μ.X.fr k).h - 1 ≤ N; omega) (Nat.le_refl _)))
        have HS := Lib.hid (stp_put (f := { μ.X.fr k with h := (μ.X.fr k).h - 1 }) (a := μ.a k) (c := μ.cp k) HON.out (fun b off e => .inl (.inr ⟨k, off, hkm, e⟩)))
        have hx0 : ¬ ((μ.X.fr k).h : Int) = 0 := by omega
        have HX1 := Lib.hid (show ((μ.X.fr k).h : Int) - 1 = (((μ.X.fr k).h - 1 : Nat) : Int) by omega)
        have hx2 : (0 : Int) ≤ ((μ.X.fr k).h : Int) := by omega
        have hx3 : ((μ.X.fr k).h : Int) < 2305843009213693952 := by omega
        clear h ha hki hr HON hkm hk h0 hhN
        generalize ((μ.X.fr k).h : Int) = x at g4 hx0 HX1 hx2 hx3
        go_enter Tryd.func18, Tryd.ntmps18
        go_wp2_with (first | (go_at_call 38; refine HC.out.mono ?_; rintro e w1 ⟨rfl, rfl⟩) | (at_lookup; refine wpList_lookup_own_ok_int _ rfl _ _ 74 rfl 3 3 .i64 klaw Tryd.underlying74 Tryd.underlying3 (zeroI _) μ.M μ.X.c μ.D rfl HO.out _ _ rfl hkey ?_; intro c hat hwc; rw [HA.out] at hat; obtain rfl : (k : Int) = c := (by injection hat with e; injection e); rw [HH.out]; clear hat hwc))
        go_ret
        have hp := HP.out
        have hs := HS.out
        rw [← HX1.out] at hp hs
        exact ⟨errv0 ▸ rfl, _, hp, hs, rfl, rfl, rfl, rfl⟩
    | none =>
      rw [unpinP_none hr ha]
      obtain ⟨j, rfl⟩ : ∃ j : Nat, i = j := ⟨i.toNat, by omega⟩
      have HH := Lib.hid (show Maps.has μ.D (.int .i64 j) = false by
        cases hh : Maps.has μ.D (.int .i64 j)
        · rfl
        · obtain ⟨k, h1, h2⟩ := (h.mp.has j).1 hh
          exact absurd h2 (at_none ha k h1))
      have HP := Lib.hid h
      clear h ha hr
      go_enter Tryd.func18, Tryd.ntmps18
      go_wp2_with (first | (go_at_call 38; refine HC.out.mono ?_; rintro e w1 ⟨rfl, rfl⟩) | (at_lookup; refine wpList_lookup_own_ok_int _ rfl _ _ 74 rfl 3 3 .i64 klaw Tryd.underlying74 Tryd.underlying3 (zeroI _) μ.M μ.X.c μ.D rfl HO.out _ _ rfl hkey ?_; intro c hat hwc; rw [HH.out]; clear hat hwc))
      go_ret
      exact ⟨ret_e (c := 8) (by decide), _, HP.out, Stp.refl _ _, rfl, rfl, rfl, rfl⟩
/-- what the statements meet -/
theorem pl_unpin {W w w0 : World} {N p D : Nat} {X : Px} {H0 : Nat → Prop} (h : PlN W N w p D X w0 H0) (i : Int) (hN : N < 2305843009213693952) :
    Calls Tryd.prog 18 #[.pointer (some ⟨p, 0, none⟩), .int .i64 i] w fun e w' => e = .returned (errv (unpinP X i).2) ∧ PlN W N w' p D (unpinP X i).1 w0 H0 := by
  obtain ⟨H, ⟨μ, h1, rfl, rfl, rfl, rfl, h6⟩, hst⟩ := h
  exact (unpin_any μ i w h1 hN).mono fun _ _ ⟨he, hg⟩ => ⟨he, goes_pl h1 rfl rfl h6 hst hg⟩
end Go.Proofs.YtkmedlbokneegaaDoor

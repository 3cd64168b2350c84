/-
  THE WALKS of the pool's Flush, Frames, Dirty and Loads. Conditions: a pool lies in memory.
-/
import Derived.Test.YtkmedlbokneegaaDoorRw
namespace Go.Proofs.YtkmedlbokneegaaDoor
open Go.RowKit Go.Maps

set_option maxRecDepth 100000 in
theorem loads_any {B N : Nat} (μ : Mp) (w : World) (h : PoolAt B N w μ) : Calls Tryd.prog 22 #[.pointer (some ⟨μ.P, 0, none⟩)] w fun e w' => e = .returned (.int .i64 μ.X.loads) ∧ w = w' := by
  have c4 := h.core.hd.c4
  clear h
  go_enter Tryd.func22, Tryd.ntmps22
  go_wp2
  go_ret
  exact ⟨rfl, rfl⟩

/-! Flush -/
theorem flushN_stop {n k : Nat} {X : Px} (h : (cleanP X k).2 ≠ 0) : flushN (n + 1) k X = cleanP X k := by show (if (cleanP X k).2 = 0 then _ else cleanP X k) = _; rw [if_neg h]
theorem flushN_go {n k : Nat} {X : Px} (h : (cleanP X k).2 = 0) : flushN (n + 1) k X = flushN n (k + 1) (cleanP X k).1 := by show (if (cleanP X k).2 = 0 then _ else cleanP X k) = _; rw [if_pos h]
def FlushRel (B N : Nat) (w : World) (H : Nat → Prop) (P F D m : Nat) (R : Px × Int) (k : Nat) (wr : World) : Prop :=
  ∃ μr, PoolAt B (N + k) wr μr ∧ Stp w H wr μr.all ∧ (μr.P = P ∧ μr.F = F ∧ μr.s.D = D ∧ μr.X.m = m) ∧ flushN (m - k) k μr.X = R
def FlushedP (B N : Nat) (w : World) (H : Nat → Prop) (P F D : Nat) (R : Px × Int) (e : Ending) (w' : World) : Prop :=
  e = .returned (errv R.2) ∧ ∃ μ', PoolAt B N w' μ' ∧ Stp w H w' μ'.all ∧ μ'.P = P ∧ μ'.F = F ∧ μ'.s.D = D ∧ μ'.X = R.1
theorem clean_empty {B N : Nat} (μ : Mp) (k : Nat) (w : World) (h : PoolAt B N w μ) (hk : k < μ.X.m) (hN : N < 2305843009213693952) :
    Calls Tryd.prog 41 #[.pointer (some ⟨μ.P, 0, none⟩), .pointer (some ⟨μ.F, k * 5, none⟩)] w fun e w' => e = .returned (errv (cleanP μ.X k).2) ∧ Goes B (N + 1) w μ (cleanP μ.X k).1 w' := by
  by_cases hc : k < μ.X.c
  · exact clean_any μ k w h hc hN
  · have hd : (μ.X.fr k).d = false := by rw [h.core.ok.emp k (by omega)]; rfl
    have g2 := h.core.row.at2 hk
    have HP := Lib.hid h
    rw [hd] at g2
    rw [cleanP_no hd, errv0]
    clear h hd
    go_enter Tryd.func41, Tryd.ntmps41
    go_wp2
    go_ret
    exact ⟨rfl, _, HP.out.mono (by omega), Stp.refl _ _, rfl, rfl, rfl, rfl⟩
def flushR (R : Px × Int) : Px × Int := if R.2 = 0 then (R.1.disk R.1.d.flush, 0) else R
theorem flushP_eq (X : Px) : flushP X = flushR (flushN X.m 0 X) := rfl
set_option maxRecDepth 100000 in
set_option maxHeartbeats 1000000 in
theorem flush_walk {B N : Nat} (w : World) (H : Nat → Prop) (P F D m : Nat) (R : Px × Int) (hI : Hid (FlushRel B N w H P F D m R 0 w)) (hN : N + m + 1 < 2305843009213693952) (hm : m ≤ 1024) :
    Calls Tryd.prog 19 #[.pointer (some ⟨P, 0, none⟩)] w (FlushedP B (N + m) w H P F D (flushR R)) := by
  obtain ⟨μ0, hp0, _, ⟨e1, e2, e3, e4⟩, _⟩ := hI.out
  have c1 := hp0.core.hd.c1
  rw [e1, e2, e4] at c1
  clear hp0 e1 e2 e3 e4
  go_enter Tryd.func19, Tryd.ntmps19
  go_wp2
  go_loopw [13, 3, 4] (fun i _ _ wr => ∃ k : Nat, k ≤ m ∧ i = .int .i64 k ∧ Hid (FlushRel B N w H P F D m R k wr)) (fun i _ _ _ => m - (intOf i).toNat)
  case atStart => exact ⟨0, by omega, rfl, hI⟩
  case round =>
    obtain ⟨k, hk, rfl, HR⟩ := hrel
    obtain ⟨μr, hp, hs, ⟨rfl, rfl, rfl, rfl⟩, hr⟩ := HR.out
    have c1 := hp.core.hd.c1
    have HP := Lib.hid hp
    have HS := Lib.hid hs
    by_cases hlt : k < μr.X.m
    · have i0 : (0 : Int) ≤ (k : Int) := by omega
      have i1 : (k : Int) < (μr.X.m : Int) := by omega
      have HCL := Lib.hid (clean_empty μr k wr hp hlt (by omega))
      have HC := Lib.hid (cleanP_c μr.X k)
      obtain ⟨n, hn⟩ : ∃ n, μr.X.m - k = n + 1 := ⟨μr.X.m - k - 1, by omega⟩
      rw [hn] at hr
      by_cases he : (cleanP μr.X k).2 = 0
      · rw [he, errv0] at HCL
        rw [flushN_go he] at hr
        have HRR := Lib.hid hr
        clear hp hs hr HR
        go_wp2_with (go_at_call 41; refine HCL.out.mono ?_; rintro e w1 ⟨rfl, hg⟩; have HG := Lib.hid hg; clear hg)
        go_roundw
        case rel =>
          obtain ⟨μ2, h1, h2, h3, h4, h5, h6⟩ := HG.out
          refine ⟨k + 1, by omega, by go_num, Lib.hid ⟨μ2, h1, HS.out.trans h2, ⟨h3, h4, h5, by rw [h6]; exact HC.out.2.1⟩, ?_⟩⟩
          rw [h6, show μr.X.m - (k + 1) = n by omega]
          exact HRR.out
        case measure => simp [intOf]; omega
      · rw [errv1 he] at HCL
        rw [flushN_stop he] at hr
        have HRR := Lib.hid hr
        have HE := Lib.hid he
        clear hp hs hr HR he
        go_wp2_with (go_at_call 41; refine HCL.out.mono ?_; rintro e w1 ⟨rfl, hg⟩; have HG := Lib.hid hg; clear hg)
        go_ret
        obtain ⟨μ2, h1, h2, h3, h4, h5, h6⟩ := HG.out
        rw [← HRR.out]
        unfold flushR
        rw [if_neg HE.out]
        exact ⟨by rw [errv1 HE.out]; rfl, μ2, h1.mono (by omega), HS.out.trans h2, h3, h4, h5, h6⟩
    · obtain rfl : k = μr.X.m := by omega
      rw [Nat.sub_self] at hr
      have HRR := Lib.hid hr
      have c0 := hp.core.hd.c0
      have HF := Lib.hid (flush_any μr.s wr hp.core.d)
      clear hp hs hr HR
      go_wp2_with (go_at_call 42; refine HF.out.mono ?_; rintro e w1 ⟨rfl, hd, hs⟩; have HD := Lib.hid hd; have HS2 := Lib.hid hs; clear hd hs)
      go_ret
      rw [← HRR.out]
      have ht := HP.out.core.t.flush HP.out.core.d.ok
      have hP := HP.out.disk (s' := μr.s.flush) (d' := μr.X.d.flush) HD.out HS2.out rfl ht HP.out.core.ok.flush
      exact ⟨by show _ = Ending.returned (errv 0); rw [errv0]; rfl, _, hP, HS.out.trans (stp_disk HS2.out), rfl, rfl, rfl, rfl⟩
theorem flushp_any {B N : Nat} (μ : Mp) (w : World) (h : PoolAt B N w μ) (hN : N + 1025 < 2305843009213693952) :
    Calls Tryd.prog 19 #[.pointer (some ⟨μ.P, 0, none⟩)] w fun e w' => e = .returned (errv (flushP μ.X).2) ∧ Goes B (N + μ.X.m) w μ (flushP μ.X).1 w' := by
  have hm := h.core.ok.m1
  rw [flushP_eq]
  exact flush_walk w μ.all μ.P μ.F μ.s.D μ.X.m _ (Lib.hid ⟨μ, h, Stp.refl _ _, ⟨rfl, rfl, rfl, rfl⟩, by rw [Nat.sub_zero]⟩) (by omega) hm
end Go.Proofs.YtkmedlbokneegaaDoor

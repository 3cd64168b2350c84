/-
  THE WALKS of the pool's Flush, Frames, Dirty and Loads. Conditions: a pool lies in memory.
  THE WALKS of the pool's Frames and Dirty. Conditions: a pool lies in memory.
-/
import Derived.Test.YtfhnnfheonkneaaDoorQq
namespace Go.Proofs.YtfhnnfheonkneaaDoor
open Go.RowKit Go.Maps

set_option maxRecDepth 100000 in
theorem loads_any {B N : Nat} (μ : Mp) (w : World) (h : PoolAt B N w μ) : Calls Tryd.prog 29 #[.pointer (some ⟨μ.P, 0, none⟩)] w fun e w' => e = .returned (.int .i64 μ.X.loads) ∧ w = w' := by
  have c4 := h.core.hd.c4
  clear h
  go_enter Tryd.func29, Tryd.ntmps29
  go_wp2
  go_ret
  exact ⟨rfl, rfl⟩

/-! Flush -/
theorem flushN_stop {n k : Nat} {X : Px} (h : (cleanP X k).2 ≠ 0) : flushN (n + 1) k X = cleanP X k := by show (if (cleanP X k).2 = 0 then _ else cleanP X k) = _; rw [if_neg h]
theorem flushN_go {n k : Nat} {X : Px} (h : (cleanP X k).2 = 0) : flushN (n + 1) k X = flushN n (k + 1) (cleanP X k).1 := by show (if (cleanP X k).2 = 0 then _ else cleanP X k) = _; rw [if_pos h]
def FlushRel (B N : Nat) (w : World) (H : Nat → Prop) (P F D m : Nat) (R : Px × Int) (k : Nat) (wr : World) : Prop :=
  ∃ μr, PoolAt B (N + k) wr μr ∧ Stp w H wr μr.all ∧ (μr.P = P ∧ μr.F = F ∧ μr.s.D = D ∧ μr.X.m = m) ∧ flushN (m - k) k μr.X = R
def FlushedP (B N : Nat) (w : World) (H : Nat → Prop) (P F D : Nat) (R : Px × Int) (e : Ending) (w' : World) : Prop :=
  e = .returned (errv R.2) ∧ ∃ μ', PoolAt B N w' μ' ∧ Stp w H w' μ'.all ∧ μ'.P = P ∧ μ'.F = F ∧ μ'.s.D = D ∧ μ'.X = R.1
theorem clean_empty {B N : Nat} (μ : Mp) (k : Nat) (w : World) (h : PoolAt B N w μ) (hk : k < μ.X.m) (hN : N < 2305843009213693952) :
    Calls Tryd.prog 48 #[.pointer (some ⟨μ.P, 0, none⟩), .pointer (some ⟨μ.F, k * 5, none⟩)] w fun e w' => e = .returned (errv (cleanP μ.X k).2) ∧ Goes B (N + 1) w μ (cleanP μ.X k).1 w' := by
  by_cases hc : k < μ.X.c
  · exact clean_any μ k w h hc hN
  · have hd : (μ.X.fr k).d = false := by rw [h.core.ok.emp k (by omega)]; rfl
    have g2 := h.core.row.at2 hk
    have HP := Lib.hid h
    rw [hd] at g2
    rw [cleanP_no hd, errv0]
    clear h hd
    go_enter Tryd.func48, Tryd.ntmps48
    go_wp2
    go_ret
    exact ⟨rfl, _, HP.out.mono (by omega), Stp.refl _ _, rfl, rfl, rfl, rfl⟩
def flushR (R : Px × Int) : Px × Int := if R.2 = 0 then (R.1.disk R.1.d.flush, 0) else R
theorem flushP_eq (X : Px) : flushP X = flushR (flushN X.m 0 X) := rfl
set_option maxRecDepth 100000 in
set_option maxHeartbeats 1000000 in
theorem flush_walk {B N : Nat} (w : World) (H : Nat → Prop) (P F D m : Nat) (R : Px × Int) (hI : Hid (FlushRel B N w H P F D m R 0 w)) (hN : N + m + 1 < 2305843009213693952) (hm : m ≤ 1024) :
    Calls Tryd.prog 25 #[.pointer (some ⟨P, 0, none⟩)] w (FlushedP B (N + m) w H P F D (flushR R)) := by
  obtain ⟨μ0, hp0, _, ⟨e1, e2, e3, e4⟩, _⟩ := hI.out
  have c1 := hp0.core.hd.c1
  rw [e1, e2, e4] at c1
  clear hp0 e1 e2 e3 e4
  go_enter Tryd.func25, Tryd.ntmps25
  go_wp2
  go_loopw [13, 3, 4] (fun i _ _ wr => ∃ k : Nat, k ≤ m ∧ i = .int .i64 k ∧ Hid (FlushRel B N w H P F D m R k wr)) (fun i _ _ _ => m - (intOf i).toNat)
  case atStart => exact ⟨0, by omega, rfl, hI⟩
  case round =>
    obtain ⟨k, hk, rfl, HR⟩ := hrel
    obtain ⟨μr, hp, hs, ⟨rfl, rfl, rfl, rfl⟩, hr⟩ := HR.out
    have c1 := hp.core.hd.c1
    have HP := Lib.hid hp
    have HS := Lib.hid hs
    by_cases hlt : k < μr.X.m
    · have i0 : (0 : Int) ≤ (k : Int) := by omega
      have i1 : (k : Int) < (μr.X.m : Int) := by omega
      have HCL := Lib.hid (clean_empty μr k wr hp hlt (by omega))
      have HC := Lib.hid (cleanP_c μr.X k)
      obtain ⟨n, hn⟩ : ∃ n, μr.X.m - k = n + 1 := ⟨μr.X.m - k - 1, by omega⟩
      rw [hn] at hr
      by_cases he : (cleanP μr.X k).2 = 0
      · rw [he, errv0] at HCL
        rw [flushN_go he] at hr
        have HRR := Lib.hid hr
        clear hp hs hr HR
        go_wp2_with (go_at_call 48; refine HCL.out.mono ?_; rintro e w1 ⟨rfl, hg⟩; have HG := Lib.hid hg; clear hg)
        go_roundw
        case rel =>
          obtain ⟨μ2, h1, h2, h3, h4, h5, h6⟩ := HG.out
          refine ⟨k + 1, by omega, by go_num, Lib.hid ⟨μ2, h1, HS.out.trans h2, ⟨h3, h4, h5, by rw [h6]; exact HC.out.2.1⟩, ?_⟩⟩
          rw [h6, show μr.X.m - (k + 1) = n by omega]
          exact HRR.out
        case measure => simp [intOf]; omega
      · rw [errv1 he] at HCL
        rw [flushN_stop he] at hr
        have HRR := Lib.hid hr
        have HE := Lib.hid he
        clear hp hs hr HR he
        go_wp2_with (go_at_call 48; refine HCL.out.mono ?_; rintro e w1 ⟨rfl, hg⟩; have HG := Lib.hid hg; clear hg)
        go_ret
        obtain ⟨μ2, h1, h2, h3, h4, h5, h6⟩ := HG.out
        rw [← HRR.out]
        unfold flushR
        rw [if_neg HE.out]
        exact ⟨by rw [errv1 HE.out]; rfl, μ2, h1.mono (by omega), HS.out.trans h2, h3, h4, h5, h6⟩
    · obtain rfl : k = μr.X.m := by omega
      rw [Nat.sub_self] at hr
      have HRR := Lib.hid hr
      have c0 := hp.core.hd.c0
      have HF := Lib.hid (flush_any μr.s wr hp.core.d)
      clear hp hs hr HR
      go_wp2_with (go_at_call 49; refine HF.out.mono ?_; rintro e w1 ⟨rfl, hd, hs⟩; have HD := Lib.hid hd; have HS2 := Lib.hid hs; clear hd hs)
      go_ret
      rw [← HRR.out]
      have ht := HP.out.core.t.flush HP.out.core.d.ok
      have hP := HP.out.disk (s' := μr.s.flush) (d' := μr.X.d.flush) HD.out HS2.out rfl ht HP.out.core.ok.flush
      exact ⟨by show _ = Ending.returned (errv 0); rw [errv0]; rfl, _, hP, HS.out.trans (stp_disk HS2.out), rfl, rfl, rfl, rfl⟩
theorem flushp_any {B N : Nat} (μ : Mp) (w : World) (h : PoolAt B N w μ) (hN : N + 1025 < 2305843009213693952) :
    Calls Tryd.prog 25 #[.pointer (some ⟨μ.P, 0, none⟩)] w fun e w' => e = .returned (errv (flushP μ.X).2) ∧ Goes B (N + μ.X.m) w μ (flushP μ.X).1 w' := by
  have hm := h.core.ok.m1
  rw [flushP_eq]
  exact flush_walk w μ.all μ.P μ.F μ.s.D μ.X.m _ (Lib.hid ⟨μ, h, Stp.refl _ _, ⟨rfl, rfl, rfl, rfl⟩, by rw [Nat.sub_zero]⟩) (by omega) hm
end Go.Proofs.YtfhnnfheonkneaaDoor
namespace Go.Proofs.YtfhnnfheonkneaaDoor
open Go.RowKit Go.Maps

def Px.secs (X : Px) (k : Nat) : List Int := (List.range k).map fun j => (X.fr j).i
def Px.dirt (X : Px) (k : Nat) : List Int := ((List.range k).filter fun j => (X.fr j).d).map fun (j : Nat) => (j : Int)
theorem secs_next (X : Px) (k : Nat) : il (X.secs k) ++ [Value.int .i64 (X.fr k).i] = il (X.secs (k + 1)) := by
  unfold Px.secs il
  rw [List.range_succ]
  simp
theorem secs_len (X : Px) (k : Nat) : (X.secs k).length = k := by simp [Px.secs]
theorem dirt_yes {X : Px} {k : Nat} (h : (X.fr k).d = true) : il (X.dirt k) ++ [Value.int .i64 (k : Int)] = il (X.dirt (k + 1)) := by
  unfold Px.dirt il
  rw [List.range_succ, List.filter_append]
  simp [h]
theorem dirt_no {X : Px} {k : Nat} (h : (X.fr k).d = false) : X.dirt (k + 1) = X.dirt k := by
  unfold Px.dirt
  rw [List.range_succ, List.filter_append]
  simp [h]
theorem dirt_len (X : Px) (k : Nat) : (X.dirt k).length ≤ k := by
  unfold Px.dirt
  rw [List.length_map]
  exact Nat.le_trans (List.length_filter_le _ _) (by simp)
def IntsAt (w : World) (xs : List Int) (e : Ending) (w' : World) : Prop :=
  ∃ ao cap, e = .returned (.slice ao xs.length cap) ∧ Ints w' ao xs ∧ xs.length ≤ cap ∧ Below w.heap.size w w'
set_option maxRecDepth 100000 in
set_option maxHeartbeats 1000000 in
theorem frames_any {B N : Nat} (μ : Mp) (w : World) (h : PoolAt B N w μ) : Calls Tryd.prog 16 #[.pointer (some ⟨μ.P, 0, none⟩)] w (IntsAt w (μ.X.secs μ.X.m)) := by
  have c1 := h.core.hd.c1
  have hm1 := h.core.ok.m1
  have HR := Lib.hid h.core.row
  obtain ⟨i0, hi, hz0, hz1, hz2⟩ := info_parts info_i
  have HI := Lib.hid hi
  have HI0 := Lib.hid hz0
  have HI1 := Lib.hid hz1
  have HI2 := Lib.hid hz2
  clear h hi hz0 hz1 hz2
  go_enter Tryd.func16, Tryd.ntmps16
  go_wp2
  go_loopw [3, 13, 5] (fun v i _ wr => ∃ k : Nat, k ≤ μ.X.m ∧ i = .int .i64 k ∧ Hid (wr.ownsRow w.heap.size 3 1 v k (il (μ.X.secs k))) ∧ Hid (Below w.heap.size w wr)) (fun _ i _ _ => μ.X.m - (intOf i).toNat)
  case atStart => exact ⟨0, by omega, rfl, Lib.hid (World.ownsRow_nil _ _ _ _), Lib.hid (Below.refl _ _)⟩
  case round =>
    obtain ⟨k, hk, rfl, HO, HB⟩ := hrel
    by_cases hlt : k < μ.X.m
    · have R := HR.out.same (w' := wr) HB.out.size (HB.out.block _ HR.out.lt)
      have g0 := R.at0 hlt
      have g1 := R.at1 hlt
      have g2 := R.at2 hlt
      have g3 := R.at3 hlt
      have g4 := R.at4 hlt
      have j0 : (0 : Int) ≤ (k : Int) := by omega
      have j1 : (k : Int) < (μ.X.m : Int) := by omega
      clear R
      go_upto_region 7 with (fail)
      have x0 : (wr.alloc (.cells #[.int .i64 (μ.X.fr k).i, .slice (μ.a k) (μ.X.fr k).t.size (μ.cp k), .bool (μ.X.fr k).d, .bool (μ.X.fr k).u, .int .i64 ((μ.X.fr k).h : Int)] 62)).cell? ⟨wr.heap.size, 0, none⟩ = some (.int .i64 (μ.X.fr k).i) := cell_of_row _ _ _ _ _ _ (heap_alloc_new _ _)
      have HO1 := Lib.hid (HO.out.alloc (.cells #[.int .i64 (μ.X.fr k).i, .slice (μ.a k) (μ.X.fr k).t.size (μ.cp k), .bool (μ.X.fr k).d, .bool (μ.X.fr k).u, .int .i64 ((μ.X.fr k).h : Int)] 62))
      have HB1 := Lib.hid (HB.out.alloc HB.out.size (.cells #[.int .i64 (μ.X.fr k).i, .slice (μ.a k) (μ.X.fr k).t.size (μ.cp k), .bool (μ.X.fr k).d, .bool (μ.X.fr k).u, .int .i64 ((μ.X.fr k).h : Int)] 62))
      generalize wr.alloc (.cells #[.int .i64 (μ.X.fr k).i, .slice (μ.a k) (μ.X.fr k).t.size (μ.cp k), .bool (μ.X.fr k).d, .bool (μ.X.fr k).u, .int .i64 ((μ.X.fr k).h : Int)] 62) = W1 at x0 HO1 HB1 ⊢
      have HN := Lib.hid (secs_next μ.X k)
      generalize (μ.X.fr k).i = x at x0 HN ⊢
      clear g0 g1 g2 g3 g4 HO HB
      go_wp2_with (at_builtin; refine wpList_append_own _ rfl (.tmp 17) (.tmp 20) 33 rfl w.heap.size 3 i0 (.int .i64 0) 1 8 Tryd.underlying33 HI.out HI0.out HI1.out HI2.out rfl (by decide) u3 k (il (μ.X.secs k)) rfl (HO1.out.alloc _) ⟨W1.heap.size, 0, none⟩ 1 1 [Value.int .i64 x] rfl rfl (cell_one_new _ _ _) (by simp [Value.oneCell']) (by unfold maxLen; omega) (by omega) (by have := HB1.out.size; simp; omega) ?_; intro v2 w2 hown hgrow _)
      have HO2 := Lib.hid hown
      have HB2 := Lib.hid ((HB1.out.alloc HB1.out.size (.cells #[Value.int .i64 x] 3)).grown hgrow (by have := HB1.out.size; simp; omega) (fun j hj => (HO1.out.lt j hj).1))
      clear hown hgrow
      go_roundw
      case rel => exact ⟨k + 1, by omega, by go_num, Lib.hid (by rw [← HN.out]; exact HO2.out), HB2⟩
      case measure => simp [intOf]; omega
    · obtain rfl : k = μ.X.m := by omega
      obtain ⟨ao, cap, rfl, hx, hc, hl⟩ := own_ints HO.out
      go_wp2
      go_ret
      exact ⟨ao, cap, by rw [secs_len]; rfl, hx, by rw [secs_len]; exact hc, HB.out⟩
set_option maxRecDepth 100000 in
set_option maxHeartbeats 1000000 in
theorem dirty_any {B N : Nat} (μ : Mp) (w : World) (h : PoolAt B N w μ) : Calls Tryd.prog 17 #[.pointer (some ⟨μ.P, 0, none⟩)] w (IntsAt w (μ.X.dirt μ.X.m)) := by
  have c1 := h.core.hd.c1
  have hm1 := h.core.ok.m1
  have HR := Lib.hid h.core.row
  obtain ⟨i0, hi, hz0, hz1, hz2⟩ := info_parts info_i
  have HI := Lib.hid hi
  have HI0 := Lib.hid hz0
  have HI1 := Lib.hid hz1
  have HI2 := Lib.hid hz2
  clear h hi hz0 hz1 hz2
  go_enter Tryd.func17, Tryd.ntmps17
  go_wp2
  go_loopw [3, 13, 4, 5] (fun v i _ _ wr => ∃ k : Nat, k ≤ μ.X.m ∧ i = .int .i64 k ∧ Hid (wr.ownsRow w.heap.size 3 1 v (μ.X.dirt k).length (il (μ.X.dirt k))) ∧ Hid (Below w.heap.size w wr)) (fun _ i _ _ _ => μ.X.m - (intOf i).toNat)
  case atStart => exact ⟨0, by omega, rfl, Lib.hid (World.ownsRow_nil _ _ _ _), Lib.hid (Below.refl _ _)⟩
  case round =>
    obtain ⟨k, hk, rfl, HO, HB⟩ := hrel
    by_cases hlt : k < μ.X.m
    · have R := HR.out.same (w' := wr) HB.out.size (HB.out.block _ HR.out.lt)
      have g0 := R.at0 hlt
      have g1 := R.at1 hlt
      have g2 := R.at2 hlt
      have g3 := R.at3 hlt
      have g4 := R.at4 hlt
      have j0 : (0 : Int) ≤ (k : Int) := by omega
      have j1 : (k : Int) < (μ.X.m : Int) := by omega
      clear R
      go_upto_region 7 with (fail)
      have x2 : (wr.alloc (.cells #[.int .i64 (μ.X.fr k).i, .slice (μ.a k) (μ.X.fr k).t.size (μ.cp k), .bool (μ.X.fr k).d, .bool (μ.X.fr k).u, .int .i64 ((μ.X.fr k).h : Int)] 62)).cell? ⟨wr.heap.size, 2, none⟩ = some (.bool (μ.X.fr k).d) := cell_of_row _ _ _ _ _ _ (heap_alloc_new _ _)
      have HO1 := Lib.hid (HO.out.alloc (.cells #[.int .i64 (μ.X.fr k).i, .slice (μ.a k) (μ.X.fr k).t.size (μ.cp k), .bool (μ.X.fr k).d, .bool (μ.X.fr k).u, .int .i64 ((μ.X.fr k).h : Int)] 62))
      have HB1 := Lib.hid (HB.out.alloc HB.out.size (.cells #[.int .i64 (μ.X.fr k).i, .slice (μ.a k) (μ.X.fr k).t.size (μ.cp k), .bool (μ.X.fr k).d, .bool (μ.X.fr k).u, .int .i64 ((μ.X.fr k).h : Int)] 62))
      generalize wr.alloc (.cells #[.int .i64 (μ.X.fr k).i, .slice (μ.a k) (μ.X.fr k).t.size (μ.cp k), .bool (μ.X.fr k).d, .bool (μ.X.fr k).u, .int .i64 ((μ.X.fr k).h : Int)] 62) = W1 at x2 HO1 HB1 ⊢
      have hlen := dirt_len μ.X k
      clear g0 g1 g2 g3 g4 HO HB
      cases hd : (μ.X.fr k).d
      · rw [hd] at x2
        have HN := Lib.hid (dirt_no hd)
        clear hd
        go_wp2
        go_roundw
        case rel => exact ⟨k + 1, by omega, by go_num, Lib.hid (by rw [HN.out]; exact HO1.out), HB1⟩
        case measure => simp [intOf]; omega
      · rw [hd] at x2
        have HN := Lib.hid (dirt_yes hd)
        have HL := Lib.hid (show (μ.X.dirt (k + 1)).length = (μ.X.dirt k).length + 1 by have := congrArg List.length HN.out; simpa [il] using this.symm)
        clear hd
        generalize (μ.X.dirt k).length = n at hlen HO1 HL
        go_wp2_with (at_builtin; refine wpList_append_own _ rfl (.tmp 20) (.tmp 22) 33 rfl w.heap.size 3 i0 (.int .i64 0) 1 8 Tryd.underlying33 HI.out HI0.out HI1.out HI2.out rfl (by decide) u3 n (il (μ.X.dirt k)) rfl (HO1.out.alloc _) ⟨W1.heap.size, 0, none⟩ 1 1 [Value.int .i64 (k : Int)] rfl rfl (cell_one_new _ _ _) (by simp [Value.oneCell']) (by unfold maxLen; omega) (by omega) (by have := HB1.out.size; simp; omega) ?_; intro v2 w2 hown hgrow _)
        have HO2 := Lib.hid hown
        have HB2 := Lib.hid ((HB1.out.alloc HB1.out.size (.cells #[Value.int .i64 (k : Int)] 3)).grown hgrow (by have := HB1.out.size; simp; omega) (fun j hj => (HO1.out.lt j hj).1))
        clear hown hgrow
        go_roundw
        case rel => exact ⟨k + 1, by omega, by go_num, Lib.hid (by rw [HL.out, ← HN.out]; exact HO2.out), HB2⟩
        case measure => simp [intOf]; omega
    · obtain rfl : k = μ.X.m := by omega
      obtain ⟨ao, cap, rfl, hx, hc, hl⟩ := own_ints HO.out
      go_wp2
      go_ret
      exact ⟨ao, cap, rfl, hx, hc, HB.out⟩
end Go.Proofs.YtfhnnfheonkneaaDoor

/-
  THE WALKS of the pool's atHand, Read and Write. Conditions: a pool lies in memory.
  THE WALKS of the pool's Flush, Frames, Dirty and Loads. Conditions: a pool lies in memory.
-/
import Derived.Test.YtokikeenfpligaaGreatDoorU26
namespace Go.Proofs.YtokikeenfpligaaGreatDoor
open Go.RowKit Go.Maps

theorem handP_no {X : Px} {i : Int} (h : i < 0 ∨ (X.d.n : Int) ≤ i) : handP X i = (X, 0, 4) := by unfold handP; rw [if_pos h]
theorem handP_some {X : Px} {i : Int} {k : Nat} (h : ¬ (i < 0 ∨ (X.d.n : Int) ≤ i)) (ha : X.at i = some k) : handP X i = (X.put k { X.fr k with u := true }, k, 0) := by unfold handP; rw [if_neg h, ha]
theorem handP_none {X : Px} {i : Int} (h : ¬ (i < 0 ∨ (X.d.n : Int) ≤ i)) (ha : X.at i = none) : handP X i = fetchP X i := by unfold handP; rw [if_neg h, ha]
theorem onF_used {w : World} {F m : Nat} {fr : Nat → Fr} {a : Nat → Option Addr} {cp : Nat → Nat} (h : Row w F m fr a cp) {k : Nat} (hk : k < m) :
    OnF w (w.setCell ⟨F, k * 5 + 3, none⟩ (.bool true)) F k (fv { fr k with u := true } (a k) (cp k)) := by
  refine ((OnF.refl (h.c k hk)).set 3 (by omega) _).congr fun j hj => ?_
  match j, hj with
  | 0, _ => rfl
  | 1, _ => rfl
  | 2, _ => rfl
  | 3, _ => rfl
  | 4, _ => rfl
set_option maxRecDepth 100000 in
set_option maxHeartbeats 1000000 in
theorem hand_any {B N : Nat} (μ : Mp) (i : Int) (w : World) (h : PoolAt B N w μ) (hN : N + 1 < 2305843009213693952) :
    Calls Tryz.prog 107 #[.pointer (some ⟨μ.P, 0, none⟩), .int .i64 i] w (FoundAt B (N + 2) w μ (handP μ.X i)) := by
  by_cases hr : i < 0 ∨ (μ.X.d.n : Int) ≤ i
  · rw [handP_no hr]
    have HC := Lib.hid (check_no μ i w h hr)
    have HP := Lib.hid h
    clear h hr
    go_enter Tryz.func107, Tryz.ntmps107
    go_wp2_with (go_at_call 118; refine HC.out.mono ?_; rintro e w1 ⟨rfl, rfl⟩)
    go_ret2
    exact ⟨ret_none rfl (by decide), _, HP.out.mono (by omega), Stp.refl _ _, rfl, rfl, rfl, rfl⟩
  · have HC := Lib.hid (check_ok μ i w h (by omega) (by omega))
    have c1 := h.core.hd.c1
    have c2 := h.core.hd.c2
    have hn1 := h.core.ok.n1
    have hkey := key_of (x := i) (by omega)
    have HO := Lib.hid (show Owns w μ.M μ.X.c μ.D from h.mo)
    cases ha : μ.X.at i with
    | some k =>
      rw [handP_some hr ha]
      obtain ⟨hk, hki⟩ := at_some ha
      have hkm : k < μ.X.m := by have := h.core.ok.cm; omega
      have hm1 := h.core.ok.m1
      have i0 : (0 : Int) ≤ (k : Int) := by omega
      have i1 : (k : Int) < (μ.X.m : Int) := by omega
      have g3 := h.core.row.at3 hkm
      have z3 := h.core.row.fz (k * 5 + 3)
      have HH := Lib.hid ((h.mp.has i).2 ⟨k, hk, hki⟩)
      have HA := Lib.hid (show μ.D.atKey (.int .i64 i) (.lit (.int .i64 0)) = .lit (.int .i64 (k : Int)) by rw [← hki]; exact h.mp.at' k hk)
      have HON := Lib.hid (onF_used h.core.row hkm)
      have HP := Lib.hid (h.put (M := N + 2) { μ.X.fr k with u := true } (μ.a k) (μ.cp k) HON.out rfl (h.core.fit hkm) (h.core.ok.put hk rfl (h.core.ok.siz k) (Nat.le_trans (h.core.ok.hN k) (by omega)) (by omega)))
      have HS := Lib.hid (stp_put (f := { μ.X.fr k with u := true }) (a := μ.a k) (c := μ.cp k) HON.out (fun b off e => .inl (.inr ⟨k, off, hkm, e⟩)))
      clear h ha hki hr HON hkm hk
      go_enter Tryz.func107, Tryz.ntmps107
      go_wp2_with (first | (go_at_call 118; refine HC.out.mono ?_; rintro e w1 ⟨rfl, rfl⟩) | (at_lookup; refine wpList_lookup_own_ok_int _ rfl _ _ 100 rfl 3 3 .i64 klaw Tryz.underlying100 Tryz.underlying3 (zeroI _) μ.M μ.X.c μ.D rfl HO.out _ _ rfl hkey ?_; intro c hat hwc; rw [HA.out] at hat; obtain rfl : (k : Int) = c := (by injection hat with e; injection e); rw [HH.out]; clear hat hwc))
      go_ret2
      exact ⟨ret_found rfl rfl, _, HP.out, HS.out, rfl, rfl, rfl, rfl⟩
    | none =>
      rw [handP_none hr ha]
      obtain ⟨j, rfl⟩ : ∃ j : Nat, i = j := ⟨i.toNat, by omega⟩
      have HH := Lib.hid (show Maps.has μ.D (.int .i64 j) = false by
        cases hh : Maps.has μ.D (.int .i64 j)
        · rfl
        · obtain ⟨k, h1, h2⟩ := (h.mp.has j).1 hh
          exact absurd h2 (at_none ha k h1))
      have HF := Lib.hid (fetch_any μ j w h (by omega) hN)
      generalize fetchP μ.X j = r at HF ⊢
      have HF2 := Lib.hid (show Calls Tryz.prog 125 #[.pointer (some ⟨μ.P, 0, none⟩), .int .i64 j] w fun e w' => e = .returned (.tuple #[frp μ.F r, errv r.2.2]) ∧ Goes B (N + 2) w μ r.1 w' from HF.out)
      clear h ha hr HF
      go_enter Tryz.func107, Tryz.ntmps107
      go_wp2_with (first | (go_at_call 118; refine HC.out.mono ?_; rintro e w1 ⟨rfl, rfl⟩) | (at_lookup; refine wpList_lookup_own_ok_int _ rfl _ _ 100 rfl 3 3 .i64 klaw Tryz.underlying100 Tryz.underlying3 (zeroI _) μ.M μ.X.c μ.D rfl HO.out _ _ rfl hkey ?_; intro c hat hwc; rw [HH.out]; clear hat hwc) | (go_at_call 125; refine HF2.out.mono ?_; rintro e w2 ⟨rfl, hg⟩; have HG := Lib.hid hg; clear hg))
      go_ret2
      exact ⟨rfl, HG.out⟩

/-! Read -/
def GotAt (B N : Nat) (w : World) (μ : Mp) (X : Px) (t : ByteArray) (e : Ending) (w' : World) : Prop :=
  ∃ g cap, e = .returned (.tuple #[.slice (some ⟨g, 0, none⟩) 512 cap, .nilIface]) ∧ Lies w' (some ⟨g, 0, none⟩) (nums t) ∧ 512 ≤ cap ∧ w.heap.size ≤ g ∧ ∃ μ', PoolAt B N w' μ' ∧ Stp w μ.all w' μ'.all ∧ (μ'.P = μ.P ∧ μ'.F = μ.F ∧ μ'.s.D = μ.s.D) ∧ μ'.X = X ∧ ¬ μ'.all g
theorem fetch_lt {N : Nat} {X : Px} (o : X.Ok N) (i : Nat) (h : (fetchP X i).2.2 = 0) : (fetchP X i).2.1 < (fetchP X i).1.c := by
  cases hg : goodT (X.d.cur i)
  · rw [fetchP_bad hg] at h; exact absurd (show (7 : Int) = 0 from h) (by decide)
  · rw [fetchP_good hg] at h ⊢
    by_cases he : (findP X.load i).2.2 = 0
    · rw [if_pos he]
      exact (find_lt o.load i he).1
    · rw [if_neg he] at h
      exact absurd h he
theorem hand_lt {N : Nat} {X : Px} (o : X.Ok N) (i : Int) (h : (handP X i).2.2 = 0) : (handP X i).2.1 < (handP X i).1.c := by
  by_cases hr : i < 0 ∨ (X.d.n : Int) ≤ i
  · rw [handP_no hr] at h; exact absurd (show (4 : Int) = 0 from h) (by decide)
  · cases ha : X.at i with
    | some k => rw [handP_some hr ha]; exact (at_some ha).1
    | none =>
      rw [handP_none hr ha] at h ⊢
      obtain ⟨j, rfl⟩ : ∃ j : Nat, i = j := ⟨i.toNat, by omega⟩
      exact fetch_lt o j h
set_option maxRecDepth 100000 in
set_option maxHeartbeats 1000000 in
theorem read_got {B N : Nat} (μ : Mp) (i : Int) (w : World) (h : PoolAt B N w μ) (hN : N + 1 < 2305843009213693952) (he : (readP μ.X i).2.2 = 0) (hs : (readP μ.X i).2.1.size = 512) :
    Calls Tryz.prog 82 #[.pointer (some ⟨μ.P, 0, none⟩), .int .i64 i] w (GotAt B (N + 2) w μ (readP μ.X i).1 (readP μ.X i).2.1) := by
  have hh := hand_any μ i w h hN
  have hlt := hand_lt h.core.ok i
  unfold readP at he hs ⊢
  generalize handP μ.X i = r at hh hlt he hs ⊢
  obtain ⟨Y, k, err⟩ := r
  simp only at he hs hlt ⊢
  subst he
  rw [if_pos rfl] at hs ⊢
  have HF := Lib.hid (found_zero hh)
  have HLT := Lib.hid (hlt rfl)
  have HSZ := Lib.hid hs
  have HW := Lib.hid h.lt
  clear h hh hlt hs
  go_enter Tryz.func82, Tryz.ntmps82
  go_upto_region 4 with (go_at_call 107; refine HF.out.mono ?_; rintro e w2 ⟨rfl, hg⟩; have HG := Lib.hid hg; clear hg)
  obtain ⟨μ2, hp2, hs2, eP, eF, eD, eX⟩ := HG.out
  have hkm : k < μ2.X.m := by have := hp2.core.ok.cm; have := HLT.out; rw [← eX] at this; omega
  have g1 := hp2.core.row.at1 hkm
  have hfit := hp2.core.fit hkm
  have et : (μ2.X.fr k).t = (Y.fr k).t := by rw [eX]
  rw [et] at g1 hfit
  rw [HSZ.out] at g1
  obtain ⟨b, off, ha⟩ := hfit.addr (by rw [HSZ.out]; omega)
  rw [ha] at g1 hfit
  rw [eF] at g1
  have HCL := Lib.hid (cloneB_at b off (μ2.cp k) (nums (Y.fr k).t) w2 (by rw [nums_len, HSZ.out]) hfit.1)
  have HBY := Lib.hid hfit.1.byte
  have HP2 := Lib.hid hp2
  have HS2 := Lib.hid hs2
  have HE := Lib.hid (show μ2.P = μ.P ∧ μ2.F = μ.F ∧ μ2.s.D = μ.s.D from ⟨eP, eF, eD⟩)
  have HX := Lib.hid eX
  clear hp2 hs2 eP eF eD eX HG hkm hfit et ha
  go_wp2_with (go_at_call 70; refine HCL.out.mono ?_; rintro e w3 ⟨v3, rfl, hown, hb⟩; have HO := Lib.hid hown; have HB := Lib.hid hb; clear hown hb)
  obtain ⟨g, cap, rfl, hl, hc, hg⟩ := own_bytes HO.out (by omega) HBY.out
  go_ret2
  exact ⟨g, cap, rfl, hl, hc, Nat.le_trans HS2.out.size hg, μ2, HP2.out.below HB.out, HS2.out.trans (.of_below HB.out), HE.out, HX.out, fun q => by have := (HP2.out.lt g q).2; omega⟩
set_option maxRecDepth 100000 in
set_option maxHeartbeats 1000000 in
theorem read_bad {B N : Nat} (μ : Mp) (i : Int) (w : World) (h : PoolAt B N w μ) (hN : N + 1 < 2305843009213693952) (he : (readP μ.X i).2.2 ≠ 0) :
    Calls Tryz.prog 82 #[.pointer (some ⟨μ.P, 0, none⟩), .int .i64 i] w fun e w' => e = .returned (.tuple #[.slice none 0 0, .iface 78 (.int .i64 (readP μ.X i).2.2)]) ∧ Goes B (N + 2) w μ (readP μ.X i).1 w' := by
  have hh := hand_any μ i w h hN
  unfold readP at he ⊢
  generalize handP μ.X i = r at hh he ⊢
  obtain ⟨Y, k, err⟩ := r
  simp only at he ⊢
  have HF := Lib.hid (found_bad hh he)
  clear h hh
  go_enter Tryz.func82, Tryz.ntmps82
  go_wp2_with (go_at_call 107; refine HF.out.mono ?_; rintro e w2 ⟨rfl, hg⟩; have HG := Lib.hid hg; clear hg)
  go_ret2
  exact ⟨rfl, HG.out⟩

/-! Write -/
theorem writeP_range {X : Px} {i : Int} {b : ByteArray} (h : i < 0 ∨ (X.d.n : Int) ≤ i) : writeP X i b = (X, 4) := by unfold writeP; rw [if_pos h]
theorem writeP_long {X : Px} {i : Int} {b : ByteArray} (h : ¬ (i < 0 ∨ (X.d.n : Int) ≤ i)) (hb : b.size ≠ 512) : writeP X i b = (X, 2) := by unfold writeP; rw [if_neg h, if_pos hb]
theorem writeP_sum {X : Px} {i : Int} {b : ByteArray} (h : ¬ (i < 0 ∨ (X.d.n : Int) ≤ i)) (hb : b.size = 512) (hg : goodT b = false) : writeP X i b = (X, 7) := by unfold writeP; rw [if_neg h, if_neg (by omega), if_pos hg]
theorem writeP_ok {X : Px} {i : Int} {b : ByteArray} (h : ¬ (i < 0 ∨ (X.d.n : Int) ≤ i)) (hb : b.size = 512) (hg : goodT b = true) : writeP X i b = (if (findP X i).2.2 = 0 then ((findP X i).1.put (findP X i).2.1 { (findP X i).1.fr (findP X i).2.1 with t := b, d := true, u := true }, 0) else ((findP X i).1, (findP X i).2.2)) := by unfold writeP; rw [if_neg h, if_neg (by omega), if_neg (by rw [hg]; decide)]
theorem onF_laid {w : World} {F m : Nat} {fr : Nat → Fr} {a : Nat → Option Addr} {cp : Nat → Nat} (h : Row w F m fr a cp) {k : Nat} (hk : k < m) (t : ByteArray) (ad : Option Addr) (c : Nat) :
    OnF w (((w.setCell ⟨F, k * 5 + 1, none⟩ (.slice ad t.size c)).setCell ⟨F, k * 5 + 2, none⟩ (.bool true)).setCell ⟨F, k * 5 + 3, none⟩ (.bool true)) F k (fv { fr k with t := t, d := true, u := true } ad c) := by
  refine ((((OnF.refl (h.c k hk)).set 1 (by omega) _).set 2 (by omega) _).set 3 (by omega) _).congr fun j hj => ?_
  match j, hj with
  | 0, _ => rfl
  | 1, _ => rfl
  | 2, _ => rfl
  | 3, _ => rfl
  | 4, _ => rfl
def LaidAt (B N : Nat) (w : World) (μ : Mp) (r : Px × Int) (e : Ending) (w' : World) : Prop := e = .returned (errv r.2) ∧ Goes B N w μ r.1 w'
set_option maxRecDepth 100000 in
set_option maxHeartbeats 1000000 in
theorem write_any' {B N : Nat} (μ : Mp) (i : Int) (t : ByteArray) (a : Option Addr) (c : Nat) (w : World) (h : PoolAt B N w μ) (hl : Lies w a (nums t)) (hc : t.size ≤ c) (hnb : ∀ b off, a = some ⟨b, off, none⟩ → ¬ μ.all b) (hN : N < 2305843009213693952) :
    Calls Tryz.prog 96 #[.pointer (some ⟨μ.P, 0, none⟩), .int .i64 i, .slice a t.size c] w (LaidAt B (N + 1) w μ (writeP μ.X i t)) := by
  by_cases hr : i < 0 ∨ (μ.X.d.n : Int) ≤ i
  · rw [writeP_range hr]
    have HC := Lib.hid (check_no μ i w h hr)
    have HP := Lib.hid h
    clear h hr hl hnb
    go_enter Tryz.func96, Tryz.ntmps96
    go_wp2_with (go_at_call 118; refine HC.out.mono ?_; rintro e w1 ⟨rfl, rfl⟩)
    go_ret
    exact ⟨by show _ = Ending.returned (errv 4); rw [errv1 (by decide)]; rfl, _, HP.out.mono (by omega), Stp.refl _ _, rfl, rfl, rfl, rfl⟩
  have HC := Lib.hid (check_ok μ i w h (by omega) (by omega))
  by_cases hs : t.size ≠ 512
  · rw [writeP_long hr hs]
    have hne : ((t.size : Int) != 512) = true := by simp; omega
    have HP := Lib.hid h
    clear h hr hl hnb hs
    go_enter Tryz.func96, Tryz.ntmps96
    go_wp2_with (go_at_call 118; refine HC.out.mono ?_; rintro e w1 ⟨rfl, rfl⟩)
    go_ret
    exact ⟨by show _ = Ending.returned (errv 2); rw [errv1 (by decide)]; rfl, _, HP.out.mono (by omega), Stp.refl _ _, rfl, rfl, rfl, rfl⟩
  have hs : t.size = 512 := by omega
  have hne : ((512 : Int) != 512) = false := by decide
  have HSZ := Lib.hid hs
  cases hg : goodT t
  · rw [writeP_sum hr hs hg]
    have HG := Lib.hid (good_is a c (nums t) false w (by rw [nums_len, hs]) hl (by omega) hg)
    have HP := Lib.hid h
    rw [hs]
    clear h hr hl hnb hs hg
    go_enter Tryz.func96, Tryz.ntmps96
    go_wp2_with (first | (go_at_call 118; refine HC.out.mono ?_; rintro e w1 ⟨rfl, rfl⟩) | (go_at_call 108; refine HG.out.mono ?_; rintro e w2 ⟨rfl, hb⟩; have HB := Lib.hid hb; clear hb))
    go_ret
    exact ⟨by show _ = Ending.returned (errv 7); rw [errv1 (by decide)]; rfl, _, (HP.out.below HB.out).mono (by omega), .of_below HB.out, rfl, rfl, rfl, rfl⟩
  · rw [writeP_ok hr hs hg]
    have HG := Lib.hid (good_is a c (nums t) true w (by rw [nums_len, hs]) hl (by omega) hg)
    obtain ⟨b, off, ha⟩ : ∃ b off, a = some ⟨b, off, none⟩ := by
      obtain ⟨b, off, ha, _⟩ := hl 0 (by rw [nums_len, hs]; omega)
      exact ⟨b, off, ha⟩
    subst ha
    have HLI := Lib.hid hl
    have HNB := Lib.hid (hnb b off rfl)
    have HF := Lib.hid fun w1 (h1 : PoolAt B N w1 μ) => find_any μ i w1 h1 ⟨by omega, by omega⟩ hN
    have HFL := Lib.hid (find_lt h.core.ok i)
    have HLT := Lib.hid h.lt
    have HP := Lib.hid h
    generalize findP μ.X i = r at HF HFL ⊢
    obtain ⟨Y, k, err⟩ := r
    simp only at HFL ⊢
    rw [hs]
    clear h hr hl hnb hs hg
    by_cases he : err = 0
    · subst he
      rw [if_pos rfl]
      have HFL2 := Lib.hid (HFL.out rfl)
      clear HFL
      have HF2 := Lib.hid fun w1 (h1 : PoolAt B N w1 μ) => found_zero (HF.out w1 h1)
      clear HF
      go_enter Tryz.func96, Tryz.ntmps96
      go_upto_region 11 with (first | (go_at_call 118; refine HC.out.mono ?_; rintro e w1 ⟨rfl, rfl⟩) | (go_at_call 108; refine HG.out.mono ?_; rintro e w1 ⟨rfl, hb⟩; have HB := Lib.hid hb; clear hb) | (go_at_call 119; refine (HF2.out _ (HP.out.below HB.out)).mono ?_; rintro e w2 ⟨rfl, hg⟩; have HGO := Lib.hid hg; clear hg))
      obtain ⟨μ2, hp2, hs2, eP, eF, eD, eX⟩ := HGO.out
      have hkc : k < μ2.X.c := by rw [eX]; exact HFL2.out.1
      have hkm : k < μ2.X.m := by have := hp2.core.ok.cm; omega
      have g1 := hp2.core.row.at1 hkm
      have g2 := hp2.core.row.at2 hkm
      have g3 := hp2.core.row.at3 hkm
      have z1 := hp2.core.row.fz (k * 5 + 1)
      have z2 := hp2.core.row.fz (k * 5 + 2)
      have z3 := hp2.core.row.fz (k * 5 + 3)
      have hl1 := HLI.out.below HB.out
      have hl2 : Lies w2 (some ⟨b, off, none⟩) (nums t) := lies_same hl1 fun b' off' e => by
        obtain ⟨rfl, rfl⟩ : b = b' ∧ off = off' := by simpa using e
        obtain ⟨b3, off3, e3, hc3, _⟩ := hl1 0 (by rw [nums_len, HSZ.out]; omega)
        obtain ⟨rfl, rfl⟩ : b = b3 ∧ off = off3 := by simpa using e3
        exact hs2.block b (World.block_lt_of_cell? w1 _ hc3) HNB.out
      have HCL := Lib.hid (cloneB_at b off c (nums t) w2 (by rw [nums_len, HSZ.out]) hl2)
      have HBY := Lib.hid hl2.byte
      have HP2 := Lib.hid hp2
      have HS2 := Lib.hid ((Stp.of_below HB.out).trans hs2)
      have HE := Lib.hid (show μ2.P = μ.P ∧ μ2.F = μ.F ∧ μ2.s.D = μ.s.D from ⟨eP, eF, eD⟩)
      have HX := Lib.hid eX
      have HKC := Lib.hid hkc
      have HKM := Lib.hid hkm
      rw [eF] at g1 g2 g3 z1 z2 z3
      clear hp2 hs2 eP eF eD eX HGO hkc hkm hl1 hl2
      have HBL := Lib.hid HS2.out.size
      go_wp2_with (go_at_call 70; refine HCL.out.mono ?_; rintro e w3 ⟨v3, rfl, hown, hb⟩; obtain ⟨g, cap, rfl, hl, hcc, hgg⟩ := own_bytes hown (by omega) HBY.out; have HLG := Lib.hid hl; have HCC := Lib.hid hcc; have HGG := Lib.hid hgg; have HP3 := Lib.hid (HP2.out.below hb); have HS3 := Lib.hid (HS2.out.trans (.of_below hb)); have G1 := HP3.out.core.row.at1 HKM.out; have G2 := HP3.out.core.row.at2 HKM.out; have G3 := HP3.out.core.row.at3 HKM.out; have Z1 := HP3.out.core.row.fz (k * 5 + 1); have Z2 := HP3.out.core.row.fz (k * 5 + 2); have Z3 := HP3.out.core.row.fz (k * 5 + 3); rw [HE.out.2.1] at G1 G2 G3 Z1 Z2 Z3; clear g1 g2 g3 z1 z2 z3 hown hb hl hcc hgg)
      go_ret
      have hON := onF_laid HP3.out.core.row HKM.out t (some ⟨g, 0, none⟩) cap
      have hgl : g < w3.heap.size := by
        obtain ⟨b', off', ha, hc', _⟩ := HLG.out 0 (by rw [nums_len, HSZ.out]; omega)
        obtain ⟨rfl, rfl⟩ : g = b' ∧ 0 = off' := by simpa using ha
        exact World.block_lt_of_cell? w3 _ hc'
      have hgn : ¬ μ2.all g := fun q => by have := (HP2.out.lt g q).2; have := HGG.out; omega
      have hfit : Fit B w3 μ2 t (some ⟨g, 0, none⟩) cap := ⟨HLG.out, by rw [HSZ.out]; exact HCC.out, fun b' off' e => by
        obtain ⟨rfl, rfl⟩ : g = b' ∧ 0 = off' := by simpa using e
        have h2 := HP2.out.lt μ2.P (.inl (.inl rfl))
        have := HGG.out
        exact ⟨by omega, hgl, fun q => hgn (.inl q)⟩⟩
      have hP4 := HP3.out.put (M := N + 1) { μ2.X.fr k with t := t, d := true, u := true } (some ⟨g, 0, none⟩) cap hON rfl hfit (HP3.out.core.ok.put HKC.out rfl (.inl HSZ.out) (HP3.out.core.ok.hN k) (Nat.le_refl _))
      have hS4 := stp_put2 (w0 := w) (H := μ.all) (f := { μ2.X.fr k with t := t, d := true, u := true }) (a := some ⟨g, 0, none⟩) (c := cap) HS3.out hON (fun b' off' e => by
        obtain ⟨rfl, rfl⟩ : g = b' ∧ 0 = off' := by simpa using e
        have := HGG.out
        have := HBL.out
        exact .inr (by omega))
      rw [HE.out.2.1, HSZ.out] at hP4 hS4
      refine ⟨by show _ = Ending.returned (errv 0); rw [errv0]; rfl, _, hP4, hS4, HE.out.1, HE.out.2.1, HE.out.2.2, ?_⟩
      show μ2.X.put k { μ2.X.fr k with t := t, d := true, u := true } = _
      rw [HX.out]
    · rw [if_neg he]
      have HF2 := Lib.hid fun w1 (h1 : PoolAt B N w1 μ) => found_bad (HF.out w1 h1) he
      clear HF
      go_enter Tryz.func96, Tryz.ntmps96
      go_wp2_with (first | (go_at_call 118; refine HC.out.mono ?_; rintro e w1 ⟨rfl, rfl⟩) | (go_at_call 108; refine HG.out.mono ?_; rintro e w1 ⟨rfl, hb⟩; have HB := Lib.hid hb; clear hb) | (go_at_call 119; refine (HF2.out _ (HP.out.below HB.out)).mono ?_; rintro e w2 ⟨rfl, hg⟩; have HGO := Lib.hid hg; clear hg))
      go_ret
      exact ⟨by show _ = Ending.returned (errv err); rw [errv1 he]; rfl, Goes.trans (.of_below HB.out) ⟨rfl, rfl, rfl⟩ (Nat.le_refl _) HGO.out⟩
end Go.Proofs.YtokikeenfpligaaGreatDoor
namespace Go.Proofs.YtokikeenfpligaaGreatDoor
open Go.RowKit Go.Maps

/-! Flush -/
theorem flushN_stop {n k : Nat} {X : Px} (h : (cleanP X k).2 ≠ 0) : flushN (n + 1) k X = cleanP X k := by show (if (cleanP X k).2 = 0 then _ else cleanP X k) = _; rw [if_neg h]
theorem flushN_go {n k : Nat} {X : Px} (h : (cleanP X k).2 = 0) : flushN (n + 1) k X = flushN n (k + 1) (cleanP X k).1 := by show (if (cleanP X k).2 = 0 then _ else cleanP X k) = _; rw [if_pos h]
def FlushRel (B N : Nat) (w : World) (H : Nat → Prop) (P F D m : Nat) (R : Px × Int) (k : Nat) (wr : World) : Prop :=
  ∃ μr, PoolAt B (N + k) wr μr ∧ Stp w H wr μr.all ∧ (μr.P = P ∧ μr.F = F ∧ μr.s.D = D ∧ μr.X.m = m) ∧ flushN (m - k) k μr.X = R
def FlushedP (B N : Nat) (w : World) (H : Nat → Prop) (P F D : Nat) (R : Px × Int) (e : Ending) (w' : World) : Prop :=
  e = .returned (errv R.2) ∧ ∃ μ', PoolAt B N w' μ' ∧ Stp w H w' μ'.all ∧ μ'.P = P ∧ μ'.F = F ∧ μ'.s.D = D ∧ μ'.X = R.1
theorem clean_empty {B N : Nat} (μ : Mp) (k : Nat) (w : World) (h : PoolAt B N w μ) (hk : k < μ.X.m) (hN : N < 2305843009213693952) :
    Calls Tryz.prog 103 #[.pointer (some ⟨μ.P, 0, none⟩), .pointer (some ⟨μ.F, k * 5, none⟩)] w fun e w' => e = .returned (errv (cleanP μ.X k).2) ∧ Goes B (N + 1) w μ (cleanP μ.X k).1 w' := by
  by_cases hc : k < μ.X.c
  · exact clean_any μ k w h hc hN
  · have hd : (μ.X.fr k).d = false := by rw [h.core.ok.emp k (by omega)]; rfl
    have g2 := h.core.row.at2 hk
    have HP := Lib.hid h
    rw [hd] at g2
    rw [cleanP_no hd, errv0]
    clear h hd
    go_enter Tryz.func103, Tryz.ntmps103
    go_wp2
    go_ret
    exact ⟨rfl, _, HP.out.mono (by omega), Stp.refl _ _, rfl, rfl, rfl, rfl⟩
def flushR (R : Px × Int) : Px × Int := if R.2 = 0 then (R.1.disk R.1.d.flush, 0) else R
theorem flushP_eq (X : Px) : flushP X = flushR (flushN X.m 0 X) := rfl
set_option maxRecDepth 100000 in
set_option maxHeartbeats 1000000 in
theorem flush_walk {B N : Nat} (w : World) (H : Nat → Prop) (P F D m : Nat) (R : Px × Int) (hI : Hid (FlushRel B N w H P F D m R 0 w)) (hN : N + m + 1 < 2305843009213693952) (hm : m ≤ 1024) :
    Calls Tryz.prog 76 #[.pointer (some ⟨P, 0, none⟩)] w (FlushedP B (N + m) w H P F D (flushR R)) := by
  obtain ⟨μ0, hp0, _, ⟨e1, e2, e3, e4⟩, _⟩ := hI.out
  have c1 := hp0.core.hd.c1
  rw [e1, e2, e4] at c1
  clear hp0 e1 e2 e3 e4
  go_enter Tryz.func76, Tryz.ntmps76
  go_wp2
  go_loopw [13, 3, 4] (fun i _ _ wr => ∃ k : Nat, k ≤ m ∧ i = .int .i64 k ∧ Hid (FlushRel B N w H P F D m R k wr)) (fun i _ _ _ => m - (intOf i).toNat)
  case atStart => exact ⟨0, by omega, rfl, hI⟩
  case round =>
    obtain ⟨k, hk, rfl, HR⟩ := hrel
    obtain ⟨μr, hp, hs, ⟨rfl, rfl, rfl, rfl⟩, hr⟩ := HR.out
    have c1 := hp.core.hd.c1
    have HP := Lib.hid hp
    have HS := Lib.hid hs
    by_cases hlt : k < μr.X.m
    · have i0 : (0 : Int) ≤ (k : Int) := by omega
      have i1 : (k : Int) < (μr.X.m : Int) := by omega
      have HCL := Lib.hid (clean_empty μr k wr hp hlt (by omega))
      have HC := Lib.hid (cleanP_c μr.X k)
      obtain ⟨n, hn⟩ : ∃ n, μr.X.m - k = n + 1 := ⟨μr.X.m - k - 1, by omega⟩
      rw [hn] at hr
      by_cases he : (cleanP μr.X k).2 = 0
      · rw [he, errv0] at HCL
        rw [flushN_go he] at hr
        have HRR := Lib.hid hr
        clear hp hs hr HR
        go_wp2_with (go_at_call 103; refine HCL.out.mono ?_; rintro e w1 ⟨rfl, hg⟩; have HG := Lib.hid hg; clear hg)
        go_roundw
        case rel =>
          obtain ⟨μ2, h1, h2, h3, h4, h5, h6⟩ := HG.out
          refine ⟨k + 1, by omega, by go_num, Lib.hid ⟨μ2, h1, HS.out.trans h2, ⟨h3, h4, h5, by rw [h6]; exact HC.out.2.1⟩, ?_⟩⟩
          rw [h6, show μr.X.m - (k + 1) = n by omega]
          exact HRR.out
        case measure => simp [intOf]; omega
      · rw [errv1 he] at HCL
        rw [flushN_stop he] at hr
        have HRR := Lib.hid hr
        have HE := Lib.hid he
        clear hp hs hr HR he
        go_wp2_with (go_at_call 103; refine HCL.out.mono ?_; rintro e w1 ⟨rfl, hg⟩; have HG := Lib.hid hg; clear hg)
        go_ret
        obtain ⟨μ2, h1, h2, h3, h4, h5, h6⟩ := HG.out
        rw [← HRR.out]
        unfold flushR
        rw [if_neg HE.out]
        exact ⟨by rw [errv1 HE.out]; rfl, μ2, h1.mono (by omega), HS.out.trans h2, h3, h4, h5, h6⟩
    · obtain rfl : k = μr.X.m := by omega
      rw [Nat.sub_self] at hr
      have HRR := Lib.hid hr
      have c0 := hp.core.hd.c0
      have HF := Lib.hid (flush_any μr.s wr hp.core.d)
      clear hp hs hr HR
      go_wp2_with (go_at_call 104; refine HF.out.mono ?_; rintro e w1 ⟨rfl, hd, hs⟩; have HD := Lib.hid hd; have HS2 := Lib.hid hs; clear hd hs)
      go_ret
      rw [← HRR.out]
      have ht := HP.out.core.t.flush HP.out.core.d.ok
      have hP := HP.out.disk (s' := μr.s.flush) (d' := μr.X.d.flush) HD.out HS2.out rfl ht HP.out.core.ok.flush
      exact ⟨by show _ = Ending.returned (errv 0); rw [errv0]; rfl, _, hP, HS.out.trans (stp_disk HS2.out), rfl, rfl, rfl, rfl⟩
theorem flushp_any {B N : Nat} (μ : Mp) (w : World) (h : PoolAt B N w μ) (hN : N + 1025 < 2305843009213693952) :
    Calls Tryz.prog 76 #[.pointer (some ⟨μ.P, 0, none⟩)] w fun e w' => e = .returned (errv (flushP μ.X).2) ∧ Goes B (N + μ.X.m) w μ (flushP μ.X).1 w' := by
  have hm := h.core.ok.m1
  rw [flushP_eq]
  exact flush_walk w μ.all μ.P μ.F μ.s.D μ.X.m _ (Lib.hid ⟨μ, h, Stp.refl _ _, ⟨rfl, rfl, rfl, rfl⟩, by rw [Nat.sub_zero]⟩) (by omega) hm
end Go.Proofs.YtokikeenfpligaaGreatDoor

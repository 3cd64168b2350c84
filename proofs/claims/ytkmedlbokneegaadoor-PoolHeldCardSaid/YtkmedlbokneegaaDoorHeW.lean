/-
  PoolHeld: what is held stays in its frame; so long as a frame is not held, any sector may be laid, else none. No condition but that the input could be read.
-/
import Derived.Test.YtkmedlbokneegaaDoorHe
import Derived.Deep.RegionHeld3
import Derived.IntWalk
namespace Go.Proofs.YtkmedlbokneegaaDoor
open Go.RowKit Go.Maps

theorem pl_write_x {W w w0 : World} {N p D : Nat} {X Y : Px} {H0 : Nat → Prop} (h : PlN W N w p D X w0 H0) (x : Int) (q : Nat) (hx : x = q) (t : ByteArray) (c : Nat) (ht : t.size = 512) (hc : 512 ≤ c) (hN : N < 2305843009213693952) (he : writeP X q t = (Y, 0)) :
    Calls Tryd.prog 16 #[.pointer (some ⟨p, 0, none⟩), .int .i64 x, .slice (some ⟨w.heap.size, 0, none⟩) 512 c] (bw w t) fun e w' => e = .returned .nilIface ∧ PlN W (N + 1) w' p D Y w0 H0 := by
  subst hx
  exact pl_write_ok h q t c ht hc hN he
theorem pl_write_no {W w w0 : World} {N p D : Nat} {X Y : Px} {H0 : Nat → Prop} (h : PlN W N w p D X w0 H0) (x : Int) (q : Nat) (hx : x = q) (t : ByteArray) (c : Nat) (ht : t.size = 512) (hc : 512 ≤ c) (hN : N < 2305843009213693952) (er : Int) (h0 : er ≠ 0) (he : writeP X q t = (Y, er)) :
    Calls Tryd.prog 16 #[.pointer (some ⟨p, 0, none⟩), .int .i64 x, .slice (some ⟨w.heap.size, 0, none⟩) 512 c] (bw w t) fun e w' => e = .returned (.iface 60 (.int .i64 er)) ∧ PlN W (N + 1) w' p D Y w0 H0 := by
  subst hx
  exact (pl_write h q t c 512 ht hc hN).mono fun _ _ ⟨e1, h1⟩ => by
    rw [he, errv1 h0] at e1
    rw [he] at h1
    exact ⟨e1, h1⟩
theorem pl_pin_ok {W w w0 : World} {N p D : Nat} {X Y : Px} {H0 : Nat → Prop} (h : PlN W N w p D X w0 H0) (i : Int) (hN : N + 3 < 2305843009213693952) (he : pinP X i = (Y, 0)) :
    Calls Tryd.prog 17 #[.pointer (some ⟨p, 0, none⟩), .int .i64 i] w fun e w' => e = .returned .nilIface ∧ PlN W (N + 3) w' p D Y w0 H0 :=
  (pl_pin h i hN).mono fun _ _ ⟨e1, h1⟩ => by
    rw [he, errv0] at e1
    rw [he] at h1
    exact ⟨e1, h1⟩
theorem pl_unpin_ok {W w w0 : World} {N p D : Nat} {X Y : Px} {H0 : Nat → Prop} (h : PlN W N w p D X w0 H0) (i : Int) (hN : N < 2305843009213693952) (he : unpinP X i = (Y, 0)) :
    Calls Tryd.prog 18 #[.pointer (some ⟨p, 0, none⟩), .int .i64 i] w fun e w' => e = .returned .nilIface ∧ PlN W N w' p D Y w0 H0 :=
  (pl_unpin h i hN).mono fun _ _ ⟨e1, h1⟩ => by
    rw [he, errv0] at e1
    rw [he] at h1
    exact ⟨e1, h1⟩
theorem pl_unpin_no {W w w0 : World} {N p D : Nat} {X : Px} {H0 : Nat → Prop} (h : PlN W N w p D X w0 H0) (i c : Int) (hN : N < 2305843009213693952) (hc : unpinP X i = (X, c)) (h0 : c ≠ 0) :
    Calls Tryd.prog 18 #[.pointer (some ⟨p, 0, none⟩), .int .i64 i] w fun e w' => e = .returned (.iface 60 (.int .i64 c)) ∧ PlN W N w' p D X w0 H0 :=
  (pl_unpin h i hN).mono fun _ _ ⟨he, hp⟩ => by
    rw [hc] at he hp
    exact ⟨by rw [he, errv1 h0], hp⟩
theorem pl_frames_n {W w w0 : World} {N p D : Nat} {X : Px} {H0 : Nat → Prop} (h : PlN W N w p D X w0 H0) (n : Nat) (hm : X.m = n) (hn : 1 ≤ n) :
    Calls Tryd.prog 20 #[.pointer (some ⟨p, 0, none⟩)] w fun e w' => ∃ g o cap, e = .returned (.slice (some ⟨g, o, none⟩) n cap) ∧ Hid (∀ j, j < n → w'.cell? ⟨g, o + j, none⟩ = some (.int .i64 (X.fr j).i)) ∧ PlN W N w' p D X w0 H0 := by
  subst hm
  exact (pl_frames h).mono fun e w' ⟨ao, cap, he, hx, h'⟩ => by
    have hl := secs_len X X.m
    obtain ⟨g, o, rfl, hc⟩ := hx 0 (by rw [hl]; exact hn)
    refine ⟨g, o, cap, by rw [he, hl], Lib.hid fun j hj => ?_, h'⟩
    obtain ⟨g2, o2, e2, hc2⟩ := hx j (by rw [hl]; exact hj)
    obtain ⟨rfl, rfl⟩ : g = g2 ∧ o = o2 := by simpa using e2
    rw [hc2]
    simp [Px.secs]
theorem PlN.to' {W w w0 : World} {N p D : Nat} {X : Px} {H0 : Nat → Prop} (h : PlN W N w p D X w0 H0) : ∃ H, Pl W N w p D X H := by
  obtain ⟨H, h1, _⟩ := h
  exact ⟨H, h1⟩
theorem red_i64 (a m : Int) (hm : 0 < m) (hm2 : m ≤ 9223372036854775807) : IntKind.i64.wrap ((IntKind.u64.wrap a).tmod m) = wrap64 ((IntKind.u64.wrap a).tmod m) := by
  have h0 := wrap_u64_nonneg a
  rw [Int.tmod_eq_emod_of_nonneg h0]
  have h1 := Int.emod_nonneg (IntKind.u64.wrap a) (show m ≠ 0 by omega)
  have h2 := Int.emod_lt_of_pos (IntKind.u64.wrap a) hm
  rw [IntWalk.wrap64_in _ ⟨by omega, by omega⟩, IntWalk.i64_in _ ⟨by omega, by omega⟩]
theorem act_two {W w : World} {b o : Nat} {A : ActV} (hr : W.rangeAt b o A.cells) (hb : Below W.heap.size W w) : w.cell? ⟨b, o + 1, none⟩ = some (.int .i64 A.i) ∧ w.cell? ⟨b, o + 2, none⟩ = some (.string A.b) := ⟨act_cell hb hr 1 _ rfl, act_cell hb hr 2 _ rfl⟩
/-- which frame it is -/
theorem Hold.frame {N m i : Nat} {X : Px} (h : Hold m (i + 1) X) (o : X.Ok N) : ∃ k, k < m ∧ (X.fr k).i = (i : Int) ∧ 0 < (X.fr k).h ∧ ∀ j, j ≠ k → (X.fr j).i ≠ (i : Int) := by
  obtain ⟨k, h1, h2⟩ := h.ex i (by omega)
  refine ⟨k, by have := o.cm; have := h.mE; omega, h2, by rw [h.h k, h2, if_pos (by omega)]; decide, fun j hj q => ?_⟩
  by_cases hc : j < X.c
  · exact hj (o.inj j k hc h1 (q.trans h2.symm))
  · rw [o.emp j (by omega)] at q
    exact absurd (show (-1 : Int) = (i : Int) from q) (by omega)
set_option maxHeartbeats 800000 in
set_option maxRecDepth 100000 in
theorem held_walk (n0 : Int) (a : Option Addr) (len cap : Nat) (l : Nat → ActV) (W : World) (_w0 : (Lit.int .i64 n0).wf = true) (hw : IsActs W a len l) (hL : Laid W) :
    Calls Tryd.prog 6 #[.int .i64 n0, .slice a len cap] W fun e w' => e = .returned (.bool true) ∧ Below W.heap.size W w' := by
  obtain ⟨k, hk, hk4⟩ := red_nat n0 4 (by omega) (by omega)
  have HA := Lib.hid hw
  have HLD := Lib.hid hL
  clear hw hL
  go_enter Tryd.func6, Tryd.ntmps6
  go_wp2_with (first | (go_at_call 7; refine (disk_new' (W := W) (k + 1 + 4) _ (by omega) _ (Below.refl _ _) (by omega) (by omega)).mono ?_; rintro e wa ⟨D, H, rfl, h⟩; have HD := Lib.hid h; clear h) | (go_at_call 8; refine (newp_at' (30 * 0) (k + 1) _ (by omega) HD.out (by omega) (by omega) (show (0 : Int) ≤ 0 by decide) (show (0 : Int) ≤ (0 : Nat) by decide)).mono ?_; rintro e wb ⟨p, H1, rfl, h⟩; have HP0 := Lib.hid h; clear h))
  have HI : Hid (∃ X H, Pl W (30 * 0) wb p D X H ∧ Hold (k + 1) 0 X) := Lib.hid ⟨_, _, HP0.out, hold_fresh (k + 1)⟩
  clear HP0 HD
  have k0 : (0 : Int) ≤ (k : Int) := by omega
  have hlen := HA.out.1
  go_loopw [10, 11, 12, 13, 14, 15, 16] (fun x _ _ _ _ _ _ wr => ∃ i : Nat, i ≤ k + 1 ∧ x = .int .i64 i ∧ Hid (∃ X H, Pl W (30 * i) wr p D X H ∧ Hold (k + 1) i X)) (fun x _ _ _ _ _ _ _ => k + 1 - (intOf x).toNat)
  case atStart => exact ⟨0, by omega, rfl, HI⟩
  case round =>
    obtain ⟨i, hi, rfl, HR⟩ := hrel
    by_cases hlt : i < k + 1
    · have i0 : (0 : Int) ≤ (i : Int) := by omega
      have i1 : (i : Int) < 1 + (k : Int) := by omega
      obtain ⟨X, H, hpl, hH⟩ := HR.out
      obtain ⟨Y, hY, hHY, _, hYat⟩ := hH.lay hpl.ok hlt (Nat.le_refl i) (by omega) (mkT_size ⟨#[104, 101, 108, 100]⟩) (mkT_good ⟨#[104, 101, 108, 100]⟩)
      have HPL := Lib.hid hpl.first
      have HY := Lib.hid hY
      have HHY := Lib.hid hHY
      have HYA := Lib.hid hYat
      have cv := conv_b (mkT ⟨#[104, 101, 108, 100]⟩) (mkT_size _)
      clear hpl hH hY hHY hYat HR
      go_upto_region 11 with (first | (go_at_call 23; refine (marked_from HPL.out ⟨#[104, 101, 108, 100]⟩ (by decide)).mono ?_; rintro e w2 ⟨rfl, h⟩; have HP2 := Lib.hid h; clear h) | (go_at_call 16; refine (pl_write_x HP2.out _ i (by omega) _ _ (mkT_size _) (by have := bc_le w2 (mkT ⟨#[104, 101, 108, 100]⟩); rw [mkT_size] at this; exact this) (by omega) HY.out).mono ?_; rintro e w3 ⟨rfl, h⟩; have HP3 := Lib.hid h; clear h; obtain ⟨Z, hZ, hHZ⟩ := HHY.out.pin HP3.out.ok hlt HYA.out; have HZ := Lib.hid hZ; have HHZ := Lib.hid hHZ; clear hZ hHZ) | (go_at_call 17; refine (pl_pin_ok HP3.out _ (by omega) HZ.out).mono ?_; rintro e w4 ⟨rfl, h⟩; have HP4 := Lib.hid h; clear h))
      clear cv HY HHY HYA HPL HP2 HP3 HZ
      go_upto_region 13 with (go_at_call 20; refine (pl_frames_n HP4.out (k + 1) HHZ.out.mE (by omega)).mono ?_; rintro e w5 ⟨g, o, fc, rfl, HC5, h⟩; have HP5 := Lib.hid h; clear h)
      obtain ⟨kf, hkf, hki, hkh, hku⟩ := HHZ.out.frame HP5.out.ok
      have HKI := Lib.hid hki
      have HKH := Lib.hid hkh
      have HKU := Lib.hid hku
      clear hki hkh hku HP4
      go_wp2
      go_loopw [13, 11] (fun x y wr => ∃ (j : Nat) (z : Int), j ≤ k + 1 ∧ x = .int .i64 j ∧ y = .int .i64 z ∧ Hid (z = if kf < j then (kf : Int) else -1) ∧ Hid (Below w5.heap.size w5 wr)) (fun x _ _ => k + 1 - (intOf x).toNat)
      case atStart => exact ⟨0, -1, by omega, rfl, rfl, Lib.hid (by simp), Lib.hid (Below.refl _ _)⟩
      case round =>
        obtain ⟨j, z, hj, rfl, rfl, HZE, HB⟩ := hrel
        by_cases hjl : j < k + 1
        · have j0 : (0 : Int) ≤ (j : Int) := by omega
          have j1 : (j : Int) < ((k + 1 : Nat) : Int) := by omega
          have j2 : (j : Int) < (k : Int) + 1 := by omega
          have hc5 := HC5.out j hjl
          have cj := (HB.out.cell (p := ⟨g, o + j, none⟩) (World.block_lt_of_cell? w5 _ hc5)).trans hc5
          clear hc5
          by_cases e : j = kf
          · rw [show (Z.fr j).i = (i : Int) by rw [e]; exact HKI.out] at cj
            have HE := Lib.hid e
            clear e
            go_wp2
            go_roundw
            case rel => exact ⟨j + 1, (j : Int), by omega, by go_num, rfl, Lib.hid (by have := HE.out; rw [if_pos (by omega)]; omega), HB⟩
            case measure => simp [intOf]; omega
          · have hv := HKU.out j e
            generalize (Z.fr j).i = v at cj hv
            go_wp2
            go_roundw
            case rel => exact ⟨j + 1, z, by omega, by go_num, rfl, Lib.hid (by rw [HZE.out]; by_cases q : kf < j; rw [if_pos q, if_pos (by omega)]; rw [if_neg q, if_neg (by omega)]), HB⟩
            case measure => simp [intOf]; omega
        · have hje : j = k + 1 := by omega
          have j1 : ¬ (j : Int) < ((k + 1 : Nat) : Int) := by omega
          have j2 : ¬ (j : Int) < (k : Int) + 1 := by omega
          obtain rfl : z = (kf : Int) := by rw [HZE.out, if_pos (by omega)]
          clear hje
          have HP6 := Lib.hid (HP5.out.below HB.out)
          have f0 : (0 : Int) ≤ (kf : Int) := by omega
          have f1 : (kf : Int) < ((k + 1 : Nat) : Int) := by omega
          have f2 : (kf : Int) < (k : Int) + 1 := by omega
          clear HB HZE HP5 HC5
          go_wp2
          go_loopw [14, 15] (fun x _ wr => ∃ j : Nat, j ≤ len ∧ j ≤ 20 ∧ x = .int .i64 j ∧ Hid (∃ X H, Pl W (30 * i + 4 + j) wr p D X H ∧ Hold (k + 1) (i + 1) X ∧ (X.fr kf).i = (i : Int))) (fun x _ _ => 20 - (intOf x).toNat)
          case atStart => exact ⟨0, by omega, by omega, rfl, Lib.hid (by obtain ⟨H6, h6⟩ := HP6.out.to'; exact ⟨Z, H6, h6, HHZ.out, HKI.out⟩)⟩
          case round =>
            obtain ⟨j, hj1, hj2, rfl, HR⟩ := hrel
            obtain ⟨X2, H2, hpl, hH, hfi⟩ := HR.out
            by_cases hlt2 : j < len ∧ j < 20
            · obtain ⟨hlt2, hlt3⟩ := hlt2
              have j0 : (0 : Int) ≤ (j : Int) := by omega
              have j1 : (j : Int) < (len : Int) := by omega
              have j2 : (j : Int) < 20 := by omega
              obtain ⟨b, ob, rfl, hr, hok⟩ := HA.out.2 j hlt2
              obtain ⟨q, hq, hq4⟩ := red_nat (l j).i 4 (by omega) (by omega)
              have q0 : (0 : Int) ≤ (q : Int) := by omega
              have HPL := Lib.hid hpl.first
              have HPD := Lib.hid hpl.first.drew
              have HOB := Lib.hid hok.b
              have HRA := Lib.hid hr
              have hq' : IntKind.i64.wrap ((IntKind.u64.wrap (l j).i).tmod 4) = (q : Int) := (red_i64 _ _ (by omega) (by omega)).trans hq
              have hs2 : IntKind.i64.wrap (1 + (k : Int) + (q : Int)) = 1 + (k : Int) + (q : Int) := IntWalk.i64_in _ (by omega)
              have hcv := conv_b (mkT (l j).b) (mkT_size _)
              by_cases hfull : i + 1 < k + 1
              · have s1 : (i : Int) < (k : Int) := by omega
                have s2 : (i : Int) < 1 + (k : Int) - 1 := by omega
                obtain ⟨Y2, hY2, hHY2, hkeep, _⟩ := hH.lay hpl.ok hfull (q := k + 1 + q) (by omega) (by omega) (mkT_size (l j).b) (mkT_good (l j).b)
                have hfr : (Y2.fr kf).i = (i : Int) := (hkeep kf (by rw [hH.h kf, hfi, if_pos (by omega)]; decide)).trans hfi
                have HY2 := Lib.hid hY2
                have HR2 := Lib.hid (show Hold (k + 1) (i + 1) Y2 ∧ (Y2.fr kf).i = (i : Int) from ⟨hHY2, hfr⟩)
                clear hpl hH hfi hY2 hHY2 hkeep hfr HR hr hok
                go_upto_region 21 with (fail)
                go_region_held (fun w' => w'.cell? ⟨b, ob + j * 5 + 1, none⟩ = some (.int .i64 (l j).i) ∧ w'.cell? ⟨b, ob + j * 5 + 2, none⟩ = some (.string (l j).b)) (first | with_reducible exact act_two HRA.out HPD.out.b | with_reducible exact act_two HRA.out HP3.out.b | with_reducible exact act_two HRA.out HP2.out.b | with_reducible exact act_two HRA.out (HP2.out.b.trans ((bw_below w2 (mkT (l j).b)).mono HP2.out.b.size))) (first | (go_at_call 23; refine (marked_from HPD.out (l j).b HOB.out).mono ?_; rintro e w2 ⟨rfl, h⟩; have HP2 := Lib.hid h; clear h) | (go_at_call 16; refine (pl_write_x HP2.out _ (k + 1 + q) (by omega) _ _ (mkT_size _) (by have := bc_le w2 (mkT (l j).b); rw [mkT_size] at this; exact this) (by omega) HY2.out).mono ?_; rintro e w3 ⟨rfl, h⟩; have HP3 := Lib.hid h; clear h))
                all_goals go_wp2
                all_goals go_roundw
                all_goals first | exact ⟨j + 1, by omega, by omega, by go_num, Lib.hid (by obtain ⟨H3, h3⟩ := HP3.out.to'; exact ⟨Y2, H3, h3, HR2.out⟩)⟩ | (simp [intOf]; omega)
              · obtain rfl : i = k := by omega
                have s1 : ¬ (i : Int) < 1 + (i : Int) - 1 := by omega
                have hY2 := hH.pins hpl.ok (q := i + 1 + q) (by omega) (by omega) (mkT_size (l j).b) (mkT_good (l j).b)
                have HY2 := Lib.hid hY2
                have HR2 := Lib.hid (show Hold (i + 1) (i + 1) X2 ∧ (X2.fr kf).i = (i : Int) from ⟨hH, hfi⟩)
                clear hpl hH hfi hY2 HR hr hok
                go_upto_region 21 with (fail)
                go_region_held (fun w' => w'.cell? ⟨b, ob + j * 5 + 1, none⟩ = some (.int .i64 (l j).i) ∧ w'.cell? ⟨b, ob + j * 5 + 2, none⟩ = some (.string (l j).b)) (first | with_reducible exact act_two HRA.out HPD.out.b | with_reducible exact act_two HRA.out HP3.out.b | with_reducible exact act_two HRA.out HP2.out.b | with_reducible exact act_two HRA.out (HP2.out.b.trans ((bw_below w2 (mkT (l j).b)).mono HP2.out.b.size))) (first | (go_at_call 23; refine (marked_from HPD.out (l j).b HOB.out).mono ?_; rintro e w2 ⟨rfl, h⟩; have HP2 := Lib.hid h; clear h) | (go_at_call 16; refine (pl_write_no HP2.out _ (i + 1 + q) (by omega) _ _ (mkT_size _) (by have := bc_le w2 (mkT (l j).b); rw [mkT_size] at this; exact this) (by omega) 10 (by decide) HY2.out).mono ?_; rintro e w3 ⟨rfl, h⟩; have HP3 := Lib.hid h; clear h))
                all_goals go_wp2_with (go_at_call 15; refine (num_pl HP3.out HLD.out 10).mono ?_; rintro e w4 ⟨rfl, h⟩; have HP4 := Lib.hid h; clear h)
                all_goals go_roundw
                all_goals first | exact ⟨j + 1, by omega, by omega, by go_num, Lib.hid (by obtain ⟨H3, h3⟩ := HP4.out.to'; exact ⟨X2, H3, h3, HR2.out⟩)⟩ | (simp [intOf]; omega)
            · have hcase : (¬ (j : Int) < (len : Int)) ∨ ((j : Int) < (len : Int) ∧ ¬ (j : Int) < 20) := by omega
              have HPL := Lib.hid hpl.first
              have HHO := Lib.hid hH
              have HFI := Lib.hid hfi
              clear hpl hH hfi HR hlt2
              rcases hcase with e1 | ⟨e1, e2⟩
              all_goals (
                go_upto_region 25 with (go_at_call 20; refine (pl_frames_n HPL.out (k + 1) HHO.out.mE (by omega)).mono ?_; rintro e w7 ⟨g7, o7, fc7, rfl, HC7, h⟩; have HP7 := Lib.hid h; clear h; have c7 := HC7.out kf hkf; rw [HFI.out] at c7)
                go_wp2
                go_roundw)
              case rel => exact ⟨i + 1, by omega, by go_num, Lib.hid (by obtain ⟨H3, h3⟩ := HP7.out.to'; exact ⟨X2, H3, h3.mono (by omega), HHO.out⟩)⟩
              case measure => simp [intOf]; omega
              case rel => exact ⟨i + 1, by omega, by go_num, Lib.hid (by obtain ⟨H3, h3⟩ := HP7.out.to'; exact ⟨X2, H3, h3.mono (by omega), HHO.out⟩)⟩
              case measure => simp [intOf]; omega
    · obtain rfl : i = k + 1 := by omega
      have i1 : ¬ ((k + 1 : Nat) : Int) < 1 + (k : Int) := by omega
      obtain ⟨X, H, hpl, hH⟩ := HR.out
      obtain ⟨Y, hY1, hY2, hYd, hYm, hYh⟩ := hH.unpin hpl.ok (by omega)
      have HPL := Lib.hid hpl.first
      have HY1 := Lib.hid hY1
      have HY2 := Lib.hid hY2
      have HWR := Lib.hid fun (N : Nat) (o : Y.Ok N) => show ∃ Z, writeP Y ((k + 1 : Nat) : Int) (mkT ⟨#[120]⟩) = (Z, 0) from by
        have hr : ¬ (((k + 1 : Nat) : Int) < 0 ∨ (Y.d.n : Int) ≤ ((k + 1 : Nat) : Int)) := by have := hH.nE; rw [hYd]; omega
        rw [writeP_ok hr (mkT_size _) (mkT_good _), if_pos (find_zero o (.inr (.inr hYh)) (by rw [hYd, hH.left]; decide))]
        exact ⟨_, rfl⟩
      have cv := conv_b (mkT ⟨#[120]⟩) (mkT_size _)
      clear hpl hH hY1 hY2 hYd hYm hYh HR hlt
      go_upto_region 29 with (first | (go_at_call 18; refine (pl_unpin_ok HPL.out _ (by omega) HY1.out).mono ?_; rintro e w2 ⟨rfl, h⟩; have HP2 := Lib.hid h; clear h HPL) | (go_at_call 18; refine (pl_unpin_no HP2.out _ 8 (by omega) HY2.out (by decide)).mono ?_; rintro e w3 ⟨rfl, h⟩; have HP3 := Lib.hid h; clear h) | (go_at_call 15; refine (num_pl HP3.out HLD.out 8).mono ?_; rintro e w4 ⟨rfl, h⟩; have HP4 := Lib.hid h; clear h))
      obtain ⟨Z, hZ⟩ := HWR.out _ HP4.out.ok
      have HZ := Lib.hid hZ
      clear hZ HWR
      go_wp2_with (first | (go_at_call 23; refine (marked_from HP4.out ⟨#[120]⟩ (by decide)).mono ?_; rintro e w5 ⟨rfl, h⟩; have HP5 := Lib.hid h; clear h) | (go_at_call 16; refine (pl_write_x HP5.out _ (k + 1) (by omega) _ _ (mkT_size _) (by have := bc_le w5 (mkT ⟨#[120]⟩); rw [mkT_size] at this; exact this) (by omega) HZ.out).mono ?_; rintro e w6 ⟨rfl, h⟩; have HP6 := Lib.hid h; clear h) | (go_at_call 11; refine (sure_any _).mono ?_; rintro e w9 ⟨rfl, h⟩; have HB9 := Lib.hid h; clear h))
      go_ret
      exact ⟨rfl, HP6.out.b.trans (HB9.out.mono HP6.out.b.size)⟩
end Go.Proofs.YtkmedlbokneegaaDoor

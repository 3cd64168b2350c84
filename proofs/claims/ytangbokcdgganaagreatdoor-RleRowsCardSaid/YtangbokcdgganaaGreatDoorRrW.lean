/-
  RleRows, the walk. Conditions: that the input could be read, and the listed package-level variables.
-/
import Derived.Test.YtangbokcdgganaaGreatDoorRoW
import Derived.Laws.Concat
namespace Go.Proofs.YtangbokcdgganaaGreatDoor
open Go.RowKit Ru Ce
open Go.Lib (decDigits)

namespace Rl
theorem red_bd (a m : Int) (hm : 0 < m) (hm2 : m ≤ 9223372036854775807) : 0 ≤ wrap64 ((IntKind.u64.wrap a).tmod m) ∧ wrap64 ((IntKind.u64.wrap a).tmod m) < m := by
  have h0 := wrap_u64_nonneg a
  rw [Int.tmod_eq_emod_of_nonneg h0]
  have h1 := Int.emod_nonneg (IntKind.u64.wrap a) (show m ≠ 0 by omega)
  have h2 := Int.emod_lt_of_pos (IntKind.u64.wrap a) hm
  rw [IntWalk.wrap64_in _ ⟨by omega, by omega⟩]
  exact ⟨h1, h2⟩
theorem red_nat (a m : Int) (hm : 0 < m) (hm2 : m ≤ 9223372036854775807) : ∃ k : Nat, wrap64 ((IntKind.u64.wrap a).tmod m) = k ∧ (k : Int) < m := by
  have := red_bd a m hm hm2
  exact ⟨(wrap64 ((IntKind.u64.wrap a).tmod m)).toNat, by omega, by omega⟩

def rowI (i : Nat) : List Cel := (List.range i).map (fun (j : Nat) => ((j : Int), (0 : Int)))
theorem rowI_len (i : Nat) : (rowI i).length = i := by unfold rowI; simp
theorem rowI_succ (i : Nat) : rowI (i + 1) = rowI i ++ [((i : Int), 0)] := by unfold rowI; rw [List.range_succ, List.map_append]; rfl
theorem rowI_row (k d : Nat) : rowI (k + 1) ++ [((0 : Int), (d : Int))] = rowR k d := by
  unfold rowI rowR restR
  rw [List.range_succ_eq_map, List.map_cons, List.map_map, List.cons_append]
  congr 2
  congr 1
  funext j
  simp only [Function.comp]
  congr 1
  omega
theorem add_st (A B : List UInt8) (h : A.length + B.length ≤ 1000000) (w : World) : (Op.stringOp .add (st A) (st B)).run Tryz.prog w = .ok (.string (st (A ++ B))) w := by
  rw [run_string_add_sum w _ _ (by rw [st_size, st_size]; omega), st_app]
set_option maxRecDepth 100000 in
set_option maxHeartbeats 8000000 in
theorem rows_walk (x y : Int) (w : World) (ht : Tb w) : Calls Tryz.prog 3 #[.int .i64 x, .int .i64 y] w fun e w' => e = .returned (.bool true) ∧ Below w.heap.size w w' := by
  have HS := Lib.hid (fun W => sure_any W)
  have HT := Lib.hid ht
  obtain ⟨k0, hk, hk2⟩ := red_nat x 300 (by omega) (by omega)
  obtain ⟨d0, hd, hd2⟩ := red_nat y 300 (by omega) (by omega)
  obtain ⟨k, hkk⟩ : ∃ k, k = k0 + 1 := ⟨_, rfl⟩
  obtain ⟨d, hdd⟩ : ∃ d, d = d0 + 2 := ⟨_, rfl⟩
  have hgr := good_row k d (by omega) (by omega) (by omega) (by omega)
  obtain ⟨hg1, hg2, hg3⟩ := hgr
  have HGOOD := Lib.hid hg1
  have HG3 := Lib.hid hg3
  have k1 : (2 : Int) + (k0 : Int) = ((k + 1 : Nat) : Int) := by omega
  have d1 : (2 : Int) + (d0 : Int) = (d : Int) := by omega
  have ka : (2 : Int) ≤ ((k + 1 : Nat) : Int) := by omega
  have kb : ((k + 1 : Nat) : Int) ≤ 302 := by omega
  have da : (2 : Int) ≤ (d : Int) := by omega
  have db : (d : Int) ≤ 302 := by omega
  have HKD := Lib.hid (show 1 ≤ k ∧ k ≤ 301 ∧ 2 ≤ d ∧ d ≤ 302 by omega)
  obtain ⟨i0, hi, hz0, hz1, hz2⟩ := info_parts info_a
  have HI := Lib.hid hi
  have HI0 := Lib.hid hz0
  have HI1 := Lib.hid hz1
  have HI2 := Lib.hid hz2
  clear hi hz0 hz1 hz2 hkk hdd hg1 hg3 ht
  obtain ⟨K, hK⟩ : ∃ K, k + 1 = K := ⟨_, rfl⟩
  rw [hK] at k1 ka kb
  have HK := Lib.hid hK
  clear hK
  go_enter Tryz.func3, Tryz.ntmps3
  go_wp2
  clear hk hd hk2 hd2 k1 d1
  go_loopw [7, 8] (fun v j wr => ∃ i : Nat, i ≤ K ∧ j = .int .i64 i ∧ Hid (OwnC 25 wr w.heap.size v i (rowI i)) ∧ Hid (Below w.heap.size w wr)) (fun _ j _ => K - (RowKit.intOf j).toNat)
  case atStart => exact ⟨0, by omega, rfl, Lib.hid (World.ownsRow_nil _ _ _ _), Lib.hid (Below.refl _ _)⟩
  case round =>
    obtain ⟨i, hi, rfl, HO, HB⟩ := hrel
    have j0 : (0 : Int) ≤ (i : Int) := by omega
    have HBS := Lib.hid HB.out.size
    have HIK := Lib.hid (show i ≤ 1000 by omega)
    by_cases hlt : i < K
    · have j1 : (i : Int) < (K : Int) := by omega
      go_wp2_with (at_builtin; refine wpList_append_own _ rfl (.tmp 31) (.tmp 34) 23 rfl w.heap.size 25 i0 (cv (0, 0)) 2 16 Tryz.underlying23 HI.out HI0.out HI1.out HI2.out rfl (by decide) _ i (cl (rowI i)) rfl (HO.out.alloc _) ⟨wr.heap.size, 0, none⟩ 1 1 (cc ((i : Int), 0)) rfl rfl (cells2 _ _ ((i : Int), 0)) (cc_one _) (by have := HIK.out; unfold maxLen; omega) (by have := HIK.out; omega) (by have := HBS.out; simp; omega) ?_; intro v2 w5 hown hgrow _; have HO5 := Lib.hid (show OwnC 25 w5 w.heap.size v2 (i + 1) (rowI i ++ [((i : Int), 0)]) by have h9 := hown; rw [cl_snoc] at h9; exact h9); have HB5 := Lib.hid ((HB.out.alloc HB.out.size (.cells #[.int .i64 ((i : Int)), .int .i64 (0)] 25)).grown hgrow (by have := HBS.out; simp; omega) (fun j hj => (HO.out.lt j hj).1)); clear hown hgrow)
      go_roundw
      case rel => exact ⟨i + 1, by omega, by go_num, Lib.hid (by rw [rowI_succ]; exact HO5.out), HB5⟩
      case measure => simp [RowKit.intOf]; omega
    · obtain rfl : i = K := by omega
      have HROW := Lib.hid (show rowI i ++ [((0 : Int), (d : Int))] = rowR k d by rw [← HK.out]; exact rowI_row k d)
      clear hlt
      go_upto_region 8 with (at_builtin; refine wpList_append_own _ rfl (.tmp 36) (.tmp 39) 23 rfl w.heap.size 25 i0 (cv (0, 0)) 2 16 Tryz.underlying23 HI.out HI0.out HI1.out HI2.out rfl (by decide) _ i (cl (rowI i)) rfl (HO.out.alloc _) ⟨wr.heap.size, 0, none⟩ 1 1 (cc (0, (d : Int))) rfl rfl (cells2 _ _ (0, (d : Int))) (cc_one _) (by have := HIK.out; unfold maxLen; omega) (by have := HIK.out; omega) (by have := HBS.out; simp; omega) ?_; intro v2 w5 hown hgrow _; have HO5 := Lib.hid (show OwnC 25 w5 w.heap.size v2 (i + 1) (rowI i ++ [(0, (d : Int))]) by have h9 := hown; rw [cl_snoc] at h9; exact h9); have HB5 := Lib.hid ((HB.out.alloc HB.out.size (.cells #[.int .i64 (0), .int .i64 ((d : Int))] 25)).grown hgrow (by have := HBS.out; simp; omega) (fun j hj => (HO.out.lt j hj).1)); clear hown hgrow)
      rw [HROW.out] at HO5
      obtain ⟨a1, c1, rfl, hcl, _, _, _, _, hnone⟩ := own_cls HO5.out
      have hml : (rowR k d).length = i + 1 := by rw [rowR_len]; have := HK.out; omega
      have HW := Lib.hid (write_any 8 12 (by decide) a1 (i + 1) c1 (rowR k d) w5 hcl hml hnone (by omega) (HT.out.below HB5.out))
      rw [law_b3] at HW
      have hst : wT lawB3 (srt (rowR k d)) = wT lawB3 (rowR k d) := by rw [srt_self (rowR_srt k d (by have := HKD.out; omega))]
      have HW2 : Hid (Calls Tryz.prog 5 #[.agg #[.int .u16 8, .int .u16 12], .slice a1 (i + 1) c1] w5 fun e w' => e = .returned (.tuple #[.string (st (rowT k d)), .nilIface]) ∧ Below w5.heap.size w5 w') := Lib.hid (HW.out.mono fun e w' hw => by
        rcases hw with ⟨hb, ⟨_, h⟩ | ⟨h, _⟩⟩
        · have hkd := HKD.out
          exact ⟨by rw [h, hst, wT_row k d hkd.1 (by omega) hkd.2.2.1 (by omega)], hb⟩
        · exact absurd HGOOD.out h)
      clear hcl hnone HW hst HGOOD
      obtain ⟨S, hS⟩ : ∃ S, st (rowT k d) = S := ⟨_, rfl⟩
      have hparse := fun W => parse_rle S W (by rw [← hS, st_size]; omega)
      rw [← hS, bl_st, HG3.out] at hparse
      rw [hS] at hparse HW2
      have HP : Hid (∀ W : World, Calls Tryz.prog 7 #[.string S] W fun e w' => Below W.heap.size W w' ∧ ∃ ao cap, e = .returned (.tuple #[.agg #[.int .u16 8, .int .u16 12], .slice ao (i + 1) cap, .int .i64 0, .nilIface]) ∧ Cls w' ao (rowR k d)) := Lib.hid (fun W => (hparse W).mono fun e w' hw => by
        obtain ⟨h1, v, rfl, hv⟩ := hw
        obtain ⟨ao, cap, rfl, hcl, _⟩ := own_cls hv
        have h2 : (rowR k d).length = i + 1 := hml
        exact ⟨h1, ao, cap, by rw [← h2]; rfl, hcl⟩)
      have hat : (rowR k d)[i]'(by omega) = ((0 : Int), (d : Int)) := by
        have h := drop_row k d
        rw [HK.out] at h
        have h3 : ((rowR k d).drop i)[0]? = some ((0 : Int), (d : Int)) := by rw [h]; rfl
        rw [List.getElem?_drop, Nat.add_zero, List.getElem?_eq_getElem (by omega)] at h3
        exact Option.some.inj h3
      have HAT := Lib.hid (fun (W : World) (ao : Option Addr) (h : Cls W ao (rowR k d)) => (show ∃ b o, ao = some ⟨b, o, none⟩ ∧ W.cell? ⟨b, o + i * 2, none⟩ = some (.int .i64 0) ∧ W.cell? ⟨b, o + i * 2 + 1, none⟩ = some (.int .i64 d) by
        obtain ⟨b, o, e, c0, c1⟩ := h i (by omega)
        rw [hat] at c0 c1
        exact ⟨b, o, e, c0, c1⟩))
      clear hat
      have hkd := HKD.out
      have HD1 := Lib.hid (fun W => dec_any i (by omega) (by omega) W)
      have HD2 := Lib.hid (fun W => dec_any (d + 1) (by omega) (by omega) W)
      have HD3 := Lib.hid (fun W => dec_any d (by omega) (by omega) W)
      push_cast at HD2
      have l1 := dd_len12 i (by omega)
      have l2 := dd_len12 (d + 1) (by omega)
      have l3 := dd_len12 d (by omega)
      have e1 := add_st [120, 32, 61, 32] (decDigits i) (by simp only [List.length_cons, List.length_nil]; omega)
      have e2 := add_st ([120, 32, 61, 32] ++ decDigits i) [44, 32, 121, 32, 61, 32] (by simp only [List.length_cons, List.length_nil, List.length_append]; omega)
      have e3 := add_st ([120, 32, 61, 32] ++ decDigits i ++ [44, 32, 121, 32, 61, 32]) (decDigits (d + 1)) (by simp only [List.length_cons, List.length_nil, List.length_append]; omega)
      have e4 := add_st ([120, 32, 61, 32] ++ decDigits i ++ [44, 32, 121, 32, 61, 32] ++ decDigits (d + 1)) [44, 32, 114, 117, 108, 101, 32, 61, 32, 66, 51, 47, 83, 50, 51, 10] (by simp only [List.length_cons, List.length_nil, List.length_append]; omega)
      have e5 := add_st ([120, 32, 61, 32] ++ decDigits i ++ [44, 32, 121, 32, 61, 32] ++ decDigits (d + 1) ++ [44, 32, 114, 117, 108, 101, 32, 61, 32, 66, 51, 47, 83, 50, 51, 10]) (decDigits i) (by simp only [List.length_cons, List.length_nil, List.length_append]; omega)
      have e6 := add_st ([120, 32, 61, 32] ++ decDigits i ++ [44, 32, 121, 32, 61, 32] ++ decDigits (d + 1) ++ [44, 32, 114, 117, 108, 101, 32, 61, 32, 66, 51, 47, 83, 50, 51, 10] ++ decDigits i) [111] (by simp only [List.length_cons, List.length_nil, List.length_append]; omega)
      have e7 := add_st ([120, 32, 61, 32] ++ decDigits i ++ [44, 32, 121, 32, 61, 32] ++ decDigits (d + 1) ++ [44, 32, 114, 117, 108, 101, 32, 61, 32, 66, 51, 47, 83, 50, 51, 10] ++ decDigits i ++ [111]) (decDigits d) (by simp only [List.length_cons, List.length_nil, List.length_append]; omega)
      have e8 := add_st ([120, 32, 61, 32] ++ decDigits i ++ [44, 32, 121, 32, 61, 32] ++ decDigits (d + 1) ++ [44, 32, 114, 117, 108, 101, 32, 61, 32, 66, 51, 47, 83, 50, 51, 10] ++ decDigits i ++ [111] ++ decDigits d) [36, 111, 33, 10] (by simp only [List.length_cons, List.length_nil, List.length_append]; omega)
      have hend : [120, 32, 61, 32] ++ decDigits i ++ [44, 32, 121, 32, 61, 32] ++ decDigits (d + 1) ++ [44, 32, 114, 117, 108, 101, 32, 61, 32, 66, 51, 47, 83, 50, 51, 10] ++ decDigits i ++ [111] ++ decDigits d ++ [36, 111, 33, 10] = rowT k d := by
        unfold rowT hdL lawB3
        rw [HK.out]
        simp
      rw [hend, hS] at e8
      generalize st ([120, 32, 61, 32] ++ decDigits i ++ [44, 32, 121, 32, 61, 32] ++ decDigits (d + 1) ++ [44, 32, 114, 117, 108, 101, 32, 61, 32, 66, 51, 47, 83, 50, 51, 10] ++ decDigits i ++ [111] ++ decDigits d) = S7 at *
      generalize st ([120, 32, 61, 32] ++ decDigits i ++ [44, 32, 121, 32, 61, 32] ++ decDigits (d + 1) ++ [44, 32, 114, 117, 108, 101, 32, 61, 32, 66, 51, 47, 83, 50, 51, 10] ++ decDigits i ++ [111]) = S6 at *
      generalize st ([120, 32, 61, 32] ++ decDigits i ++ [44, 32, 121, 32, 61, 32] ++ decDigits (d + 1) ++ [44, 32, 114, 117, 108, 101, 32, 61, 32, 66, 51, 47, 83, 50, 51, 10] ++ decDigits i) = S5 at *
      generalize st ([120, 32, 61, 32] ++ decDigits i ++ [44, 32, 121, 32, 61, 32] ++ decDigits (d + 1) ++ [44, 32, 114, 117, 108, 101, 32, 61, 32, 66, 51, 47, 83, 50, 51, 10]) = S4 at *
      generalize st ([120, 32, 61, 32] ++ decDigits i ++ [44, 32, 121, 32, 61, 32] ++ decDigits (d + 1)) = S3 at *
      generalize st ([120, 32, 61, 32] ++ decDigits i ++ [44, 32, 121, 32, 61, 32]) = S2 at *
      generalize st ([120, 32, 61, 32] ++ decDigits i) = S1 at *
      generalize st (decDigits i) = D1 at *
      generalize st (decDigits (d + 1)) = D2 at *
      generalize st (decDigits d) = D3 at *
      change ∀ w, (Op.stringOp .add (⟨#[120, 32, 61, 32]⟩ : ByteArray) D1).run Tryz.prog w = .ok (.string S1) w at e1
      change ∀ w, (Op.stringOp .add S1 (⟨#[44, 32, 121, 32, 61, 32]⟩ : ByteArray)).run Tryz.prog w = .ok (.string S2) w at e2
      change ∀ w, (Op.stringOp .add S3 (⟨#[44, 32, 114, 117, 108, 101, 32, 61, 32, 66, 51, 47, 83, 50, 51, 10]⟩ : ByteArray)).run Tryz.prog w = .ok (.string S4) w at e4
      change ∀ w, (Op.stringOp .add S5 (⟨#[111]⟩ : ByteArray)).run Tryz.prog w = .ok (.string S6) w at e6
      change ∀ w, (Op.stringOp .add S7 (⟨#[36, 111, 33, 10]⟩ : ByteArray)).run Tryz.prog w = .ok (.string S) w at e8
      clear hend hS l1 l2 l3 hparse hg2
      go_upto_region 9 with (go_at_call 5; refine HW2.out.mono ?_; rintro e w6 ⟨rfl, hb6⟩; have HB6 := Lib.hid (HB5.out.trans (hb6.mono HB5.out.size)); clear hb6)
      go_upto_region 10 with (go_at_call 6; (first | (with_reducible refine (HD1.out _).mono ?_) | (with_reducible refine (HD2.out _).mono ?_) | (with_reducible refine (HD3.out _).mono ?_)); rintro e w7 ⟨rfl, rfl⟩)
      clear e1 e2 e3 e4 e5 e6 e7 e8
      go_wp2_with (first
        | (go_at_call 7; refine (HP.out _).mono ?_; rintro e w7 ⟨hb7, a7, c7, rfl, hc7⟩; have HB7 := Lib.hid ((HB6.out.trans (hb7.mono HB6.out.size)).alloc (Nat.le_trans HB6.out.size hb7.size) (.cells #[.int .u16 8, .int .u16 12] 32)); obtain ⟨b8, o8, rfl, x8, y8⟩ := HAT.out _ _ (hc7.below (alX w7 (.cells #[.int .u16 8, .int .u16 12] 32)) (Nat.le_refl _)); clear hb7 hc7)
        | (go_at_call 8; refine (HS.out _).mono ?_; rintro e w8 ⟨rfl, hb8⟩; have HB8 := Lib.hid (HB7.out.trans (hb8.mono HB7.out.size)); clear hb8))
      go_ret
      exact ⟨rfl, HB8.out⟩
end Rl
end Go.Proofs.YtangbokcdgganaaGreatDoor

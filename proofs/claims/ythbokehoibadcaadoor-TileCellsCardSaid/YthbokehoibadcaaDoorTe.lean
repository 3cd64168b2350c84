/-
  THE WALKS of OnesCount64, Count, moved, Turn, Flip. No condition.
-/
import Derived.Test.YthbokehoibadcaaDoorTd
namespace Go.Proofs.YthbokehoibadcaaDoor
open Go.RowKit Ti

theorem w64n (n : Nat) (h : n < 18446744073709551616) : IntKind.u64.wrap (n : Int) = (n : Int) := by
  rw [IntKind.wrap_u64]; omega
theorem e1 (x : Nat) (h : x < 18446744073709551616) : IntKind.u64.wrap (bits .and .u64 ((x : Int) / 2) 6148914691236517205 + bits .and .u64 (x : Int) 6148914691236517205) = ((s1 x : Nat) : Int) := by
  have k := s1_lt x
  have d1 := u64_and_nat (x / 2) 6148914691236517205 (by omega) (by decide)
  have d2 := u64_and_nat x 6148914691236517205 h (by decide)
  rw [show (((x / 2 : Nat) : Int)) = (x : Int) / 2 by simp] at d1
  erw [d1, d2]
  unfold s1
  rw [← Int.natCast_add]
  exact w64n _ (by omega)
theorem e2 (x : Nat) (h : x < 18446744073709551616) : IntKind.u64.wrap (bits .and .u64 ((x : Int) / 4) 3689348814741910323 + bits .and .u64 (x : Int) 3689348814741910323) = ((s2 x : Nat) : Int) := by
  have k := s2_lt x
  have d1 := u64_and_nat (x / 4) 3689348814741910323 (by omega) (by decide)
  have d2 := u64_and_nat x 3689348814741910323 h (by decide)
  rw [show (((x / 4 : Nat) : Int)) = (x : Int) / 4 by simp] at d1
  erw [d1, d2]
  unfold s2
  rw [← Int.natCast_add]
  exact w64n _ (by omega)
theorem e3 (x : Nat) (h : x < 8000000000000000000) : bits .and .u64 (IntKind.u64.wrap ((x : Int) / 16 + (x : Int))) 1085102592571150095 = ((s3 x : Nat) : Int) := by
  have d1 := u64_and_nat (x / 16 + x) 1085102592571150095 (by omega) (by decide)
  have e : IntKind.u64.wrap ((x : Int) / 16 + (x : Int)) = ((x / 16 + x : Nat) : Int) := by rw [IntKind.wrap_u64]; omega
  rw [e]
  exact d1
theorem e4 (x d : Nat) (h : x < 4000000000000000000) : IntKind.u64.wrap ((x : Int) + (x : Int) / (d : Int)) = ((x + x / d : Nat) : Int) := by
  have h1 : x / d ≤ x := Nat.div_le_self _ _
  rw [show ((x : Int) + (x : Int) / (d : Int)) = ((x + x / d : Nat) : Int) by simp, w64n _ (by omega)]
theorem s1_top (x : Nat) (_h : x < 18446744073709551616) : s1 x < 18446744073709551616 := by
  have k := s1_lt x
  unfold s1
  omega
theorem s2_top (x : Nat) : s2 x < 8000000000000000000 := by
  have k := s2_lt x
  unfold s2
  omega
theorem e7 (d : Nat) (h : d < 8000000000000000000) : bits .and .i64 (wrap64 (d : Int)) 127 = ((d % 128 : Nat) : Int) := by
  have e : wrap64 (d : Int) = (d : Int) := by unfold wrap64; omega
  rw [e]
  show IntKind.i64.wrap ((BitVec.ofInt 64 (d : Int) &&& BitVec.ofInt 64 127).toNat : Int) = _
  rw [BitVec.ofInt_natCast, BitVec.toNat_and, show (BitVec.ofInt 64 127).toNat = 2 ^ 7 - 1 from rfl, BitVec.toNat_ofNat, Nat.mod_eq_of_lt (by omega), Nat.and_two_pow_sub_one_eq_mod]
  rw [show (2 : Nat) ^ 7 = 128 from rfl]
  have hq : d % 128 < 128 := by omega
  generalize d % 128 = q at hq ⊢
  have hd : ∀ q < 128, IntKind.i64.wrap ((q : Nat) : Int) = (q : Int) := by decide +kernel
  exact hd q hq
set_option maxRecDepth 100000 in
theorem ones_any (t : T6) (w : World) :
    Calls Tryd.prog 26 #[.int .u64 (rg t)] w fun e w' => e = .returned (.int .i64 ((liv t : Nat) : Int)) ∧ w = w' := by
  have hlt : t.toNat < 18446744073709551616 := t.isLt
  obtain ⟨x, hx⟩ : ∃ x, x = t.toNat := ⟨_, rfl⟩
  have HL := Lib.hid (show pcN x 64 = liv t by rw [hx]; rfl)
  unfold rg
  rw [← hx] at hlt ⊢
  generalize liv t = n at HL ⊢
  clear hx t
  have HS := Lib.hid (ones_is x hlt)
  have x0 : (0 : Int) ≤ (x : Int) := by omega
  have E1 := Lib.hid (e1 x hlt)
  have E2 := Lib.hid (e2 (s1 x) (s1_top x hlt))
  have E3 := Lib.hid (e3 (s2 (s1 x)) (s2_top _))
  generalize s3 (s2 (s1 x)) = a at HS E3
  obtain ⟨b, hb⟩ : ∃ b, b = a + a / 256 := ⟨_, rfl⟩
  obtain ⟨c, hc⟩ : ∃ c, c = b + b / 65536 := ⟨_, rfl⟩
  obtain ⟨d, hd⟩ : ∃ d, d = c + c / 4294967296 := ⟨_, rfl⟩
  have HT : a < 1000000000000000000 ∧ b < 2000000000000000000 ∧ c < 4000000000000000000 ∧ d < 8000000000000000000 ∧ d % 128 = n := by
    rw [hd, hc, hb, ← HL.out]; exact HS.out
  have E4 := Lib.hid (show IntKind.u64.wrap ((a : Int) + (a : Int) / 256) = (b : Int) by rw [hb]; exact e4 a 256 (by omega))
  have E5 := Lib.hid (show IntKind.u64.wrap ((b : Int) + (b : Int) / 65536) = (c : Int) by rw [hc]; exact e4 b 65536 (by omega))
  have E6 := Lib.hid (show IntKind.u64.wrap ((c : Int) + (c : Int) / 4294967296) = (d : Int) by rw [hd]; exact e4 c 4294967296 (by omega))
  have HT2 := Lib.hid HT
  clear HT hb hc hd HS HL hlt
  go_enter Tryd.func26, Tryd.ntmps26
  go_wp2
  go_ret
  refine ⟨?_, rfl⟩
  rw [E1.out, E2.out, E3.out, E4.out, E5.out, E6.out]
  have h := e7 d HT2.out.2.2.2.1
  rw [HT2.out.2.2.2.2] at h
  rw [h]
  rfl
theorem count_any (t : T6) (w : World) :
    Calls Tryd.prog 9 #[.int .u64 (rg t)] w fun e w' => e = .returned (.int .i64 ((liv t : Nat) : Int)) ∧ w = w' := by
  have HO := Lib.hid (fun w => ones_any t w)
  go_enter Tryd.func9, Tryd.ntmps9
  go_wp2_with (go_at_call 26; with_reducible refine (HO.out _).mono ?_; rintro e w' ⟨rfl, rfl⟩)
  go_ret
  exact ⟨rfl, rfl⟩
theorem turn1_any (x y : Nat) (hx : x < 8) (w : World) :
    Calls Tryd.prog 28 #[.int .i64 x, .int .i64 y] w fun e w' => e = .returned (.tuple #[.int .i64 y, .int .i64 ((7 - x : Nat) : Int)]) ∧ w = w' := by
  have HX := Lib.hid (show (7 : Int) - (x : Int) = ((7 - x : Nat) : Int) by omega)
  have x0 : (0 : Int) ≤ (x : Int) := by omega
  have x1 : (x : Int) < 8 := by omega
  go_enter Tryd.func28, Tryd.ntmps28
  go_wp2
  go_ret2
  exact ⟨by rw [← HX.out]; rfl, rfl⟩
theorem flip1_any (x y : Nat) (hx : x < 8) (w : World) :
    Calls Tryd.prog 29 #[.int .i64 x, .int .i64 y] w fun e w' => e = .returned (.tuple #[.int .i64 ((7 - x : Nat) : Int), .int .i64 y]) ∧ w = w' := by
  have HX := Lib.hid (show (7 : Int) - (x : Int) = ((7 - x : Nat) : Int) by omega)
  have x0 : (0 : Int) ≤ (x : Int) := by omega
  have x1 : (x : Int) < 8 := by omega
  go_enter Tryd.func29, Tryd.ntmps29
  go_wp2
  go_ret2
  exact ⟨by rw [← HX.out]; rfl, rfl⟩
set_option maxRecDepth 100000 in
theorem moved_turn (t : T6) (w : World) :
    Calls Tryd.prog 27 #[.int .u64 (rg t), .func (.func 28) #[] #[]] w fun e w' => e = .returned (.int .u64 (rg (turnB t))) ∧ w = w' := by
  go_enter Tryd.func27, Tryd.ntmps27
  go_wp2
  go_loop [5, 8] (fun m i => ∃ (y : Nat) (M : T6), y ≤ 8 ∧ i = .int .i64 (y : Int) ∧ m = .int .u64 (rg M) ∧ Hid (MvAt turnI t (8 * y + 0) M)) (fun _ i => 8 - (intOf i).toNat)
  case atStart => exact ⟨0, 0#64, by omega, rfl, rfl, MvAt.nil _ _⟩
  case round =>
    obtain ⟨y, M, hy, rfl, rfl, HM⟩ := hrel
    have y0 : (0 : Int) ≤ (y : Int) := by omega
    by_cases hlt : y < 8
    · have y1 : (y : Int) < 8 := by omega
      go_wp2
      go_loop [5, 11] (fun m i => ∃ (x : Nat) (M : T6), x ≤ 8 ∧ i = .int .i64 (x : Int) ∧ m = .int .u64 (rg M) ∧ Hid (MvAt turnI t (8 * y + x) M)) (fun _ i => 8 - (intOf i).toNat)
      case atStart => exact ⟨0, M, by omega, rfl, rfl, HM⟩
      case round =>
        obtain ⟨x, M, hx, rfl, rfl, HM⟩ := hrel
        have x0 : (0 : Int) ≤ (x : Int) := by omega
        by_cases hlx : x < 8
        · have x1 : (x : Int) < 8 := by omega
          have HF := Lib.hid (fun w => turn1_any x y hlx w)
          have HC := Lib.hid (fun w => cell_any y (7 - x) hlt (by omega) w)
          have HC2 := Lib.hid (fun w => cell_any x y hlx hlt w)
          have hne := ne_cell t y (7 - x) (by omega)
          have hgi : turnI (8 * y + x) = 8 * (7 - x) + y := by unfold turnI; omega
          cases hb : t.getLsbD (8 * (7 - x) + y)
          · rw [hb] at hne
            have HM2 := Lib.hid (HM.out.off (x := x) (by rw [hgi]; exact hb))
            clear hb hgi
            go_wp2_with (first | (go_at_call 28; with_reducible refine (HF.out _).mono ?_; rintro e w' ⟨rfl, rfl⟩) | (go_at_call 25; with_reducible refine (HC.out _).mono ?_; rintro e w' ⟨rfl, rfl⟩))
            go_round
            case rel => exact ⟨x + 1, M, by omega, by go_num, rfl, HM2⟩
            case measure => simp [intOf]; omega
          · rw [hb] at hne
            have HM2 := Lib.hid (HM.out.on (x := x) (by omega) (by rw [hgi]; exact hb))
            have HO := Lib.hid (or_rg M (cellB x y))
            clear hb hgi
            go_wp2_with (first | (go_at_call 28; with_reducible refine (HF.out _).mono ?_; rintro e w' ⟨rfl, rfl⟩) | (go_at_call 25; (first | with_reducible refine (HC.out _).mono ?_ | with_reducible refine (HC2.out _).mono ?_); rintro e w' ⟨rfl, rfl⟩))
            go_round
            case rel => exact ⟨x + 1, _, by omega, by go_num, by rw [HO.out], HM2⟩
            case measure => simp [intOf]; omega
        · obtain rfl : x = 8 := by omega
          go_wp2
          go_round
          case rel => exact ⟨y + 1, M, by omega, by go_num, rfl, HM.out.row⟩
          case measure => simp [intOf]; omega
    · obtain rfl : y = 8 := by omega
      go_wp2
      go_ret
      exact ⟨by rw [HM.out.all]; rfl, rfl⟩
set_option maxRecDepth 100000 in
theorem moved_flip (t : T6) (w : World) :
    Calls Tryd.prog 27 #[.int .u64 (rg t), .func (.func 29) #[] #[]] w fun e w' => e = .returned (.int .u64 (rg (flipB t))) ∧ w = w' := by
  go_enter Tryd.func27, Tryd.ntmps27
  go_wp2
  go_loop [5, 8] (fun m i => ∃ (y : Nat) (M : T6), y ≤ 8 ∧ i = .int .i64 (y : Int) ∧ m = .int .u64 (rg M) ∧ Hid (MvAt flipI t (8 * y + 0) M)) (fun _ i => 8 - (intOf i).toNat)
  case atStart => exact ⟨0, 0#64, by omega, rfl, rfl, MvAt.nil _ _⟩
  case round =>
    obtain ⟨y, M, hy, rfl, rfl, HM⟩ := hrel
    have y0 : (0 : Int) ≤ (y : Int) := by omega
    by_cases hlt : y < 8
    · have y1 : (y : Int) < 8 := by omega
      go_wp2
      go_loop [5, 11] (fun m i => ∃ (x : Nat) (M : T6), x ≤ 8 ∧ i = .int .i64 (x : Int) ∧ m = .int .u64 (rg M) ∧ Hid (MvAt flipI t (8 * y + x) M)) (fun _ i => 8 - (intOf i).toNat)
      case atStart => exact ⟨0, M, by omega, rfl, rfl, HM⟩
      case round =>
        obtain ⟨x, M, hx, rfl, rfl, HM⟩ := hrel
        have x0 : (0 : Int) ≤ (x : Int) := by omega
        by_cases hlx : x < 8
        · have x1 : (x : Int) < 8 := by omega
          have HF := Lib.hid (fun w => flip1_any x y hlx w)
          have HC := Lib.hid (fun w => cell_any (7 - x) y (by omega) hlt w)
          have HC2 := Lib.hid (fun w => cell_any x y hlx hlt w)
          have hne := ne_cell t (7 - x) y (by omega)
          have hgi : flipI (8 * y + x) = 8 * y + (7 - x) := by unfold flipI; omega
          cases hb : t.getLsbD (8 * y + (7 - x))
          · rw [hb] at hne
            have HM2 := Lib.hid (HM.out.off (x := x) (by rw [hgi]; exact hb))
            clear hb hgi
            go_wp2_with (first | (go_at_call 29; with_reducible refine (HF.out _).mono ?_; rintro e w' ⟨rfl, rfl⟩) | (go_at_call 25; with_reducible refine (HC.out _).mono ?_; rintro e w' ⟨rfl, rfl⟩))
            go_round
            case rel => exact ⟨x + 1, M, by omega, by go_num, rfl, HM2⟩
            case measure => simp [intOf]; omega
          · rw [hb] at hne
            have HM2 := Lib.hid (HM.out.on (x := x) (by omega) (by rw [hgi]; exact hb))
            have HO := Lib.hid (or_rg M (cellB x y))
            clear hb hgi
            go_wp2_with (first | (go_at_call 29; with_reducible refine (HF.out _).mono ?_; rintro e w' ⟨rfl, rfl⟩) | (go_at_call 25; (first | with_reducible refine (HC.out _).mono ?_ | with_reducible refine (HC2.out _).mono ?_); rintro e w' ⟨rfl, rfl⟩))
            go_round
            case rel => exact ⟨x + 1, _, by omega, by go_num, by rw [HO.out], HM2⟩
            case measure => simp [intOf]; omega
        · obtain rfl : x = 8 := by omega
          go_wp2
          go_round
          case rel => exact ⟨y + 1, M, by omega, by go_num, rfl, HM.out.row⟩
          case measure => simp [intOf]; omega
    · obtain rfl : y = 8 := by omega
      go_wp2
      go_ret
      exact ⟨by rw [HM.out.all]; rfl, rfl⟩
theorem turn_any (t : T6) (w : World) :
    Calls Tryd.prog 10 #[.int .u64 (rg t)] w fun e w' => e = .returned (.int .u64 (rg (turnB t))) ∧ w = w' := by
  have HO := Lib.hid (fun w => moved_turn t w)
  go_enter Tryd.func10, Tryd.ntmps10
  go_wp2_with (go_at_call 27; with_reducible refine (HO.out _).mono ?_; rintro e w' ⟨rfl, rfl⟩)
  go_ret
  exact ⟨rfl, rfl⟩
theorem flip_any (t : T6) (w : World) :
    Calls Tryd.prog 12 #[.int .u64 (rg t)] w fun e w' => e = .returned (.int .u64 (rg (flipB t))) ∧ w = w' := by
  have HO := Lib.hid (fun w => moved_flip t w)
  go_enter Tryd.func12, Tryd.ntmps12
  go_wp2_with (go_at_call 27; with_reducible refine (HO.out _).mono ?_; rintro e w' ⟨rfl, rfl⟩)
  go_ret
  exact ⟨rfl, rfl⟩
end Go.Proofs.YthbokehoibadcaaDoor

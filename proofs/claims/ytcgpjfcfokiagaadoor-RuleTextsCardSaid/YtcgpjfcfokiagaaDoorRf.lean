/-
  THE WALKS of the document's numbers and Parse. Condition: the text's length.
-/
import Derived.Test.YtcgpjfcfokiagaaDoorRe
namespace Go.Proofs.YtcgpjfcfokiagaaDoor
open Go.RowKit Ru

def NumOut (n : Nat) (o : Option (Nat × List Nat)) (e : Ending) : Prop := match o with
  | none => ∃ y : Int, e = .returned (.tuple #[.int .u16 0, .int .i64 y, .bool false])
  | some (x, r) => e = .returned (.tuple #[.int .u16 (x : Int), .int .i64 ((n - r.length : Nat) : Int), .bool true])
set_option maxRecDepth 100000 in
set_option maxHeartbeats 1000000 in
theorem numbers_ref (s : ByteArray) (m : Nat) (hs : s.size ≤ 1000) (h : m ≤ s.size) (w : World) :
    Calls Tryd.prog 18 #[.string s, .int .i64 m] w fun e w' => NumOut s.size (nums ((lb s).drop m) 0) e ∧ w = w' := by
  have HSZ := Lib.hid hs
  have m0 : (0 : Int) ≤ (m : Int) := by omega
  clear hs
  go_enter Tryd.func18, Tryd.ntmps18
  go_wp2
  go_loop [1, 7] (fun xn xa => ∃ k a : Nat, k ≤ s.size ∧ a < 512 ∧ xn = .int .i64 (k : Int) ∧ xa = .int .u16 (a : Int) ∧ Hid (nums ((lb s).drop k) a = nums ((lb s).drop m) 0)) (fun xn _ => s.size - (intOf xn).toNat)
  case atStart => exact ⟨m, 0, h, by omega, rfl, rfl, rfl⟩
  case round =>
    obtain ⟨k, a, hk, ha, rfl, rfl, HN⟩ := hrel
    have k0 : (0 : Int) ≤ (k : Int) := by omega
    have k2 : (k : Int) ≤ 1000 := by have := HSZ.out; omega
    by_cases hlt : k < s.size
    · have HD := Lib.hid (lb_drop s k hlt)
      have HC := Lib.hid (show (s[k]'hlt).toNat < 256 from UInt8.toNat_lt _)
      have hc0 : (0 : Int) ≤ ((s[k]'hlt).toNat : Int) := by omega
      have hc1 : ((s[k]'hlt).toNat : Int) < 256 := by have := HC.out; omega
      have i1 : (k : Int) < (s.size : Int) := by omega
      by_cases hdg : 48 ≤ (s[k]'hlt).toNat ∧ (s[k]'hlt).toNat ≤ 56
      · have hd : isDig (s[k]'hlt).toNat = true := by simp [isDig, hdg.1, hdg.2]
        have e2 : (48 : Int) ≤ ((s[k]'hlt).toNat : Int) := by omega
        have e3 : ((s[k]'hlt).toNat : Int) ≤ 56 := by omega
        have HDG := Lib.hid hdg
        have hsub : ((s[k]'hlt).toNat : Int) - 48 = (((s[k]'hlt).toNat - 48 : Nat) : Int) := by omega
        have hw8 : IntKind.u8.wrap (((s[k]'hlt).toNat : Int) - 48) = (((s[k]'hlt).toNat - 48 : Nat) : Int) := by rw [hsub, IntKind.wrap_u8']; omega
        have HH := Lib.hid (fun w => has_ref a ((s[k]'hlt).toNat - 48) (by omega) (by omega) w)
        cases hh : hs a ((s[k]'hlt).toNat - 48)
        · rw [hh] at HH
          have HR := Lib.hid (show nums ((lb s).drop (k + 1)) (a + 2 ^ ((s[k]'hlt).toNat - 48)) = nums ((lb s).drop m) 0 by
            rw [← HN.out, HD.out]
            simp only [nums, hd, hh, if_true]
            rfl)
          have HLT := Lib.hid (add_lt a ha _ (by omega) hh)
          clear hd hdg hh
          go_wp2_with (go_at_call 20; refine (HH.out _).mono ?_; rintro e w' ⟨rfl, rfl⟩)
          have HD8 := Lib.hid (show (s[k]'hlt).toNat - 48 ≤ 8 from by have := HDG.out; omega)
          generalize (s[k]'hlt).toNat - 48 = d at HH HR HLT HD8 hsub hw8 ⊢
          have hd0 : (0 : Int) ≤ (d : Int) := by omega
          have hd1 : (d : Int) ≤ 8 := by have := HD8.out; omega
          clear HDG
          go_loop [9, 10] (fun xp xi => ∃ j : Nat, j ≤ d ∧ xi = .int .i64 (j : Int) ∧ xp = .int .u16 ((2 ^ j : Nat) : Int)) (fun _ xi => d - (intOf xi).toNat)
          case atStart => exact ⟨0, by omega, rfl, rfl⟩
          case round =>
            obtain ⟨j, hj, rfl, rfl⟩ := hrel
            have j0 : (0 : Int) ≤ (j : Int) := by omega
            have hp : 2 ^ j ≤ 256 := Nat.le_trans (Nat.pow_le_pow_right (by decide) (show j ≤ 8 by have := HD8.out; omega)) (by decide)
            by_cases hjd : j < d
            · have i2 : (j : Int) < (d : Int) := by omega
              have HPS := Lib.hid (show 2 * ((2 ^ j : Nat) : Int) = ((2 ^ (j + 1) : Nat) : Int) by rw [Nat.pow_succ]; omega)
              generalize 2 ^ j = y at hp HPS ⊢
              have y0 : (0 : Int) ≤ (y : Int) := by omega
              have y1 : (y : Int) ≤ 256 := by omega
              go_wp2
              go_round
              case rel => exact ⟨j + 1, by omega, by go_num, by rw [HPS.out]⟩
              case measure => simp [intOf]; omega
            · obtain rfl : j = d := by omega
              have HA := Lib.hid (show ((a + 2 ^ j : Nat) : Int) = (a : Int) + ((2 ^ j : Nat) : Int) by omega)
              have hal := HLT.out
              generalize 2 ^ j = y at hp HA HR hal HLT ⊢
              have y0 : (0 : Int) ≤ (y : Int) := by omega
              have y1 : (y : Int) ≤ 256 := by omega
              have a0 : (0 : Int) ≤ (a : Int) := by omega
              have a1 : (a : Int) < 512 := by omega
              go_wp2
              go_round
              case rel => exact ⟨k + 1, a + y, by omega, hal, by go_num, by rw [HA.out], HR⟩
              case measure => simp [intOf]; omega
        · rw [hh] at HH
          have HZ := Lib.hid (show nums ((lb s).drop m) 0 = none by
            rw [← HN.out, HD.out]
            simp only [nums, hd, hh, if_true])
          clear hd hdg hh
          go_wp2_with (go_at_call 20; refine (HH.out _).mono ?_; rintro e w' ⟨rfl, rfl⟩)
          go_ret3
          exact ⟨by rw [HZ.out]; exact ⟨_, rfl⟩, rfl⟩
      · have hd : isDig (s[k]'hlt).toNat = false := by
          unfold isDig
          rw [Bool.and_eq_false_iff, decide_eq_false_iff_not, decide_eq_false_iff_not]
          omega
        have HZ := Lib.hid (show nums ((lb s).drop m) 0 = some (a, (lb s).drop k) by
          rw [← HN.out, HD.out]
          simp [nums, hd])
        have HL := Lib.hid (show ((s.size - ((lb s).drop k).length : Nat) : Int) = (k : Int) by rw [List.length_drop, lb_len]; omega)
        rcases (show ¬ 48 ≤ (s[k]'hlt).toNat ∨ (48 ≤ (s[k]'hlt).toNat ∧ ¬ (s[k]'hlt).toNat ≤ 56) by omega) with q | ⟨q, q2⟩
        · have e2 : ¬ (48 : Int) ≤ ((s[k]'hlt).toNat : Int) := by omega
          have e3 : decide ((48 : Int) ≤ ((s[k]'hlt).toNat : Int)) = false := by simpa using e2
          clear q hdg hd
          go_wp2
          go_ret3
          exact ⟨by rw [HZ.out]; show _ = Ending.returned _; rw [HL.out]; rfl, rfl⟩
        · have e2 : (48 : Int) ≤ ((s[k]'hlt).toNat : Int) := by omega
          have e4 : ¬ ((s[k]'hlt).toNat : Int) ≤ 56 := by omega
          clear q q2 hdg hd
          go_wp2
          go_ret3
          exact ⟨by rw [HZ.out]; show _ = Ending.returned _; rw [HL.out]; rfl, rfl⟩
    · obtain rfl : k = s.size := by omega
      have HZ := Lib.hid (show nums ((lb s).drop m) 0 = some (a, []) by rw [← HN.out, lb_end]; rfl)
      have i1 : ¬ (s.size : Int) < (s.size : Int) := by omega
      go_wp2
      go_ret3
      exact ⟨by rw [HZ.out]; rfl, rfl⟩
end Go.Proofs.YtcgpjfcfokiagaaDoor

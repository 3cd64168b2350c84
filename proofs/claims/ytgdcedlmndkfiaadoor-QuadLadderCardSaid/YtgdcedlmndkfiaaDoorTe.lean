/-
  THE WALKS of OnesCount64, Count, moved, Turn, Flip. No condition.
-/

import Derived.Test.YtgdcedlmndkfiaaDoorTd
namespace Go.Proofs.YtgdcedlmndkfiaaDoor
open Go.RowKit Ti

theorem w64n (n : Nat) (h : n < 18446744073709551616) : IntKind.u64.wrap (n : Int) = (n : Int) := by
  rw [IntKind.wrap_u64]; omega
theorem e1 (x : Nat) (h : x < 18446744073709551616) : IntKind.u64.wrap (bits .and .u64 ((x : Int) / 2) 6148914691236517205 + bits .and .u64 (x : Int) 6148914691236517205) = ((s1 x : Nat) : Int) := by
  have k := s1_lt x
  have d1 := u64_and_nat (x / 2) 6148914691236517205 (by omega) (by decide)
  have d2 := u64_and_nat x 6148914691236517205 h (by decide)
  rw [show (((x / 2 : Nat) : Int)) = (x : Int) / 2 by simp] at d1
  erw [d1, d2]
  unfold s1
  rw [← Int.natCast_add]
  exact w64n _ (by omega)
theorem e2 (x : Nat) (h : x < 18446744073709551616) : IntKind.u64.wrap (bits .and .u64 ((x : Int) / 4) 3689348814741910323 + bits .and .u64 (x : Int) 3689348814741910323) = ((s2 x : Nat) : Int) := by
  have k := s2_lt x
  have d1 := u64_and_nat (x / 4) 3689348814741910323 (by omega) (by decide)
  have d2 := u64_and_nat x 3689348814741910323 h (by decide)
  rw [show (((x / 4 : Nat) : Int)) = (x : Int) / 4 by simp] at d1
  erw [d1, d2]
  unfold s2
  rw [← Int.natCast_add]
  exact w64n _ (by omega)
theorem e3 (x : Nat) (h : x < 8000000000000000000) : bits .and .u64 (IntKind.u64.wrap ((x : Int) / 16 + (x : Int))) 1085102592571150095 = ((s3 x : Nat) : Int) := by
  have d1 := u64_and_nat (x / 16 + x) 1085102592571150095 (by omega) (by decide)
  have e : IntKind.u64.wrap ((x : Int) / 16 + (x : Int)) = ((x / 16 + x : Nat) : Int) := by rw [IntKind.wrap_u64]; omega
  rw [e]
  exact d1
theorem e4 (x d : Nat) (h : x < 4000000000000000000) : IntKind.u64.wrap ((x : Int) + (x : Int) / (d : Int)) = ((x + x / d : Nat) : Int) := by
  have h1 : x / d ≤ x := Nat.div_le_self _ _
  rw [show ((x : Int) + (x : Int) / (d : Int)) = ((x + x / d : Nat) : Int) by simp, w64n _ (by omega)]
theorem s1_top (x : Nat) (_h : x < 18446744073709551616) : s1 x < 18446744073709551616 := by
  have k := s1_lt x
  unfold s1
  omega
theorem s2_top (x : Nat) : s2 x < 8000000000000000000 := by
  have k := s2_lt x
  unfold s2
  omega
theorem e7 (d : Nat) (h : d < 8000000000000000000) : bits .and .i64 (wrap64 (d : Int)) 127 = ((d % 128 : Nat) : Int) := by
  have e : wrap64 (d : Int) = (d : Int) := by unfold wrap64; omega
  rw [e]
  show IntKind.i64.wrap ((BitVec.ofInt 64 (d : Int) &&& BitVec.ofInt 64 127).toNat : Int) = _
  rw [BitVec.ofInt_natCast, BitVec.toNat_and, show (BitVec.ofInt 64 127).toNat = 2 ^ 7 - 1 from rfl, BitVec.toNat_ofNat, Nat.mod_eq_of_lt (by omega), Nat.and_two_pow_sub_one_eq_mod]
  rw [show (2 : Nat) ^ 7 = 128 from rfl]
  have hq : d % 128 < 128 := by omega
  generalize d % 128 = q at hq ⊢
  have hd : ∀ q < 128, IntKind.i64.wrap ((q : Nat) : Int) = (q : Int) := by decide +kernel
  exact hd q hq
set_option maxRecDepth 100000 in
theorem ones_any (t : T6) (w : World) :
    Calls Tryd.prog 27 #[.int .u64 (rg t)] w fun e w' => e = .returned (.int .i64 ((liv t : Nat) : Int)) ∧ w = w' := by
  have hlt : t.toNat < 18446744073709551616 := t.isLt
  obtain ⟨x, hx⟩ : ∃ x, x = t.toNat := ⟨_, rfl⟩
  have HL := Lib.hid (show pcN x 64 = liv t by rw [hx]; rfl)
  unfold rg
  rw [← hx] at hlt ⊢
  generalize liv t = n at HL ⊢
  clear hx t
  have HS := Lib.hid (ones_is x hlt)
  have x0 : (0 : Int) ≤ (x : Int) := by omega
  have E1 := Lib.hid (e1 x hlt)
  have E2 := Lib.hid (e2 (s1 x) (s1_top x hlt))
  have E3 := Lib.hid (e3 (s2 (s1 x)) (s2_top _))
  generalize s3 (s2 (s1 x)) = a at HS E3
  obtain ⟨b, hb⟩ : ∃ b, b = a + a / 256 := ⟨_, rfl⟩
  obtain ⟨c, hc⟩ : ∃ c, c = b + b / 65536 := ⟨_, rfl⟩
  obtain ⟨d, hd⟩ : ∃ d, d = c + c / 4294967296 := ⟨_, rfl⟩
  have HT : a < 1000000000000000000 ∧ b < 2000000000000000000 ∧ c < 4000000000000000000 ∧ d < 8000000000000000000 ∧ d % 128 = n := by
    rw [hd, hc, hb, ← HL.out]; exact HS.out
  have E4 := Lib.hid (show IntKind.u64.wrap ((a : Int) + (a : Int) / 256) = (b : Int) by rw [hb]; exact e4 a 256 (by omega))
  have E5 := Lib.hid (show IntKind.u64.wrap ((b : Int) + (b : Int) / 65536) = (c : Int) by rw [hc]; exact e4 b 65536 (by omega))
  have E6 := Lib.hid (show IntKind.u64.wrap ((c : Int) + (c : Int) / 4294967296) = (d : Int) by rw [hd]; exact e4 c 4294967296 (by omega))
  have HT2 := Lib.hid HT
  clear HT hb hc hd HS HL hlt
  go_enter Tryd.func27, Tryd.ntmps27
  go_wp2
  go_ret
  refine ⟨?_, rfl⟩
  rw [E1.out, E2.out, E3.out, E4.out, E5.out, E6.out]
  have h := e7 d HT2.out.2.2.2.1
  rw [HT2.out.2.2.2.2] at h
  rw [h]
  rfl
theorem count_any (t : T6) (w : World) :
    Calls Tryd.prog 19 #[.int .u64 (rg t)] w fun e w' => e = .returned (.int .i64 ((liv t : Nat) : Int)) ∧ w = w' := by
  have HO := Lib.hid (fun w => ones_any t w)
  go_enter Tryd.func19, Tryd.ntmps19
  go_wp2_with (go_at_call 27; with_reducible refine (HO.out _).mono ?_; rintro e w' ⟨rfl, rfl⟩)
  go_ret
  exact ⟨rfl, rfl⟩
end Go.Proofs.YtgdcedlmndkfiaaDoor

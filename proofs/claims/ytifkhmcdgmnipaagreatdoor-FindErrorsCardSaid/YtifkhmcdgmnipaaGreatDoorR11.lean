/-
  NUMBERS OF 32 AND 64 BITS as the walk has them. No condition.
-/
import Derived.Test.YtifkhmcdgmnipaaGreatDoorProg
import Derived.WalkKit
import Derived.WalkSpells
import Derived.WalkLawsBesides
import Derived.Laws.BitsAllLaws
import Derived.Laws.Bits64
import Derived.Laws.Shifts
import Derived.RowKit
import Derived.IntWalk
import Derived.Lib.Hide
import Derived.Test.YtifkhmcdgmnipaaGreatDoorR02
namespace Go.Proofs.YtifkhmcdgmnipaaGreatDoor
open Go.RowKit Ti

def rg (x : T6) : Int := (x.toNat : Int)
def r3 (x : R3) : Int := (x.toNat : Int)
theorem rg_lo (x : T6) : 0 ≤ rg x := by unfold rg; omega
theorem rg_lt (x : T6) : rg x < 2 ^ 64 := by
  unfold rg
  have := x.isLt
  omega
theorem r3_lo (x : R3) : 0 ≤ r3 x := by unfold r3; omega
theorem r3_lt (x : R3) : r3 x < 2 ^ 32 := by
  unfold r3
  have := x.isLt
  omega
theorem rg_inj {x y : T6} (h : rg x = rg y) : x = y := by
  unfold rg at h
  apply BitVec.eq_of_toNat_eq
  omega
theorem r3_inj {x y : R3} (h : r3 x = r3 y) : x = y := by
  unfold r3 at h
  apply BitVec.eq_of_toNat_eq
  omega
theorem ofInt_rg (x : T6) : BitVec.ofInt 64 (rg x) = x := by
  unfold rg
  rw [BitVec.ofInt_natCast]
  simp
theorem ofInt_r3 (x : R3) : BitVec.ofInt 32 (r3 x) = x := by
  unfold r3
  rw [BitVec.ofInt_natCast]
  simp
theorem rg_of (n : Int) (h0 : 0 ≤ n) (h1 : n < 2 ^ 64) : rg (BitVec.ofInt 64 n) = n := by
  obtain ⟨m, rfl⟩ := Int.eq_ofNat_of_zero_le h0
  unfold rg
  rw [BitVec.ofInt_natCast, BitVec.toNat_ofNat, Nat.mod_eq_of_lt (by omega)]
theorem wrap_ofNat (n : Nat) : IntKind.u64.wrap (n : Int) = rg (BitVec.ofNat 64 n) := by
  rw [IntKind.wrap_u64]
  unfold rg
  rw [BitVec.toNat_ofNat]
  omega
theorem wrap3_ofNat (n : Nat) : IntKind.u32.wrap (n : Int) = r3 (BitVec.ofNat 32 n) := by
  rw [IntKind.wrap_u32']
  unfold r3
  rw [BitVec.toNat_ofNat]
  omega
theorem wrap_rg (x : T6) : IntKind.u64.wrap (rg x) = rg x := by
  unfold rg
  rw [wrap_ofNat]
  unfold rg
  simp
theorem wrap_r3 (x : R3) : IntKind.u32.wrap (r3 x) = r3 x := by
  unfold r3
  rw [wrap3_ofNat]
  unfold r3
  simp
theorem xor_rg (a b : T6) : bits .xor .u64 (rg a) (rg b) = rg (a ^^^ b) := by
  show IntKind.u64.wrap ((BitVec.ofInt 64 (rg a) ^^^ BitVec.ofInt 64 (rg b)).toNat : Int) = _
  rw [ofInt_rg, ofInt_rg, wrap_ofNat]
  simp
theorem and_rg (a b : T6) : bits .and .u64 (rg a) (rg b) = rg (a &&& b) := by
  show IntKind.u64.wrap ((BitVec.ofInt 64 (rg a) &&& BitVec.ofInt 64 (rg b)).toNat : Int) = _
  rw [ofInt_rg, ofInt_rg, wrap_ofNat]
  simp
theorem or_rg (a b : T6) : bits .or .u64 (rg a) (rg b) = rg (a ||| b) := by
  show IntKind.u64.wrap ((BitVec.ofInt 64 (rg a) ||| BitVec.ofInt 64 (rg b)).toNat : Int) = _
  rw [ofInt_rg, ofInt_rg, wrap_ofNat]
  simp
theorem andNot_rg (a b : T6) : bits .andNot .u64 (rg a) (rg b) = rg (a &&& ~~~b) := by
  show IntKind.u64.wrap ((BitVec.ofInt 64 (rg a) &&& ~~~(BitVec.ofInt 64 (rg b))).toNat : Int) = _
  rw [ofInt_rg, ofInt_rg, wrap_ofNat, BitVec.ofNat_toNat]
  simp only [BitVec.setWidth_eq]
theorem xor_r3 (a b : R3) : bits .xor .u32 (r3 a) (r3 b) = r3 (a ^^^ b) := by
  show IntKind.u32.wrap ((BitVec.ofInt 32 (r3 a) ^^^ BitVec.ofInt 32 (r3 b)).toNat : Int) = _
  rw [ofInt_r3, ofInt_r3, wrap3_ofNat]
  simp
theorem and_r3 (a b : R3) : bits .and .u32 (r3 a) (r3 b) = r3 (a &&& b) := by
  show IntKind.u32.wrap ((BitVec.ofInt 32 (r3 a) &&& BitVec.ofInt 32 (r3 b)).toNat : Int) = _
  rw [ofInt_r3, ofInt_r3, wrap3_ofNat]
  simp
theorem or_r3 (a b : R3) : bits .or .u32 (r3 a) (r3 b) = r3 (a ||| b) := by
  show IntKind.u32.wrap ((BitVec.ofInt 32 (r3 a) ||| BitVec.ofInt 32 (r3 b)).toNat : Int) = _
  rw [ofInt_r3, ofInt_r3, wrap3_ofNat]
  simp
theorem shr_rg (a : T6) (n : Nat) : rg a / 2 ^ n = rg (a >>> n) := by
  unfold rg
  rw [BitVec.toNat_ushiftRight, Nat.shiftRight_eq_div_pow]
  simp
theorem shr_r3 (a : R3) (n : Nat) : r3 a / 2 ^ n = r3 (a >>> n) := by
  unfold r3
  rw [BitVec.toNat_ushiftRight, Nat.shiftRight_eq_div_pow]
  simp
theorem shl_rg (a : T6) (n : Nat) : IntKind.u64.wrap (rg a * 2 ^ n) = rg (a <<< n) := by
  have e : rg a * 2 ^ n = ((a.toNat * 2 ^ n : Nat) : Int) := by unfold rg; simp
  rw [e, wrap_ofNat]
  congr 1
  apply BitVec.eq_of_toNat_eq
  rw [BitVec.toNat_ofNat, BitVec.toNat_shiftLeft, Nat.shiftLeft_eq]
theorem shl_r3 (a : R3) (n : Nat) : IntKind.u32.wrap (r3 a * 2 ^ n) = r3 (a <<< n) := by
  have e : r3 a * 2 ^ n = ((a.toNat * 2 ^ n : Nat) : Int) := by unfold r3; simp
  rw [e, wrap3_ofNat]
  congr 1
  apply BitVec.eq_of_toNat_eq
  rw [BitVec.toNat_ofNat, BitVec.toNat_shiftLeft, Nat.shiftLeft_eq]
theorem to3_rg (a : T6) : IntKind.u32.wrap (rg a) = r3 (a.setWidth 32) := by
  unfold rg
  rw [wrap3_ofNat]
  congr 1
theorem to6_r3 (a : R3) : IntKind.u64.wrap (r3 a) = rg (a.setWidth 64) := by
  unfold r3
  rw [wrap_ofNat]
  congr 1
  apply BitVec.eq_of_toNat_eq
  rw [BitVec.toNat_ofNat, BitVec.toNat_setWidth]
theorem ret_u64 {a b : Int} (h : a = b) : Ending.returned (.int .u64 a) = .returned (.int .u64 b) := by rw [h]
theorem ret_u32 {a b : Int} (h : a = b) : Ending.returned (.int .u32 a) = .returned (.int .u32 b) := by rw [h]
theorem ret_i64 {a b : Int} (h : a = b) : Ending.returned (.int .i64 a) = .returned (.int .i64 b) := by rw [h]
end Go.Proofs.YtifkhmcdgmnipaaGreatDoor

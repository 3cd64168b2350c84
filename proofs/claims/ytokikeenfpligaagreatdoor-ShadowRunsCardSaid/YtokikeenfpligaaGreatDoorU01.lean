/-
  WHAT THE WALK's NUMBERS ARE, AS REGISTERS: Go's operations on uint32 and uint8, spelled as the walk spells them. Conditions: that each number fits its kind.
-/
import Derived.Laws.BitsAllLaws
import Derived.RowKit
import Derived.Test.YtokikeenfpligaaGreatDoorU00
namespace Go.Proofs.YtokikeenfpligaaGreatDoor.Sm
open Crc

def rg (x : BitVec 32) : Int := (x.toNat : Int)
def b8 (n : Int) : BitVec 32 := BitVec.ofInt 32 n
theorem rg_bd (x : BitVec 32) : 0 ≤ rg x ∧ rg x < 4294967296 := by
  unfold rg
  have := x.isLt
  omega
theorem rg_inj {x y : BitVec 32} (h : rg x = rg y) : x = y := by
  unfold rg at h
  apply BitVec.eq_of_toNat_eq
  omega
theorem ofInt_rg (x : BitVec 32) : BitVec.ofInt 32 (rg x) = x := by
  unfold rg
  rw [BitVec.ofInt_natCast]
  simp
theorem rg_b8 (n : Int) (h0 : 0 ≤ n) (h1 : n < 4294967296) : rg (b8 n) = n := by
  obtain ⟨m, rfl⟩ := Int.eq_ofNat_of_zero_le h0
  unfold rg b8
  rw [BitVec.ofInt_natCast, BitVec.toNat_ofNat, Nat.mod_eq_of_lt (by omega)]
theorem b8_rg (x : BitVec 32) : b8 (rg x) = x := ofInt_rg x
theorem wrap_nat (x : BitVec 32) : IntKind.u32.wrap (x.toNat : Int) = rg x := by
  rw [IntKind.wrap_u32']
  unfold rg
  have := x.isLt
  omega
theorem xor_rg (a b : BitVec 32) : bits .xor .u32 (rg a) (rg b) = rg (a ^^^ b) := by
  show IntKind.u32.wrap ((BitVec.ofInt 32 (rg a) ^^^ BitVec.ofInt 32 (rg b)).toNat : Int) = _
  rw [ofInt_rg, ofInt_rg, wrap_nat]
theorem xor_byte (r : BitVec 32) (x : Int) : bits .xor .u32 (rg r) x = rg (r ^^^ b8 x) := by
  show IntKind.u32.wrap ((BitVec.ofInt 32 (rg r) ^^^ BitVec.ofInt 32 x).toNat : Int) = _
  rw [ofInt_rg, wrap_nat]; rfl
theorem and_rg (a b : BitVec 32) : bits .and .u32 (rg a) (rg b) = rg (a &&& b) := by
  show IntKind.u32.wrap ((BitVec.ofInt 32 (rg a) &&& BitVec.ofInt 32 (rg b)).toNat : Int) = _
  rw [ofInt_rg, ofInt_rg, wrap_nat]
theorem and_one (a : BitVec 32) : bits .and .u32 (rg a) 1 = rg (a &&& 1#32) := and_rg a 1#32
theorem mul_rg (a b : BitVec 32) : rg a * rg b % 4294967296 = rg (a * b) := by
  unfold rg
  rw [BitVec.toNat_mul]
  simp
theorem shr_rg (a : BitVec 32) (n : Nat) : rg a / 2 ^ n = rg (a >>> n) := by
  unfold rg
  rw [BitVec.toNat_ushiftRight, Nat.shiftRight_eq_div_pow]
  simp
theorem stp_int (y : BitVec 32) : bits .xor .u32 (rg y / 2) (bits .and .u32 (rg y) 1 * 2197175160 % 4294967296) = rg (stp y) := by
  rw [and_one]
  have e1 : rg y / (2 : Int) = rg (y >>> 1) := by simpa using shr_rg y 1
  have e2 : rg (y &&& 1#32) * 2197175160 % 4294967296 = rg ((y &&& 1#32) * poly) := mul_rg _ poly
  rw [e1, e2, xor_rg]
  rfl
theorem ones_rg : rg ones = 4294967295 := by unfold rg; rfl
theorem not_int (a : BitVec 32) : bits .xor .u32 IntKind.u32.max (rg a) = rg (~~~a) := by
  have e : IntKind.u32.max = 4294967295 := rfl
  rw [e]
  have := xor_rg ones a
  rw [ones_rg] at this
  rw [this]
  rfl
theorem sub_int (a : BitVec 32) : 4294967295 - rg a = rg (~~~a) := by
  unfold rg
  rw [BitVec.toNat_not]
  have := a.isLt
  omega
theorem par_rg (X : BitVec 32) : rg X % 2 = if X.getLsbD 0 then 1 else 0 := by
  unfold rg
  rw [BitVec.getLsbD, Nat.testBit_zero]
  have e : (X.toNat : Int) % 2 = ((X.toNat % 2 : Nat) : Int) := by omega
  rw [e]
  by_cases h : X.toNat % 2 = 1
  · simp [h]
  · have h0 : X.toNat % 2 = 0 := by omega
    simp [h0]
theorem half_rg (X : BitVec 32) : rg X / (2 : Int) = rg (X >>> 1) := by simpa using shr_rg X 1
theorem told_eq (X C : BitVec 32) (b : Bool) (h : (rg X % 2 != rg C % 2) = b) : (X ^^^ C).getLsbD 0 = b := by
  rw [par_rg, par_rg] at h
  rw [BitVec.getLsbD_xor, ← h]
  cases X.getLsbD 0 <;> cases C.getLsbD 0 <;> rfl
theorem ref_yes (X C : BitVec 32) (h : (rg X % 2 != rg C % 2) = true) : bits .xor .u32 (rg X / (2 : Int)) 2197175160 = rg (stp (X ^^^ C) ^^^ (C >>> 1)) := by
  have e : (2197175160 : Int) = rg poly := rfl
  rw [half_rg, e, xor_rg, stp_eq, told_eq X C true h, BitVec.ushiftRight_xor_distrib]
  congr 1
  rw [if_pos rfl, BitVec.xor_assoc, BitVec.xor_assoc, BitVec.xor_comm poly, ← BitVec.xor_assoc (C >>> 1), BitVec.xor_self, BitVec.zero_xor]
theorem ref_no (X C : BitVec 32) (h : (rg X % 2 != rg C % 2) = false) : rg X / (2 : Int) = rg (stp (X ^^^ C) ^^^ (C >>> 1)) := by
  rw [half_rg, stp_eq, told_eq X C false h, BitVec.ushiftRight_xor_distrib]
  congr 1
  rw [if_neg (by simp), BitVec.xor_zero, BitVec.xor_assoc, BitVec.xor_self, BitVec.xor_zero]
theorem xor_back (a b : BitVec 32) : (a ^^^ b) ^^^ b = a := by rw [BitVec.xor_assoc, BitVec.xor_self, BitVec.xor_zero]
theorem shr_small (x : BitVec 32) (m : Nat) (h : rg x < 256) : rg (x >>> m) < 256 := by
  rw [← shr_rg]
  have := rg_bd x
  have h2 : (0 : Int) < 2 ^ m := Int.pow_pos (by decide)
  have := Int.ediv_le_self (2 ^ m) this.1
  omega
theorem shr_out (x : BitVec 32) (h : rg x < 256) : x >>> 8 = 0#32 := by
  apply BitVec.eq_of_toNat_eq
  rw [BitVec.toNat_ushiftRight, Nat.shiftRight_eq_div_pow]
  unfold rg at h
  have : x.toNat < 256 := by omega
  rw [Nat.div_eq_of_lt (by simpa using this)]
  rfl
theorem shr_more (x : BitVec 32) (m : Nat) : x >>> m >>> 1 = x >>> (m + 1) := by rw [BitVec.shiftRight_add]
theorem wrap_rg (x : BitVec 32) : rg x % 4294967296 = rg x := by have := rg_bd x; omega
/-- what the document's bit loop holds behind m bits of c, begun at the register S (turned by c) -/
def RefInv (S c : BitVec 32) (m : Nat) (C X : BitVec 32) : Prop := C = c >>> m ∧ X = it stp m S ^^^ C
theorem RefInv.first (r c : BitVec 32) : RefInv (r ^^^ c) c 0 c r := by
  refine ⟨?_, ?_⟩
  · rw [BitVec.ushiftRight_zero]
  · rw [it_zero, xor_back]
theorem RefInv.next {S c C X : BitVec 32} {m : Nat} (h : RefInv S c m C X) : RefInv S c (m + 1) (C >>> 1) (stp (X ^^^ C) ^^^ (C >>> 1)) := by
  obtain ⟨rfl, rfl⟩ := h
  refine ⟨shr_more c m, ?_⟩
  rw [xor_back, it_succ']
theorem RefInv.last {r c C X : BitVec 32} (h : RefInv (r ^^^ c) c 8 C X) (hc : rg c < 256) : X = byt r c := by
  obtain ⟨rfl, rfl⟩ := h
  rw [shr_out c hc, BitVec.xor_zero]
  rfl
theorem RefInv.small {S c C X : BitVec 32} {m : Nat} (h : RefInv S c m C X) (hc : rg c < 256) : rg C < 256 := by
  obtain ⟨rfl, _⟩ := h
  exact shr_small c m hc
/-- the register behind the bytes -/
def up (r : BitVec 32) (xs : List Int) : BitVec 32 := upv r (xs.map b8)
theorem up_nil (r : BitVec 32) : up r [] = r := rfl
theorem up_append (r : BitVec 32) (xs ys : List Int) : up r (xs ++ ys) = up (up r xs) ys := by simp [up, upv_append]
theorem up_take (r : BitVec 32) (xs : List Int) (k : Nat) (h : k < xs.length) : up r (xs.take (k + 1)) = byt (up r (xs.take k)) (b8 xs[k]) := by
  rw [List.take_succ_eq_append_getElem h, up_append]
  simp [up, upv]
/-- the sum behind a sum -/
def more (s : BitVec 32) (xs : List Int) : BitVec 32 := ~~~(up (~~~s) xs)
/-- the sum with so many noughts behind -/
def nts (s : BitVec 32) (n : Int) : BitVec 32 := ~~~(it z (min n 1099511627776).toNat (~~~s))
end Go.Proofs.YtokikeenfpligaaGreatDoor.Sm

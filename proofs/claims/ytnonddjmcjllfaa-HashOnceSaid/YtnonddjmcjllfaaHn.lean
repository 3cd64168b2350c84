/-
  THE WALKS of hash.turned, Mix, turnedBack, Back, Front: each returns what the plain mathematics says, and the world stays. Conditions: those that each lemma names.
-/
import Derived.Test.YtnonddjmcjllfaaProg
import Derived.Test.YtnonddjmcjllfaaHb
import Derived.WalkKit
import Derived.WalkSpells
import Derived.WalkLawsBesides
import Derived.Laws.BitsAllLaws
import Derived.Laws.Bits64
import Derived.Laws.Shifts
import Derived.RowKit
import Derived.Lib.Hide
namespace Go.Proofs.Ytnonddjmcjllfaa
open Go.RowKit Hb

def rg (x : BitVec 64) : Int := (x.toNat : Int)
theorem rg_lo (x : BitVec 64) : 0 ≤ rg x := by unfold rg; omega
theorem rg_lt (x : BitVec 64) : rg x < 2 ^ 64 := by
  unfold rg
  have := x.isLt
  omega
theorem rg_inj {x y : BitVec 64} (h : rg x = rg y) : x = y := by
  unfold rg at h
  apply BitVec.eq_of_toNat_eq
  omega
theorem ofInt_rg (x : BitVec 64) : BitVec.ofInt 64 (rg x) = x := by
  unfold rg
  rw [BitVec.ofInt_natCast]
  simp
theorem rg_of (n : Int) (h0 : 0 ≤ n) (h1 : n < 2 ^ 64) : rg (BitVec.ofInt 64 n) = n := by
  obtain ⟨m, rfl⟩ := Int.eq_ofNat_of_zero_le h0
  unfold rg
  rw [BitVec.ofInt_natCast, BitVec.toNat_ofNat, Nat.mod_eq_of_lt (by omega)]
theorem wrap_ofNat (n : Nat) : IntKind.u64.wrap (n : Int) = rg (BitVec.ofNat 64 n) := by
  rw [IntKind.wrap_u64]
  unfold rg
  rw [BitVec.toNat_ofNat]
  omega
theorem wrap_rg (x : BitVec 64) : IntKind.u64.wrap (rg x) = rg x := by
  unfold rg
  rw [wrap_ofNat]
  unfold rg
  simp
theorem xor_rg (a b : BitVec 64) : bits .xor .u64 (rg a) (rg b) = rg (a ^^^ b) := by
  show IntKind.u64.wrap ((BitVec.ofInt 64 (rg a) ^^^ BitVec.ofInt 64 (rg b)).toNat : Int) = _
  rw [ofInt_rg, ofInt_rg, wrap_ofNat]
  simp
theorem mul_rg (a b : BitVec 64) : IntKind.u64.wrap (rg a * rg b) = rg (a * b) := by
  have e : rg a * rg b = ((a.toNat * b.toNat : Nat) : Int) := by unfold rg; simp
  rw [e, wrap_ofNat, BitVec.ofNat_mul]
  simp
theorem add_rg (a b : BitVec 64) : IntKind.u64.wrap (rg a + rg b) = rg (a + b) := by
  have e : rg a + rg b = ((a.toNat + b.toNat : Nat) : Int) := by unfold rg; simp
  rw [e, wrap_ofNat, BitVec.ofNat_add]
  simp
theorem shr_rg (a : BitVec 64) (n : Nat) : rg a / 2 ^ n = rg (a >>> n) := by
  unfold rg
  rw [BitVec.toNat_ushiftRight, Nat.shiftRight_eq_div_pow]
  simp
theorem ret_u64 {a b : Int} (h : a = b) : Ending.returned (.int .u64 a) = .returned (.int .u64 b) := by rw [h]
theorem ret_i64 {a b : Int} (h : a = b) : Ending.returned (.int .i64 a) = .returned (.int .i64 b) := by rw [h]

theorem turned_any (x : BitVec 64) (n d : Int) (s : Nat) (hn : n = rg x) (hd : d = s) (hs : s ≤ 62) (w : World) :
    Calls Try.prog 17 #[.int .u64 n, .int .i64 d] w fun e w' => e = .returned (.int .u64 (rg (tn s x))) ∧ w = w' := by
  subst hn hd
  have h0 := rg_lo x
  have i0 : (0 : Int) ≤ (s : Int) := by omega
  have e1 : min (s : Int).toNat 64 = s := by omega
  have E1 := Lib.hid e1
  clear e1
  go_enter Try.func17, Try.ntmps17
  go_wp2
  go_ret
  exact ⟨ret_u64 (by rw [shr_rg, xor_rg]; rfl), rfl⟩
theorem mul1 (a : BitVec 64) : IntKind.u64.wrap (rg a * 13787848793156543929) = rg (a * F1) := mul_rg a F1
theorem mul2 (a : BitVec 64) : IntKind.u64.wrap (rg a * 10723151780598845931) = rg (a * F2) := mul_rg a F2
theorem mulb1 (a : BitVec 64) : IntKind.u64.wrap (rg a * 10871156337175269513) = rg (a * G1) := mul_rg a G1
theorem mulb2 (a : BitVec 64) : IntKind.u64.wrap (rg a * 3573116690164977347) = rg (a * G2) := mul_rg a G2
theorem mix_any (x : BitVec 64) (n : Int) (hn : n = rg x) (w : World) :
    Calls Try.prog 10 #[.int .u64 n] w fun e w' => e = .returned (.int .u64 (rg (mixB x))) ∧ w = w' := by
  subst hn
  go_enter Try.func10, Try.ntmps10
  go_wp2_with fail
  refine (turned_any x _ _ 30 rfl rfl (by decide) _).mono ?_
  rintro e w' ⟨rfl, rfl⟩
  go_wp2_with fail
  refine (turned_any (tn 30 x * F1) _ _ 27 (by rw [← mul1, IntKind.wrap_u64]) rfl (by decide) _).mono ?_
  rintro e w' ⟨rfl, rfl⟩
  go_wp2_with fail
  refine (turned_any (tn 27 (tn 30 x * F1) * F2) _ _ 31 (by rw [← mul2, IntKind.wrap_u64]) rfl (by decide) _).mono ?_
  rintro e w' ⟨rfl, rfl⟩
  go_wp2
  go_ret
  exact ⟨rfl, rfl⟩
theorem turnedBack_any (x : BitVec 64) (n d : Int) (s : Nat) (hn : n = rg x) (hd : d = s) (hs : s ≤ 31) (w : World) :
    Calls Try.prog 18 #[.int .u64 n, .int .i64 d] w fun e w' => e = .returned (.int .u64 (rg (tb s x))) ∧ w = w' := by
  subst hn hd
  have i0 : (0 : Int) ≤ (s : Int) := by omega
  have i1 : (s : Int) ≤ 31 := by omega
  go_enter Try.func18, Try.ntmps18
  go_wp2_with fail
  refine (turned_any x _ _ s rfl rfl (by omega) _).mono ?_
  rintro e w' ⟨rfl, rfl⟩
  go_wp2_with fail
  refine (turned_any (tn s x) _ _ (2 * s) rfl (by omega) (by omega) _).mono ?_
  rintro e w' ⟨rfl, rfl⟩
  go_wp2
  go_ret
  exact ⟨rfl, rfl⟩
theorem back_any (x : BitVec 64) (n : Int) (hn : n = rg x) (w : World) :
    Calls Try.prog 16 #[.int .u64 n] w fun e w' => e = .returned (.int .u64 (rg (backB x))) ∧ w = w' := by
  subst hn
  go_enter Try.func16, Try.ntmps16
  go_wp2_with fail
  refine (turnedBack_any x _ _ 31 rfl rfl (by decide) _).mono ?_
  rintro e w' ⟨rfl, rfl⟩
  go_wp2_with fail
  refine (turnedBack_any (tb 31 x * G2) _ _ 27 (by rw [← mulb2, IntKind.wrap_u64]) rfl (by decide) _).mono ?_
  rintro e w' ⟨rfl, rfl⟩
  go_wp2_with fail
  refine (turnedBack_any (tb 27 (tb 31 x * G2) * G1) _ _ 30 (by rw [← mulb1, IntKind.wrap_u64]) rfl (by decide) _).mono ?_
  rintro e w' ⟨rfl, rfl⟩
  go_wp2
  go_ret
  exact ⟨rfl, rfl⟩

/-- numbers that lie in memory from a on -/
def LiesQ (w : World) (a : Option Addr) (xs : List (BitVec 64)) : Prop :=
  ∀ i (h : i < xs.length), ∃ b off, a = some ⟨b, off, none⟩ ∧ w.cell? ⟨b, off + i, none⟩ = some (.int .u64 (rg xs[i]))
theorem LiesQ.below {w w' : World} {a : Option Addr} {xs : List (BitVec 64)} (h : LiesQ w a xs) (hb : Below w.heap.size w w') : LiesQ w' a xs := by
  intro i hi
  obtain ⟨b, off, ha, hc⟩ := h i hi
  exact ⟨b, off, ha, (hb.cell (p := ⟨b, off + i, none⟩) (World.block_lt_of_cell? w _ hc)).trans hc⟩
theorem gold_rg : (11400714819323198485 : Int) = rg gold := rfl
theorem add_gold (a : BitVec 64) : IntKind.u64.wrap (rg a + 11400714819323198485) = rg (a + gold) := add_rg a gold
set_option maxRecDepth 100000 in
theorem of_any (a : Option Addr) (n c : Nat) (xs : List (BitVec 64)) (w : World) (hx : LiesQ w a xs) (hn : xs.length = n) (hm : n ≤ 9223372036854775807) :
    Calls Try.prog 12 #[.slice a n c] w fun e w' => e = .returned (.int .u64 (rg (ofB xs))) ∧ w = w' := by
  have HX := Lib.hid hx
  have HN := Lib.hid hn
  clear hx hn
  go_enter Try.func12, Try.ntmps12
  go_wp2
  go_loop [3, 8] (fun t i => ∃ k : Nat, k ≤ n ∧ i = .int .i64 k ∧ t = .int .u64 (rg (ofB (xs.take k)))) (fun _ i => n - (intOf i).toNat)
  case atStart => exact ⟨0, by omega, rfl, rfl⟩
  case round =>
    obtain ⟨k, hk, rfl, rfl⟩ := hrel
    by_cases hlt : k < n
    · have hkl : k < xs.length := by rw [HN.out]; exact hlt
      obtain ⟨b, off, rfl, hc⟩ := HX.out k hkl
      have H : Hid (ofB (xs.take (k + 1)) = _) := Lib.hid (of_take xs k hkl)
      generalize xs[k] = x at hc H
      go_wp2_with (go_at_call 10; refine (mix_any ((ofB (xs.take k) ^^^ x) + gold) _ (by rw [xor_rg, ← add_gold, IntKind.wrap_u64]) _).mono ?_; rintro e w' ⟨rfl, rfl⟩)
      go_round
      case rel => exact ⟨k + 1, by omega, by go_num, by rw [H.out]; rfl⟩
      case measure => simp [intOf]; omega
    · obtain rfl : k = n := by omega
      go_wp2
      go_ret
      exact ⟨ret_u64 (by rw [List.take_of_length_le (by rw [HN.out]; exact Nat.le_refl _)]), rfl⟩
end Go.Proofs.Ytnonddjmcjllfaa

/-
  RLE: lawOf: what a head has in place of a rule.
-/
import Derived.Test.YtangbokcdgganaaGreatDoorLc
namespace Go.Proofs.YtangbokcdgganaaGreatDoor
open Go.RowKit Ru Ce
open Go.Lib (indexByte hasPrefix)

namespace Rl
def nm : Nat → List UInt8
  | 0 => [120]
  | _ => [121]
def remL : Nat → List UInt8 → Option (List UInt8)
  | 0, l => lawL l
  | 1, l => lawB l
  | _, l => lawC l
theorem rem_step (k : Nat) (hk : k < 2) (l : List UInt8) : remL k l = if ((cutL l 44).2.2 && isSizeL (cutL l 44).1 (nm k)) = true then remL (k + 1) (cutL l 44).2.1 else none := by
  match k, hk with
  | 0, _ => rfl
  | 1, _ => rfl
def lawV (o : Option (List UInt8)) : Value := .tuple #[.string (st (o.getD [])), .bool o.isSome]
theorem law_none : lawV none = .tuple #[.string ⟨#[]⟩, .bool false] := rfl
theorem law_some (l : List UInt8) : lawV (some l) = .tuple #[.string (st l), .bool true] := rfl
theorem idx_0 (w : World) : (Instr.index 106 (.agg #[.string ⟨#[120]⟩, .string ⟨#[121]⟩]) (.int .i64 0)).run Tryz.prog w = .ok (.string ⟨#[120]⟩) w := by kernel_rfl
theorem idx_1 (w : World) : (Instr.index 106 (.agg #[.string ⟨#[120]⟩, .string ⟨#[121]⟩]) (.int .i64 1)).run Tryz.prog w = .ok (.string ⟨#[121]⟩) w := by kernel_rfl
theorem idx_nm (k : Nat) (hk : k < 2) (w : World) : (Instr.index 106 (.agg #[.string ⟨#[120]⟩, .string ⟨#[121]⟩]) (.int .i64 k)).run Tryz.prog w = .ok (.string (st (nm k))) w := by
  rcases (show k = 0 ∨ k = 1 by omega) with rfl | rfl
  · exact idx_0 w
  · exact idx_1 w
set_option maxRecDepth 100000 in
set_option maxHeartbeats 2000000 in
theorem lawOf_any (s : ByteArray) (w : World) (hs : s.size ≤ 100000) : Calls Tryz.prog 37 #[.string s] w fun e w' => e = .returned (lawV (lawL (bl s))) ∧ Below w.heap.size w w' := by
  obtain ⟨r, hr⟩ : ∃ r, lawL (bl s) = r := ⟨_, rfl⟩
  rw [hr]
  have HR := Lib.hid (show remL 0 (bl s) = r from hr)
  clear hr
  go_enter Tryz.func37, Tryz.ntmps37
  go_wp2
  go_loopw [4, 15] (fun x i wr => ∃ (k : Nat) (t : ByteArray), k ≤ 2 ∧ x = .string t ∧ i = .int .i64 k ∧ t.size ≤ 100000 ∧ Hid (remL k (bl t) = r) ∧ Hid (Below w.heap.size w wr)) (fun _ i _ => 2 - (RowKit.intOf i).toNat)
  case atStart => exact ⟨0, s, by omega, rfl, rfl, hs, HR, Lib.hid (Below.refl _ _)⟩
  case round =>
    obtain ⟨k, t, hk, rfl, rfl, ht, HR, HB⟩ := hrel
    have k0 : (0 : Int) ≤ (k : Int) := by omega
    have HC := Lib.hid (fun W => cut_any t 44 W (by omega))
    have HC2 := Lib.hid (fun W => cut_any t 61 W (by omega))
    unfold cutV at HC HC2
    by_cases hlt : k < 2
    · have hlt' : (k : Int) < 2 := by omega
      have hix := idx_nm k hlt
      have HS := Lib.hid (rem_step k hlt (bl t))
      have l1 := cut_len (bl t) 44
      have l2 := cut_len2 (bl t) 44
      rw [bl_size] at l1 l2
      obtain ⟨a, b, ok, hab⟩ : ∃ a b ok, cutL (bl t) 44 = (a, b, ok) := ⟨_, _, _, rfl⟩
      rw [hab] at HC HS l1 l2
      have HI := Lib.hid (fun W => isSize_any (st a) (st (nm k)) W (by rw [st_size]; simp at l1; omega))
      rw [bl_st, bl_st] at HI
      have hb100 : (st b).size ≤ 100000 := by rw [st_size]; simp at l2; omega
      change Hid (∀ W : World, Calls Tryz.prog 19 #[.string t, .string ⟨#[44]⟩] W fun e w' => e = .returned (.tuple #[.string (st a), .string (st b), .bool ok]) ∧ Below W.heap.size W w') at HC
      have hh : remL k (bl t) = if (ok && isSizeL a (nm k)) = true then remL (k + 1) (bl (st b)) else none := HS.out
      clear hab l1 l2 HC2 HS
      cases ok
      · have hrn : r = none := by rw [← HR.out, hh]; rfl
        subst hrn
        generalize st (nm k) = NM at *
        generalize st a = A at *
        generalize st b = B at *
        clear HI hh HR hb100
        go_wp2_with (first | (exact hix _) | (go_at_call 19; refine (HC.out _).mono ?_; rintro e w1 ⟨rfl, hb1⟩))
        go_ret2
        exact ⟨rfl, HB.out.trans (hb1.mono HB.out.size)⟩
      · cases hz : isSizeL a (nm k)
        · have hrn : r = none := by rw [← HR.out, hh, hz]; rfl
          rw [hz] at HI
          subst hrn
          generalize st (nm k) = NM at *
          generalize st a = A at *
          generalize st b = B at *
          clear hh HR hb100 hz
          go_wp2_with (first | (exact hix _) | (go_at_call 19; refine (HC.out _).mono ?_; rintro e w1 ⟨rfl, hb1⟩; have HB1 := Lib.hid (HB.out.trans (hb1.mono HB.out.size)); clear hb1) | (go_at_call 57; refine (HI.out _).mono ?_; rintro e w2 ⟨rfl, hb2⟩; have HB2 := Lib.hid (HB1.out.trans (hb2.mono HB1.out.size)); clear hb2))
          go_ret2
          exact ⟨rfl, HB2.out⟩
        · have HRn := Lib.hid (show remL (k + 1) (bl (st b)) = r by rw [← HR.out, hh, hz]; rfl)
          rw [hz] at HI
          generalize st (nm k) = NM at *
          generalize st a = A at *
          generalize st b = B at *
          clear hh HR hz
          go_wp2_with (first | (exact hix _) | (go_at_call 19; refine (HC.out _).mono ?_; rintro e w1 ⟨rfl, hb1⟩; have HB1 := Lib.hid (HB.out.trans (hb1.mono HB.out.size)); clear hb1) | (go_at_call 57; refine (HI.out _).mono ?_; rintro e w2 ⟨rfl, hb2⟩; have HB2 := Lib.hid (HB1.out.trans (hb2.mono HB1.out.size)); clear hb2))
          go_roundw
          case rel => exact ⟨k + 1, B, by omega, rfl, by go_num, hb100, HRn, HB2⟩
          case measure => simp [RowKit.intOf]; omega
    · obtain rfl : k = 2 := by omega
      have hl : lawC (bl t) = r := HR.out
      unfold lawC at hl
      have l1 := cut_len (bl t) 61
      have l2 := cut_len2 (bl t) 61
      rw [bl_size] at l1 l2
      obtain ⟨a, b, ok, hab⟩ : ∃ a b ok, cutL (bl t) 61 = (a, b, ok) := ⟨_, _, _, rfl⟩
      rw [hab] at HC2 hl l1 l2
      have HA := Lib.hid (fun W => bare_any (st a) W (by rw [st_size]; simp at l1; omega))
      have HX := Lib.hid (fun W => bare_any (st b) W (by rw [st_size]; simp at l2; omega))
      rw [bl_st] at HA HX
      change Hid (∀ W : World, Calls Tryz.prog 19 #[.string t, .string ⟨#[61]⟩] W fun e w' => e = .returned (.tuple #[.string (st a), .string (st b), .bool ok]) ∧ Below W.heap.size W w') at HC2
      clear hab l1 l2 HC HR
      cases ok
      · obtain rfl : r = none := hl.symm
        generalize st a = A at *
        generalize st b = B at *
        clear HA HX hl
        go_wp2_with (first | (go_at_call 19; refine (HC2.out _).mono ?_; rintro e w1 ⟨rfl, hb1⟩))
        go_ret2
        exact ⟨rfl, HB.out.trans (hb1.mono HB.out.size)⟩
      · by_cases hn : bareL a = [114, 117, 108, 101]
        · rw [decide_eq_true hn] at hl
          obtain rfl : r = some (bareL b) := hl.symm
          rw [hn] at HA
          change Hid (∀ W : World, Calls Tryz.prog 58 #[.string (st a)] W fun e w' => e = .returned (.string ⟨#[114, 117, 108, 101]⟩) ∧ Below W.heap.size W w') at HA
          generalize st a = A at *
          generalize st b = B at *
          have HLL := Lib.hid (law_some (bareL b))
          generalize st (bareL b) = D at *
          clear hl hn
          go_wp2_with (first | (go_at_call 19; refine (HC2.out _).mono ?_; rintro e w1 ⟨rfl, hb1⟩; have HB1 := Lib.hid (HB.out.trans (hb1.mono HB.out.size)); clear hb1) | (go_at_call 58; refine (HA.out _).mono ?_; rintro e w2 ⟨rfl, hb2⟩; have HB2 := Lib.hid (HB1.out.trans (hb2.mono HB1.out.size)); clear hb2) | (go_at_call 58; refine (HX.out _).mono ?_; rintro e w3 ⟨rfl, hb3⟩; have HB3 := Lib.hid (HB2.out.trans (hb3.mono HB2.out.size)); clear hb3))
          go_ret2
          exact ⟨by rw [HLL.out]; rfl, HB3.out⟩
        · rw [decide_eq_false hn] at hl
          obtain rfl : r = none := hl.symm
          have hq : ((st (bareL a)).toList == [114, 117, 108, 101]) = false := by
            rw [Lib.toList_data]; show (bareL a == [114, 117, 108, 101]) = false; simpa using hn
          generalize st (bareL a) = E at *
          generalize st a = A at *
          generalize st b = B at *
          clear hn HX hl
          go_wp2_with (first | (go_at_call 19; refine (HC2.out _).mono ?_; rintro e w1 ⟨rfl, hb1⟩; have HB1 := Lib.hid (HB.out.trans (hb1.mono HB.out.size)); clear hb1) | (go_at_call 58; refine (HA.out _).mono ?_; rintro e w2 ⟨rfl, hb2⟩; have HB2 := Lib.hid (HB1.out.trans (hb2.mono HB1.out.size)); clear hb2))
          go_ret2
          exact ⟨rfl, HB2.out⟩
end Rl
end Go.Proofs.YtangbokcdgganaaGreatDoor

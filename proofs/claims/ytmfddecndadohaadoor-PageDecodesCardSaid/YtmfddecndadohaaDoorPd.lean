/-
  THE WALKS of page.taken, page.noughts, slices.Clone and page.parted: what page.Decode asks. Conditions: the bytes lie in memory.
-/
import Derived.Test.YtmfddecndadohaaDoorPb
namespace Go.Proofs.YtmfddecndadohaaDoor
open Go.RowKit Crc

theorem or_byte (v x : Int) (v0 : 0 ≤ v) (x0 : 0 ≤ x) (x1 : x < 256) (h : v * 256 + x < 18446744073709551616) : bits .or .u64 (v * 256) x = 256 * v + x := by
  obtain ⟨a, rfl⟩ := Int.eq_ofNat_of_zero_le v0
  obtain ⟨b, rfl⟩ := Int.eq_ofNat_of_zero_le x0
  show IntKind.u64.wrap ((BitVec.ofInt 64 ((a : Int) * 256) ||| BitVec.ofInt 64 (b : Int)).toNat : Int) = _
  have e1 : ((a : Int) * 256) = ((a * 256 : Nat) : Int) := by omega
  rw [e1, BitVec.ofInt_natCast, BitVec.ofInt_natCast, BitVec.toNat_or, BitVec.toNat_ofNat, BitVec.toNat_ofNat, Nat.mod_eq_of_lt (by omega), Nat.mod_eq_of_lt (by omega)]
  have e2 : a * 256 ||| b = a * 256 + b := by
    have := Nat.shiftLeft_add_eq_or_of_lt (show b < 2 ^ 8 by omega) a
    have h8 : (2 : Nat) ^ 8 = 256 := rfl
    rw [Nat.shiftLeft_eq, h8] at this
    exact this.symm
  rw [e2, IntKind.wrap_u64]
  omega
set_option maxRecDepth 100000 in
theorem taken_any (a : Option Addr) (n c : Nat) (xs : List Int) (w : World) (hn : xs.length = n) (h8 : n ≤ 8) (hx : Lies w a xs) :
    Calls Tryd.prog 30 #[.slice a n c] w fun e w' => e = .returned (.int .u64 (num256 xs)) ∧ w = w' := by
  have HX := Lib.hid hx
  have HN := Lib.hid hn
  clear hx hn
  go_enter Tryd.func30, Tryd.ntmps30
  go_wp2
  go_loop [3, 8, 5] (fun v i _ => ∃ k : Nat, k ≤ n ∧ i = .int .i64 k ∧ v = .int .u64 (num256 (xs.take k))) (fun _ i _ => n - (intOf i).toNat)
  case atStart => exact ⟨0, by omega, rfl, rfl⟩
  case round =>
    obtain ⟨k, hk, rfl, rfl⟩ := hrel
    by_cases hlt : k < n
    · have hlt' : k < xs.length := by rw [HN.out]; exact hlt
      obtain ⟨b, off, rfl, hc, c0, c1⟩ := HX.out k hlt'
      have hb := num256_bd (xs.take k) (HX.out.take k).byte
      have hl : (xs.take k).length = k := by rw [List.length_take]; omega
      rw [hl] at hb
      have hp : (256 : Int) ^ k ≤ 256 ^ 7 := by exact_mod_cast Nat.pow_le_pow_right (show 0 < 256 by decide) (show k ≤ 7 by omega)
      have H : num256 (xs.take (k + 1)) = 256 * num256 (xs.take k) + xs[k] := by rw [List.take_succ_eq_append_getElem hlt', num256_snoc]
      have HH := Lib.hid H
      have v0 := hb.1
      have v1 : num256 (xs.take k) < 72057594037927936 := by omega
      have HO := Lib.hid (or_byte (num256 (xs.take k)) xs[k] v0 c0 c1 (by omega))
      clear H hp hb hl
      generalize num256 (xs.take k) = v at HO HH v0 v1 ⊢
      generalize xs[k] = x at hc c0 c1 HO HH
      go_wp2
      go_round
      case rel => exact ⟨k + 1, by omega, by go_num, by rw [HH.out, ← HO.out]⟩
      case measure => simp [intOf]; omega
    · obtain rfl : k = n := by omega
      go_wp2
      go_ret
      exact ⟨ret_int (by rw [List.take_of_length_le (by rw [HN.out]; exact Nat.le_refl _)]), rfl⟩
/-- is a byte not nought? -/
def badN (x : Int) : Bool := x != 0
set_option maxRecDepth 100000 in
theorem clon_any (x : Int) (w : World) :
    Calls Tryd.prog 43 #[.int .u8 x] w fun e w' => e = .returned (.bool (badN x)) ∧ w = w' := by
  go_enter Tryd.func43, Tryd.ntmps43
  go_wp2
  go_ret
  exact ⟨rfl, rfl⟩
def FirstNot (xs : List Int) (w : World) (e : Ending) (w' : World) : Prop :=
  ∃ k : Int, e = .returned (.int .i64 k) ∧ decide (0 ≤ k) = xs.any badN ∧ w = w'
set_option maxRecDepth 100000 in
theorem idxn_any (a : Option Addr) (c n : Nat) (xs : List Int) (w : World) (hn : xs.length = n) (hm : n ≤ 9223372036854775807) (hr : Lies w a xs) :
    Calls Tryd.prog 49 #[.slice a n c, .func (.func 43) #[] #[]] w (FirstNot xs w) := by
  have HR := Lib.hid hr
  have HN := Lib.hid hn
  clear hr hn
  go_enter Tryd.func49, Tryd.ntmps49
  go_wp2
  go_loop [8, 5] (fun i _ => ∃ k : Nat, k ≤ n ∧ i = .int .i64 k ∧ Hid ((xs.take k).any badN = false)) (fun i _ => n - (intOf i).toNat)
  case atStart => exact ⟨0, by omega, rfl, Lib.hid (by simp)⟩
  case round =>
    obtain ⟨k, hk, rfl, HA⟩ := hrel
    by_cases hlt : k < n
    · have hlt' : k < xs.length := by rw [HN.out]; exact hlt
      obtain ⟨b, off, rfl, hc, c0, c1⟩ := HR.out k hlt'
      generalize hr : xs[k] = x at hc c0 c1
      have HRK := Lib.hid hr
      clear hr
      cases hb : badN x
      · have HB := Lib.hid hb
        clear hb
        go_wp2_with (go_at_call 43; refine (clon_any x _).mono ?_; rintro e w' ⟨rfl, rfl⟩; have hb := HB.out)
        go_round
        case rel => exact ⟨k + 1, by omega, by go_num, Lib.hid (any_take _ _ _ hlt' HA.out (by rw [HRK.out]; exact HB.out))⟩
        case measure => simp [intOf]; omega
      · have HB := Lib.hid hb
        clear hb
        go_wp2_with (go_at_call 43; refine (clon_any x _).mono ?_; rintro e w' ⟨rfl, rfl⟩; have hb := HB.out)
        go_ret
        exact ⟨k, rfl, by rw [any_at badN xs k hlt' (by rw [HRK.out]; exact HB.out)]; exact decide_eq_true (by omega), rfl⟩
    · obtain rfl : k = n := by omega
      go_wp2
      go_ret
      exact ⟨-1, rfl, by have := HA.out; rw [List.take_of_length_le (by rw [HN.out]; exact Nat.le_refl _)] at this; rw [this]; rfl, rfl⟩
set_option maxRecDepth 100000 in
theorem hasn_any (a : Option Addr) (c n : Nat) (xs : List Int) (w : World) (hn : xs.length = n) (hm : n ≤ 9223372036854775807) (hr : Lies w a xs) :
    Calls Tryd.prog 42 #[.slice a n c, .func (.func 43) #[] #[]] w fun e w' => e = .returned (.bool (xs.any badN)) ∧ w = w' := by
  have HR := Lib.hid hr
  have HN := Lib.hid hn
  clear hr hn
  go_enter Tryd.func42, Tryd.ntmps42
  go_wp2_with (go_at_call 49; refine (idxn_any _ _ _ xs _ HN.out hm HR.out).mono ?_; rintro e w' ⟨k, rfl, hk, rfl⟩; have HK := Lib.hid hk; clear hk)
  go_ret
  exact ⟨ret_bool (by rw [← HK.out]), rfl⟩
set_option maxRecDepth 100000 in
theorem noughts_any (a : Option Addr) (c n : Nat) (xs : List Int) (w : World) (hn : xs.length = n) (hm : n ≤ 9223372036854775807) (hr : Lies w a xs) :
    Calls Tryd.prog 31 #[.slice a n c] w fun e w' => e = .returned (.bool (!(xs.any badN))) ∧ w = w' := by
  have HR := Lib.hid hr
  have HN := Lib.hid hn
  clear hr hn
  cases hb : xs.any badN
  all_goals
    go_enter Tryd.func31, Tryd.ntmps31
    go_wp2_with (go_at_call 42; refine (hasn_any _ _ _ xs _ HN.out hm HR.out).mono ?_; rintro e w' ⟨rfl, rfl⟩)
    go_ret
    exact ⟨rfl, rfl⟩
end Go.Proofs.YtmfddecndadohaaDoor

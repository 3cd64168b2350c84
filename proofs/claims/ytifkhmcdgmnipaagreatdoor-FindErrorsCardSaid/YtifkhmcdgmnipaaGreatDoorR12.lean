/-
  THE WALKS of tile's small functions: isInside, cell, wholly, Get, Set, OnesCount64, Count, moved, Turn, Flip. No condition but those that each names.
-/
import Derived.BigQuiet
import Derived.Deep.QuietTactic
import Derived.Test.YtifkhmcdgmnipaaGreatDoorR11
import Derived.Test.YtifkhmcdgmnipaaGreatDoorR04
namespace Go.Proofs.YtifkhmcdgmnipaaGreatDoor
open Go.RowKit Ti

def ins (x y : Int) : Bool := decide (0 ≤ x) && decide (x < 8) && (decide (0 ≤ y) && decide (y < 8))
theorem isInside_any (x y : Int) (w : World) :
    Calls Tryz.prog 53 #[.int .i64 x, .int .i64 y] w fun e w' => e = .returned (.bool (ins x y)) ∧ w = w' := by
  by_cases h1 : 0 ≤ x
  · by_cases h2 : x < 8
    · by_cases h3 : 0 ≤ y
      · by_cases h4 : y < 8
        · have HI := Lib.hid (show ins x y = true by simp [ins, h1, h2, h3, h4])
          go_enter Tryz.func53, Tryz.ntmps53
          go_wp2
          go_ret
          exact ⟨by rw [HI.out]; rfl, rfl⟩
        · have HI := Lib.hid (show ins x y = false by simp [ins, h4])
          go_enter Tryz.func53, Tryz.ntmps53
          go_wp2
          go_ret
          exact ⟨by rw [HI.out]; rfl, rfl⟩
      · have HI := Lib.hid (show ins x y = false by simp [ins, h3])
        go_enter Tryz.func53, Tryz.ntmps53
        go_wp2
        go_ret
        exact ⟨by rw [HI.out]; rfl, rfl⟩
    · have HI := Lib.hid (show ins x y = false by simp [ins, h2])
      go_enter Tryz.func53, Tryz.ntmps53
      go_wp2
      go_ret
      exact ⟨by rw [HI.out]; rfl, rfl⟩
  · have HI := Lib.hid (show ins x y = false by simp [ins, h1])
    go_enter Tryz.func53, Tryz.ntmps53
    go_wp2
    go_ret
    exact ⟨by rw [HI.out]; rfl, rfl⟩
theorem cell_spell (x y : Nat) : IntKind.u64.wrap (2 ^ (8 * y + x)) = rg (cellB x y) := by
  have e := shl_rg 1#64 (8 * y + x)
  have e1 : rg 1#64 = 1 := rfl
  rw [e1, Int.one_mul] at e
  rw [e]
  rfl
theorem cell_any (x y : Nat) (hx : x < 8) (hy : y < 8) (w : World) :
    Calls Tryz.prog 54 #[.int .i64 x, .int .i64 y] w fun e w' => e = .returned (.int .u64 (rg (cellB x y))) ∧ w = w' := by
  have HC := Lib.hid (cell_spell x y)
  have x0 : (0 : Int) ≤ (x : Int) := by omega
  have x1 : (x : Int) < 8 := by omega
  have y0 : (0 : Int) ≤ (y : Int) := by omega
  have y1 : (y : Int) < 8 := by omega
  have E1 := Lib.hid (show min (8 * (y : Int) + (x : Int)).toNat 64 = 8 * y + x by omega)
  go_enter Tryz.func54, Tryz.ntmps54
  go_wp2
  go_ret
  exact ⟨by rw [← HC.out]; rfl, rfl⟩
theorem ne_cell (t : T6) (x y : Nat) (h : 8 * y + x < 64) : (bits .and .u64 (rg t) (rg (cellB x y)) != 0) = t.getLsbD (8 * y + x) := by
  rw [and_rg]
  have e := and_cell t x y h
  have e0 : rg (t &&& cellB x y) = 0 ↔ t &&& cellB x y = 0#64 := ⟨fun q => rg_inj q, fun q => by rw [q]; rfl⟩
  cases hb : t.getLsbD (8 * y + x)
  · rw [bne_eq_false_iff_eq]; exact e0.2 (e.2 hb)
  · rw [bne_iff_ne]; exact fun q => by have := e.1 (e0.1 q); rw [hb] at this; cases this
theorem inside_ok (x y : Nat) (hx : x < 8) (hy : y < 8) (w : World) :
    Calls Tryz.prog 53 #[.int .i64 x, .int .i64 y] w fun e w' => e = .returned (.bool true) ∧ w = w' := by
  have h := isInside_any (x : Int) (y : Int) w
  have e : ins x y = true := by simp [ins]; omega
  rw [e] at h
  exact h
theorem inside_no (x y : Int) (h : ins x y = false) (w : World) :
    Calls Tryz.prog 53 #[.int .i64 x, .int .i64 y] w fun e w' => e = .returned (.bool false) ∧ w = w' := by
  have k := isInside_any x y w
  rw [h] at k
  exact k
/-- a cell set -/
def setB (t : T6) (x y : Nat) (c : Bool) : T6 := if c then t ||| cellB x y else t &&& ~~~(cellB x y)
theorem set_ok (t : T6) (x y : Nat) (c : Bool) (hx : x < 8) (hy : y < 8) (w : World) :
    Calls Tryz.prog 30 #[.int .u64 (rg t), .int .i64 x, .int .i64 y, .bool c] w fun e w' => e = .returned (.tuple #[.int .u64 (rg (setB t x y c)), .nilIface]) ∧ w = w' := by
  have HI := Lib.hid (fun w => inside_ok x y hx hy w)
  have HC := Lib.hid (fun w => cell_any x y hx hy w)
  have HO := Lib.hid (or_rg t (cellB x y))
  have HA := Lib.hid (andNot_rg t (cellB x y))
  clear hx hy
  cases c
  all_goals
    go_enter Tryz.func30, Tryz.ntmps30
    go_wp2_with (first | (go_at_call 53; with_reducible refine (HI.out _).mono ?_; rintro e w' ⟨rfl, rfl⟩) | (go_at_call 54; with_reducible refine (HC.out _).mono ?_; rintro e w' ⟨rfl, rfl⟩))
    go_ret2
    refine ⟨?_, rfl⟩
    first | (rw [HO.out]; rfl) | (rw [HA.out]; rfl)
theorem set_no (t : Int) (x y : Int) (c : Bool) (h : ins x y = false) (w : World) :
    Calls Tryz.prog 30 #[.int .u64 t, .int .i64 x, .int .i64 y, .bool c] w fun e w' => e = .returned (.tuple #[.int .u64 0, .iface 54 (.int .i64 4)]) ∧ w = w' := by
  have HI := Lib.hid (fun w => inside_no x y h w)
  clear h
  go_enter Tryz.func30, Tryz.ntmps30
  go_wp2_with (go_at_call 53; with_reducible refine (HI.out _).mono ?_; rintro e w' ⟨rfl, rfl⟩)
  go_ret2
  exact ⟨rfl, rfl⟩
end Go.Proofs.YtifkhmcdgmnipaaGreatDoor

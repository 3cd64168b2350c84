/-
  A ROW OF NUMBERS OF 32 BITS IN ONE BLOCK; THE WALKS of counts.add and counts.where. No condition but those that each names.
-/
import Derived.Deep.Draws
import Derived.Test.YtgimphkamjojpaaDoorE08
namespace Go.Proofs.YtgimphkamjojpaaDoor
open Go.RowKit Ti

/-- so many numbers in a row -/
def frow (F : Nat → R3) (n : Nat) : Array Value := ((List.range n).map (fun i => Value.int .u32 (r3 (F i)))).toArray
theorem frow_size (F : Nat → R3) (n : Nat) : (frow F n).size = n := by simp [frow]
theorem frow_get (F : Nat → R3) (n i : Nat) (h : i < n) : (frow F n)[i]? = some (.int .u32 (r3 (F i))) := by simp [frow, h]
theorem frow_set (F : Nat → R3) (n i : Nat) (x : R3) : (frow F n).setIfInBounds i (.int .u32 (r3 x)) = frow (upd F i x) n := by
  apply Array.ext_getElem?
  intro j
  rw [Array.getElem?_setIfInBounds]
  by_cases e : i = j
  · subst e
    rw [if_pos rfl, frow_size]
    by_cases h : i < n
    · rw [if_pos h, frow_get _ _ _ h]; simp [upd]
    · rw [if_neg h]; simp [frow, h]
  · rw [if_neg e]
    have e2 : ¬ j = i := fun q => e q.symm
    by_cases h : j < n
    · rw [frow_get _ _ _ h, frow_get _ _ _ h]; simp [upd, e2]
    · simp [frow, h]
theorem fr_cell {w : World} {g n i : Nat} {F : Nat → R3} {T : TypeId} (h : w.heap[g]? = some (.cells (frow F n) T)) (hi : i < n) : w.cell? ⟨g, i, none⟩ = some (.int .u32 (r3 (F i))) ∧ w.frozen? ⟨g, i, none⟩ = false :=
  ⟨by rw [cell_of_row _ _ i _ _ _ h]; exact frow_get F n i hi, frozen_of_row _ _ i _ _ h⟩
theorem fr_set {w : World} {g n i : Nat} {F : Nat → R3} {T : TypeId} (h : w.heap[g]? = some (.cells (frow F n) T)) (x : R3) : (w.setCell ⟨g, i, none⟩ (.int .u32 (r3 x))).heap[g]? = some (.cells (frow (upd F i x) n) T) := by
  rw [heap_setCell_same _ _ i _ _ _ h, frow_set]
/-- the four parts of what was counted -/
def cnF (k : Cn) : Nat → R3
  | 0 => k.a
  | 1 => k.b
  | 2 => k.c
  | _ => k.d
def CnAt (w : World) (g : Nat) (k : Cn) : Prop := w.heap[g]? = some (.cells (frow (cnF k) 4) 166)
/-- the first i of them one more, and what is carried on -/
def carryC (k : Cn) (x : R3) : Nat → R3
  | 0 => x
  | 1 => k.a &&& x
  | 2 => k.b &&& (k.a &&& x)
  | 3 => k.c &&& (k.b &&& (k.a &&& x))
  | _ => k.d &&& (k.c &&& (k.b &&& (k.a &&& x)))
def mixC (k : Cn) (x : R3) (i : Nat) : Nat → R3 := fun j => if j < i then cnF (k.add x) j else cnF k j
theorem carry_step (k : Cn) (x : R3) (i : Nat) (h : i < 4) : cnF k i &&& carryC k x i = carryC k x (i + 1) ∧ cnF k i ^^^ carryC k x i = cnF (k.add x) i := by
  rcases (show i = 0 ∨ i = 1 ∨ i = 2 ∨ i = 3 by omega) with rfl | rfl | rfl | rfl <;> exact ⟨rfl, rfl⟩
theorem mix_step (k : Cn) (x : R3) (i : Nat) (h : i < 4) : upd (mixC k x i) i (cnF k i ^^^ carryC k x i) = mixC k x (i + 1) := by
  funext j
  unfold upd mixC
  by_cases e : j = i
  · subst e; simp [(carry_step k x j h).2]
  · rw [if_neg e]
    by_cases q : j < i
    · rw [if_pos q, if_pos (by omega)]
    · rw [if_neg q, if_neg (by omega)]
theorem mix_all (k : Cn) (x : R3) : frow (mixC k x 4) 4 = frow (cnF (k.add x)) 4 := by
  unfold frow mixC
  congr 1
theorem mix_nil (k : Cn) (x : R3) : mixC k x 0 = cnF k := by funext j; simp [mixC]
theorem mix_at (k : Cn) (x : R3) (i : Nat) : mixC k x i i = cnF k i := by simp [mixC]
set_option maxRecDepth 100000 in
theorem add_any (g : Nat) (k : Cn) (x : R3) (w : World) (h : CnAt w g k) :
    Calls Tryd.prog 79 #[.pointer (some ⟨g, 0, none⟩), .int .u32 (r3 x)] w fun e w' => (∃ v, e = .returned v) ∧ CnAt w' g (k.add x) ∧ Below g w w' := by
  unfold CnAt at h
  have HG := Lib.hid h
  clear h
  go_enter Tryd.func79, Tryd.ntmps79
  go_wp2
  go_loopw [1, 7] (fun c i ws => ∃ n : Nat, n ≤ 4 ∧ i = .int .i64 (n : Int) ∧ c = .int .u32 (r3 (carryC k x n)) ∧ Hid (ws.heap[g]? = some (.cells (frow (mixC k x n) 4) 166)) ∧ Hid (Below g w ws)) (fun _ i _ => 4 - (intOf i).toNat)
  case atStart => exact ⟨0, by omega, rfl, rfl, by rw [mix_nil]; exact HG, Below.refl _ _⟩
  case round =>
    obtain ⟨n, hn, rfl, rfl, HF, HW⟩ := hrel
    have n0 : (0 : Int) ≤ (n : Int) := by omega
    by_cases hlt : n < 4
    · have n1 : (n : Int) < 4 := by omega
      have HC := Lib.hid (fr_cell HF.out hlt)
      have c0 := HC.out.1
      have c1 := HC.out.2
      rw [mix_at] at c0
      have HX := Lib.hid (xor_r3 (cnF k n) (carryC k x n))
      have HA := Lib.hid (and_r3 (cnF k n) (carryC k x n))
      have HS := Lib.hid (carry_step k x n hlt)
      have HM := Lib.hid (mix_step k x n hlt)
      clear hlt
      go_wp2
      go_region
      go_wp2
      rw [HX.out]
      go_roundw
      case rel => exact ⟨n + 1, by omega, by go_num, by rw [HA.out, HS.out.1], by rw [← HM.out]; exact fr_set HF.out _, (HW.out.setCell (p := ⟨g, n, none⟩) (Nat.le_refl _) _).drew⟩
      case measure => simp [intOf]; omega
    · obtain rfl : n = 4 := by omega
      go_wp2
      go_end0
      exact ⟨⟨_, rfl⟩, by unfold CnAt; rw [← mix_all]; exact HF.out, HW.out⟩
/-- the first i of four turned towards a number -/
def wherC (k : Cn) (n : Nat) : Nat → R3
  | 0 => 4294967295#32
  | 1 => 4294967295#32 &&& (k.a ^^^ wh (n / 1 % 2 == 0))
  | 2 => (4294967295#32 &&& (k.a ^^^ wh (n / 1 % 2 == 0))) &&& (k.b ^^^ wh (n / 2 % 2 == 0))
  | 3 => ((4294967295#32 &&& (k.a ^^^ wh (n / 1 % 2 == 0))) &&& (k.b ^^^ wh (n / 2 % 2 == 0))) &&& (k.c ^^^ wh (n / 4 % 2 == 0))
  | _ => k.where_ n
theorem wher_step (k : Cn) (n i : Nat) (h : i < 4) : wherC k n i &&& (cnF k i ^^^ wh (n / 2 ^ i % 2 == 0)) = wherC k n (i + 1) := by
  rcases (show i = 0 ∨ i = 1 ∨ i = 2 ∨ i = 3 by omega) with rfl | rfl | rfl | rfl <;> rfl
theorem bit_eq : ∀ n < 9, ∀ i < 4, (bits .and .i64 (((n / 2 ^ i : Nat) : Int)) 1 == 0) = (n / 2 ^ i % 2 == 0) := by decide +kernel
set_option maxRecDepth 100000 in
theorem where_any (g : Nat) (k : Cn) (n : Nat) (hn : n < 9) (w : World) (h : CnAt w g k) :
    Calls Tryd.prog 80 #[.pointer (some ⟨g, 0, none⟩), .int .i64 (n : Int)] w fun e w' => e = .returned (.int .u32 (r3 (k.where_ n))) ∧ ∃ m, w' = w.drewN m := by
  unfold CnAt at h
  have n0 : (0 : Int) ≤ (n : Int) := by omega
  have n1 : (n : Int) < 9 := by omega
  have HB := Lib.hid (bit_eq n hn)
  have HG := Lib.hid h
  clear h hn
  go_enter Tryd.func80, Tryd.ntmps80
  go_wp2
  go_loopw [5, 9] (fun c i ws => ∃ j : Nat, j ≤ 4 ∧ i = .int .i64 (j : Int) ∧ c = .int .u32 (r3 (wherC k n j)) ∧ Hid (∃ m, ws = w.drewN m)) (fun _ i _ => 4 - (intOf i).toNat)
  case atStart => exact ⟨0, by omega, rfl, rfl, 0, rfl⟩
  case round =>
    obtain ⟨j, hj, rfl, rfl, HBW⟩ := hrel
    have HGW := Lib.hid (show wr.heap[g]? = some (.cells (frow (cnF k) 4) 166) by obtain ⟨m, rfl⟩ := HBW.out; exact HG.out)
    have j0 : (0 : Int) ≤ (j : Int) := by omega
    by_cases hlt : j < 4
    · have j1 : (j : Int) < 4 := by omega
      have HC := Lib.hid (fr_cell HGW.out hlt)
      have c0 := HC.out.1
      have c1 := HC.out.2
      have HX := Lib.hid (HB.out j hlt)
      have E1 := Lib.hid (show min (j : Int).toNat 64 = j by omega)
      have HD := Lib.hid (show ((n / 2 ^ j : Nat) : Int) = (n : Int) / 2 ^ j by simp)
      have HE := Lib.hid (show (bits .and .i64 ((n : Int) / 2 ^ j) 1 == 0) = (n / 2 ^ j % 2 == 0) by rw [← HD.out]; exact HX.out)
      have HS := Lib.hid (wher_step k n j hlt)
      generalize (n / 2 ^ j % 2 == 0) = b at HE HS HX
      have he := HE.out
      have HW := Lib.hid (fun w => wholly_any b w)
      have HXR := Lib.hid (xor_r3 (cnF k j) (wh b))
      have HAR := Lib.hid (and_r3 (wherC k n j) (cnF k j ^^^ wh b))
      clear hlt
      go_wp2
      go_region
      go_wp2_with (go_at_call 76; with_reducible refine (HW.out _).mono ?_; rintro e w' ⟨rfl, rfl⟩)
      rw [HXR.out, HAR.out]
      go_roundw
      case rel => exact ⟨j + 1, by omega, by go_num, by rw [HS.out], by obtain ⟨m, rfl⟩ := HBW.out; exact ⟨m + 1, rfl⟩⟩
      case measure => simp [intOf]; omega
    · obtain rfl : j = 4 := by omega
      go_wp2
      go_ret
      exact ⟨rfl, HBW.out⟩
end Go.Proofs.YtgimphkamjojpaaDoor

/-
  A ROW OF NUMBERS OF 32 BITS IN ONE BLOCK; THE WALKS of counts.add and counts.where. No condition but those that each names.
  THE WALK of fates.row. No condition but those that each names.
-/
import Derived.Deep.Draws
import Derived.Deep.RegionHeld3
import Derived.Deep.QuietTactic
import Derived.BigQuiet
import Derived.Test.YtlejohclijjhnaaGreatDoorL10
namespace Go.Proofs.YtlejohclijjhnaaGreatDoor
open Go.RowKit Ti

/-- so many numbers in a row -/
def frow (F : Nat → R3) (n : Nat) : Array Value := ((List.range n).map (fun i => Value.int .u32 (r3 (F i)))).toArray
theorem frow_size (F : Nat → R3) (n : Nat) : (frow F n).size = n := by simp [frow]
theorem frow_get (F : Nat → R3) (n i : Nat) (h : i < n) : (frow F n)[i]? = some (.int .u32 (r3 (F i))) := by simp [frow, h]
theorem frow_set (F : Nat → R3) (n i : Nat) (x : R3) : (frow F n).setIfInBounds i (.int .u32 (r3 x)) = frow (upd F i x) n := by
  apply Array.ext_getElem?
  intro j
  rw [Array.getElem?_setIfInBounds]
  by_cases e : i = j
  · subst e
    rw [if_pos rfl, frow_size]
    by_cases h : i < n
    · rw [if_pos h, frow_get _ _ _ h]; simp [upd]
    · rw [if_neg h]; simp [frow, h]
  · rw [if_neg e]
    have e2 : ¬ j = i := fun q => e q.symm
    by_cases h : j < n
    · rw [frow_get _ _ _ h, frow_get _ _ _ h]; simp [upd, e2]
    · simp [frow, h]
theorem fr_cell {w : World} {g n i : Nat} {F : Nat → R3} {T : TypeId} (h : w.heap[g]? = some (.cells (frow F n) T)) (hi : i < n) : w.cell? ⟨g, i, none⟩ = some (.int .u32 (r3 (F i))) ∧ w.frozen? ⟨g, i, none⟩ = false :=
  ⟨by rw [cell_of_row _ _ i _ _ _ h]; exact frow_get F n i hi, frozen_of_row _ _ i _ _ h⟩
theorem fr_set {w : World} {g n i : Nat} {F : Nat → R3} {T : TypeId} (h : w.heap[g]? = some (.cells (frow F n) T)) (x : R3) : (w.setCell ⟨g, i, none⟩ (.int .u32 (r3 x))).heap[g]? = some (.cells (frow (upd F i x) n) T) := by
  rw [heap_setCell_same _ _ i _ _ _ h, frow_set]
/-- the four parts of what was counted -/
def cnF (k : Cn) : Nat → R3
  | 0 => k.a
  | 1 => k.b
  | 2 => k.c
  | _ => k.d
def CnAt (w : World) (g : Nat) (k : Cn) : Prop := w.heap[g]? = some (.cells (frow (cnF k) 4) 205)
/-- the first i of them one more, and what is carried on -/
def carryC (k : Cn) (x : R3) : Nat → R3
  | 0 => x
  | 1 => k.a &&& x
  | 2 => k.b &&& (k.a &&& x)
  | 3 => k.c &&& (k.b &&& (k.a &&& x))
  | _ => k.d &&& (k.c &&& (k.b &&& (k.a &&& x)))
def mixC (k : Cn) (x : R3) (i : Nat) : Nat → R3 := fun j => if j < i then cnF (k.add x) j else cnF k j
theorem carry_step (k : Cn) (x : R3) (i : Nat) (h : i < 4) : cnF k i &&& carryC k x i = carryC k x (i + 1) ∧ cnF k i ^^^ carryC k x i = cnF (k.add x) i := by
  rcases (show i = 0 ∨ i = 1 ∨ i = 2 ∨ i = 3 by omega) with rfl | rfl | rfl | rfl <;> exact ⟨rfl, rfl⟩
theorem mix_step (k : Cn) (x : R3) (i : Nat) (h : i < 4) : upd (mixC k x i) i (cnF k i ^^^ carryC k x i) = mixC k x (i + 1) := by
  funext j
  unfold upd mixC
  by_cases e : j = i
  · subst e; simp [(carry_step k x j h).2]
  · rw [if_neg e]
    by_cases q : j < i
    · rw [if_pos q, if_pos (by omega)]
    · rw [if_neg q, if_neg (by omega)]
theorem mix_all (k : Cn) (x : R3) : frow (mixC k x 4) 4 = frow (cnF (k.add x)) 4 := by
  unfold frow mixC
  congr 1
theorem mix_nil (k : Cn) (x : R3) : mixC k x 0 = cnF k := by funext j; simp [mixC]
theorem mix_at (k : Cn) (x : R3) (i : Nat) : mixC k x i i = cnF k i := by simp [mixC]
set_option maxRecDepth 100000 in
theorem add_any (g : Nat) (k : Cn) (x : R3) (w : World) (h : CnAt w g k) :
    Calls Tryz.prog 105 #[.pointer (some ⟨g, 0, none⟩), .int .u32 (r3 x)] w fun e w' => (∃ v, e = .returned v) ∧ CnAt w' g (k.add x) ∧ Below g w w' := by
  unfold CnAt at h
  have HG := Lib.hid h
  clear h
  go_enter Tryz.func105, Tryz.ntmps105
  go_wp2
  go_loopw [1, 7] (fun c i ws => ∃ n : Nat, n ≤ 4 ∧ i = .int .i64 (n : Int) ∧ c = .int .u32 (r3 (carryC k x n)) ∧ Hid (ws.heap[g]? = some (.cells (frow (mixC k x n) 4) 205)) ∧ Hid (Below g w ws)) (fun _ i _ => 4 - (intOf i).toNat)
  case atStart => exact ⟨0, by omega, rfl, rfl, by rw [mix_nil]; exact HG, Below.refl _ _⟩
  case round =>
    obtain ⟨n, hn, rfl, rfl, HF, HW⟩ := hrel
    have n0 : (0 : Int) ≤ (n : Int) := by omega
    by_cases hlt : n < 4
    · have n1 : (n : Int) < 4 := by omega
      have HC := Lib.hid (fr_cell HF.out hlt)
      have c0 := HC.out.1
      have c1 := HC.out.2
      rw [mix_at] at c0
      have HX := Lib.hid (xor_r3 (cnF k n) (carryC k x n))
      have HA := Lib.hid (and_r3 (cnF k n) (carryC k x n))
      have HS := Lib.hid (carry_step k x n hlt)
      have HM := Lib.hid (mix_step k x n hlt)
      clear hlt
      go_wp2
      go_region
      go_wp2
      rw [HX.out]
      go_roundw
      case rel => exact ⟨n + 1, by omega, by go_num, by rw [HA.out, HS.out.1], by rw [← HM.out]; exact fr_set HF.out _, (HW.out.setCell (p := ⟨g, n, none⟩) (Nat.le_refl _) _).drew⟩
      case measure => simp [intOf]; omega
    · obtain rfl : n = 4 := by omega
      go_wp2
      go_end0
      exact ⟨⟨_, rfl⟩, by unfold CnAt; rw [← mix_all]; exact HF.out, HW.out⟩
/-- the first i of four turned towards a number -/
def wherC (k : Cn) (n : Nat) : Nat → R3
  | 0 => 4294967295#32
  | 1 => 4294967295#32 &&& (k.a ^^^ wh (n / 1 % 2 == 0))
  | 2 => (4294967295#32 &&& (k.a ^^^ wh (n / 1 % 2 == 0))) &&& (k.b ^^^ wh (n / 2 % 2 == 0))
  | 3 => ((4294967295#32 &&& (k.a ^^^ wh (n / 1 % 2 == 0))) &&& (k.b ^^^ wh (n / 2 % 2 == 0))) &&& (k.c ^^^ wh (n / 4 % 2 == 0))
  | _ => k.where_ n
theorem wher_step (k : Cn) (n i : Nat) (h : i < 4) : wherC k n i &&& (cnF k i ^^^ wh (n / 2 ^ i % 2 == 0)) = wherC k n (i + 1) := by
  rcases (show i = 0 ∨ i = 1 ∨ i = 2 ∨ i = 3 by omega) with rfl | rfl | rfl | rfl <;> rfl
theorem bit_eq : ∀ n < 9, ∀ i < 4, (bits .and .i64 (((n / 2 ^ i : Nat) : Int)) 1 == 0) = (n / 2 ^ i % 2 == 0) := by decide +kernel
set_option maxRecDepth 100000 in
theorem where_any (g : Nat) (k : Cn) (n : Nat) (hn : n < 9) (w : World) (h : CnAt w g k) :
    Calls Tryz.prog 106 #[.pointer (some ⟨g, 0, none⟩), .int .i64 (n : Int)] w fun e w' => e = .returned (.int .u32 (r3 (k.where_ n))) ∧ ∃ m, w' = w.drewN m := by
  unfold CnAt at h
  have n0 : (0 : Int) ≤ (n : Int) := by omega
  have n1 : (n : Int) < 9 := by omega
  have HB := Lib.hid (bit_eq n hn)
  have HG := Lib.hid h
  clear h hn
  go_enter Tryz.func106, Tryz.ntmps106
  go_wp2
  go_loopw [5, 9] (fun c i ws => ∃ j : Nat, j ≤ 4 ∧ i = .int .i64 (j : Int) ∧ c = .int .u32 (r3 (wherC k n j)) ∧ Hid (∃ m, ws = w.drewN m)) (fun _ i _ => 4 - (intOf i).toNat)
  case atStart => exact ⟨0, by omega, rfl, rfl, 0, rfl⟩
  case round =>
    obtain ⟨j, hj, rfl, rfl, HBW⟩ := hrel
    have HGW := Lib.hid (show wr.heap[g]? = some (.cells (frow (cnF k) 4) 205) by obtain ⟨m, rfl⟩ := HBW.out; exact HG.out)
    have j0 : (0 : Int) ≤ (j : Int) := by omega
    by_cases hlt : j < 4
    · have j1 : (j : Int) < 4 := by omega
      have HC := Lib.hid (fr_cell HGW.out hlt)
      have c0 := HC.out.1
      have c1 := HC.out.2
      have HX := Lib.hid (HB.out j hlt)
      have E1 := Lib.hid (show min (j : Int).toNat 64 = j by omega)
      have HD := Lib.hid (show ((n / 2 ^ j : Nat) : Int) = (n : Int) / 2 ^ j by simp)
      have HE := Lib.hid (show (bits .and .i64 ((n : Int) / 2 ^ j) 1 == 0) = (n / 2 ^ j % 2 == 0) by rw [← HD.out]; exact HX.out)
      have HS := Lib.hid (wher_step k n j hlt)
      generalize (n / 2 ^ j % 2 == 0) = b at HE HS HX
      have he := HE.out
      have HW := Lib.hid (fun w => wholly_any b w)
      have HXR := Lib.hid (xor_r3 (cnF k j) (wh b))
      have HAR := Lib.hid (and_r3 (wherC k n j) (cnF k j ^^^ wh b))
      clear hlt
      go_wp2
      go_region
      go_wp2_with (go_at_call 93; with_reducible refine (HW.out _).mono ?_; rintro e w' ⟨rfl, rfl⟩)
      rw [HXR.out, HAR.out]
      go_roundw
      case rel => exact ⟨j + 1, by omega, by go_num, by rw [HS.out], by obtain ⟨m, rfl⟩ := HBW.out; exact ⟨m + 1, rfl⟩⟩
      case measure => simp [intOf]; omega
    · obtain rfl : j = 4 := by omega
      go_wp2
      go_ret
      exact ⟨rfl, HBW.out⟩
end Go.Proofs.YtlejohclijjhnaaGreatDoor
namespace Go.Proofs.YtlejohclijjhnaaGreatDoor
open Go.RowKit Ti Ru

/-- all bits or none, of those that live and those that are born, by how many -/
def fatF (b l : Nat) : Nat → R3 := fun j => wh (if j % 2 = 0 then hs l (j / 2) else hs b (j / 2))
def FatAt (w : World) (f b l : Nat) : Prop := w.heap[f]? = some (.cells (frow (fatF b l) 18) 182)
theorem fat_live (b l n : Nat) : fatF b l (n * 2) = wh (hs l n) := by
  unfold fatF
  rw [if_pos (by omega), show n * 2 / 2 = n by omega]
theorem fat_born (b l n : Nat) : fatF b l (n * 2 + 1) = wh (hs b n) := by
  unfold fatF
  rw [if_neg (by omega), show (n * 2 + 1) / 2 = n by omega]
theorem not_r3 (a : R3) : bits .xor .u32 (if IntKind.u32.signed = true then -1 else IntKind.u32.max) (r3 a) = r3 (a ^^^ 4294967295#32) := by
  have h := xor_r3 4294967295#32 a
  rw [BitVec.xor_comm] at h
  exact h
set_option maxRecDepth 100000 in
theorem idx_0 (a b : Int) (w : World) : (Instr.index 206 (.agg #[.int .u32 a, .int .u32 b]) (.int .i64 0)).run Tryz.prog w = .ok (.int .u32 a) w := by kernel_rfl
set_option maxRecDepth 100000 in
theorem idx_1 (a b : Int) (w : World) : (Instr.index 206 (.agg #[.int .u32 a, .int .u32 b]) (.int .i64 1)).run Tryz.prog w = .ok (.int .u32 b) w := by kernel_rfl
theorem add_to (g : Nat) (x : R3) (m : Int) (hm : m = r3 x) (k : Cn) (w : World) (h : CnAt w g k) :
    Calls Tryz.prog 105 #[.pointer (some ⟨g, 0, none⟩), .int .u32 m] w fun e w' => (∃ v, e = .returned v) ∧ CnAt w' g (k.add x) ∧ Below g w w' := by
  subst hm
  exact add_any g k x w h
theorem shl1 (x : R3) : r3 x * (2 : Int) % (4294967296 : Int) = r3 (x <<< 1) := by rw [← IntKind.wrap_u32']; exact shl_r3 x 1
theorem shr1 (x : R3) : r3 x / (2 : Int) = r3 (x >>> 1) := shr_r3 x 1
def c0K : Cn := Cn.nil
def c1K (x : R3) : Cn := ((Cn.nil.add (x <<< 1)).add x).add (x >>> 1)
def c2K (x z : R3) : Cn := (((c1K x).add (z <<< 1)).add z).add (z >>> 1)
set_option maxRecDepth 100000 in
theorem row_any (f b l : Nat) (x y z : R3) (w : World) (h : FatAt w f b l) :
    Calls Tryz.prog 94 #[.pointer (some ⟨f, 0, none⟩), .int .u32 (r3 x), .int .u32 (r3 y), .int .u32 (r3 z)] w fun e w' => e = .returned (.int .u32 (r3 (rowM b l x y z))) ∧ Below w.heap.size w w' := by
  unfold FatAt at h
  have HF := Lib.hid h
  have HFL := Lib.hid (lt_of_block h)
  clear h
  go_enter Tryz.func94, Tryz.ntmps94
  go_wp2
  have HK := Lib.hid (show CnAt (w.alloc (.cells #[.int .u32 0, .int .u32 0, .int .u32 0, .int .u32 0] 205)) w.heap.size Cn.nil from heap_alloc_new _ _)
  have HB := Lib.hid (alX w (.cells #[.int .u32 0, .int .u32 0, .int .u32 0, .int .u32 0] 205))
  go_loopw [11, 18] (fun _ i ws => ∃ (n : Nat) (k : Cn), n ≤ 2 ∧ i = .int .i64 (n : Int) ∧ Hid (CnAt ws w.heap.size k) ∧ Hid (Below w.heap.size w ws) ∧ Hid ((n = 0 → k = Cn.nil) ∧ (n = 1 → k = c1K x) ∧ (n = 2 → k = c2K x z))) (fun _ i _ => 2 - (intOf i).toNat)
  case atStart => exact ⟨0, _, by omega, rfl, HK, HB, Lib.hid ⟨fun _ => rfl, fun q => absurd q (by decide), fun q => absurd q (by decide)⟩⟩
  case round =>
    obtain ⟨n, k, hn, rfl, HK, HB, hk⟩ := hrel
    rcases (show n = 0 ∨ n = 1 ∨ n = 2 by omega) with rfl | rfl | rfl
    · obtain rfl := hk.out.1 rfl
      have hi := idx_0 (r3 x) (r3 z)
      have HA1 := Lib.hid (add_to w.heap.size (x <<< 1) _ (shl1 x))
      have HA2 := Lib.hid (add_to w.heap.size x _ (rfl : r3 x = r3 x))
      have HA3 := Lib.hid (add_to w.heap.size (x >>> 1) _ (shr1 x))
      go_wp2_with (first | (go_at_call 105; with_reducible refine (HA1.out _ _ HK.out).mono ?_; rintro e w1 ⟨⟨v1, rfl⟩, hk1, hb1⟩; have HK1 := Lib.hid hk1; have HB1 := Lib.hid hb1; clear hk1 hb1) | (go_at_call 105; with_reducible refine (HA2.out _ _ HK1.out).mono ?_; rintro e w2 ⟨⟨v2, rfl⟩, hk2, hb2⟩; have HK2 := Lib.hid hk2; have HB2 := Lib.hid hb2; clear hk2 hb2) | (go_at_call 105; with_reducible refine (HA3.out _ _ HK2.out).mono ?_; rintro e w3 ⟨⟨v3, rfl⟩, hk3, hb3⟩; have HK3 := Lib.hid hk3; have HB3 := Lib.hid hb3; clear hk3 hb3))
      go_roundw
      case rel => exact ⟨1, _, by omega, rfl, HK3, HB.out.trans (HB1.out.trans (HB2.out.trans HB3.out)), Lib.hid ⟨fun q => absurd q (by decide), fun _ => rfl, fun q => absurd q (by decide)⟩⟩
      case measure => simp [intOf]
    · obtain rfl := hk.out.2.1 rfl
      have hi := idx_1 (r3 x) (r3 z)
      have HA1 := Lib.hid (add_to w.heap.size (z <<< 1) _ (shl1 z))
      have HA2 := Lib.hid (add_to w.heap.size z _ (rfl : r3 z = r3 z))
      have HA3 := Lib.hid (add_to w.heap.size (z >>> 1) _ (shr1 z))
      go_wp2_with (first | (go_at_call 105; with_reducible refine (HA1.out _ _ HK.out).mono ?_; rintro e w1 ⟨⟨v1, rfl⟩, hk1, hb1⟩; have HK1 := Lib.hid hk1; have HB1 := Lib.hid hb1; clear hk1 hb1) | (go_at_call 105; with_reducible refine (HA2.out _ _ HK1.out).mono ?_; rintro e w2 ⟨⟨v2, rfl⟩, hk2, hb2⟩; have HK2 := Lib.hid hk2; have HB2 := Lib.hid hb2; clear hk2 hb2) | (go_at_call 105; with_reducible refine (HA3.out _ _ HK2.out).mono ?_; rintro e w3 ⟨⟨v3, rfl⟩, hk3, hb3⟩; have HK3 := Lib.hid hk3; have HB3 := Lib.hid hb3; clear hk3 hb3))
      go_roundw
      case rel => exact ⟨2, _, by omega, rfl, HK3, HB.out.trans (HB1.out.trans (HB2.out.trans HB3.out)), Lib.hid ⟨fun q => absurd q (by decide), fun q => absurd q (by decide), fun _ => rfl⟩⟩
      case measure => simp [intOf]
    · obtain rfl := hk.out.2.2 rfl
      have HA1 := Lib.hid (add_to w.heap.size (y <<< 1) _ (shl1 y))
      have HA3 := Lib.hid (add_to w.heap.size (y >>> 1) _ (shr1 y))
      go_wp2_with (first | (go_at_call 105; with_reducible refine (HA1.out _ _ HK.out).mono ?_; rintro e w1 ⟨⟨v1, rfl⟩, hk1, hb1⟩; have HK1 := Lib.hid hk1; have HB1 := Lib.hid hb1; clear hk1 hb1) | (go_at_call 105; with_reducible refine (HA3.out _ _ HK1.out).mono ?_; rintro e w2 ⟨⟨v2, rfl⟩, hk2, hb2⟩; have HK2 := Lib.hid hk2; have HB2 := Lib.hid hb2; clear hk2 hb2))
      have HBW := Lib.hid (HB.out.trans (HB1.out.trans HB2.out))
      have HC := Lib.hid (show CnAt w2 w.heap.size (cnt x y z) from HK2.out)
      clear HB HB1 HB2 HK HK1 HK2 HA1 HA3 hk
      have HR := Lib.hid (show rowM b l x y z = rowN b l (cnt x y z) y 9 from rfl)
      generalize cnt x y z = k at HC HR
      have HF2 := Lib.hid ((HBW.out.block _ HFL.out).trans HF.out)
      clear hn
      go_loopw [12, 37] (fun c i ws => ∃ n : Nat, n ≤ 9 ∧ i = .int .i64 (n : Int) ∧ c = .int .u32 (r3 (rowN b l k y n)) ∧ Hid (CnAt ws w.heap.size k) ∧ Hid (ws.heap[f]? = some (.cells (frow (fatF b l) 18) 182)) ∧ Hid (Below w.heap.size w ws)) (fun _ i _ => 9 - (intOf i).toNat)
      case atStart => exact ⟨0, by omega, rfl, rfl, HC, HF2, HBW⟩
      case round =>
        obtain ⟨n, hn, rfl, rfl, HC3, HF3, HB3⟩ := hrel
        have n0 : (0 : Int) ≤ (n : Int) := by omega
        by_cases hlt : n < 9
        · have n1 : (n : Int) < 9 := by omega
          have HQ := Lib.hid (fr_cell HF3.out (show n * 2 < 18 by omega))
          have HQ2 := Lib.hid (fr_cell HF3.out (show n * 2 + 1 < 18 by omega))
          have c0 := HQ.out.1
          have c1 := HQ2.out.1
          rw [fat_live] at c0
          rw [fat_born] at c1
          have HA := Lib.hid (alX wr (.cells #[.int .u32 0, .int .u32 0] 180))
          have d0 := (HA.out.cell (p := ⟨f, n * 2, none⟩) (lt_of_block HF3.out)).trans c0
          have d1 := (HA.out.cell (p := ⟨f, n * 2 + 1, none⟩) (lt_of_block HF3.out)).trans c1
          clear hlt
          go_wp2
          go_region
          obtain ⟨wa, hwa⟩ : ∃ wa, wa = (wr.alloc (Obj.cells #[.int .u32 (r3 (wh (hs l n))), .int .u32 (r3 (wh (hs b n)))] 180)).drew := ⟨_, rfl⟩
          have HA2 := Lib.hid (show Below wr.heap.size wr wa by rw [hwa]; exact (alX _ _).drew)
          have hn2 := show wa.heap[wr.heap.size]? = some (Obj.cells #[.int .u32 (r3 (wh (hs l n))), .int .u32 (r3 (wh (hs b n)))] 180) by rw [hwa]; exact heap_alloc_new _ _
          rw [← hwa]
          clear hwa HA d0 d1 c0 c1 HQ HQ2
          have e0 := cell_of_row _ _ 0 _ _ _ hn2
          have e1 := cell_of_row _ _ 1 _ _ _ hn2
          have HC4 := Lib.hid (show CnAt wa w.heap.size k from (HA2.out.block _ (lt_of_block HC3.out)).trans HC3.out)
          have HF4 := Lib.hid ((HA2.out.block _ (lt_of_block HF3.out)).trans HF3.out)
          have HB4 := Lib.hid (HB3.out.trans (HA2.out.mono HB3.out.size))
          have HWH := Lib.hid (fun (n' : Nat) => where_any w.heap.size k n (by omega) (wa.drewN n') HC4.out)
          generalize wr.heap.size = G at hn2 e0 e1 ⊢
          clear hn2 HA2 HC3 HF3 HB3
          have q1 := Lib.hid (and_r3 y (wh (hs l n)))
          have q2 := Lib.hid (not_r3 y)
          have q3 := Lib.hid (and_r3 (y ^^^ 4294967295#32) (wh (hs b n)))
          have q4 := Lib.hid (or_r3 (y &&& wh (hs l n)) ((y ^^^ 4294967295#32) &&& wh (hs b n)))
          have q5 := Lib.hid (and_r3 (k.where_ n) ((y &&& wh (hs l n)) ||| ((y ^^^ 4294967295#32) &&& wh (hs b n))))
          have q6 := Lib.hid (or_r3 (rowN b l k y n) (Ti.part b l k y n))
          have q7 := Lib.hid (show rowN b l k y (n + 1) = rowN b l k y n ||| Ti.part b l k y n from rfl)
          have q8 := Lib.hid (show Ti.part b l k y n = k.where_ n &&& ((y &&& wh (hs l n)) ||| ((y ^^^ 4294967295#32) &&& wh (hs b n))) from rfl)
          go_wp2
          go_quiet (first | (go_at_call 106; exact Calls.quiet_of (HWH.out _)))
          go_wp2
          rw [q2.out, q1.out, q3.out, q4.out, q5.out, ← q8.out, q6.out, ← q7.out]
          go_roundw
          case rel => exact ⟨n + 1, by omega, by go_num, rfl, HC4, HF4, below_drewN HB4.out _⟩
          case measure => simp [intOf]; omega
        · obtain rfl : n = 9 := by omega
          go_wp2
          go_ret
          exact ⟨by rw [HR.out]; rfl, HB3.out⟩
end Go.Proofs.YtlejohclijjhnaaGreatDoor

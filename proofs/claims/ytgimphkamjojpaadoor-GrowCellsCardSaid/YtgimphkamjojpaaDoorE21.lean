/-
  THE WALK of fates.row. No condition but those that each names.
-/
import Derived.Deep.RegionHeld3
import Derived.Deep.QuietTactic
import Derived.BigQuiet
import Derived.Test.YtgimphkamjojpaaDoorE20
namespace Go.Proofs.YtgimphkamjojpaaDoor
open Go.RowKit Ti Ru

/-- all bits or none, of those that live and those that are born, by how many -/
def fatF (b l : Nat) : Nat → R3 := fun j => wh (if j % 2 = 0 then hs l (j / 2) else hs b (j / 2))
def FatAt (w : World) (f b l : Nat) : Prop := w.heap[f]? = some (.cells (frow (fatF b l) 18) 156)
theorem fat_live (b l n : Nat) : fatF b l (n * 2) = wh (hs l n) := by
  unfold fatF
  rw [if_pos (by omega), show n * 2 / 2 = n by omega]
theorem fat_born (b l n : Nat) : fatF b l (n * 2 + 1) = wh (hs b n) := by
  unfold fatF
  rw [if_neg (by omega), show (n * 2 + 1) / 2 = n by omega]
theorem not_r3 (a : R3) : bits .xor .u32 (if IntKind.u32.signed = true then -1 else IntKind.u32.max) (r3 a) = r3 (a ^^^ 4294967295#32) := by
  have h := xor_r3 4294967295#32 a
  rw [BitVec.xor_comm] at h
  exact h
set_option maxRecDepth 100000 in
theorem idx_0 (a b : Int) (w : World) : (Instr.index 167 (.agg #[.int .u32 a, .int .u32 b]) (.int .i64 0)).run Tryd.prog w = .ok (.int .u32 a) w := by kernel_rfl
set_option maxRecDepth 100000 in
theorem idx_1 (a b : Int) (w : World) : (Instr.index 167 (.agg #[.int .u32 a, .int .u32 b]) (.int .i64 1)).run Tryd.prog w = .ok (.int .u32 b) w := by kernel_rfl
theorem add_to (g : Nat) (x : R3) (m : Int) (hm : m = r3 x) (k : Cn) (w : World) (h : CnAt w g k) :
    Calls Tryd.prog 79 #[.pointer (some ⟨g, 0, none⟩), .int .u32 m] w fun e w' => (∃ v, e = .returned v) ∧ CnAt w' g (k.add x) ∧ Below g w w' := by
  subst hm
  exact add_any g k x w h
theorem shl1 (x : R3) : r3 x * (2 : Int) % (4294967296 : Int) = r3 (x <<< 1) := by rw [← IntKind.wrap_u32']; exact shl_r3 x 1
theorem shr1 (x : R3) : r3 x / (2 : Int) = r3 (x >>> 1) := shr_r3 x 1
def c0K : Cn := Cn.nil
def c1K (x : R3) : Cn := ((Cn.nil.add (x <<< 1)).add x).add (x >>> 1)
def c2K (x z : R3) : Cn := (((c1K x).add (z <<< 1)).add z).add (z >>> 1)
set_option maxRecDepth 100000 in
theorem row_any (f b l : Nat) (x y z : R3) (w : World) (h : FatAt w f b l) :
    Calls Tryd.prog 77 #[.pointer (some ⟨f, 0, none⟩), .int .u32 (r3 x), .int .u32 (r3 y), .int .u32 (r3 z)] w fun e w' => e = .returned (.int .u32 (r3 (rowM b l x y z))) ∧ Below w.heap.size w w' := by
  unfold FatAt at h
  have HF := Lib.hid h
  have HFL := Lib.hid (lt_of_block h)
  clear h
  go_enter Tryd.func77, Tryd.ntmps77
  go_wp2
  have HK := Lib.hid (show CnAt (w.alloc (.cells #[.int .u32 0, .int .u32 0, .int .u32 0, .int .u32 0] 166)) w.heap.size Cn.nil from heap_alloc_new _ _)
  have HB := Lib.hid (alX w (.cells #[.int .u32 0, .int .u32 0, .int .u32 0, .int .u32 0] 166))
  go_loopw [11, 18] (fun _ i ws => ∃ (n : Nat) (k : Cn), n ≤ 2 ∧ i = .int .i64 (n : Int) ∧ Hid (CnAt ws w.heap.size k) ∧ Hid (Below w.heap.size w ws) ∧ Hid ((n = 0 → k = Cn.nil) ∧ (n = 1 → k = c1K x) ∧ (n = 2 → k = c2K x z))) (fun _ i _ => 2 - (intOf i).toNat)
  case atStart => exact ⟨0, _, by omega, rfl, HK, HB, Lib.hid ⟨fun _ => rfl, fun q => absurd q (by decide), fun q => absurd q (by decide)⟩⟩
  case round =>
    obtain ⟨n, k, hn, rfl, HK, HB, hk⟩ := hrel
    rcases (show n = 0 ∨ n = 1 ∨ n = 2 by omega) with rfl | rfl | rfl
    · obtain rfl := hk.out.1 rfl
      have hi := idx_0 (r3 x) (r3 z)
      have HA1 := Lib.hid (add_to w.heap.size (x <<< 1) _ (shl1 x))
      have HA2 := Lib.hid (add_to w.heap.size x _ (rfl : r3 x = r3 x))
      have HA3 := Lib.hid (add_to w.heap.size (x >>> 1) _ (shr1 x))
      go_wp2_with (first | (go_at_call 79; with_reducible refine (HA1.out _ _ HK.out).mono ?_; rintro e w1 ⟨⟨v1, rfl⟩, hk1, hb1⟩; have HK1 := Lib.hid hk1; have HB1 := Lib.hid hb1; clear hk1 hb1) | (go_at_call 79; with_reducible refine (HA2.out _ _ HK1.out).mono ?_; rintro e w2 ⟨⟨v2, rfl⟩, hk2, hb2⟩; have HK2 := Lib.hid hk2; have HB2 := Lib.hid hb2; clear hk2 hb2) | (go_at_call 79; with_reducible refine (HA3.out _ _ HK2.out).mono ?_; rintro e w3 ⟨⟨v3, rfl⟩, hk3, hb3⟩; have HK3 := Lib.hid hk3; have HB3 := Lib.hid hb3; clear hk3 hb3))
      go_roundw
      case rel => exact ⟨1, _, by omega, rfl, HK3, HB.out.trans (HB1.out.trans (HB2.out.trans HB3.out)), Lib.hid ⟨fun q => absurd q (by decide), fun _ => rfl, fun q => absurd q (by decide)⟩⟩
      case measure => simp [intOf]
    · obtain rfl := hk.out.2.1 rfl
      have hi := idx_1 (r3 x) (r3 z)
      have HA1 := Lib.hid (add_to w.heap.size (z <<< 1) _ (shl1 z))
      have HA2 := Lib.hid (add_to w.heap.size z _ (rfl : r3 z = r3 z))
      have HA3 := Lib.hid (add_to w.heap.size (z >>> 1) _ (shr1 z))
      go_wp2_with (first | (go_at_call 79; with_reducible refine (HA1.out _ _ HK.out).mono ?_; rintro e w1 ⟨⟨v1, rfl⟩, hk1, hb1⟩; have HK1 := Lib.hid hk1; have HB1 := Lib.hid hb1; clear hk1 hb1) | (go_at_call 79; with_reducible refine (HA2.out _ _ HK1.out).mono ?_; rintro e w2 ⟨⟨v2, rfl⟩, hk2, hb2⟩; have HK2 := Lib.hid hk2; have HB2 := Lib.hid hb2; clear hk2 hb2) | (go_at_call 79; with_reducible refine (HA3.out _ _ HK2.out).mono ?_; rintro e w3 ⟨⟨v3, rfl⟩, hk3, hb3⟩; have HK3 := Lib.hid hk3; have HB3 := Lib.hid hb3; clear hk3 hb3))
      go_roundw
      case rel => exact ⟨2, _, by omega, rfl, HK3, HB.out.trans (HB1.out.trans (HB2.out.trans HB3.out)), Lib.hid ⟨fun q => absurd q (by decide), fun q => absurd q (by decide), fun _ => rfl⟩⟩
      case measure => simp [intOf]
    · obtain rfl := hk.out.2.2 rfl
      have HA1 := Lib.hid (add_to w.heap.size (y <<< 1) _ (shl1 y))
      have HA3 := Lib.hid (add_to w.heap.size (y >>> 1) _ (shr1 y))
      go_wp2_with (first | (go_at_call 79; with_reducible refine (HA1.out _ _ HK.out).mono ?_; rintro e w1 ⟨⟨v1, rfl⟩, hk1, hb1⟩; have HK1 := Lib.hid hk1; have HB1 := Lib.hid hb1; clear hk1 hb1) | (go_at_call 79; with_reducible refine (HA3.out _ _ HK1.out).mono ?_; rintro e w2 ⟨⟨v2, rfl⟩, hk2, hb2⟩; have HK2 := Lib.hid hk2; have HB2 := Lib.hid hb2; clear hk2 hb2))
      have HBW := Lib.hid (HB.out.trans (HB1.out.trans HB2.out))
      have HC := Lib.hid (show CnAt w2 w.heap.size (cnt x y z) from HK2.out)
      clear HB HB1 HB2 HK HK1 HK2 HA1 HA3 hk
      have HR := Lib.hid (show rowM b l x y z = rowN b l (cnt x y z) y 9 from rfl)
      generalize cnt x y z = k at HC HR
      have HF2 := Lib.hid ((HBW.out.block _ HFL.out).trans HF.out)
      clear hn
      go_loopw [12, 37] (fun c i ws => ∃ n : Nat, n ≤ 9 ∧ i = .int .i64 (n : Int) ∧ c = .int .u32 (r3 (rowN b l k y n)) ∧ Hid (CnAt ws w.heap.size k) ∧ Hid (ws.heap[f]? = some (.cells (frow (fatF b l) 18) 156)) ∧ Hid (Below w.heap.size w ws)) (fun _ i _ => 9 - (intOf i).toNat)
      case atStart => exact ⟨0, by omega, rfl, rfl, HC, HF2, HBW⟩
      case round =>
        obtain ⟨n, hn, rfl, rfl, HC3, HF3, HB3⟩ := hrel
        have n0 : (0 : Int) ≤ (n : Int) := by omega
        by_cases hlt : n < 9
        · have n1 : (n : Int) < 9 := by omega
          have HQ := Lib.hid (fr_cell HF3.out (show n * 2 < 18 by omega))
          have HQ2 := Lib.hid (fr_cell HF3.out (show n * 2 + 1 < 18 by omega))
          have c0 := HQ.out.1
          have c1 := HQ2.out.1
          rw [fat_live] at c0
          rw [fat_born] at c1
          have HA := Lib.hid (alX wr (.cells #[.int .u32 0, .int .u32 0] 154))
          have d0 := (HA.out.cell (p := ⟨f, n * 2, none⟩) (lt_of_block HF3.out)).trans c0
          have d1 := (HA.out.cell (p := ⟨f, n * 2 + 1, none⟩) (lt_of_block HF3.out)).trans c1
          clear hlt
          go_wp2
          go_region
          obtain ⟨wa, hwa⟩ : ∃ wa, wa = (wr.alloc (Obj.cells #[.int .u32 (r3 (wh (hs l n))), .int .u32 (r3 (wh (hs b n)))] 154)).drew := ⟨_, rfl⟩
          have HA2 := Lib.hid (show Below wr.heap.size wr wa by rw [hwa]; exact (alX _ _).drew)
          have hn2 := show wa.heap[wr.heap.size]? = some (Obj.cells #[.int .u32 (r3 (wh (hs l n))), .int .u32 (r3 (wh (hs b n)))] 154) by rw [hwa]; exact heap_alloc_new _ _
          rw [← hwa]
          clear hwa HA d0 d1 c0 c1 HQ HQ2
          have e0 := cell_of_row _ _ 0 _ _ _ hn2
          have e1 := cell_of_row _ _ 1 _ _ _ hn2
          have HC4 := Lib.hid (show CnAt wa w.heap.size k from (HA2.out.block _ (lt_of_block HC3.out)).trans HC3.out)
          have HF4 := Lib.hid ((HA2.out.block _ (lt_of_block HF3.out)).trans HF3.out)
          have HB4 := Lib.hid (HB3.out.trans (HA2.out.mono HB3.out.size))
          have HWH := Lib.hid (fun (n' : Nat) => where_any w.heap.size k n (by omega) (wa.drewN n') HC4.out)
          generalize wr.heap.size = G at hn2 e0 e1 ⊢
          clear hn2 HA2 HC3 HF3 HB3
          have q1 := Lib.hid (and_r3 y (wh (hs l n)))
          have q2 := Lib.hid (not_r3 y)
          have q3 := Lib.hid (and_r3 (y ^^^ 4294967295#32) (wh (hs b n)))
          have q4 := Lib.hid (or_r3 (y &&& wh (hs l n)) ((y ^^^ 4294967295#32) &&& wh (hs b n)))
          have q5 := Lib.hid (and_r3 (k.where_ n) ((y &&& wh (hs l n)) ||| ((y ^^^ 4294967295#32) &&& wh (hs b n))))
          have q6 := Lib.hid (or_r3 (rowN b l k y n) (Ti.part b l k y n))
          have q7 := Lib.hid (show rowN b l k y (n + 1) = rowN b l k y n ||| Ti.part b l k y n from rfl)
          have q8 := Lib.hid (show Ti.part b l k y n = k.where_ n &&& ((y &&& wh (hs l n)) ||| ((y ^^^ 4294967295#32) &&& wh (hs b n))) from rfl)
          go_wp2
          go_quiet (first | (go_at_call 80; exact Calls.quiet_of (HWH.out _)))
          go_wp2
          rw [q2.out, q1.out, q3.out, q4.out, q5.out, ← q8.out, q6.out, ← q7.out]
          go_roundw
          case rel => exact ⟨n + 1, by omega, by go_num, rfl, HC4, HF4, below_drewN HB4.out _⟩
          case measure => simp [intOf]; omega
        · obtain rfl : n = 9 := by omega
          go_wp2
          go_ret
          exact ⟨by rw [HR.out]; rfl, HB3.out⟩
end Go.Proofs.YtgimphkamjojpaaDoor

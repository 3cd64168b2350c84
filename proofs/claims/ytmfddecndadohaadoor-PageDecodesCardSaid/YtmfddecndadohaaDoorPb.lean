/-
  THE WALK of page.lay: a number is written all over a piece of a block, its highest byte first. Conditions: the block is known whole.
-/
import Derived.Test.YtmfddecndadohaaDoorPa
namespace Go.Proofs.YtmfddecndadohaaDoor
open Go.RowKit Crc

/-- a block of bytes that is known whole -/
def Blk (w : World) (B : Nat) (xs : List Int) : Prop := w.heap[B]? = some (.cells (bl xs).toArray 5 (0, 0))
theorem Blk.cell {w : World} {B : Nat} {xs : List Int} (h : Blk w B xs) (i : Nat) (hi : i < xs.length) : w.cell? ⟨B, i, none⟩ = some (.int .u8 xs[i]) := by
  rw [cell_of_row w B i _ _ _ h]
  simp [bl, hi]
theorem Blk.free {w : World} {B : Nat} {xs : List Int} (h : Blk w B xs) (i : Nat) : w.frozen? ⟨B, i, none⟩ = false := frozen_of_row w B i _ _ h
theorem Blk.lt {w : World} {B : Nat} {xs : List Int} (h : Blk w B xs) : B < w.heap.size := lt_of_block h
theorem Blk.put {w : World} {B : Nat} {xs : List Int} (h : Blk w B xs) (i : Nat) (x : Int) : Blk (w.setCell ⟨B, i, none⟩ (.int .u8 x)) B (xs.set i x) := by
  unfold Blk
  rw [heap_setCell_same w B i _ _ _ h]
  congr 2
  apply Array.ext'
  simp [bl, List.map_set]
theorem Blk.lies {w : World} {B : Nat} {xs : List Int} (h : Blk w B xs) (hb : Byte xs) : Lies w (some ⟨B, 0, none⟩) xs := lies_block h hb
theorem Blk.below {w w' : World} {B : Nat} {xs : List Int} (h : Blk w B xs) (hb : Below w.heap.size w w') : Blk w' B xs := (hb.block B h.lt).trans h
/-- w' is w but for writes into the block B -/
structure Only (B : Nat) (w w' : World) : Prop where
  os : w'.os = w.os
  tape : w'.tape = w.tape
  output : w'.output = w.output
  size : w'.heap.size = w.heap.size
  block : ∀ k, k ≠ B → w'.heap[k]? = w.heap[k]?
theorem Only.refl (B : Nat) (w : World) : Only B w w := ⟨rfl, rfl, rfl, rfl, fun _ _ => rfl⟩
theorem Only.drew {B : Nat} {w w' : World} (h : Only B w w') : Only B w w'.drew := ⟨h.os, h.tape, h.output, h.size, h.block⟩
theorem Only.set {B : Nat} {w w' : World} (h : Only B w w') (i : Nat) (v : Value) : Only B w (w'.setCell ⟨B, i, none⟩ v) := by
  have hb := (Below.refl 0 w').setCell (p := ⟨B, i, none⟩) (Nat.zero_le _) v
  exact ⟨hb.os.trans h.os, hb.tape.trans h.tape, hb.output.trans h.output, by rw [World.size_setCell]; exact h.size, fun k hk => (heap_setCell_other w' _ k v hk).trans (h.block k hk)⟩
theorem Only.below {B b : Nat} {W w w' : World} (h : Only B w w') (hB : b ≤ B) (hb : Below b W w) : Below b W w' :=
  ⟨h.os.trans hb.os, h.tape.trans hb.tape, h.output.trans hb.output, by rw [h.size]; exact hb.size, fun k hk => (h.block k (by omega)).trans (hb.block k hk)⟩
theorem cell_of_block {w w' : World} {b o : Nat} (h : w'.heap[b]? = w.heap[b]?) : w'.cell? ⟨b, o, none⟩ = w.cell? ⟨b, o, none⟩ := by
  simp only [World.cell?, h]
theorem Only.cell {B : Nat} {w w' : World} (h : Only B w w') {b o : Nat} {v : Value} (hc : w.cell? ⟨b, o, none⟩ = some v) (hn : b ≠ B) : w'.cell? ⟨b, o, none⟩ = some v := by
  rw [cell_of_block (h.block b hn)]; exact hc

/-! ### a number's bytes from the other end -/
theorem be_front (k : Nat) (n : Int) : be (k + 1) n = (n / 256 ^ k % 256) :: be k n := by
  induction k generalizing n with
  | zero => simp [be]
  | succ k ih =>
    have e : be (k + 1 + 1) n = be (k + 1) (n / 256) ++ [n % 256] := rfl
    rw [e, ih]
    have e2 : n / 256 / 256 ^ k = n / 256 ^ (k + 1) := by
      rw [Int.ediv_ediv_of_nonneg (by decide), Int.pow_succ, Int.mul_comm]
    rw [e2]
    rfl
/-- what lay has written behind so many rounds: at the end of the piece -/
def laid (xs : List Int) (off m : Nat) (n : Int) (k : Nat) : List Int := xs.take (off + m - k) ++ (be k n ++ xs.drop (off + m))
theorem laid_zero (xs : List Int) (off m : Nat) (n : Int) : laid xs off m n 0 = xs := by simp [laid, be]
theorem laid_len (xs : List Int) (off m : Nat) (n : Int) (k : Nat) (h : off + m ≤ xs.length) (hk : k ≤ m) : (laid xs off m n k).length = xs.length := by
  simp [laid, be_len]; omega
theorem laid_next (xs : List Int) (off m : Nat) (n : Int) (k : Nat) (h : off + m ≤ xs.length) (hk : k < m) : (laid xs off m n k).set (off + (m - 1 - k)) (n / 256 ^ k % 256) = laid xs off m n (k + 1) := by
  unfold laid
  have e : off + m - k = (off + (m - 1 - k)) + 1 := by omega
  have e2 : off + m - (k + 1) = off + (m - 1 - k) := by omega
  rw [e, e2, be_front, List.take_succ_eq_append_getElem (by omega), List.append_assoc, List.set_append_right _ _ (by simp; omega)]
  have e3 : off + (m - 1 - k) - (xs.take (off + (m - 1 - k))).length = 0 := by simp; omega
  rw [e3]
  rfl
theorem pow256 (k : Nat) : (2 : Int) ^ (8 * k) = 256 ^ k := by rw [Int.pow_mul]; rfl
set_option maxRecDepth 100000 in
theorem lay_any (B off m c : Nat) (xs : List Int) (n : Int) (w : World) (h : Blk w B xs) (hm : off + m ≤ xs.length) (hm8 : m ≤ 8) :
    Calls Tryd.prog 21 #[.slice (some ⟨B, off, none⟩) m c, .int .u64 n] w fun e w' => e = .returned (.tuple #[]) ∧ Blk w' B (laid xs off m n m) ∧ Only B w w' := by
  have HB := Lib.hid h
  clear h
  go_enter Tryd.func21, Tryd.ntmps21
  go_wp2
  go_loopw [7, 4] (fun i _ wr => ∃ k : Nat, k ≤ m ∧ i = .int .i64 k ∧ Hid (Blk wr B (laid xs off m n k)) ∧ Hid (Only B w wr)) (fun i _ _ => m - (intOf i).toNat)
  case atStart => exact ⟨0, by omega, rfl, Lib.hid (by rw [laid_zero]; exact HB.out), Lib.hid (Only.refl _ _)⟩
  case round =>
    obtain ⟨k, hk, rfl, HW, HO⟩ := hrel
    by_cases hlt : k < m
    · have hl := laid_len xs off m n k hm hk
      obtain ⟨x, hc⟩ : ∃ x, wr.cell? ⟨B, off + (m - 1 - k), none⟩ = some (.int .u8 x) := ⟨_, HW.out.cell (off + (m - 1 - k)) (by rw [hl]; omega)⟩
      have hf := HW.out.free (off + (m - 1 - k))
      have i0 : (0 : Int) ≤ (m : Int) - 1 - k := by omega
      have i1 : ((m : Int) - 1 - k).toNat = m - 1 - k := by omega
      have i2 : (m : Int) - 1 - k < m := by omega
      have HN := Lib.hid (laid_next xs off m n k hm hlt)
      have HP := Lib.hid (pow256 k)
      clear hl
      go_wp2
      go_roundw
      case rel => exact ⟨k + 1, by omega, by go_num, Lib.hid (by rw [← HN.out, ← HP.out]; exact HW.out.put _ _), Lib.hid (HO.out.set _ _)⟩
      case measure => simp [intOf]; omega
    · obtain rfl : k = m := by omega
      go_wp2
      go_end0
      exact ⟨rfl, HW.out, HO.out⟩
end Go.Proofs.YtmfddecndadohaaDoor

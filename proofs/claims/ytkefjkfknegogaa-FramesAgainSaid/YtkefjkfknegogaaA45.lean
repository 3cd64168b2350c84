/-
  THE WALK of the statements' own field. Conditions: what is handed in lies in memory.
-/
import Derived.Deep.OwnRows
import Derived.Test.YtkefjkfknegogaaA44
import Derived.Test.YtkefjkfknegogaaA06
namespace Go.Proofs.Ytkefjkfknegogaa
open Go.RowKit Ti Qd Go.Maps Go.WideMaps Ru

/-- truths in a row of a block -/
def br (F : Nat → Bool) (n : Nat) : Array Value := ((List.range n).map (fun i => Value.bool (F i))).toArray
theorem br_size (F : Nat → Bool) (n : Nat) : (br F n).size = n := by simp [br]
theorem br_get (F : Nat → Bool) (n i : Nat) (h : i < n) : (br F n)[i]? = some (.bool (F i)) := by simp [br, h]
theorem br_set (F : Nat → Bool) (n i : Nat) (x : Bool) : (br F n).setIfInBounds i (.bool x) = br (upd F i x) n := by
  apply Array.ext_getElem?
  intro j
  rw [Array.getElem?_setIfInBounds]
  by_cases e : i = j
  · subst e
    rw [if_pos rfl, br_size]
    by_cases h : i < n
    · rw [if_pos h, br_get _ _ _ h]; simp [upd]
    · rw [if_neg h]; simp [br, h]
  · rw [if_neg e]
    have e2 : ¬ j = i := fun q => e q.symm
    by_cases h : j < n
    · rw [br_get _ _ _ h, br_get _ _ _ h]; simp [upd, e2]
    · simp [br, h]
theorem br_none (n : Nat) : Array.replicate n (Value.bool false) = br (fun _ => false) n := by
  apply Array.ext_getElem?
  intro j
  by_cases h : j < n
  · rw [br_get _ _ _ h]; simp [h]
  · simp [br, h]
theorem br_cell {w : World} {g n : Nat} {F : Nat → Bool} {T : TypeId} (h : w.heap[g]? = some (.cells (br F n) T)) (i : Nat) (hi : i < n) : w.cell? ⟨g, i, none⟩ = some (.bool (F i)) := by
  rw [cell_of_row _ _ i _ _ _ h, br_get F n i hi]
theorem br_put {w : World} {g n : Nat} {F : Nat → Bool} {T : TypeId} (h : w.heap[g]? = some (.cells (br F n) T)) (i : Nat) (x : Bool) : (w.setCell ⟨g, i, none⟩ (.bool x)).heap[g]? = some (.cells (br (upd F i x) n) T) := by
  rw [heap_setCell_same w g i _ _ _ h, br_set]
set_option maxRecDepth 100000 in
theorem info_b : (Try.prog.info? 4).map (fun i => (i.zero, i.size, i.bytes)) = some (some (.bool false), 1, 1) := by kernel_rfl
set_option maxRecDepth 100000 in
theorem make_b (n : Nat) (hn : n ≤ 16384) (w : World) : (Instr.makeSlice 48 (.int .i64 (n : Int)) (.int .i64 (n : Int))).run Try.prog w = .ok (.slice (some ⟨w.heap.size, 0, none⟩) n n) (w.alloc (.cells (br (fun _ => false) n) 4)) := by
  rw [run_make_row' (P := Try.prog) 48 4 (.bool false) 1 Try.underlying48 info_b rfl .i64 .i64 n (by omega) (by omega) w, made_eq, br_none]
/-- where a number's cell stands -/
def fps (v w : Nat) : Nat := w * (v / 64 % w) + v % w
def fF (X : Nat → Nat) (w : Nat) : Nat → Nat → Bool
  | 0 => fun _ => false
  | k + 1 => upd (fF X w k) (fps (X k) w) true
theorem fps_lt (v w : Nat) (h : 0 < w) : fps v w < w * w := by
  unfold fps
  have h1 := Nat.mod_lt (v / 64) h
  have h2 := Nat.mod_lt v h
  calc w * (v / 64 % w) + v % w < w * (v / 64 % w) + w := by omega
    _ = w * (v / 64 % w + 1) := by rw [Nat.mul_succ]
    _ ≤ w * w := Nat.mul_le_mul_left _ h1
/-- numbers that lie in memory -/
def LiesX (W : World) (a : Option Addr) (len : Nat) (X : Nat → Nat) : Prop := ∀ i, i < len → ∃ b off, a = some ⟨b, off, none⟩ ∧ W.cell? ⟨b, off + i, none⟩ = some (.int .u64 (X i : Nat)) ∧ X i < 18446744073709551616
theorem LiesX.below {W W' : World} {a : Option Addr} {len : Nat} {X : Nat → Nat} (h : LiesX W a len X) (hb : Below W.heap.size W W') : LiesX W' a len X := fun i hi => by
  obtain ⟨b, off, ha, hc, hx⟩ := h i hi
  exact ⟨b, off, ha, (hb.cell (p := ⟨b, off + i, none⟩) (World.block_lt_of_cell? W _ hc)).trans hc, hx⟩
/-- so many laid -/
structure FI (W : World) (X : Nat → Nat) (w N k : Nat) (wr : World) : Prop where
  row : wr.heap[W.heap.size]? = some (.cells (br (fF X w k) N) 4)
  bel : Below W.heap.size W wr
set_option maxRecDepth 100000 in
set_option maxHeartbeats 4000000 in
theorem field_ok (a : Option Addr) (len cap : Nat) (X : Nat → Nat) (w : Nat) (W : World) (hx : LiesX W a len X) (hl : len ≤ 9223372036854775807) (h0 : 0 < w) (h1 : w ≤ 64) :
    Calls Try.prog 14 #[.slice a len cap, .int .i64 w] W fun e W' => e = .returned (.slice (some ⟨W.heap.size, 0, none⟩) (w * w) (w * w)) ∧ FI W X w (w * w) (min len 60) W' := by
  have HF0 := Lib.hid (show FI W X w (w * w) 0 (W.alloc (.cells (br (fun _ => false) (w * w)) 4)) from ⟨heap_alloc_new W _, alX W _⟩)
  have HX := Lib.hid hx
  have hN : w * w ≤ 4096 := Nat.mul_le_mul h1 h1
  have hN0 : 0 < w * w := Nat.mul_pos h0 h0
  have HPS := Lib.hid (fun v => fps_lt v w h0)
  clear hx
  obtain ⟨N, hNN⟩ : ∃ N, N = w * w := ⟨_, rfl⟩
  rw [← hNN] at hN hN0
  have HNN := Lib.hid hNN
  have e1 : (w : Int) * (w : Int) = (N : Int) := by rw [hNN]; simp
  have w0 : (0 : Int) ≤ (w : Int) := by omega
  have w1 : (w : Int) ≤ 64 := by omega
  have w2 : (0 : Int) < (w : Int) := by omega
  have hmk := make_b N (by omega)
  rw [← hNN] at HF0 ⊢
  clear hNN
  go_enter Try.func14, Try.ntmps14
  go_wp2
  generalize World.alloc _ _ = W0 at HF0 ⊢
  go_loopw [6] (fun i wr => ∃ k : Nat, k ≤ len ∧ k ≤ 60 ∧ i = .int .i64 k ∧ Hid (FI W X w N k wr)) (fun i _ => 60 - (intOf i).toNat)
  case atStart => exact ⟨0, by omega, by omega, rfl, HF0⟩
  case round =>
    clear HF0
    obtain ⟨k, hk, hk6, rfl, HR⟩ := hrel
    have k0 : (0 : Int) ≤ (k : Int) := by omega
    by_cases hlt : k < len ∧ k < 60
    · obtain ⟨h1, h2⟩ := hlt
      have k1 : (k : Int) < (len : Int) := by omega
      have k2 : (k : Int) < 60 := by omega
      obtain ⟨b, off, rfl, hc, hX⟩ := HX.out.below HR.out.bel k h1
      have HLT := Lib.hid (And.intro h1 h2)
      clear h1 h2
      go_wp2
      go_quiet (fail)
      have ex : wrap64 ((X k : Int) % (w : Int)) = ((X k % w : Nat) : Int) := by
        rw [← Int.natCast_emod]
        exact wrap_small (by have := Nat.mod_lt (X k) h0; omega)
      have ey : wrap64 ((X k : Int) / 64 % (w : Int)) = ((X k / 64 % w : Nat) : Int) := by
        rw [show (X k : Int) / 64 = ((X k / 64 : Nat) : Int) by omega, ← Int.natCast_emod]
        exact wrap_small (by have := Nat.mod_lt (X k / 64) h0; omega)
      rw [ex, ey]
      clear ex ey hc
      have hx0 := Nat.mod_lt (X k) h0
      have hy0 := Nat.mod_lt (X k / 64) h0
      have HFP := Lib.hid (show w * (X k / 64 % w) + X k % w = fps (X k) w from rfl)
      have HFL := Lib.hid (HPS.out (X k))
      generalize X k % w = x at *
      generalize X k / 64 % w = y at *
      obtain ⟨m, hm⟩ : ∃ m, m = w * y := ⟨_, rfl⟩
      rw [← hm] at HFP
      have em : (w : Int) * (y : Int) = (m : Int) := by rw [hm]; simp
      have hlt2 : m + x < N := by rw [HFP.out, HNN.out]; exact HFL.out
      clear hm
      have HB := Lib.hid (show FI W X w N k (wr.drewN nq) from ⟨HR.out.row, Below.drewN' HR.out.bel nq⟩)
      generalize World.drewN _ _ = W1 at HB ⊢
      have hc := br_cell HB.out.row (m + x) hlt2
      have hf : W1.frozen? ⟨W.heap.size, m + x, none⟩ = false := frozen_of_row _ _ (m + x) _ _ HB.out.row
      have HE := Lib.hid (show FI W X w N (k + 1) (W1.setCell ⟨W.heap.size, m + x, none⟩ (.bool true)) from ⟨by
        have h3 := br_put HB.out.row (m + x) true
        rw [HFP.out] at h3 ⊢
        exact h3, HB.out.bel.setCell (p := ⟨W.heap.size, m + x, none⟩) (Nat.le_refl _) _⟩)
      generalize fF X w k (m + x) = old at *
      have m0 : (0 : Int) ≤ (m : Int) := by omega
      have x0 : (0 : Int) ≤ (x : Int) := by omega
      have s0 : (0 : Int) ≤ (m : Int) + (x : Int) := by omega
      have s1 : (m : Int) + (x : Int) < (N : Int) := by omega
      go_wp2
      go_roundw
      case rel => exact ⟨k + 1, by have := HLT.out; omega, by have := HLT.out; omega, by go_num, HE⟩
      case measure => have := HLT.out; simp [intOf]; omega
    · have e : k = min len 60 := by omega
      have HE := Lib.hid e
      by_cases q : k < len
      · have q2 : (k : Int) < (len : Int) := by omega
        have q3 : ¬ (k : Int) < 60 := by omega
        clear e hlt
        go_wp2
        go_ret
        exact ⟨rfl, HE.out ▸ HR.out⟩
      · have q2 : ¬ (k : Int) < (len : Int) := by omega
        clear e hlt
        go_wp2
        go_ret
        exact ⟨rfl, HE.out ▸ HR.out⟩
end Go.Proofs.Ytkefjkfknegogaa

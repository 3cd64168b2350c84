/-
  THE WALKS of tile.rows and of the iterator that it makes. No condition but those that each names.
-/
import Derived.RangeFuncBox
import Derived.RangeFuncFrom
import Derived.RangeFuncLeaves
import Derived.Shelf.Abstract
import Derived.WalkKit
import Derived.OwnWalkIn
import Derived.TacticsInMore
import Derived.LoopNIn
import Derived.LoopIn
import Derived.Test.YtlejohclijjhnaaGreatDoorL21
namespace Go.Proofs.YtlejohclijjhnaaGreatDoor
open Go.RowKit Go.Shelf Ti

attribute [local go_sem] Oper.semAt_some

/-- a block is as it was -/
def Stay (b : Nat) (W W' : World) : Prop := W'.heap[b]? = W.heap[b]?
def f8 (k : Nat) : Fin 8 := ⟨k % 8, by omega⟩
/-- the rows that have come when k rounds are over -/
def up8 (k : Nat) : List (Fin 8) := (List.range k).map f8
theorem up8_succ (k : Nat) : up8 (k + 1) = up8 k ++ [f8 k] := by simp [up8, List.range_succ]
theorem up8_length (k : Nat) : (up8 k).length = k := by simp [up8]
theorem f8_val (k : Nat) (h : k < 8) : (f8 k).val = k := Nat.mod_eq_of_lt h
theorem rowB_spell (t : T6) (k : Nat) : r3 (rowB t k) = bits .and .u64 (rg t / 2 ^ (8 * k)) 255 % (4294967296 : Int) := by
  rw [shr_rg, show bits .and .u64 (rg (t >>> (8 * k))) 255 = rg (t >>> (8 * k) &&& 255#64) from and_rg _ 255#64, ← IntKind.wrap_u32', to3_rg]
  rfl
set_option maxHeartbeats 1000000 in
theorem rows_in (F : Fence) (n : Nat) (h5 : F.fn 91) (hro : F.round = none) (t : Int) (w : World) :
    CallsIn F n Tryz.prog 91 #[.int .u64 t] w fun e w' => e = .returned (.func (.func 103) #[] #[.pointer (some ⟨w.heap.size, 0, none⟩)]) ∧ w' = w.alloc (.cells #[.int .u64 t] 92) := by
  refine callsIn_of_wp Tryz.func91 rfl h5 ?_ hro
  simp only [Tryz.ntmps91, List.size_toArray, List.length_cons, List.length_nil, Nat.reduceAdd, Nat.reduceSub, Array.replicate_succ, Array.replicate_zero, List.push_toArray, List.append_toArray, List.nil_append, List.cons_append]
  gi_wp2
  go_ret
  exact ⟨rfl, rfl⟩
set_option maxRecDepth 100000 in
set_option maxHeartbeats 2000000 in
theorem rows1_in (F : Fence) (n : Nat) (h8 : F.fn 103) (hro : F.round = none) (hn : 1 ≤ n) (l Bs : Nat) (t : T6) (J Jx : List (Fin 8) → World → Prop)
    (hY : ∀ pre x W, J pre W → pre.length < 8 → YieldAt F (n - 1) Tryz.prog l #[.int .i64 ((x : Fin 8).val : Int), .int .u32 (r3 (rowB t x.val))] W fun e W' =>
      (e = .returned (.bool true) ∧ J (pre ++ [x]) W' ∧ Stay Bs W W') ∨ (e = .returned (.bool false) ∧ Jx (pre ++ [x]) W'))
    (W : World) (hBs : W.cell? ⟨Bs, 0, none⟩ = some (.int .u64 (rg t))) (h0 : J [] W) :
    CallsIn F n Tryz.prog 103 #[.func (.yield l) #[] #[], .pointer (some ⟨Bs, 0, none⟩)] W fun e W' => (∃ v, e = .returned v) ∧
      ((∃ ys, ys = up8 8 ∧ J ys W') ∨ (∃ pre, (∃ k, k ≤ 8 ∧ pre = up8 k) ∧ Jx pre W')) := by
  refine callsIn_of_wp Tryz.func103 rfl h8 ?_ hro
  simp only [Tryz.ntmps103, List.size_toArray, List.length_cons, List.length_nil, Nat.reduceAdd, Nat.reduceSub, Array.replicate_succ, Array.replicate_zero, List.push_toArray, List.append_toArray, List.nil_append, List.cons_append]
  gi_wp2
  gi_loopw [4] (fun i wr => ∃ k : Nat, k ≤ 8 ∧ i = .int .i64 k ∧ J (up8 k) wr ∧ Stay Bs W wr)
    (fun i _ => 8 - (intOf i).toNat)
  case atStart => exact ⟨0, Nat.zero_le _, rfl, h0, rfl⟩
  case round =>
    obtain ⟨k, hk, rfl, hJs, hnx⟩ := hrel
    have hc := (World.cell?_of_block (a := ⟨Bs, 0, none⟩) hnx).trans hBs
    have k0 : (0 : Int) ≤ (k : Int) := by omega
    by_cases hlt : k < 8
    · have k1 : (k : Int) < 8 := by omega
      have E2 := Lib.hid (show min (8 * (k : Int)).toNat 64 = 8 * k by omega)
      obtain ⟨fn, tmps, assign, body, hy, hR⟩ := hY _ (f8 k) wr hJs (by rw [up8_length]; exact hlt)
      rw [f8_val k hlt, rowB_spell] at hy
      gi_wp2
      refine hR.mono ?_
      rintro e W3 (⟨rfl, hJ3, hk3⟩ | ⟨rfl, hJx3⟩)
      · gi_wp2
        go_roundw
        case rel => exact ⟨k + 1, by omega, by simp, by rw [up8_succ]; exact hJ3, hk3.trans hnx⟩
        case measure => simp [intOf]; omega
      · gi_wp2
        refine bodyPost_ret (results_none rfl _ _ _) rfl ?_
        exact ⟨⟨_, rfl⟩, .inr ⟨_, ⟨k + 1, by omega, (up8_succ _).symm⟩, hJx3⟩⟩
    · obtain rfl : k = 8 := by omega
      gi_wp2
      go_end0
      exact ⟨⟨_, rfl⟩, .inl ⟨_, rfl, hJs⟩⟩
theorem rows_stops (F : Fence) (n : Nat) (h8 : F.fn 103) (hro : F.round = none) (hn : 1 ≤ n) (Bs : Nat) (t : T6) (w : World) (hBs : Bs < w.heap.size)
    (hc : w.cell? ⟨Bs, 0, none⟩ = some (.int .u64 (rg t))) :
    SeqStopsK F n Tryz.prog 103 #[.pointer (some ⟨Bs, 0, none⟩)] (fun x : Fin 8 => #[.int .i64 (x.val : Int), .int .u32 (r3 (rowB t x.val))]) (Stay Bs) (fun ys => ys = up8 8) (fun pre => ∃ k, k ≤ 8 ∧ pre = up8 k) 8 w := fun l J Jx W hW _ _ hY h0 =>
  rows1_in F n h8 hro hn l Bs t J Jx hY W ((hW.cell (p := ⟨Bs, 0, none⟩) hBs).trans hc) h0
end Go.Proofs.YtlejohclijjhnaaGreatDoor

/-
  THE REFERENCE's Write. Conditions: the reference's disk lies in memory.
-/
import Derived.Test.YtibopcbebcikbaaDoorRe
namespace Go.Proofs.YtibopcbebcikbaaDoor
open Go.RowKit

theorem al2 (w : World) (a b : Obj) : Below w.heap.size w ((w.alloc a).alloc b) := ((Below.refl _ _).alloc (Nat.le_refl _) _).alloc (by simp) _
/-- the reference's errors: it stays as it was -/
def RefErr (w : World) (r : Ref) (k : Int) (e : Ending) (w' : World) : Prop := e = .returned (.tuple #[r.val, .int .i64 k]) ∧ Below w.heap.size w w'
set_option maxRecDepth 100000 in
theorem refwrite_range (r : Ref) (i : Int) (t : ByteArray) (w : World) (hi : i < 0 ∨ (r.n : Int) ≤ i) (hn : r.n ≤ 100) :
    Calls Tryd.prog 27 #[r.val, .int .i64 i, .string t] w (RefErr w r 4) := by
  unfold Ref.val
  by_cases h0 : i < 0
  · go_enter Tryd.func27, Tryd.ntmps27
    go_wp2
    refine bodyPost_ret (v := .tuple #[r.val, .int .i64 4]) (by simp [results, Tryd.results27, go_sem, Ref.val]) rfl ⟨rfl, ?_⟩
    exact al2 _ _ _
  · have h1 : (r.n : Int) ≤ i := by omega
    have h2 : 0 ≤ i := by omega
    have h3 : (r.n : Int) ≤ 100 := by omega
    clear hi h0
    go_enter Tryd.func27, Tryd.ntmps27
    go_wp2
    refine bodyPost_ret (v := .tuple #[r.val, .int .i64 4]) (by simp [results, Tryd.results27, go_sem, Ref.val]) rfl ⟨rfl, ?_⟩
    exact al2 _ _ _
set_option maxRecDepth 100000 in
theorem refwrite_long (r : Ref) (i : Nat) (t : ByteArray) (w : World) (hi : i < r.n) (hn : r.n ≤ 100) (ht : t.size ≠ 512) :
    Calls Tryd.prog 27 #[r.val, .int .i64 i, .string t] w (RefErr w r 2) := by
  have h0 : (0 : Int) ≤ (i : Int) := by omega
  have h1 : (i : Int) < (r.n : Int) := by omega
  have h2 : ((t.size : Int) != 512) = true := by simp; omega
  have h3 : ((t.size : Int) == 512) = false := by rw [beq_eq_false_iff_ne]; omega
  have h4 : (r.n : Int) ≤ 100 := by omega
  unfold Ref.val
  go_enter Tryd.func27, Tryd.ntmps27
  go_wp2
  refine bodyPost_ret (v := .tuple #[r.val, .int .i64 2]) (by simp [results, Tryd.results27, go_sem, Ref.val]) rfl ⟨rfl, ?_⟩
  exact al2 _ _ _
set_option maxRecDepth 100000 in
theorem refwrite_full (r : Ref) (i : Nat) (t : ByteArray) (w : World) (hi : i < r.n) (hn : r.n ≤ 100) (ht : t.size = 512) (hl : r.left = 0) :
    Calls Tryd.prog 27 #[r.val, .int .i64 i, .string t] w (RefErr w r 5) := by
  have h0 : (0 : Int) ≤ (i : Int) := by omega
  have h1 : (i : Int) < (r.n : Int) := by omega
  have h4 : (r.n : Int) ≤ 100 := by omega
  have h5 : (r.left == 0) = true := by rw [hl]; rfl
  unfold Ref.val
  go_enter Tryd.func27, Tryd.ntmps27
  go_wp2
  refine bodyPost_ret (v := .tuple #[r.val, .int .i64 5]) (by simp [results, Tryd.results27, go_sem, Ref.val, hl]) rfl ⟨rfl, ?_⟩
  exact al2 _ _ _
end Go.Proofs.YtibopcbebcikbaaDoor

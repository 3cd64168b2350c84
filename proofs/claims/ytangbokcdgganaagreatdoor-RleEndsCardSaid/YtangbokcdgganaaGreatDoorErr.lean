/-
  THE STATEMENTS' OWN num: an error's number: nil: 0; an api.Errno: its number. Condition: errors.errorType is as the program's text lays it.
-/
import Derived.Test.YtangbokcdgganaaGreatDoorAs
import Derived.WalkSmall
namespace Go.Proofs.YtangbokcdgganaaGreatDoor
open Go.RowKit

/-- errors.errorType as the program's text lays it -/
def Laid (w : World) : Prop := w.cell? ⟨0, 0, none⟩ = some (.iface 121 (.agg #[.pointer (some ⟨7, 27, none⟩)]))
theorem Laid.lt {w : World} (h : Laid w) : 0 < w.heap.size := World.block_lt_of_cell? w _ h
theorem Laid.below {w w' : World} (h : Laid w) (hb : Below w.heap.size w w') : Laid w' := by
  unfold Laid
  rw [hb.cell (p := ⟨0, 0, none⟩) h.lt]
  exact h
theorem num_nil (w : World) :
    Calls Tryz.prog 10 #[.nilIface] w fun e w' => e = .returned (.int .i64 0) ∧ Below w.heap.size w w' := by
  go_enter Tryz.func10, Tryz.ntmps10
  go_wp2
  go_ret
  exact ⟨rfl, (Below.refl _ _).alloc (Nat.le_refl _) _⟩
theorem as_err (e : Int) (w : World) (hl : Laid w) :
    Calls Tryz.prog 22 #[.iface 48 (.int .i64 e), .iface 63 (.pointer (some ⟨w.heap.size, 0, none⟩))] (w.alloc (.cells #[.int .i64 0] 48)) fun ev w' => ev = .returned (.bool true) ∧ w'.cell? ⟨w.heap.size, 0, none⟩ = some (.int .i64 e) ∧ Below w.heap.size w w' := by
  have hg := hl.below ((Below.refl _ _).alloc (Nat.le_refl _) (.cells #[.int .i64 0] 48))
  refine (as_hit e ⟨w.heap.size, 0, none⟩ (.int .i64 0) _ hg (by simp) (by simp)).mono fun ev w' ⟨h1, h2⟩ => ⟨h1, ?_, ?_⟩
  · rw [h2]
    refine World.cell?_setCell_same _ _ _ (u := .int .i64 0) ?_
    rw [World.cell?_alloc_lt _ _ _ (by simp; omega), World.cell?_alloc_lt _ _ _ (by simp; omega), World.cell?_alloc_lt _ _ _ (by simp; omega), World.cell?_alloc_lt _ _ _ (by simp)]
    simp
  · rw [h2]
    exact (((((((Below.refl _ _).alloc (Nat.le_refl _) _).alloc (by simp) _).alloc (by simp; omega) _).alloc (by simp; omega) _).alloc (by simp; omega) _).setCell (by simp) _)
theorem num_err (k : Int) (w : World) (hl : Laid w) :
    Calls Tryz.prog 10 #[.iface 48 (.int .i64 k)] w fun e w' => e = .returned (.int .i64 k) ∧ Below w.heap.size w w' := by
  go_enter Tryz.func10, Tryz.ntmps10
  go_wp2_with (first | (go_at_call 22; refine (as_err k w hl).mono ?_; rintro ev w1 ⟨rfl, hc, hb⟩))
  go_ret
  exact ⟨rfl, hb⟩
end Go.Proofs.YtangbokcdgganaaGreatDoor

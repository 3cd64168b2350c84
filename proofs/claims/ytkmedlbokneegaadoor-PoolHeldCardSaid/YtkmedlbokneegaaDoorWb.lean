/-
  THE WALKS of (*Disk).Read. Conditions: a disk lies in memory.
-/
import Derived.Test.YtkmedlbokneegaaDoorWa
namespace Go.Proofs.YtkmedlbokneegaaDoor
open Go.RowKit

/-- what a sector is now -/
def St.cur (s : St) (i j : Nat) : Int := match s.late i with | some _ => s.now i j | none => s.sure i j
/-- 512 bytes in new memory, and no error -/
def NewBytes (w : World) (f : Nat → Int) (e : Ending) (w' : World) : Prop :=
  ∃ g cap, e = .returned (.tuple #[.slice (some ⟨g, 0, none⟩) 512 cap, .nilIface]) ∧ Lies w' (some ⟨g, 0, none⟩) (rowOf f) ∧ 512 ≤ cap ∧ w.heap.size ≤ g ∧ Below w.heap.size w w'
set_option maxRecDepth 100000 in
theorem read_no {B : Nat} (s : St) (i : Int) (w : World) (h : DiskAt B w s) (hi : i < 0 ∨ (s.n : Int) ≤ i) :
    Calls Tryd.prog 26 #[.pointer (some ⟨s.D, 0, none⟩), .int .i64 i] w fun e w' => e = .returned (.tuple #[.slice none 0 0, .iface 60 (.int .i64 4)]) ∧ w = w' := by
  have HH := Lib.hid h
  have HI := Lib.hid hi
  clear h hi
  go_enter Tryd.func26, Tryd.ntmps26
  go_wp2_with (go_at_call 46; refine (has_no s i _ HH.out HI.out).mono ?_; rintro e w' ⟨rfl, rfl⟩)
  go_ret2
  exact ⟨rfl, rfl⟩
set_option maxRecDepth 100000 in
theorem read_any {B : Nat} (s : St) (i : Nat) (w : World) (h : DiskAt B w s) (hi : i < s.n) :
    Calls Tryd.prog 26 #[.pointer (some ⟨s.D, 0, none⟩), .int .i64 i] w (NewBytes w (s.cur i)) := by
  have c0 := h.d0
  have c1 := h.d1
  have cl := h.cL i hi
  have HH := Lib.hid h
  have i0 : (0 : Int) ≤ (i : Int) := by omega
  have n1 := h.ok.n1
  cases hlt : s.late i with
  | none =>
    have HL := Lib.hid (show Lies w (some ⟨s.S, i * 512, none⟩) (rowOf (s.cur i)) by
      have e : s.cur i = s.sure i := by funext j; unfold St.cur; rw [hlt]
      rw [e]
      exact Lies.row (fun j hj => h.cS i j hi hj) (h.ok.us i))
    have HLT := Lib.hid hlt
    rw [hlt] at cl
    change w.cell? _ = some (.pointer none) at cl
    clear h hlt
    go_enter Tryd.func26, Tryd.ntmps26
    go_wp2_with (first | (go_at_call 46; refine (has_yes s i _ HH.out hi).mono ?_; rintro e w' ⟨rfl, rfl⟩) | (go_at_call 36; refine (cloneB_at _ _ _ _ _ (rowOf_len _) HL.out).mono ?_; rintro e w1 ⟨v1, rfl, hown, hb⟩))
    obtain ⟨g, cap, rfl, hl, hc, hg⟩ := own_bytes hown (by omega) HL.out.byte
    go_ret2
    exact ⟨g, cap, rfl, hl, hc, hg, hb⟩
  | some b =>
    have HL := Lib.hid (show Lies w (some ⟨b, 0, none⟩) (rowOf (s.cur i)) by
      have e : s.cur i = s.now i := by funext j; unfold St.cur; rw [hlt]
      rw [e]
      exact Lies.row (fun j hj => by rw [Nat.zero_add]; exact h.cT i b hlt j hj) (h.ok.un i))
    have HLT := Lib.hid hlt
    rw [hlt] at cl
    change w.cell? _ = some (.pointer (some ⟨b, 0, none⟩)) at cl
    clear h hlt
    go_enter Tryd.func26, Tryd.ntmps26
    go_wp2_with (first | (go_at_call 46; refine (has_yes s i _ HH.out hi).mono ?_; rintro e w' ⟨rfl, rfl⟩) | (go_at_call 36; refine (cloneB_at _ _ _ _ _ (rowOf_len _) HL.out).mono ?_; rintro e w1 ⟨v1, rfl, hown, hb⟩))
    obtain ⟨g, cap, rfl, hl, hc, hg⟩ := own_bytes hown (by omega) HL.out.byte
    go_ret2
    exact ⟨g, cap, rfl, hl, hc, hg, hb⟩
end Go.Proofs.YtkmedlbokneegaaDoor

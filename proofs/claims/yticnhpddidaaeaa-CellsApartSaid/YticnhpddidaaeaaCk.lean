/-
  CELLS AS KEYS OF A MAP: what one reads as; a map from cells to numbers as a function, 0 where nothing is. Conditions: those that each lemma names.
-/

import Derived.Test.YticnhpddidaaeaaCj
import Derived.DeepKeys4
import Derived.WideKeyEntry
import Derived.Maps.OwnOps
import Derived.Maps.RangeWalk
import Derived.Maps.Ext
namespace Go.Proofs.Yticnhpddidaaeaa
open Go.RowKit Ru Ce Go.Maps Go.WideMaps

theorem laidOutC : laidOutB Try.prog = true := by kernel_rfl
theorem rowC : (31 : TypeId) < Try.prog.types.size := of_decide_eq_true (by kernel_rfl)
theorem cellsC : Try.prog.cellsOf 31 = 2 := by kernel_rfl
theorem wideC : (match Try.prog.underlying 31 with | some (.array _ _) | some (.struct _) => true | _ => false) = true := by rw [Try.underlying31]
set_option maxRecDepth 100000 in
theorem klawS : KeyLaw Try.prog 31 := deep_law_laid laidOutC (m := 2) (by omega) rowC (by kernel_rfl) wideC
theorem klaw : Keyed Try.prog 31 := Keyed.of_law klawS
theorem ktC : Try.prog.keyType 31 = true := by kernel_rfl
/-- what a cell reads as -/
def ky (c : Cel) : Lit := .string (keyBytes [.int .i64 c.1, .int .i64 c.2])
theorem wf_of {a : Int} (h : -9223372036854775808 ≤ a ∧ a ≤ 9223372036854775807) : (Lit.int .i64 a).wf = true := by
  have e0 : IntKind.i64.min = -9223372036854775808 := rfl
  have e1 : IntKind.i64.max = 9223372036854775807 := rfl
  have h1 : IntKind.i64.min ≤ a ∧ a ≤ IntKind.i64.max := by rw [e0, e1]; exact h
  simpa [Lit.wf] using h1
theorem pos_succ {n : Nat} (h : 0 < n) : ∃ m, n = m + 1 := ⟨n - 1, by omega⟩
theorem size0 : 0 < Try.prog.types.size := of_decide_eq_true (by kernel_rfl)
theorem sizeC : ∃ m, Try.prog.types.size = m + 1 := pos_succ size0
set_option maxRecDepth 100000 in
theorem ky_of {c : Cel} (h : I6 c) : keyOf Try.prog 31 (.agg #[.int .i64 c.1, .int .i64 c.2]) = some (ky c) := by
  have wa := wf_of h.1
  have wb := wf_of h.2
  obtain ⟨m, hm⟩ := sizeC
  have e1 : Try.prog.cellsOf 3 = 1 := by kernel_rfl
  unfold keyOf
  simp only [Try.underlying31]
  rw [if_pos (by simp [ktC, Value.formed, Try.underlying31, cellsC]), hm]
  unfold Program.keyLits
  simp only [Try.underlying31, Value.cells]
  rw [if_pos (by rw [cellsC]; exact ⟨rfl, by decide +kernel⟩)]
  simp [e1, Program.keyLits, Try.underlying3, wa, wb, ky]
theorem wf_to {a : Int} (h : (Lit.int .i64 a).wf = true) : -9223372036854775808 ≤ a ∧ a ≤ 9223372036854775807 := by
  have h1 : IntKind.i64.min ≤ a ∧ a ≤ IntKind.i64.max := by simpa [Lit.wf] using h
  have e0 : IntKind.i64.min = -9223372036854775808 := rfl
  have e1 : IntKind.i64.max = 9223372036854775807 := rfl
  omega
set_option maxRecDepth 100000 in
theorem lits_int {k : Nat} {v : Value} {ls : List Lit} (h : Try.prog.keyLits (k + 1) 3 [v] = some ls) : ∃ a, v = .int .i64 a ∧ (Lit.int .i64 a).wf = true ∧ ls = [.int .i64 a] := by
  unfold Program.keyLits at h
  rw [Try.underlying3] at h
  cases v
  case int q a =>
    simp only at h
    split at h
    · rename_i hq
      obtain ⟨rfl, hw⟩ := hq
      exact ⟨a, rfl, hw, (Option.some.inj h).symm⟩
    · cases h
  all_goals cases h
set_option maxRecDepth 100000 in
/-- what reads as a key is a cell -/
theorem ky_inv {v : Value} {l : Lit} (h : keyOf Try.prog 31 v = some l) : ∃ c, v = .agg #[.int .i64 c.1, .int .i64 c.2] ∧ I6 c ∧ l = ky c := by
  obtain ⟨m, hm⟩ := sizeC
  have e1 : Try.prog.cellsOf 3 = 1 := by kernel_rfl
  have h0 := h
  unfold keyOf at h
  simp only [Try.underlying31] at h
  split at h
  · rename_i hc
    rw [Bool.and_eq_true] at hc
    have hf := hc.2
    cases v
    case agg cs =>
      simp only [Value.formed, Try.underlying31, cellsC, beq_iff_eq] at hf
      obtain ⟨c0, c1, rfl⟩ : ∃ c0 c1, cs = #[c0, c1] := by
        obtain ⟨l⟩ := cs
        match l, hf with
        | [a, b], _ => exact ⟨a, b, rfl⟩
      rw [hm] at h
      unfold Program.keyLits at h
      simp only [Try.underlying31, Value.cells] at h
      rw [if_pos (by rw [cellsC]; exact ⟨rfl, by decide +kernel⟩)] at h
      simp [e1] at h
      cases hA : Try.prog.keyLits (m + 1) 3 [c0] with
      | none => rw [hA] at h; simp at h
      | some la =>
        cases hB : Try.prog.keyLits (m + 1) 3 [c1] with
        | none => rw [hA, hB] at h; simp at h
        | some lb =>
          obtain ⟨a, rfl, wa, rfl⟩ := lits_int hA
          obtain ⟨b, rfl, wb, rfl⟩ := lits_int hB
          have hI : I6 (a, b) := ⟨wf_to wa, wf_to wb⟩
          refine ⟨(a, b), rfl, hI, ?_⟩
          have := ky_of hI
          rw [h0] at this
          exact Option.some.inj this
    all_goals simp [Value.formed, Try.underlying31] at hf
  · cases h
end Go.Proofs.Yticnhpddidaaeaa

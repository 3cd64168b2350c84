/-
  WHAT A RULE THAT CAME IN GIVES A WALK. Condition: that it could be read.
-/

import Derived.Test.YticnhpddidaaeaaRa
import Derived.OpenShut
import Derived.ChangeShapes
import Derived.ChangeArms
import Derived.Lib.SmallJoins
namespace Go.Proofs.Yticnhpddidaaeaa
open Go.RowKit Go.ChangeShapes Go.WideShapes

theorem wf_u16 {x : Int} (h : (Lit.int .u16 x).wf = true) : 0 ≤ x ∧ x < 65536 := by
  have h1 : IntKind.u16.min ≤ x ∧ x ≤ IntKind.u16.max := by simpa [Lit.wf] using h
  have e0 : IntKind.u16.min = 0 := rfl
  have e1 : IntKind.u16.max = 65535 := rfl
  omega
section
variable {H : Type} {enc : TypeId × Value → H} {w : World} {base : Nat} {spare : Nat → Bool} {held : Bool}
set_option maxRecDepth 100000 in
theorem rule_open {b0 : Nat} {v : Value} {d : DataW H} {p : List MemPlace} (hv : Value.okWide Try.prog w .any b0 24 v) (h : DataW.Trod enc Try.prog w base spare held 24 v d p) :
    ∃ b l : Nat, v = .agg #[.int .u16 b, .int .u16 l] ∧ (b < 65536 ∧ l < 65536) := by
  obtain ⟨c0, c1, y0, y1, m, rfl, _, _, hy0, hy1⟩ := Joins.open_agg2 Try.underlying24 (by kernel_rfl) (by kernel_rfl) hv h
  obtain ⟨x, e0, _, wa⟩ := DataW.trod_int Try.underlying22 hy0
  obtain ⟨y, e1, _, wb⟩ := DataW.trod_int Try.underlying22 hy1
  simp at e0 e1
  subst e0 e1
  have h1 := wf_u16 wa
  have h2 := wf_u16 wb
  obtain ⟨b, rfl⟩ := Int.eq_ofNat_of_zero_le h1.1
  obtain ⟨l, rfl⟩ := Int.eq_ofNat_of_zero_le h2.1
  exact ⟨b, l, rfl, by omega, by omega⟩
end
end Go.Proofs.Yticnhpddidaaeaa

/-
  No cell of these rows narrows 'for every input' (looked for: loops, veiled, ifaces, maps, wideKeys, modest, calm, conditions, laid).
  DERIVED. THE GIVEN ROWS OF THIS SEAT. 3 by the template 'for every input the law returns true; each argument reads behind the call as it read before'; 0 by the template 'total and deterministic' (their statements: YtgdcedlmndkfiaaTotals.lean).
  GIVEN WITH THE SEED: the statements are not yours to turn. If you find one false, say at which input.
  Laid BY PROGRAM, IN A SANDBOX (cutbox-rows.mjs): the forced cells as the released guide's own fill.sh prints them over the translation 2c6173cb2e577b1f… (all of the seat's roots in one cut). By AI agents, Wed Nov 11 2026. No macro, syntax, notation, axiom, sorry.
-/
import Derived.Test.YtgdcedlmndkfiaaChecked
import GoSem.Claim
import GoSem.ClaimJoined
import GoSem.ClaimMapViews
import Derived.JoinedTies
import Derived.KernelRfl
namespace Go.Proofs.Ytgdcedlmndkfiaa
/- THE CELL 'sum', in the pinned program and in every row, IS THE sha256 OF THE DUMP (.gsa) THAT YtgdcedlmndkfiaaProg.lean LOADS. Nothing in Lean hashes anything: it is a label: what it is worth is what the hold of that sum in a sandbox is worth. -/
noncomputable def Try.pinned : Pinned := { name := "ytgdcedlmndkfiaa", sum := "2c6173cb2e577b1f2ebc795b45eb22ba29681d2124c94d40ea7b2e683f35d083", checked := Try.checked }
namespace Rows
def none {H : Type} : Left H := { results := [], args := [] }

/-- 'quiltlaw11.QuadOnce': WHATEVER THE INPUT: true; the input reads as it did. -/
def quadOnceSpec : ChangeSpec := { name := "quadOnce", fn := fun _ => fun
  | [d1, d2] => { results := [.lit (.bool true)], args := [d1, d2] }
  | _ => none }
def quadOnceRow : OpenClaim := { program := "ytgdcedlmndkfiaa", sum := "2c6173cb2e577b1f2ebc795b45eb22ba29681d2124c94d40ea7b2e683f35d083", func := "quilt/quiltlaw11.QuadOnce", spec := "quadOnce", recurses := true, plainKeys := false, apart := false }
def QuadOnceSaid : Prop := quadOnceRow.holds Try.pinned (OpenSpec.ofChange quadOnceSpec)

/-- ITS FALSE NEIGHBOUR: 'it returns false'. Refute it at one input. -/
def quadOnceWrong : ChangeSpec := { name := "quadOnce", fn := fun _ => fun
  | [d1, d2] => { results := [.lit (.bool false)], args := [d1, d2] }
  | _ => none }
def QuadOnceWrongFalsely : Prop := quadOnceRow.holds Try.pinned (OpenSpec.ofChange quadOnceWrong)

/-- 'quiltlaw11.QuadCounts': WHATEVER THE INPUT: true; the input reads as it did. -/
def quadCountsSpec : ChangeSpec := { name := "quadCounts", fn := fun _ => fun
  | [d1, d2] => { results := [.lit (.bool true)], args := [d1, d2] }
  | _ => none }
def quadCountsRow : OpenClaim := { program := "ytgdcedlmndkfiaa", sum := "2c6173cb2e577b1f2ebc795b45eb22ba29681d2124c94d40ea7b2e683f35d083", func := "quilt/quiltlaw11.QuadCounts", spec := "quadCounts", plainKeys := false, apart := false }
def QuadCountsSaid : Prop := quadCountsRow.holds Try.pinned (OpenSpec.ofChange quadCountsSpec)

/-- ITS FALSE NEIGHBOUR: 'it returns false'. Refute it at one input. -/
def quadCountsWrong : ChangeSpec := { name := "quadCounts", fn := fun _ => fun
  | [d1, d2] => { results := [.lit (.bool false)], args := [d1, d2] }
  | _ => none }
def QuadCountsWrongFalsely : Prop := quadCountsRow.holds Try.pinned (OpenSpec.ofChange quadCountsWrong)

/-- 'quiltlaw11.QuadCells': WHATEVER THE INPUT: true; the input reads as it did. -/
def quadCellsSpec : ChangeSpec := { name := "quadCells", fn := fun _ => fun
  | [d1, d2, d3] => { results := [.lit (.bool true)], args := [d1, d2, d3] }
  | _ => none }
def quadCellsRow : OpenClaim := { program := "ytgdcedlmndkfiaa", sum := "2c6173cb2e577b1f2ebc795b45eb22ba29681d2124c94d40ea7b2e683f35d083", func := "quilt/quiltlaw11.QuadCells", spec := "quadCells", recurses := true, plainKeys := false, apart := false }
def QuadCellsSaid : Prop := quadCellsRow.holds Try.pinned (OpenSpec.ofChange quadCellsSpec)

/-- ITS FALSE NEIGHBOUR: 'it returns false'. Refute it at one input. -/
def quadCellsWrong : ChangeSpec := { name := "quadCells", fn := fun _ => fun
  | [d1, d2, d3] => { results := [.lit (.bool false)], args := [d1, d2, d3] }
  | _ => none }
def QuadCellsWrongFalsely : Prop := quadCellsRow.holds Try.pinned (OpenSpec.ofChange quadCellsWrong)

/- THE SECOND FORM. 'bulk': how many values and letters a reading holds, each counted each time it is reached (what is shared counts as often as it is met; a slice's spare places count too). A statement '..UptoSaid' is the law's where the arguments, and the package variables that the reading takes, are together of bulk at most 1048576: NARROWER than '..Said'. Prove '..Said' where nothing that the law and all that it calls make is longer than what came in: it says more and counts as full. Else prove '..UptoSaid'. A law counts once. -/
mutual
def uptoBulk {H : Type} : DataW H → Nat
  | .lit (.string bytes) => bytes.length + 1
  | .lit _ => 1
  | .nil => 1
  | .ptr d => uptoBulk d + 1
  | .slice elems spare => uptoBulkAll elems + uptoBulkAll spare + 1
  | .agg parts => uptoBulkAll parts + 1
  | .iface _ d => uptoBulk d + 1
  | .map entries => uptoBulkEntries entries + 1
  | .held _ => 1
def uptoBulkAll {H : Type} : List (DataW H) → Nat
  | [] => 0
  | d :: r => uptoBulk d + uptoBulkAll r
def uptoBulkEntries {H : Type} : List (Lit × DataW H) → Nat
  | [] => 0
  | x :: r => uptoBulkEntry x + uptoBulkEntries r
def uptoBulkEntry {H : Type} : Lit × DataW H → Nat
  | (.string bytes, d) => bytes.length + uptoBulk d + 1
  | (_, d) => uptoBulk d + 1
 end
def uptoSmall : (H : Type) → List (DataW H) → Bool := fun _ ds => decide (uptoBulkAll ds ≤ 1048576)
def OpenSpec.upto (s : _root_.Go.ChangeSpec) : _root_.Go.OpenSpec := { _root_.Go.OpenSpec.ofChange s with cond := some uptoSmall }

/-- 'quiltlaw11.QuadOnce', WHERE WHAT IT READS IS OF BULK AT MOST 1048576: true; the input reads as it did. -/
def quadOnceUptoRow : OpenClaim := { program := "ytgdcedlmndkfiaa", sum := "2c6173cb2e577b1f2ebc795b45eb22ba29681d2124c94d40ea7b2e683f35d083", func := "quilt/quiltlaw11.QuadOnce", spec := "quadOnce", recurses := true, plainKeys := false, apart := false, narrowed := true }
def QuadOnceUptoSaid : Prop := quadOnceUptoRow.holds Try.pinned (OpenSpec.upto quadOnceSpec)

/-- 'quiltlaw11.QuadCounts', WHERE WHAT IT READS IS OF BULK AT MOST 1048576: true; the input reads as it did. -/
def quadCountsUptoRow : OpenClaim := { program := "ytgdcedlmndkfiaa", sum := "2c6173cb2e577b1f2ebc795b45eb22ba29681d2124c94d40ea7b2e683f35d083", func := "quilt/quiltlaw11.QuadCounts", spec := "quadCounts", plainKeys := false, apart := false, narrowed := true }
def QuadCountsUptoSaid : Prop := quadCountsUptoRow.holds Try.pinned (OpenSpec.upto quadCountsSpec)

/-- 'quiltlaw11.QuadCells', WHERE WHAT IT READS IS OF BULK AT MOST 1048576: true; the input reads as it did. -/
def quadCellsUptoRow : OpenClaim := { program := "ytgdcedlmndkfiaa", sum := "2c6173cb2e577b1f2ebc795b45eb22ba29681d2124c94d40ea7b2e683f35d083", func := "quilt/quiltlaw11.QuadCells", spec := "quadCells", recurses := true, plainKeys := false, apart := false, narrowed := true }
def QuadCellsUptoSaid : Prop := quadCellsUptoRow.holds Try.pinned (OpenSpec.upto quadCellsSpec)

end Rows
end Go.Proofs.Ytgdcedlmndkfiaa

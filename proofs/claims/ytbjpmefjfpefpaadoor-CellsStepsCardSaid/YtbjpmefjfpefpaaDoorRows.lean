/-
  NARROWER THAN 'FOR EVERY INPUT', by the rows' own cells (each row's printed sentence says how): CellsSorts: laid · CellsSteps: laid · CellsLong: laid.
  DERIVED. THE GIVEN ROWS OF THIS SEAT. 3 by the template 'for every input the law returns true; each argument reads behind the call as it read before'; 0 by the template 'total and deterministic' (their statements: YtbjpmefjfpefpaaDoorTotals.lean).
  GIVEN WITH THE SEED: the statements are not yours to turn. If you find one false, say at which input.
  Laid BY PROGRAM, IN A SANDBOX (cutbox-rows.mjs): the forced cells as the released guide's own fill.sh prints them over the translation 88658b675322ef6a… (all of the seat's roots in one cut). By AI agents, Wed Nov 11 2026. No macro, syntax, notation, axiom, sorry.
-/
import Derived.Test.YtbjpmefjfpefpaaDoorChecked
import GoSem.Claim
import GoSem.ClaimJoined
import GoSem.ClaimMapViews
import Derived.JoinedTies
import Derived.KernelRfl
namespace Go.Proofs.YtbjpmefjfpefpaaDoor
/- THE CELL 'sum', in the pinned program and in every row, IS THE sha256 OF THE DUMP (.gsa) THAT YtbjpmefjfpefpaaDoorProg.lean LOADS. Nothing in Lean hashes anything: it is a label: what it is worth is what the hold of that sum in a sandbox is worth. -/
noncomputable def Tryd.pinned : Pinned := { name := "ytbjpmefjfpefpaadoor", sum := "88658b675322ef6a75118d73a643234ef4204e350b8d75ed7080480f9d2f91fa", checked := Tryd.checked }
namespace Rows
def none {H : Type} : Left H := { results := [], args := [] }

/- WHAT THE LISTED PACKAGE-LEVEL VARIABLES READ AS WHEN THE CALL BEGINS. Each datum BY PROGRAM (the guide's laid-datum.mjs) off the statement by which the dump's own 'gosem.cut.vars' lays the variable. In a bare row this is a premise. The card (YtbjpmefjfpefpaaDoorCards.lean) ties it to the program's text. -/
def laid_errors_errorType {H : Type} : DataW H := .iface "internal/reflectlite.rtype" (.agg [.ptr (.lit (.string [101, 114, 114, 111, 114]))])

/-- 'quiltlaw10.CellsSorts': WHATEVER THE INPUT: true; the input reads as it did. -/
def cellsSortsSpec : ChangeSpec := { name := "cellsSorts", fn := fun _ => fun
  | [d1, d2, d3] => { results := [.lit (.bool true)], args := [d1, d2, d3] }
  | _ => none }
def cellsSortsRow : OpenClaim := { program := "ytbjpmefjfpefpaadoor", sum := "88658b675322ef6a75118d73a643234ef4204e350b8d75ed7080480f9d2f91fa", func := "quilt/quiltlaw10.CellsSorts", spec := "cellsSorts", inPlace := ["internal/reflectlite.ValueOf", "(internal/reflectlite.Value).Type", "(internal/reflectlite.Value).IsNil", "internal/reflectlite.TypeOf", "(internal/reflectlite.Value).Elem", "(internal/reflectlite.Value).Set"], unfollowed := true, recurses := true, named := ["errors.errorType"], plainKeys := false, apart := false, laid := [("errors.errorType", laid_errors_errorType)] }
def CellsSortsSaid : Prop := cellsSortsRow.holds Tryd.pinned (OpenSpec.ofChange cellsSortsSpec)

/-- ITS FALSE NEIGHBOUR: 'it returns false'. Refute it at one input. -/
def cellsSortsWrong : ChangeSpec := { name := "cellsSorts", fn := fun _ => fun
  | [d1, d2, d3] => { results := [.lit (.bool false)], args := [d1, d2, d3] }
  | _ => none }
def CellsSortsWrongFalsely : Prop := cellsSortsRow.holds Tryd.pinned (OpenSpec.ofChange cellsSortsWrong)

/-- 'quiltlaw10.CellsSteps': WHATEVER THE INPUT: true; the input reads as it did. -/
def cellsStepsSpec : ChangeSpec := { name := "cellsSteps", fn := fun _ => fun
  | [d1, d2, d3] => { results := [.lit (.bool true)], args := [d1, d2, d3] }
  | _ => none }
def cellsStepsRow : OpenClaim := { program := "ytbjpmefjfpefpaadoor", sum := "88658b675322ef6a75118d73a643234ef4204e350b8d75ed7080480f9d2f91fa", func := "quilt/quiltlaw10.CellsSteps", spec := "cellsSteps", inPlace := ["internal/reflectlite.ValueOf", "(internal/reflectlite.Value).Type", "(internal/reflectlite.Value).IsNil", "internal/reflectlite.TypeOf", "(internal/reflectlite.Value).Elem", "(internal/reflectlite.Value).Set"], unfollowed := true, recurses := true, named := ["errors.errorType"], plainKeys := false, apart := false, laid := [("errors.errorType", laid_errors_errorType)] }
def CellsStepsSaid : Prop := cellsStepsRow.holds Tryd.pinned (OpenSpec.ofChange cellsStepsSpec)

/-- ITS FALSE NEIGHBOUR: 'it returns false'. Refute it at one input. -/
def cellsStepsWrong : ChangeSpec := { name := "cellsSteps", fn := fun _ => fun
  | [d1, d2, d3] => { results := [.lit (.bool false)], args := [d1, d2, d3] }
  | _ => none }
def CellsStepsWrongFalsely : Prop := cellsStepsRow.holds Tryd.pinned (OpenSpec.ofChange cellsStepsWrong)

/-- 'quiltlaw10.CellsLong': WHATEVER THE INPUT: true; the input reads as it did. -/
def cellsLongSpec : ChangeSpec := { name := "cellsLong", fn := fun _ => fun
  | [d] => { results := [.lit (.bool true)], args := [d] }
  | _ => none }
def cellsLongRow : OpenClaim := { program := "ytbjpmefjfpefpaadoor", sum := "88658b675322ef6a75118d73a643234ef4204e350b8d75ed7080480f9d2f91fa", func := "quilt/quiltlaw10.CellsLong", spec := "cellsLong", inPlace := ["internal/reflectlite.ValueOf", "(internal/reflectlite.Value).Type", "(internal/reflectlite.Value).IsNil", "internal/reflectlite.TypeOf", "(internal/reflectlite.Value).Elem", "(internal/reflectlite.Value).Set"], unfollowed := true, recurses := true, named := ["errors.errorType"], plainKeys := false, apart := false, laid := [("errors.errorType", laid_errors_errorType)] }
def CellsLongSaid : Prop := cellsLongRow.holds Tryd.pinned (OpenSpec.ofChange cellsLongSpec)

/-- ITS FALSE NEIGHBOUR: 'it returns false'. Refute it at one input. -/
def cellsLongWrong : ChangeSpec := { name := "cellsLong", fn := fun _ => fun
  | [d] => { results := [.lit (.bool false)], args := [d] }
  | _ => none }
def CellsLongWrongFalsely : Prop := cellsLongRow.holds Tryd.pinned (OpenSpec.ofChange cellsLongWrong)

/- THE SECOND FORM. 'bulk': how many values and letters a reading holds, each counted each time it is reached (what is shared counts as often as it is met; a slice's spare places count too). A statement '..UptoSaid' is the law's where the arguments, and the package variables that the reading takes, are together of bulk at most 1048576: NARROWER than '..Said'. Prove '..Said' where nothing that the law and all that it calls make is longer than what came in: it says more and counts as full. Else prove '..UptoSaid'. A law counts once. -/
mutual
def uptoBulk {H : Type} : DataW H → Nat
  | .lit (.string bytes) => bytes.length + 1
  | .lit _ => 1
  | .nil => 1
  | .ptr d => uptoBulk d + 1
  | .slice elems spare => uptoBulkAll elems + uptoBulkAll spare + 1
  | .agg parts => uptoBulkAll parts + 1
  | .iface _ d => uptoBulk d + 1
  | .map entries => uptoBulkEntries entries + 1
  | .held _ => 1
def uptoBulkAll {H : Type} : List (DataW H) → Nat
  | [] => 0
  | d :: r => uptoBulk d + uptoBulkAll r
def uptoBulkEntries {H : Type} : List (Lit × DataW H) → Nat
  | [] => 0
  | x :: r => uptoBulkEntry x + uptoBulkEntries r
def uptoBulkEntry {H : Type} : Lit × DataW H → Nat
  | (.string bytes, d) => bytes.length + uptoBulk d + 1
  | (_, d) => uptoBulk d + 1
 end
def uptoSmall : (H : Type) → List (DataW H) → Bool := fun _ ds => decide (uptoBulkAll ds ≤ 1048576)
def OpenSpec.upto (s : _root_.Go.ChangeSpec) : _root_.Go.OpenSpec := { _root_.Go.OpenSpec.ofChange s with cond := some uptoSmall }

/-- 'quiltlaw10.CellsSorts', WHERE WHAT IT READS IS OF BULK AT MOST 1048576: true; the input reads as it did. -/
def cellsSortsUptoRow : OpenClaim := { program := "ytbjpmefjfpefpaadoor", sum := "88658b675322ef6a75118d73a643234ef4204e350b8d75ed7080480f9d2f91fa", func := "quilt/quiltlaw10.CellsSorts", spec := "cellsSorts", inPlace := ["internal/reflectlite.ValueOf", "(internal/reflectlite.Value).Type", "(internal/reflectlite.Value).IsNil", "internal/reflectlite.TypeOf", "(internal/reflectlite.Value).Elem", "(internal/reflectlite.Value).Set"], unfollowed := true, recurses := true, named := ["errors.errorType"], plainKeys := false, apart := false, laid := [("errors.errorType", laid_errors_errorType)], narrowed := true }
def CellsSortsUptoSaid : Prop := cellsSortsUptoRow.holds Tryd.pinned (OpenSpec.upto cellsSortsSpec)

/-- 'quiltlaw10.CellsSteps', WHERE WHAT IT READS IS OF BULK AT MOST 1048576: true; the input reads as it did. -/
def cellsStepsUptoRow : OpenClaim := { program := "ytbjpmefjfpefpaadoor", sum := "88658b675322ef6a75118d73a643234ef4204e350b8d75ed7080480f9d2f91fa", func := "quilt/quiltlaw10.CellsSteps", spec := "cellsSteps", inPlace := ["internal/reflectlite.ValueOf", "(internal/reflectlite.Value).Type", "(internal/reflectlite.Value).IsNil", "internal/reflectlite.TypeOf", "(internal/reflectlite.Value).Elem", "(internal/reflectlite.Value).Set"], unfollowed := true, recurses := true, named := ["errors.errorType"], plainKeys := false, apart := false, laid := [("errors.errorType", laid_errors_errorType)], narrowed := true }
def CellsStepsUptoSaid : Prop := cellsStepsUptoRow.holds Tryd.pinned (OpenSpec.upto cellsStepsSpec)

/-- 'quiltlaw10.CellsLong', WHERE WHAT IT READS IS OF BULK AT MOST 1048576: true; the input reads as it did. -/
def cellsLongUptoRow : OpenClaim := { program := "ytbjpmefjfpefpaadoor", sum := "88658b675322ef6a75118d73a643234ef4204e350b8d75ed7080480f9d2f91fa", func := "quilt/quiltlaw10.CellsLong", spec := "cellsLong", inPlace := ["internal/reflectlite.ValueOf", "(internal/reflectlite.Value).Type", "(internal/reflectlite.Value).IsNil", "internal/reflectlite.TypeOf", "(internal/reflectlite.Value).Elem", "(internal/reflectlite.Value).Set"], unfollowed := true, recurses := true, named := ["errors.errorType"], plainKeys := false, apart := false, laid := [("errors.errorType", laid_errors_errorType)], narrowed := true }
def CellsLongUptoSaid : Prop := cellsLongUptoRow.holds Tryd.pinned (OpenSpec.upto cellsLongSpec)

end Rows
end Go.Proofs.YtbjpmefjfpefpaaDoor

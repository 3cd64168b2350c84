/-
  NARROWER THAN 'FOR EVERY INPUT', by the rows' own cells (each row's printed sentence says how): TileCells: laid · TileGrows: laid · TileNexts: laid.
  DERIVED. THE GIVEN ROWS OF THIS SEAT. 3 by the template 'for every input the law returns true; each argument reads behind the call as it read before'; 0 by the template 'total and deterministic' (their statements: YthbokehoibadcaaDoorTotals.lean).
  GIVEN WITH THE SEED: the statements are not yours to turn. If you find one false, say at which input.
  Laid BY PROGRAM, IN A SANDBOX (cutbox-rows.mjs): the forced cells as the released guide's own fill.sh prints them over the translation fa5e3595bf0215aa… (all of the seat's roots in one cut). By AI agents, Wed Nov 11 2026. No macro, syntax, notation, axiom, sorry.
-/
import Derived.Test.YthbokehoibadcaaDoorChecked
import GoSem.Claim
import GoSem.ClaimJoined
import GoSem.ClaimMapViews
import Derived.JoinedTies
import Derived.KernelRfl
namespace Go.Proofs.YthbokehoibadcaaDoor
/- THE CELL 'sum', in the pinned program and in every row, IS THE sha256 OF THE DUMP (.gsa) THAT YthbokehoibadcaaDoorProg.lean LOADS. Nothing in Lean hashes anything: it is a label: what it is worth is what the hold of that sum in a sandbox is worth. -/
noncomputable def Tryd.pinned : Pinned := { name := "ythbokehoibadcaadoor", sum := "fa5e3595bf0215aa78727a4cca204567284924aec04e408bdd567c4275b38297", checked := Tryd.checked }
namespace Rows
def none {H : Type} : Left H := { results := [], args := [] }

/- WHAT THE LISTED PACKAGE-LEVEL VARIABLES READ AS WHEN THE CALL BEGINS. Each datum BY PROGRAM (the guide's laid-datum.mjs) off the statement by which the dump's own 'gosem.cut.vars' lays the variable. In a bare row this is a premise. The card (YthbokehoibadcaaDoorCards.lean) ties it to the program's text. -/
def laid_errors_errorType {H : Type} : DataW H := .iface "internal/reflectlite.rtype" (.agg [.ptr (.lit (.string [101, 114, 114, 111, 114]))])

/-- 'quiltlaw09.TileCells': WHATEVER THE INPUT: true; the input reads as it did. -/
def tileCellsSpec : ChangeSpec := { name := "tileCells", fn := fun _ => fun
  | [d1, d2, d3] => { results := [.lit (.bool true)], args := [d1, d2, d3] }
  | _ => none }
def tileCellsRow : OpenClaim := { program := "ythbokehoibadcaadoor", sum := "fa5e3595bf0215aa78727a4cca204567284924aec04e408bdd567c4275b38297", func := "quilt/quiltlaw09.TileCells", spec := "tileCells", inPlace := ["internal/reflectlite.ValueOf", "(internal/reflectlite.Value).Type", "(internal/reflectlite.Value).IsNil", "internal/reflectlite.TypeOf", "(internal/reflectlite.Value).Elem", "(internal/reflectlite.Value).Set"], unfollowed := true, recurses := true, named := ["errors.errorType"], apart := false, laid := [("errors.errorType", laid_errors_errorType)] }
def TileCellsSaid : Prop := tileCellsRow.holds Tryd.pinned (OpenSpec.ofChange tileCellsSpec)

/-- ITS FALSE NEIGHBOUR: 'it returns false'. Refute it at one input. -/
def tileCellsWrong : ChangeSpec := { name := "tileCells", fn := fun _ => fun
  | [d1, d2, d3] => { results := [.lit (.bool false)], args := [d1, d2, d3] }
  | _ => none }
def TileCellsWrongFalsely : Prop := tileCellsRow.holds Tryd.pinned (OpenSpec.ofChange tileCellsWrong)

/-- 'quiltlaw09.TileGrows': WHATEVER THE INPUT: true; the input reads as it did. -/
def tileGrowsSpec : ChangeSpec := { name := "tileGrows", fn := fun _ => fun
  | [d1, d2, d3] => { results := [.lit (.bool true)], args := [d1, d2, d3] }
  | _ => none }
def tileGrowsRow : OpenClaim := { program := "ythbokehoibadcaadoor", sum := "fa5e3595bf0215aa78727a4cca204567284924aec04e408bdd567c4275b38297", func := "quilt/quiltlaw09.TileGrows", spec := "tileGrows", inPlace := ["internal/reflectlite.ValueOf", "(internal/reflectlite.Value).Type", "(internal/reflectlite.Value).IsNil", "internal/reflectlite.TypeOf", "(internal/reflectlite.Value).Elem", "(internal/reflectlite.Value).Set"], unfollowed := true, recurses := true, named := ["errors.errorType"], apart := false, laid := [("errors.errorType", laid_errors_errorType)] }
def TileGrowsSaid : Prop := tileGrowsRow.holds Tryd.pinned (OpenSpec.ofChange tileGrowsSpec)

/-- ITS FALSE NEIGHBOUR: 'it returns false'. Refute it at one input. -/
def tileGrowsWrong : ChangeSpec := { name := "tileGrows", fn := fun _ => fun
  | [d1, d2, d3] => { results := [.lit (.bool false)], args := [d1, d2, d3] }
  | _ => none }
def TileGrowsWrongFalsely : Prop := tileGrowsRow.holds Tryd.pinned (OpenSpec.ofChange tileGrowsWrong)

/-- 'quiltlaw09.TileNexts': WHATEVER THE INPUT: true; the input reads as it did. -/
def tileNextsSpec : ChangeSpec := { name := "tileNexts", fn := fun _ => fun
  | [d1, d2] => { results := [.lit (.bool true)], args := [d1, d2] }
  | _ => none }
def tileNextsRow : OpenClaim := { program := "ythbokehoibadcaadoor", sum := "fa5e3595bf0215aa78727a4cca204567284924aec04e408bdd567c4275b38297", func := "quilt/quiltlaw09.TileNexts", spec := "tileNexts", inPlace := ["internal/reflectlite.ValueOf", "(internal/reflectlite.Value).Type", "(internal/reflectlite.Value).IsNil", "internal/reflectlite.TypeOf", "(internal/reflectlite.Value).Elem", "(internal/reflectlite.Value).Set"], unfollowed := true, recurses := true, named := ["errors.errorType"], apart := false, laid := [("errors.errorType", laid_errors_errorType)] }
def TileNextsSaid : Prop := tileNextsRow.holds Tryd.pinned (OpenSpec.ofChange tileNextsSpec)

/-- ITS FALSE NEIGHBOUR: 'it returns false'. Refute it at one input. -/
def tileNextsWrong : ChangeSpec := { name := "tileNexts", fn := fun _ => fun
  | [d1, d2] => { results := [.lit (.bool false)], args := [d1, d2] }
  | _ => none }
def TileNextsWrongFalsely : Prop := tileNextsRow.holds Tryd.pinned (OpenSpec.ofChange tileNextsWrong)

/- THE SECOND FORM. 'bulk': how many values and letters a reading holds, each counted each time it is reached (what is shared counts as often as it is met; a slice's spare places count too). A statement '..UptoSaid' is the law's where the arguments, and the package variables that the reading takes, are together of bulk at most 1048576: NARROWER than '..Said'. Prove '..Said' where nothing that the law and all that it calls make is longer than what came in: it says more and counts as full. Else prove '..UptoSaid'. A law counts once. -/
mutual
def uptoBulk {H : Type} : DataW H → Nat
  | .lit (.string bytes) => bytes.length + 1
  | .lit _ => 1
  | .nil => 1
  | .ptr d => uptoBulk d + 1
  | .slice elems spare => uptoBulkAll elems + uptoBulkAll spare + 1
  | .agg parts => uptoBulkAll parts + 1
  | .iface _ d => uptoBulk d + 1
  | .map entries => uptoBulkEntries entries + 1
  | .held _ => 1
def uptoBulkAll {H : Type} : List (DataW H) → Nat
  | [] => 0
  | d :: r => uptoBulk d + uptoBulkAll r
def uptoBulkEntries {H : Type} : List (Lit × DataW H) → Nat
  | [] => 0
  | x :: r => uptoBulkEntry x + uptoBulkEntries r
def uptoBulkEntry {H : Type} : Lit × DataW H → Nat
  | (.string bytes, d) => bytes.length + uptoBulk d + 1
  | (_, d) => uptoBulk d + 1
 end
def uptoSmall : (H : Type) → List (DataW H) → Bool := fun _ ds => decide (uptoBulkAll ds ≤ 1048576)
def OpenSpec.upto (s : _root_.Go.ChangeSpec) : _root_.Go.OpenSpec := { _root_.Go.OpenSpec.ofChange s with cond := some uptoSmall }

/-- 'quiltlaw09.TileCells', WHERE WHAT IT READS IS OF BULK AT MOST 1048576: true; the input reads as it did. -/
def tileCellsUptoRow : OpenClaim := { program := "ythbokehoibadcaadoor", sum := "fa5e3595bf0215aa78727a4cca204567284924aec04e408bdd567c4275b38297", func := "quilt/quiltlaw09.TileCells", spec := "tileCells", inPlace := ["internal/reflectlite.ValueOf", "(internal/reflectlite.Value).Type", "(internal/reflectlite.Value).IsNil", "internal/reflectlite.TypeOf", "(internal/reflectlite.Value).Elem", "(internal/reflectlite.Value).Set"], unfollowed := true, recurses := true, named := ["errors.errorType"], apart := false, laid := [("errors.errorType", laid_errors_errorType)], narrowed := true }
def TileCellsUptoSaid : Prop := tileCellsUptoRow.holds Tryd.pinned (OpenSpec.upto tileCellsSpec)

/-- 'quiltlaw09.TileGrows', WHERE WHAT IT READS IS OF BULK AT MOST 1048576: true; the input reads as it did. -/
def tileGrowsUptoRow : OpenClaim := { program := "ythbokehoibadcaadoor", sum := "fa5e3595bf0215aa78727a4cca204567284924aec04e408bdd567c4275b38297", func := "quilt/quiltlaw09.TileGrows", spec := "tileGrows", inPlace := ["internal/reflectlite.ValueOf", "(internal/reflectlite.Value).Type", "(internal/reflectlite.Value).IsNil", "internal/reflectlite.TypeOf", "(internal/reflectlite.Value).Elem", "(internal/reflectlite.Value).Set"], unfollowed := true, recurses := true, named := ["errors.errorType"], apart := false, laid := [("errors.errorType", laid_errors_errorType)], narrowed := true }
def TileGrowsUptoSaid : Prop := tileGrowsUptoRow.holds Tryd.pinned (OpenSpec.upto tileGrowsSpec)

/-- 'quiltlaw09.TileNexts', WHERE WHAT IT READS IS OF BULK AT MOST 1048576: true; the input reads as it did. -/
def tileNextsUptoRow : OpenClaim := { program := "ythbokehoibadcaadoor", sum := "fa5e3595bf0215aa78727a4cca204567284924aec04e408bdd567c4275b38297", func := "quilt/quiltlaw09.TileNexts", spec := "tileNexts", inPlace := ["internal/reflectlite.ValueOf", "(internal/reflectlite.Value).Type", "(internal/reflectlite.Value).IsNil", "internal/reflectlite.TypeOf", "(internal/reflectlite.Value).Elem", "(internal/reflectlite.Value).Set"], unfollowed := true, recurses := true, named := ["errors.errorType"], apart := false, laid := [("errors.errorType", laid_errors_errorType)], narrowed := true }
def TileNextsUptoSaid : Prop := tileNextsUptoRow.holds Tryd.pinned (OpenSpec.upto tileNextsSpec)

end Rows
end Go.Proofs.YthbokehoibadcaaDoor

/-
  DERIVED. GIVEN WITH THE SEED: THE CARDS: each row of YtbjpmefjfpefpaaDoorRows.lean that lists a variable, with what it lists TIED to the program's text (the seventh form; the later family's looks); each row that meets fmt, with fmt's text TOLD by the authors' own Lean function (tested against real Go, not proved from fmt's source: count such statements apart). THE CARD IS WHAT COUNTS. Prove the row's statement (the work); the ties are given (YtbjpmefjfpefpaaDoorTie.lean); close each card by the builder's one call (the guide's Derived/Test/ToyasCard.lean, 'card_holds'). Laid BY PROGRAM, IN A SANDBOX (cutbox-door.mjs). By AI agents, Wed Nov 11 2026. No macro, syntax, notation, axiom, sorry.
-/
import Derived.Test.YtbjpmefjfpefpaaDoorRows
import GoSem.ClaimSeven
namespace Go.Proofs.YtbjpmefjfpefpaaDoor
namespace Rows

/-- THE TIED CARD OF 'quiltlaw10.CellsSorts'. -/
def cellsSortsCard : Claim7 := { stood := { row := cellsSortsRow, standIns := [], harness := (true, "06889537e30a697be1bf58267d02f07c130b83835427afe8ff230a6c0ce60bbb"), looks := true }, kinds := [], alts := [], laidByText := true, laidKinds := [.handle], laidTests := true, laidLooks := .later }
def CellsSortsCardSaid : Prop := Claim7.holds Tryd.pinned (.plain (OpenSpec.ofChange cellsSortsSpec)) cellsSortsCard

/-- THE TIED CARD OF 'quiltlaw10.CellsSteps'. -/
def cellsStepsCard : Claim7 := { stood := { row := cellsStepsRow, standIns := [], harness := (true, "06889537e30a697be1bf58267d02f07c130b83835427afe8ff230a6c0ce60bbb"), looks := true }, kinds := [], alts := [], laidByText := true, laidKinds := [.handle], laidTests := true, laidLooks := .later }
def CellsStepsCardSaid : Prop := Claim7.holds Tryd.pinned (.plain (OpenSpec.ofChange cellsStepsSpec)) cellsStepsCard

/-- THE TIED CARD OF 'quiltlaw10.CellsLong'. -/
def cellsLongCard : Claim7 := { stood := { row := cellsLongRow, standIns := [], harness := (true, "06889537e30a697be1bf58267d02f07c130b83835427afe8ff230a6c0ce60bbb"), looks := true }, kinds := [], alts := [], laidByText := true, laidKinds := [.handle], laidTests := true, laidLooks := .later }
def CellsLongCardSaid : Prop := Claim7.holds Tryd.pinned (.plain (OpenSpec.ofChange cellsLongSpec)) cellsLongCard

/-- THE SECOND FORM's CARD OF 'quiltlaw10.CellsSorts'. -/
def cellsSortsUptoCard : Claim7 := { stood := { row := cellsSortsUptoRow, standIns := [], harness := (true, "06889537e30a697be1bf58267d02f07c130b83835427afe8ff230a6c0ce60bbb"), looks := true }, kinds := [], alts := [], laidByText := true, laidKinds := [.handle], laidTests := true, laidLooks := .later }
def CellsSortsUptoCardSaid : Prop := Claim7.holds Tryd.pinned (.plain (OpenSpec.upto cellsSortsSpec)) cellsSortsUptoCard

/-- THE SECOND FORM's CARD OF 'quiltlaw10.CellsSteps'. -/
def cellsStepsUptoCard : Claim7 := { stood := { row := cellsStepsUptoRow, standIns := [], harness := (true, "06889537e30a697be1bf58267d02f07c130b83835427afe8ff230a6c0ce60bbb"), looks := true }, kinds := [], alts := [], laidByText := true, laidKinds := [.handle], laidTests := true, laidLooks := .later }
def CellsStepsUptoCardSaid : Prop := Claim7.holds Tryd.pinned (.plain (OpenSpec.upto cellsStepsSpec)) cellsStepsUptoCard

/-- THE SECOND FORM's CARD OF 'quiltlaw10.CellsLong'. -/
def cellsLongUptoCard : Claim7 := { stood := { row := cellsLongUptoRow, standIns := [], harness := (true, "06889537e30a697be1bf58267d02f07c130b83835427afe8ff230a6c0ce60bbb"), looks := true }, kinds := [], alts := [], laidByText := true, laidKinds := [.handle], laidTests := true, laidLooks := .later }
def CellsLongUptoCardSaid : Prop := Claim7.holds Tryd.pinned (.plain (OpenSpec.upto cellsLongSpec)) cellsLongUptoCard
end Rows
end Go.Proofs.YtbjpmefjfpefpaaDoor

/-
  DERIVED. GIVEN WITH THE SEED: THE CARDS: each row of YtefdmocfoopghaaDoorRows.lean that lists a variable, with what it lists TIED to the program's text (the seventh form; the later family's looks); each row that meets fmt, with fmt's text TOLD by the authors' own Lean function (tested against real Go, not proved from fmt's source: count such statements apart). THE CARD IS WHAT COUNTS. Prove the row's statement (the work); the ties are given (YtefdmocfoopghaaDoorTie.lean); close each card by the builder's one call (the guide's Derived/Test/ToyasCard.lean, 'card_holds'). Laid BY PROGRAM, IN A SANDBOX (cutbox-door.mjs). By AI agents, Wed Nov 11 2026. No macro, syntax, notation, axiom, sorry.
-/
import Derived.Test.YtefdmocfoopghaaDoorRows
import GoSem.ClaimSeven
namespace Go.Proofs.YtefdmocfoopghaaDoor
namespace Rows

/-- THE TIED CARD OF 'quiltlaw01.SumMarks'. -/
def sumMarksCard : Claim7 := { stood := { row := sumMarksRow, standIns := [], harness := (true, "d010245353216c2c1b817e85b6e9b529fdb715bd2e54354778e1c11d4d46927f"), looks := true }, kinds := [], alts := [], laidByText := true, laidKinds := [.handle], laidTests := true, laidLooks := .later }
def SumMarksCardSaid : Prop := Claim7.holds Tryd.pinned (.plain (OpenSpec.ofChange sumMarksSpec)) sumMarksCard

/-- THE SECOND FORM's CARD OF 'quiltlaw01.SumMarks'. -/
def sumMarksUptoCard : Claim7 := { stood := { row := sumMarksUptoRow, standIns := [], harness := (true, "d010245353216c2c1b817e85b6e9b529fdb715bd2e54354778e1c11d4d46927f"), looks := true }, kinds := [], alts := [], laidByText := true, laidKinds := [.handle], laidTests := true, laidLooks := .later }
def SumMarksUptoCardSaid : Prop := Claim7.holds Tryd.pinned (.plain (OpenSpec.upto sumMarksSpec)) sumMarksUptoCard
end Rows
end Go.Proofs.YtefdmocfoopghaaDoor

/-
  DERIVED. GIVEN WITH THE SEED: THE CARDS: each row of YtlejohclijjhnaaGreatDoorRows.lean that lists a variable, with what it lists TIED to the program's text (the seventh form; the later family's looks); each row that meets fmt, with fmt's text TOLD by the authors' own Lean function (tested against real Go, not proved from fmt's source: count such statements apart). THE CARD IS WHAT COUNTS. Prove the row's statement (the work); the ties are given (YtlejohclijjhnaaGreatDoorTie.lean); close each card by the builder's one call (the guide's Derived/Test/ToyasCard.lean, 'card_holds'). Laid BY PROGRAM, IN A SANDBOX (cutbox-door.mjs). By AI agents, Wed Nov 11 2026. No macro, syntax, notation, axiom, sorry.
-/
import Derived.Test.YtlejohclijjhnaaGreatDoorRows
import GoSem.ClaimSeven
namespace Go.Proofs.YtlejohclijjhnaaGreatDoor
namespace Rows

/-- THE TIED CARD OF 'quiltlaw13.FramesLoads'. -/
def framesLoadsCard : Claim7 := { stood := { row := framesLoadsRow, standIns := [], harness := (true, "06cc167caa46d45c23dc200995670f33117112d1a1777db36eee17102a89cf65"), looks := true }, kinds := [], alts := [], laidByText := true, laidKinds := [.handle], laidTests := true, laidLooks := .later }
def FramesLoadsCardSaid : Prop := Claim7.holds Tryz.pinned (.plain (OpenSpec.ofChange framesLoadsSpec)) framesLoadsCard

/-- THE SECOND FORM's CARD OF 'quiltlaw13.FramesLoads'. -/
def framesLoadsUptoCard : Claim7 := { stood := { row := framesLoadsUptoRow, standIns := [], harness := (true, "06cc167caa46d45c23dc200995670f33117112d1a1777db36eee17102a89cf65"), looks := true }, kinds := [], alts := [], laidByText := true, laidKinds := [.handle], laidTests := true, laidLooks := .later }
def FramesLoadsUptoCardSaid : Prop := Claim7.holds Tryz.pinned (.plain (OpenSpec.upto framesLoadsSpec)) framesLoadsUptoCard
end Rows
end Go.Proofs.YtlejohclijjhnaaGreatDoor

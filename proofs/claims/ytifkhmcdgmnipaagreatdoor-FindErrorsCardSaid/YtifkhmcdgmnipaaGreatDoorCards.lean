/-
  DERIVED. GIVEN WITH THE SEED: THE CARDS: each row of YtifkhmcdgmnipaaGreatDoorRows.lean that lists a variable, with what it lists TIED to the program's text (the seventh form; the later family's looks); each row that meets fmt, with fmt's text TOLD by the authors' own Lean function (tested against real Go, not proved from fmt's source: count such statements apart). THE CARD IS WHAT COUNTS. Prove the row's statement (the work); the ties are given (YtifkhmcdgmnipaaGreatDoorTie.lean); close each card by the builder's one call (the guide's Derived/Test/ToyasCard.lean, 'card_holds'). Laid BY PROGRAM, IN A SANDBOX (cutbox-door.mjs). By AI agents, Wed Nov 11 2026. No macro, syntax, notation, axiom, sorry.
-/
import Derived.Test.YtifkhmcdgmnipaaGreatDoorRows
import GoSem.ClaimSeven
namespace Go.Proofs.YtifkhmcdgmnipaaGreatDoor
namespace Rows

/-- THE TIED CARD OF 'quiltlaw14.FindErrors'. -/
def findErrorsCard : Claim7 := { stood := { row := findErrorsRow, standIns := [], harness := (true, "03690c8a8837207047fc402a4dbcf9c6f985c9e195b44541268f5068fef52709"), looks := true }, kinds := [], alts := [], laidByText := true, laidKinds := [.data, .handle, .data], laidTests := true, laidLooks := .later }
def FindErrorsCardSaid : Prop := Claim7.holds Tryz.pinned (.plain (OpenSpec.ofChange findErrorsSpec)) findErrorsCard

/-- THE TIED CARD OF 'quiltlaw14.FindOne'. -/
def findOneCard : Claim7 := { stood := { row := findOneRow, standIns := [], harness := (true, "03690c8a8837207047fc402a4dbcf9c6f985c9e195b44541268f5068fef52709"), looks := true }, kinds := [], alts := [], laidByText := true, laidKinds := [.data, .handle, .data], laidTests := true, laidLooks := .later }
def FindOneCardSaid : Prop := Claim7.holds Tryz.pinned (.plain (OpenSpec.ofChange findOneSpec)) findOneCard

/-- THE SECOND FORM's CARD OF 'quiltlaw14.FindErrors'. -/
def findErrorsUptoCard : Claim7 := { stood := { row := findErrorsUptoRow, standIns := [], harness := (true, "03690c8a8837207047fc402a4dbcf9c6f985c9e195b44541268f5068fef52709"), looks := true }, kinds := [], alts := [], laidByText := true, laidKinds := [.data, .handle, .data], laidTests := true, laidLooks := .later }
def FindErrorsUptoCardSaid : Prop := Claim7.holds Tryz.pinned (.plain (OpenSpec.upto findErrorsSpec)) findErrorsUptoCard

/-- THE SECOND FORM's CARD OF 'quiltlaw14.FindOne'. -/
def findOneUptoCard : Claim7 := { stood := { row := findOneUptoRow, standIns := [], harness := (true, "03690c8a8837207047fc402a4dbcf9c6f985c9e195b44541268f5068fef52709"), looks := true }, kinds := [], alts := [], laidByText := true, laidKinds := [.data, .handle, .data], laidTests := true, laidLooks := .later }
def FindOneUptoCardSaid : Prop := Claim7.holds Tryz.pinned (.plain (OpenSpec.upto findOneSpec)) findOneUptoCard
end Rows
end Go.Proofs.YtifkhmcdgmnipaaGreatDoor

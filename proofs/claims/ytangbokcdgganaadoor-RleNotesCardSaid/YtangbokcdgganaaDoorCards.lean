/-
  DERIVED. GIVEN WITH THE SEED: THE CARDS: each row of YtangbokcdgganaaDoorRows.lean that lists a variable, with what it lists TIED to the program's text (the seventh form; the later family's looks); each row that meets fmt, with fmt's text TOLD by the authors' own Lean function (tested against real Go, not proved from fmt's source: count such statements apart). THE CARD IS WHAT COUNTS. Prove the row's statement (the work); the ties are given (YtangbokcdgganaaDoorTie.lean); close each card by the builder's one call (the guide's Derived/Test/ToyasCard.lean, 'card_holds'). Laid BY PROGRAM, IN A SANDBOX (cutbox-door.mjs). By AI agents, Wed Nov 11 2026. No macro, syntax, notation, axiom, sorry.
-/
import Derived.Test.YtangbokcdgganaaDoorRows
import GoSem.ClaimSeven
namespace Go.Proofs.YtangbokcdgganaaDoor
namespace Rows

/-- THE TIED CARD OF 'quiltlaw15.RleNotes'. -/
def rleNotesCard : Claim7 := { stood := { row := rleNotesRow, standIns := [], harness := (true, "4ff754e7b4e63602aecb31e057caa5d2243c8d2a14a88398d41deb78e02ab951"), looks := true }, kinds := [], alts := [], laidByText := true, laidKinds := [.data, .handle, .pinned], laidTests := true, laidLooks := .later }
def RleNotesCardSaid : Prop := Claim7.holds Tryd.pinned (.plain (OpenSpec.ofChange rleNotesSpec)) rleNotesCard

/-- THE SECOND FORM's CARD OF 'quiltlaw15.RleNotes'. -/
def rleNotesUptoCard : Claim7 := { stood := { row := rleNotesUptoRow, standIns := [], harness := (true, "4ff754e7b4e63602aecb31e057caa5d2243c8d2a14a88398d41deb78e02ab951"), looks := true }, kinds := [], alts := [], laidByText := true, laidKinds := [.data, .handle, .pinned], laidTests := true, laidLooks := .later }
def RleNotesUptoCardSaid : Prop := Claim7.holds Tryd.pinned (.plain (OpenSpec.upto rleNotesSpec)) rleNotesUptoCard
end Rows
end Go.Proofs.YtangbokcdgganaaDoor

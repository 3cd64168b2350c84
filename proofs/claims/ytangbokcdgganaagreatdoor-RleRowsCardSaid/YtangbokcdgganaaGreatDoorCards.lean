/-
  DERIVED. GIVEN WITH THE SEED: THE CARDS: each row of YtangbokcdgganaaGreatDoorRows.lean that lists a variable, with what it lists TIED to the program's text (the seventh form; the later family's looks); each row that meets fmt, with fmt's text TOLD by the authors' own Lean function (tested against real Go, not proved from fmt's source: count such statements apart). THE CARD IS WHAT COUNTS. Prove the row's statement (the work); the ties are given (YtangbokcdgganaaGreatDoorTie.lean); close each card by the builder's one call (the guide's Derived/Test/ToyasCard.lean, 'card_holds'). Laid BY PROGRAM, IN A SANDBOX (cutbox-door.mjs). By AI agents, Wed Nov 11 2026. No macro, syntax, notation, axiom, sorry.
-/
import Derived.Test.YtangbokcdgganaaGreatDoorRows
import GoSem.ClaimSeven
namespace Go.Proofs.YtangbokcdgganaaGreatDoor
namespace Rows

/-- THE TIED CARD OF 'quiltlaw15.RleRows'. -/
def rleRowsCard : Claim7 := { stood := { row := rleRowsRow, standIns := [], harness := (true, "3a382d3d1bfe0afd01f22b380b1329931f2a9daf9f082b1d3af3013d13b1e0ea"), looks := true }, kinds := [], alts := [], laidByText := true, laidKinds := [.data, .data, .data, .data, .pinned], laidTests := true, laidLooks := .later }
def RleRowsCardSaid : Prop := Claim7.holds Tryz.pinned (.plain (OpenSpec.ofChange rleRowsSpec)) rleRowsCard

/-- THE TIED CARD OF 'quiltlaw15.RleEnds'. -/
def rleEndsCard : Claim7 := { stood := { row := rleEndsRow, standIns := [], harness := (true, "3a382d3d1bfe0afd01f22b380b1329931f2a9daf9f082b1d3af3013d13b1e0ea"), looks := true }, kinds := [], alts := [], laidByText := true, laidKinds := [.data, .data, .data, .data, .handle, .pinned], laidTests := true, laidLooks := .later }
def RleEndsCardSaid : Prop := Claim7.holds Tryz.pinned (.plain (OpenSpec.ofChange rleEndsSpec)) rleEndsCard

/-- THE SECOND FORM's CARD OF 'quiltlaw15.RleRows'. -/
def rleRowsUptoCard : Claim7 := { stood := { row := rleRowsUptoRow, standIns := [], harness := (true, "3a382d3d1bfe0afd01f22b380b1329931f2a9daf9f082b1d3af3013d13b1e0ea"), looks := true }, kinds := [], alts := [], laidByText := true, laidKinds := [.data, .data, .data, .data, .pinned], laidTests := true, laidLooks := .later }
def RleRowsUptoCardSaid : Prop := Claim7.holds Tryz.pinned (.plain (OpenSpec.upto rleRowsSpec)) rleRowsUptoCard

/-- THE SECOND FORM's CARD OF 'quiltlaw15.RleEnds'. -/
def rleEndsUptoCard : Claim7 := { stood := { row := rleEndsUptoRow, standIns := [], harness := (true, "3a382d3d1bfe0afd01f22b380b1329931f2a9daf9f082b1d3af3013d13b1e0ea"), looks := true }, kinds := [], alts := [], laidByText := true, laidKinds := [.data, .data, .data, .data, .handle, .pinned], laidTests := true, laidLooks := .later }
def RleEndsUptoCardSaid : Prop := Claim7.holds Tryz.pinned (.plain (OpenSpec.upto rleEndsSpec)) rleEndsUptoCard
end Rows
end Go.Proofs.YtangbokcdgganaaGreatDoor

/-
  DERIVED. GIVEN WITH THE SEED: THE CARDS: each row of YtifkhmcdgmnipaaDoorRows.lean that lists a variable, with what it lists TIED to the program's text (the seventh form; the later family's looks); each row that meets fmt, with fmt's text TOLD by the authors' own Lean function (tested against real Go, not proved from fmt's source: count such statements apart). THE CARD IS WHAT COUNTS. Prove the row's statement (the work); the ties are given (YtifkhmcdgmnipaaDoorTie.lean); close each card by the builder's one call (the guide's Derived/Test/ToyasCard.lean, 'card_holds'). Laid BY PROGRAM, IN A SANDBOX (cutbox-door.mjs). By AI agents, Wed Nov 11 2026. No macro, syntax, notation, axiom, sorry.
-/
import Derived.Test.YtifkhmcdgmnipaaDoorRows
import GoSem.ClaimSeven
namespace Go.Proofs.YtifkhmcdgmnipaaDoor
namespace Rows

/-- THE TIED CARD OF 'quiltlaw14.FindBack'. -/
def findBackCard : Claim7 := { stood := { row := findBackRow, standIns := [], harness := (true, "d03569ff749860190b1bb8560fce9b373c2e0adce78791bb5ee3884a142843f9"), looks := false }, kinds := [], alts := [], laidByText := true, laidKinds := [.data, .data], laidTests := true, laidLooks := .later }
def FindBackCardSaid : Prop := Claim7.holds Tryd.pinned (.plain (OpenSpec.ofChange findBackSpec)) findBackCard

/-- THE TIED CARD OF 'quiltlaw14.FindParts'. -/
def findPartsCard : Claim7 := { stood := { row := findPartsRow, standIns := [], harness := (true, "d03569ff749860190b1bb8560fce9b373c2e0adce78791bb5ee3884a142843f9"), looks := false }, kinds := [], alts := [], laidByText := true, laidKinds := [.data, .data], laidTests := true, laidLooks := .later }
def FindPartsCardSaid : Prop := Claim7.holds Tryd.pinned (.plain (OpenSpec.ofChange findPartsSpec)) findPartsCard

/-- THE TIED CARD OF 'quiltlaw14.FindEmpty'. -/
def findEmptyCard : Claim7 := { stood := { row := findEmptyRow, standIns := [], harness := (true, "d03569ff749860190b1bb8560fce9b373c2e0adce78791bb5ee3884a142843f9"), looks := false }, kinds := [], alts := [], laidByText := true, laidKinds := [.data, .data], laidTests := true, laidLooks := .later }
def FindEmptyCardSaid : Prop := Claim7.holds Tryd.pinned (.plain (OpenSpec.ofChange findEmptySpec)) findEmptyCard

/-- THE SECOND FORM's CARD OF 'quiltlaw14.FindBack'. -/
def findBackUptoCard : Claim7 := { stood := { row := findBackUptoRow, standIns := [], harness := (true, "d03569ff749860190b1bb8560fce9b373c2e0adce78791bb5ee3884a142843f9"), looks := false }, kinds := [], alts := [], laidByText := true, laidKinds := [.data, .data], laidTests := true, laidLooks := .later }
def FindBackUptoCardSaid : Prop := Claim7.holds Tryd.pinned (.plain (OpenSpec.upto findBackSpec)) findBackUptoCard

/-- THE SECOND FORM's CARD OF 'quiltlaw14.FindParts'. -/
def findPartsUptoCard : Claim7 := { stood := { row := findPartsUptoRow, standIns := [], harness := (true, "d03569ff749860190b1bb8560fce9b373c2e0adce78791bb5ee3884a142843f9"), looks := false }, kinds := [], alts := [], laidByText := true, laidKinds := [.data, .data], laidTests := true, laidLooks := .later }
def FindPartsUptoCardSaid : Prop := Claim7.holds Tryd.pinned (.plain (OpenSpec.upto findPartsSpec)) findPartsUptoCard

/-- THE SECOND FORM's CARD OF 'quiltlaw14.FindEmpty'. -/
def findEmptyUptoCard : Claim7 := { stood := { row := findEmptyUptoRow, standIns := [], harness := (true, "d03569ff749860190b1bb8560fce9b373c2e0adce78791bb5ee3884a142843f9"), looks := false }, kinds := [], alts := [], laidByText := true, laidKinds := [.data, .data], laidTests := true, laidLooks := .later }
def FindEmptyUptoCardSaid : Prop := Claim7.holds Tryd.pinned (.plain (OpenSpec.upto findEmptySpec)) findEmptyUptoCard
end Rows
end Go.Proofs.YtifkhmcdgmnipaaDoor

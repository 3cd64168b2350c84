/-
  DERIVED. GIVEN WITH THE SEED: THE CARDS: each row of YtmfddecndadohaaDoorRows.lean that lists a variable, with what it lists TIED to the program's text (the seventh form; the later family's looks); each row that meets fmt, with fmt's text TOLD by the authors' own Lean function (tested against real Go, not proved from fmt's source: count such statements apart). THE CARD IS WHAT COUNTS. Prove the row's statement (the work); the ties are given (YtmfddecndadohaaDoorTie.lean); close each card by the builder's one call (the guide's Derived/Test/ToyasCard.lean, 'card_holds'). Laid BY PROGRAM, IN A SANDBOX (cutbox-door.mjs). By AI agents, Wed Nov 11 2026. No macro, syntax, notation, axiom, sorry.
-/
import Derived.Test.YtmfddecndadohaaDoorRows
import GoSem.ClaimSeven
namespace Go.Proofs.YtmfddecndadohaaDoor
namespace Rows

/-- THE TIED CARD OF 'quiltlaw03.PageEncodes'. -/
def pageEncodesCard : Claim7 := { stood := { row := pageEncodesRow, standIns := [], harness := (true, "77466523a0181afd4912f274b2531e6f0a33e88ae6d854d729e24e136ed44317"), looks := true }, kinds := [], alts := [], laidByText := true, laidKinds := [.handle], laidTests := true, laidLooks := .later }
def PageEncodesCardSaid : Prop := Claim7.holds Tryd.pinned (.plain (OpenSpec.ofChange pageEncodesSpec)) pageEncodesCard

/-- THE TIED CARD OF 'quiltlaw03.PageDecodes'. -/
def pageDecodesCard : Claim7 := { stood := { row := pageDecodesRow, standIns := [], harness := (true, "77466523a0181afd4912f274b2531e6f0a33e88ae6d854d729e24e136ed44317"), looks := true }, kinds := [], alts := [], laidByText := true, laidKinds := [.handle], laidTests := true, laidLooks := .later }
def PageDecodesCardSaid : Prop := Claim7.holds Tryd.pinned (.plain (OpenSpec.ofChange pageDecodesSpec)) pageDecodesCard

/-- THE TIED CARD OF 'quiltlaw03.PageBack'. -/
def pageBackCard : Claim7 := { stood := { row := pageBackRow, standIns := [], harness := (true, "77466523a0181afd4912f274b2531e6f0a33e88ae6d854d729e24e136ed44317"), looks := true }, kinds := [], alts := [], laidByText := true, laidKinds := [.handle], laidTests := true, laidLooks := .later }
def PageBackCardSaid : Prop := Claim7.holds Tryd.pinned (.plain (OpenSpec.ofChange pageBackSpec)) pageBackCard

/-- THE TIED CARD OF 'quiltlaw03.PageRoom'. -/
def pageRoomCard : Claim7 := { stood := { row := pageRoomRow, standIns := [], harness := (true, "77466523a0181afd4912f274b2531e6f0a33e88ae6d854d729e24e136ed44317"), looks := true }, kinds := [], alts := [], laidByText := true, laidKinds := [.handle], laidTests := true, laidLooks := .later }
def PageRoomCardSaid : Prop := Claim7.holds Tryd.pinned (.plain (OpenSpec.ofChange pageRoomSpec)) pageRoomCard

/-- THE TIED CARD OF 'quiltlaw03.PageParts'. -/
def pagePartsCard : Claim7 := { stood := { row := pagePartsRow, standIns := [], harness := (true, "77466523a0181afd4912f274b2531e6f0a33e88ae6d854d729e24e136ed44317"), looks := true }, kinds := [], alts := [], laidByText := true, laidKinds := [.handle], laidTests := true, laidLooks := .later }
def PagePartsCardSaid : Prop := Claim7.holds Tryd.pinned (.plain (OpenSpec.ofChange pagePartsSpec)) pagePartsCard

/-- THE TIED CARD OF 'quiltlaw03.PageShort'. -/
def pageShortCard : Claim7 := { stood := { row := pageShortRow, standIns := [], harness := (true, "77466523a0181afd4912f274b2531e6f0a33e88ae6d854d729e24e136ed44317"), looks := true }, kinds := [], alts := [], laidByText := true, laidKinds := [.handle], laidTests := true, laidLooks := .later }
def PageShortCardSaid : Prop := Claim7.holds Tryd.pinned (.plain (OpenSpec.ofChange pageShortSpec)) pageShortCard

/-- THE SECOND FORM's CARD OF 'quiltlaw03.PageEncodes'. -/
def pageEncodesUptoCard : Claim7 := { stood := { row := pageEncodesUptoRow, standIns := [], harness := (true, "77466523a0181afd4912f274b2531e6f0a33e88ae6d854d729e24e136ed44317"), looks := true }, kinds := [], alts := [], laidByText := true, laidKinds := [.handle], laidTests := true, laidLooks := .later }
def PageEncodesUptoCardSaid : Prop := Claim7.holds Tryd.pinned (.plain (OpenSpec.upto pageEncodesSpec)) pageEncodesUptoCard

/-- THE SECOND FORM's CARD OF 'quiltlaw03.PageDecodes'. -/
def pageDecodesUptoCard : Claim7 := { stood := { row := pageDecodesUptoRow, standIns := [], harness := (true, "77466523a0181afd4912f274b2531e6f0a33e88ae6d854d729e24e136ed44317"), looks := true }, kinds := [], alts := [], laidByText := true, laidKinds := [.handle], laidTests := true, laidLooks := .later }
def PageDecodesUptoCardSaid : Prop := Claim7.holds Tryd.pinned (.plain (OpenSpec.upto pageDecodesSpec)) pageDecodesUptoCard

/-- THE SECOND FORM's CARD OF 'quiltlaw03.PageBack'. -/
def pageBackUptoCard : Claim7 := { stood := { row := pageBackUptoRow, standIns := [], harness := (true, "77466523a0181afd4912f274b2531e6f0a33e88ae6d854d729e24e136ed44317"), looks := true }, kinds := [], alts := [], laidByText := true, laidKinds := [.handle], laidTests := true, laidLooks := .later }
def PageBackUptoCardSaid : Prop := Claim7.holds Tryd.pinned (.plain (OpenSpec.upto pageBackSpec)) pageBackUptoCard

/-- THE SECOND FORM's CARD OF 'quiltlaw03.PageRoom'. -/
def pageRoomUptoCard : Claim7 := { stood := { row := pageRoomUptoRow, standIns := [], harness := (true, "77466523a0181afd4912f274b2531e6f0a33e88ae6d854d729e24e136ed44317"), looks := true }, kinds := [], alts := [], laidByText := true, laidKinds := [.handle], laidTests := true, laidLooks := .later }
def PageRoomUptoCardSaid : Prop := Claim7.holds Tryd.pinned (.plain (OpenSpec.upto pageRoomSpec)) pageRoomUptoCard

/-- THE SECOND FORM's CARD OF 'quiltlaw03.PageParts'. -/
def pagePartsUptoCard : Claim7 := { stood := { row := pagePartsUptoRow, standIns := [], harness := (true, "77466523a0181afd4912f274b2531e6f0a33e88ae6d854d729e24e136ed44317"), looks := true }, kinds := [], alts := [], laidByText := true, laidKinds := [.handle], laidTests := true, laidLooks := .later }
def PagePartsUptoCardSaid : Prop := Claim7.holds Tryd.pinned (.plain (OpenSpec.upto pagePartsSpec)) pagePartsUptoCard

/-- THE SECOND FORM's CARD OF 'quiltlaw03.PageShort'. -/
def pageShortUptoCard : Claim7 := { stood := { row := pageShortUptoRow, standIns := [], harness := (true, "77466523a0181afd4912f274b2531e6f0a33e88ae6d854d729e24e136ed44317"), looks := true }, kinds := [], alts := [], laidByText := true, laidKinds := [.handle], laidTests := true, laidLooks := .later }
def PageShortUptoCardSaid : Prop := Claim7.holds Tryd.pinned (.plain (OpenSpec.upto pageShortSpec)) pageShortUptoCard
end Rows
end Go.Proofs.YtmfddecndadohaaDoor

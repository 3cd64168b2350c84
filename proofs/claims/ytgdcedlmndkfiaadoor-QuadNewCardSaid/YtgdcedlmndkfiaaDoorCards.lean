/-
  DERIVED. GIVEN WITH THE SEED: THE CARDS: each row of YtgdcedlmndkfiaaDoorRows.lean that lists a variable, with what it lists TIED to the program's text (the seventh form; the later family's looks); each row that meets fmt, with fmt's text TOLD by the authors' own Lean function (tested against real Go, not proved from fmt's source: count such statements apart). THE CARD IS WHAT COUNTS. Prove the row's statement (the work); the ties are given (YtgdcedlmndkfiaaDoorTie.lean); close each card by the builder's one call (the guide's Derived/Test/ToyasCard.lean, 'card_holds'). Laid BY PROGRAM, IN A SANDBOX (cutbox-door.mjs). By AI agents, Wed Nov 11 2026. No macro, syntax, notation, axiom, sorry.
-/
import Derived.Test.YtgdcedlmndkfiaaDoorRows
import GoSem.ClaimSeven
namespace Go.Proofs.YtgdcedlmndkfiaaDoor
namespace Rows

/-- THE TIED CARD OF 'quiltlaw11.QuadNew'. -/
def quadNewCard : Claim7 := { stood := { row := quadNewRow, standIns := [], harness := (true, "c4a83e4c9068fad5e24584886ea1006cc1d4e0e46bf884a174bc7e2464d9f05c"), looks := true }, kinds := [], alts := [], laidByText := true, laidKinds := [.handle], laidTests := true, laidLooks := .later }
def QuadNewCardSaid : Prop := Claim7.holds Tryd.pinned (.plain (OpenSpec.ofChange quadNewSpec)) quadNewCard

/-- THE TIED CARD OF 'quiltlaw11.QuadLadder'. -/
def quadLadderCard : Claim7 := { stood := { row := quadLadderRow, standIns := [], harness := (true, "c4a83e4c9068fad5e24584886ea1006cc1d4e0e46bf884a174bc7e2464d9f05c"), looks := true }, kinds := [], alts := [], laidByText := true, laidKinds := [.handle], laidTests := true, laidLooks := .later }
def QuadLadderCardSaid : Prop := Claim7.holds Tryd.pinned (.plain (OpenSpec.ofChange quadLadderSpec)) quadLadderCard

/-- THE SECOND FORM's CARD OF 'quiltlaw11.QuadNew'. -/
def quadNewUptoCard : Claim7 := { stood := { row := quadNewUptoRow, standIns := [], harness := (true, "c4a83e4c9068fad5e24584886ea1006cc1d4e0e46bf884a174bc7e2464d9f05c"), looks := true }, kinds := [], alts := [], laidByText := true, laidKinds := [.handle], laidTests := true, laidLooks := .later }
def QuadNewUptoCardSaid : Prop := Claim7.holds Tryd.pinned (.plain (OpenSpec.upto quadNewSpec)) quadNewUptoCard

/-- THE SECOND FORM's CARD OF 'quiltlaw11.QuadLadder'. -/
def quadLadderUptoCard : Claim7 := { stood := { row := quadLadderUptoRow, standIns := [], harness := (true, "c4a83e4c9068fad5e24584886ea1006cc1d4e0e46bf884a174bc7e2464d9f05c"), looks := true }, kinds := [], alts := [], laidByText := true, laidKinds := [.handle], laidTests := true, laidLooks := .later }
def QuadLadderUptoCardSaid : Prop := Claim7.holds Tryd.pinned (.plain (OpenSpec.upto quadLadderSpec)) quadLadderUptoCard
end Rows
end Go.Proofs.YtgdcedlmndkfiaaDoor

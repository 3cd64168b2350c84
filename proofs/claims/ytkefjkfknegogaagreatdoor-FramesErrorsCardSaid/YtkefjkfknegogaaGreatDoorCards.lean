/-
  DERIVED. GIVEN WITH THE SEED: THE CARDS: each row of YtkefjkfknegogaaGreatDoorRows.lean that lists a variable, with what it lists TIED to the program's text (the seventh form; the later family's looks); each row that meets fmt, with fmt's text TOLD by the authors' own Lean function (tested against real Go, not proved from fmt's source: count such statements apart). THE CARD IS WHAT COUNTS. Prove the row's statement (the work); the ties are given (YtkefjkfknegogaaGreatDoorTie.lean); close each card by the builder's one call (the guide's Derived/Test/ToyasCard.lean, 'card_holds'). Laid BY PROGRAM, IN A SANDBOX (cutbox-door.mjs). By AI agents, Wed Nov 11 2026. No macro, syntax, notation, axiom, sorry.
-/
import Derived.Test.YtkefjkfknegogaaGreatDoorRows
import GoSem.ClaimSeven
namespace Go.Proofs.YtkefjkfknegogaaGreatDoor
namespace Rows

/-- THE TIED CARD OF 'quiltlaw13.FramesCounts'. -/
def framesCountsCard : Claim7 := { stood := { row := framesCountsRow, standIns := [], harness := (true, "aacc22aba46818f492cc5b23c9320a6f561b1fe9f6e72ffe3e40d5935eabc4f7"), looks := true }, kinds := [], alts := [], laidByText := true, laidKinds := [.handle], laidTests := true, laidLooks := .later }
def FramesCountsCardSaid : Prop := Claim7.holds Tryz.pinned (.plain (OpenSpec.ofChange framesCountsSpec)) framesCountsCard

/-- THE TIED CARD OF 'quiltlaw13.FramesErrors'. -/
def framesErrorsCard : Claim7 := { stood := { row := framesErrorsRow, standIns := [], harness := (true, "aacc22aba46818f492cc5b23c9320a6f561b1fe9f6e72ffe3e40d5935eabc4f7"), looks := true }, kinds := [], alts := [], laidByText := true, laidKinds := [.handle], laidTests := true, laidLooks := .later }
def FramesErrorsCardSaid : Prop := Claim7.holds Tryz.pinned (.plain (OpenSpec.ofChange framesErrorsSpec)) framesErrorsCard

/-- THE TIED CARD OF 'quiltlaw13.FramesLoads'. -/
def framesLoadsCard : Claim7 := { stood := { row := framesLoadsRow, standIns := [], harness := (true, "aacc22aba46818f492cc5b23c9320a6f561b1fe9f6e72ffe3e40d5935eabc4f7"), looks := true }, kinds := [], alts := [], laidByText := true, laidKinds := [.handle], laidTests := true, laidLooks := .later }
def FramesLoadsCardSaid : Prop := Claim7.holds Tryz.pinned (.plain (OpenSpec.ofChange framesLoadsSpec)) framesLoadsCard

/-- THE TIED CARD OF 'quiltlaw13.FramesFull'. -/
def framesFullCard : Claim7 := { stood := { row := framesFullRow, standIns := [], harness := (true, "aacc22aba46818f492cc5b23c9320a6f561b1fe9f6e72ffe3e40d5935eabc4f7"), looks := true }, kinds := [], alts := [], laidByText := true, laidKinds := [.handle], laidTests := true, laidLooks := .later }
def FramesFullCardSaid : Prop := Claim7.holds Tryz.pinned (.plain (OpenSpec.ofChange framesFullSpec)) framesFullCard

/-- THE SECOND FORM's CARD OF 'quiltlaw13.FramesCounts'. -/
def framesCountsUptoCard : Claim7 := { stood := { row := framesCountsUptoRow, standIns := [], harness := (true, "aacc22aba46818f492cc5b23c9320a6f561b1fe9f6e72ffe3e40d5935eabc4f7"), looks := true }, kinds := [], alts := [], laidByText := true, laidKinds := [.handle], laidTests := true, laidLooks := .later }
def FramesCountsUptoCardSaid : Prop := Claim7.holds Tryz.pinned (.plain (OpenSpec.upto framesCountsSpec)) framesCountsUptoCard

/-- THE SECOND FORM's CARD OF 'quiltlaw13.FramesErrors'. -/
def framesErrorsUptoCard : Claim7 := { stood := { row := framesErrorsUptoRow, standIns := [], harness := (true, "aacc22aba46818f492cc5b23c9320a6f561b1fe9f6e72ffe3e40d5935eabc4f7"), looks := true }, kinds := [], alts := [], laidByText := true, laidKinds := [.handle], laidTests := true, laidLooks := .later }
def FramesErrorsUptoCardSaid : Prop := Claim7.holds Tryz.pinned (.plain (OpenSpec.upto framesErrorsSpec)) framesErrorsUptoCard

/-- THE SECOND FORM's CARD OF 'quiltlaw13.FramesLoads'. -/
def framesLoadsUptoCard : Claim7 := { stood := { row := framesLoadsUptoRow, standIns := [], harness := (true, "aacc22aba46818f492cc5b23c9320a6f561b1fe9f6e72ffe3e40d5935eabc4f7"), looks := true }, kinds := [], alts := [], laidByText := true, laidKinds := [.handle], laidTests := true, laidLooks := .later }
def FramesLoadsUptoCardSaid : Prop := Claim7.holds Tryz.pinned (.plain (OpenSpec.upto framesLoadsSpec)) framesLoadsUptoCard

/-- THE SECOND FORM's CARD OF 'quiltlaw13.FramesFull'. -/
def framesFullUptoCard : Claim7 := { stood := { row := framesFullUptoRow, standIns := [], harness := (true, "aacc22aba46818f492cc5b23c9320a6f561b1fe9f6e72ffe3e40d5935eabc4f7"), looks := true }, kinds := [], alts := [], laidByText := true, laidKinds := [.handle], laidTests := true, laidLooks := .later }
def FramesFullUptoCardSaid : Prop := Claim7.holds Tryz.pinned (.plain (OpenSpec.upto framesFullSpec)) framesFullUptoCard
end Rows
end Go.Proofs.YtkefjkfknegogaaGreatDoor

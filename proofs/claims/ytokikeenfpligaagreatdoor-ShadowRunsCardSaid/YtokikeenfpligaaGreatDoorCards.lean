/-
  DERIVED. GIVEN WITH THE SEED: THE CARDS: each row of YtokikeenfpligaaGreatDoorRows.lean that lists a variable, with what it lists TIED to the program's text (the seventh form; the later family's looks); each row that meets fmt, with fmt's text TOLD by the authors' own Lean function (tested against real Go, not proved from fmt's source: count such statements apart). THE CARD IS WHAT COUNTS. Prove the row's statement (the work); the ties are given (YtokikeenfpligaaGreatDoorTie.lean); close each card by the builder's one call (the guide's Derived/Test/ToyasCard.lean, 'card_holds'). Laid BY PROGRAM, IN A SANDBOX (cutbox-door.mjs). By AI agents, Wed Nov 11 2026. No macro, syntax, notation, axiom, sorry.
-/
import Derived.Test.YtokikeenfpligaaGreatDoorRows
import GoSem.ClaimSeven
namespace Go.Proofs.YtokikeenfpligaaGreatDoor
namespace Rows

/-- THE TIED CARD OF 'quiltlaw05.ShadowRuns'. -/
def shadowRunsCard : Claim7 := { stood := { row := shadowRunsRow, standIns := [], harness := (true, "23f15e656246094884fef62b8c21f3fe35a43a8395db1dd3656d0311831f1e0f"), looks := true }, kinds := [], alts := [], laidByText := true, laidKinds := [.handle], laidTests := true, laidLooks := .later }
def ShadowRunsCardSaid : Prop := Claim7.holds Tryz.pinned (.plain (OpenSpec.ofChange shadowRunsSpec)) shadowRunsCard

/-- THE TIED CARD OF 'quiltlaw05.ShadowNew'. -/
def shadowNewCard : Claim7 := { stood := { row := shadowNewRow, standIns := [], harness := (true, "23f15e656246094884fef62b8c21f3fe35a43a8395db1dd3656d0311831f1e0f"), looks := true }, kinds := [], alts := [], laidByText := true, laidKinds := [.handle], laidTests := true, laidLooks := .later }
def ShadowNewCardSaid : Prop := Claim7.holds Tryz.pinned (.plain (OpenSpec.ofChange shadowNewSpec)) shadowNewCard

/-- THE TIED CARD OF 'quiltlaw05.ShadowAtomic'. -/
def shadowAtomicCard : Claim7 := { stood := { row := shadowAtomicRow, standIns := [], harness := (true, "23f15e656246094884fef62b8c21f3fe35a43a8395db1dd3656d0311831f1e0f"), looks := true }, kinds := [], alts := [], laidByText := true, laidKinds := [.handle], laidTests := true, laidLooks := .later }
def ShadowAtomicCardSaid : Prop := Claim7.holds Tryz.pinned (.plain (OpenSpec.ofChange shadowAtomicSpec)) shadowAtomicCard

/-- THE TIED CARD OF 'quiltlaw05.ShadowRots'. -/
def shadowRotsCard : Claim7 := { stood := { row := shadowRotsRow, standIns := [], harness := (true, "23f15e656246094884fef62b8c21f3fe35a43a8395db1dd3656d0311831f1e0f"), looks := true }, kinds := [], alts := [], laidByText := true, laidKinds := [.handle], laidTests := true, laidLooks := .later }
def ShadowRotsCardSaid : Prop := Claim7.holds Tryz.pinned (.plain (OpenSpec.ofChange shadowRotsSpec)) shadowRotsCard

/-- THE TIED CARD OF 'quiltlaw05.ShadowBack'. -/
def shadowBackCard : Claim7 := { stood := { row := shadowBackRow, standIns := [], harness := (true, "23f15e656246094884fef62b8c21f3fe35a43a8395db1dd3656d0311831f1e0f"), looks := true }, kinds := [], alts := [], laidByText := true, laidKinds := [.handle], laidTests := true, laidLooks := .later }
def ShadowBackCardSaid : Prop := Claim7.holds Tryz.pinned (.plain (OpenSpec.ofChange shadowBackSpec)) shadowBackCard

/-- THE SECOND FORM's CARD OF 'quiltlaw05.ShadowRuns'. -/
def shadowRunsUptoCard : Claim7 := { stood := { row := shadowRunsUptoRow, standIns := [], harness := (true, "23f15e656246094884fef62b8c21f3fe35a43a8395db1dd3656d0311831f1e0f"), looks := true }, kinds := [], alts := [], laidByText := true, laidKinds := [.handle], laidTests := true, laidLooks := .later }
def ShadowRunsUptoCardSaid : Prop := Claim7.holds Tryz.pinned (.plain (OpenSpec.upto shadowRunsSpec)) shadowRunsUptoCard

/-- THE SECOND FORM's CARD OF 'quiltlaw05.ShadowNew'. -/
def shadowNewUptoCard : Claim7 := { stood := { row := shadowNewUptoRow, standIns := [], harness := (true, "23f15e656246094884fef62b8c21f3fe35a43a8395db1dd3656d0311831f1e0f"), looks := true }, kinds := [], alts := [], laidByText := true, laidKinds := [.handle], laidTests := true, laidLooks := .later }
def ShadowNewUptoCardSaid : Prop := Claim7.holds Tryz.pinned (.plain (OpenSpec.upto shadowNewSpec)) shadowNewUptoCard

/-- THE SECOND FORM's CARD OF 'quiltlaw05.ShadowAtomic'. -/
def shadowAtomicUptoCard : Claim7 := { stood := { row := shadowAtomicUptoRow, standIns := [], harness := (true, "23f15e656246094884fef62b8c21f3fe35a43a8395db1dd3656d0311831f1e0f"), looks := true }, kinds := [], alts := [], laidByText := true, laidKinds := [.handle], laidTests := true, laidLooks := .later }
def ShadowAtomicUptoCardSaid : Prop := Claim7.holds Tryz.pinned (.plain (OpenSpec.upto shadowAtomicSpec)) shadowAtomicUptoCard

/-- THE SECOND FORM's CARD OF 'quiltlaw05.ShadowRots'. -/
def shadowRotsUptoCard : Claim7 := { stood := { row := shadowRotsUptoRow, standIns := [], harness := (true, "23f15e656246094884fef62b8c21f3fe35a43a8395db1dd3656d0311831f1e0f"), looks := true }, kinds := [], alts := [], laidByText := true, laidKinds := [.handle], laidTests := true, laidLooks := .later }
def ShadowRotsUptoCardSaid : Prop := Claim7.holds Tryz.pinned (.plain (OpenSpec.upto shadowRotsSpec)) shadowRotsUptoCard

/-- THE SECOND FORM's CARD OF 'quiltlaw05.ShadowBack'. -/
def shadowBackUptoCard : Claim7 := { stood := { row := shadowBackUptoRow, standIns := [], harness := (true, "23f15e656246094884fef62b8c21f3fe35a43a8395db1dd3656d0311831f1e0f"), looks := true }, kinds := [], alts := [], laidByText := true, laidKinds := [.handle], laidTests := true, laidLooks := .later }
def ShadowBackUptoCardSaid : Prop := Claim7.holds Tryz.pinned (.plain (OpenSpec.upto shadowBackSpec)) shadowBackUptoCard
end Rows
end Go.Proofs.YtokikeenfpligaaGreatDoor

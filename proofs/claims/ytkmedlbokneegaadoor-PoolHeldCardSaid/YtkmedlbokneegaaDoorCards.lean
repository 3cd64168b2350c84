/-
  DERIVED. GIVEN WITH THE SEED: THE CARDS: each row of YtkmedlbokneegaaDoorRows.lean that lists a variable, with what it lists TIED to the program's text (the seventh form; the later family's looks); each row that meets fmt, with fmt's text TOLD by the authors' own Lean function (tested against real Go, not proved from fmt's source: count such statements apart). THE CARD IS WHAT COUNTS. Prove the row's statement (the work); the ties are given (YtkmedlbokneegaaDoorTie.lean); close each card by the builder's one call (the guide's Derived/Test/ToyasCard.lean, 'card_holds'). Laid BY PROGRAM, IN A SANDBOX (cutbox-door.mjs). By AI agents, Wed Nov 11 2026. No macro, syntax, notation, axiom, sorry.
-/
import Derived.Test.YtkmedlbokneegaaDoorRows
import GoSem.ClaimSeven
namespace Go.Proofs.YtkmedlbokneegaaDoor
namespace Rows

/-- THE TIED CARD OF 'quiltlaw04.PoolRuns'. -/
def poolRunsCard : Claim7 := { stood := { row := poolRunsRow, standIns := [], harness := (true, "23a2ed073fee42cec6950a51d768c8708137a96f86bad090dc702b3b6a549e11"), looks := true }, kinds := [], alts := [], laidByText := true, laidKinds := [.handle], laidTests := true, laidLooks := .later }
def PoolRunsCardSaid : Prop := Claim7.holds Tryd.pinned (.plain (OpenSpec.ofChange poolRunsSpec)) poolRunsCard

/-- THE TIED CARD OF 'quiltlaw04.PoolNew'. -/
def poolNewCard : Claim7 := { stood := { row := poolNewRow, standIns := [], harness := (true, "23a2ed073fee42cec6950a51d768c8708137a96f86bad090dc702b3b6a549e11"), looks := true }, kinds := [], alts := [], laidByText := true, laidKinds := [.handle], laidTests := true, laidLooks := .later }
def PoolNewCardSaid : Prop := Claim7.holds Tryd.pinned (.plain (OpenSpec.ofChange poolNewSpec)) poolNewCard

/-- THE TIED CARD OF 'quiltlaw04.PoolReads'. -/
def poolReadsCard : Claim7 := { stood := { row := poolReadsRow, standIns := [], harness := (true, "23a2ed073fee42cec6950a51d768c8708137a96f86bad090dc702b3b6a549e11"), looks := true }, kinds := [], alts := [], laidByText := true, laidKinds := [.handle], laidTests := true, laidLooks := .later }
def PoolReadsCardSaid : Prop := Claim7.holds Tryd.pinned (.plain (OpenSpec.ofChange poolReadsSpec)) poolReadsCard

/-- THE TIED CARD OF 'quiltlaw04.PoolHeld'. -/
def poolHeldCard : Claim7 := { stood := { row := poolHeldRow, standIns := [], harness := (true, "23a2ed073fee42cec6950a51d768c8708137a96f86bad090dc702b3b6a549e11"), looks := true }, kinds := [], alts := [], laidByText := true, laidKinds := [.handle], laidTests := true, laidLooks := .later }
def PoolHeldCardSaid : Prop := Claim7.holds Tryd.pinned (.plain (OpenSpec.ofChange poolHeldSpec)) poolHeldCard

/-- THE SECOND FORM's CARD OF 'quiltlaw04.PoolRuns'. -/
def poolRunsUptoCard : Claim7 := { stood := { row := poolRunsUptoRow, standIns := [], harness := (true, "23a2ed073fee42cec6950a51d768c8708137a96f86bad090dc702b3b6a549e11"), looks := true }, kinds := [], alts := [], laidByText := true, laidKinds := [.handle], laidTests := true, laidLooks := .later }
def PoolRunsUptoCardSaid : Prop := Claim7.holds Tryd.pinned (.plain (OpenSpec.upto poolRunsSpec)) poolRunsUptoCard

/-- THE SECOND FORM's CARD OF 'quiltlaw04.PoolNew'. -/
def poolNewUptoCard : Claim7 := { stood := { row := poolNewUptoRow, standIns := [], harness := (true, "23a2ed073fee42cec6950a51d768c8708137a96f86bad090dc702b3b6a549e11"), looks := true }, kinds := [], alts := [], laidByText := true, laidKinds := [.handle], laidTests := true, laidLooks := .later }
def PoolNewUptoCardSaid : Prop := Claim7.holds Tryd.pinned (.plain (OpenSpec.upto poolNewSpec)) poolNewUptoCard

/-- THE SECOND FORM's CARD OF 'quiltlaw04.PoolReads'. -/
def poolReadsUptoCard : Claim7 := { stood := { row := poolReadsUptoRow, standIns := [], harness := (true, "23a2ed073fee42cec6950a51d768c8708137a96f86bad090dc702b3b6a549e11"), looks := true }, kinds := [], alts := [], laidByText := true, laidKinds := [.handle], laidTests := true, laidLooks := .later }
def PoolReadsUptoCardSaid : Prop := Claim7.holds Tryd.pinned (.plain (OpenSpec.upto poolReadsSpec)) poolReadsUptoCard

/-- THE SECOND FORM's CARD OF 'quiltlaw04.PoolHeld'. -/
def poolHeldUptoCard : Claim7 := { stood := { row := poolHeldUptoRow, standIns := [], harness := (true, "23a2ed073fee42cec6950a51d768c8708137a96f86bad090dc702b3b6a549e11"), looks := true }, kinds := [], alts := [], laidByText := true, laidKinds := [.handle], laidTests := true, laidLooks := .later }
def PoolHeldUptoCardSaid : Prop := Claim7.holds Tryd.pinned (.plain (OpenSpec.upto poolHeldSpec)) poolHeldUptoCard
end Rows
end Go.Proofs.YtkmedlbokneegaaDoor

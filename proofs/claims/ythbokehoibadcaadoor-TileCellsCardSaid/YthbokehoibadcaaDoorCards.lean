/-
  DERIVED. GIVEN WITH THE SEED: THE CARDS: each row of YthbokehoibadcaaDoorRows.lean that lists a variable, with what it lists TIED to the program's text (the seventh form; the later family's looks); each row that meets fmt, with fmt's text TOLD by the authors' own Lean function (tested against real Go, not proved from fmt's source: count such statements apart). THE CARD IS WHAT COUNTS. Prove the row's statement (the work); the ties are given (YthbokehoibadcaaDoorTie.lean); close each card by the builder's one call (the guide's Derived/Test/ToyasCard.lean, 'card_holds'). Laid BY PROGRAM, IN A SANDBOX (cutbox-door.mjs). By AI agents, Wed Nov 11 2026. No macro, syntax, notation, axiom, sorry.
-/
import Derived.Test.YthbokehoibadcaaDoorRows
import GoSem.ClaimSeven
namespace Go.Proofs.YthbokehoibadcaaDoor
namespace Rows

/-- THE TIED CARD OF 'quiltlaw09.TileCells'. -/
def tileCellsCard : Claim7 := { stood := { row := tileCellsRow, standIns := [], harness := (true, "ebf8fa99c33a696e3762a2a6bdcdf18bee4d25480d8a6c8ffc384afcaed97a0b"), looks := true }, kinds := [], alts := [], laidByText := true, laidKinds := [.handle], laidTests := true, laidLooks := .later }
def TileCellsCardSaid : Prop := Claim7.holds Tryd.pinned (.plain (OpenSpec.ofChange tileCellsSpec)) tileCellsCard

/-- THE TIED CARD OF 'quiltlaw09.TileGrows'. -/
def tileGrowsCard : Claim7 := { stood := { row := tileGrowsRow, standIns := [], harness := (true, "ebf8fa99c33a696e3762a2a6bdcdf18bee4d25480d8a6c8ffc384afcaed97a0b"), looks := true }, kinds := [], alts := [], laidByText := true, laidKinds := [.handle], laidTests := true, laidLooks := .later }
def TileGrowsCardSaid : Prop := Claim7.holds Tryd.pinned (.plain (OpenSpec.ofChange tileGrowsSpec)) tileGrowsCard

/-- THE TIED CARD OF 'quiltlaw09.TileNexts'. -/
def tileNextsCard : Claim7 := { stood := { row := tileNextsRow, standIns := [], harness := (true, "ebf8fa99c33a696e3762a2a6bdcdf18bee4d25480d8a6c8ffc384afcaed97a0b"), looks := true }, kinds := [], alts := [], laidByText := true, laidKinds := [.handle], laidTests := true, laidLooks := .later }
def TileNextsCardSaid : Prop := Claim7.holds Tryd.pinned (.plain (OpenSpec.ofChange tileNextsSpec)) tileNextsCard

/-- THE SECOND FORM's CARD OF 'quiltlaw09.TileCells'. -/
def tileCellsUptoCard : Claim7 := { stood := { row := tileCellsUptoRow, standIns := [], harness := (true, "ebf8fa99c33a696e3762a2a6bdcdf18bee4d25480d8a6c8ffc384afcaed97a0b"), looks := true }, kinds := [], alts := [], laidByText := true, laidKinds := [.handle], laidTests := true, laidLooks := .later }
def TileCellsUptoCardSaid : Prop := Claim7.holds Tryd.pinned (.plain (OpenSpec.upto tileCellsSpec)) tileCellsUptoCard

/-- THE SECOND FORM's CARD OF 'quiltlaw09.TileGrows'. -/
def tileGrowsUptoCard : Claim7 := { stood := { row := tileGrowsUptoRow, standIns := [], harness := (true, "ebf8fa99c33a696e3762a2a6bdcdf18bee4d25480d8a6c8ffc384afcaed97a0b"), looks := true }, kinds := [], alts := [], laidByText := true, laidKinds := [.handle], laidTests := true, laidLooks := .later }
def TileGrowsUptoCardSaid : Prop := Claim7.holds Tryd.pinned (.plain (OpenSpec.upto tileGrowsSpec)) tileGrowsUptoCard

/-- THE SECOND FORM's CARD OF 'quiltlaw09.TileNexts'. -/
def tileNextsUptoCard : Claim7 := { stood := { row := tileNextsUptoRow, standIns := [], harness := (true, "ebf8fa99c33a696e3762a2a6bdcdf18bee4d25480d8a6c8ffc384afcaed97a0b"), looks := true }, kinds := [], alts := [], laidByText := true, laidKinds := [.handle], laidTests := true, laidLooks := .later }
def TileNextsUptoCardSaid : Prop := Claim7.holds Tryd.pinned (.plain (OpenSpec.upto tileNextsSpec)) tileNextsUptoCard
end Rows
end Go.Proofs.YthbokehoibadcaaDoor

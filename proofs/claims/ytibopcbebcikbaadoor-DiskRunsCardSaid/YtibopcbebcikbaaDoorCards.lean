/-
  DERIVED. GIVEN WITH THE SEED: THE CARDS: each row of YtibopcbebcikbaaDoorRows.lean that lists a variable, with what it lists TIED to the program's text (the seventh form; the later family's looks); each row that meets fmt, with fmt's text TOLD by the authors' own Lean function (tested against real Go, not proved from fmt's source: count such statements apart). THE CARD IS WHAT COUNTS. Prove the row's statement (the work); the ties are given (YtibopcbebcikbaaDoorTie.lean); close each card by the builder's one call (the guide's Derived/Test/ToyasCard.lean, 'card_holds'). Laid BY PROGRAM, IN A SANDBOX (cutbox-door.mjs). By AI agents, Wed Nov 11 2026. No macro, syntax, notation, axiom, sorry.
-/
import Derived.Test.YtibopcbebcikbaaDoorRows
import GoSem.ClaimSeven
namespace Go.Proofs.YtibopcbebcikbaaDoor
namespace Rows

/-- THE TIED CARD OF 'quiltlaw02.DiskRuns'. -/
def diskRunsCard : Claim7 := { stood := { row := diskRunsRow, standIns := [], harness := (true, "f6d0d0b30534ad6155b0b8f8351e49dc1c0e1a88734275c1a8533dc4ffa5a397"), looks := true }, kinds := [], alts := [], laidByText := true, laidKinds := [.handle], laidTests := true, laidLooks := .later }
def DiskRunsCardSaid : Prop := Claim7.holds Tryd.pinned (.plain (OpenSpec.ofChange diskRunsSpec)) diskRunsCard

/-- THE TIED CARD OF 'quiltlaw02.DiskNew'. -/
def diskNewCard : Claim7 := { stood := { row := diskNewRow, standIns := [], harness := (true, "f6d0d0b30534ad6155b0b8f8351e49dc1c0e1a88734275c1a8533dc4ffa5a397"), looks := true }, kinds := [], alts := [], laidByText := true, laidKinds := [.handle], laidTests := true, laidLooks := .later }
def DiskNewCardSaid : Prop := Claim7.holds Tryd.pinned (.plain (OpenSpec.ofChange diskNewSpec)) diskNewCard

/-- THE TIED CARD OF 'quiltlaw02.DiskTorn'. -/
def diskTornCard : Claim7 := { stood := { row := diskTornRow, standIns := [], harness := (true, "f6d0d0b30534ad6155b0b8f8351e49dc1c0e1a88734275c1a8533dc4ffa5a397"), looks := true }, kinds := [], alts := [], laidByText := true, laidKinds := [.handle], laidTests := true, laidLooks := .later }
def DiskTornCardSaid : Prop := Claim7.holds Tryd.pinned (.plain (OpenSpec.ofChange diskTornSpec)) diskTornCard

/-- THE TIED CARD OF 'quiltlaw02.DiskLimits'. -/
def diskLimitsCard : Claim7 := { stood := { row := diskLimitsRow, standIns := [], harness := (true, "f6d0d0b30534ad6155b0b8f8351e49dc1c0e1a88734275c1a8533dc4ffa5a397"), looks := true }, kinds := [], alts := [], laidByText := true, laidKinds := [.handle], laidTests := true, laidLooks := .later }
def DiskLimitsCardSaid : Prop := Claim7.holds Tryd.pinned (.plain (OpenSpec.ofChange diskLimitsSpec)) diskLimitsCard

/-- THE SECOND FORM's CARD OF 'quiltlaw02.DiskRuns'. -/
def diskRunsUptoCard : Claim7 := { stood := { row := diskRunsUptoRow, standIns := [], harness := (true, "f6d0d0b30534ad6155b0b8f8351e49dc1c0e1a88734275c1a8533dc4ffa5a397"), looks := true }, kinds := [], alts := [], laidByText := true, laidKinds := [.handle], laidTests := true, laidLooks := .later }
def DiskRunsUptoCardSaid : Prop := Claim7.holds Tryd.pinned (.plain (OpenSpec.upto diskRunsSpec)) diskRunsUptoCard

/-- THE SECOND FORM's CARD OF 'quiltlaw02.DiskNew'. -/
def diskNewUptoCard : Claim7 := { stood := { row := diskNewUptoRow, standIns := [], harness := (true, "f6d0d0b30534ad6155b0b8f8351e49dc1c0e1a88734275c1a8533dc4ffa5a397"), looks := true }, kinds := [], alts := [], laidByText := true, laidKinds := [.handle], laidTests := true, laidLooks := .later }
def DiskNewUptoCardSaid : Prop := Claim7.holds Tryd.pinned (.plain (OpenSpec.upto diskNewSpec)) diskNewUptoCard

/-- THE SECOND FORM's CARD OF 'quiltlaw02.DiskTorn'. -/
def diskTornUptoCard : Claim7 := { stood := { row := diskTornUptoRow, standIns := [], harness := (true, "f6d0d0b30534ad6155b0b8f8351e49dc1c0e1a88734275c1a8533dc4ffa5a397"), looks := true }, kinds := [], alts := [], laidByText := true, laidKinds := [.handle], laidTests := true, laidLooks := .later }
def DiskTornUptoCardSaid : Prop := Claim7.holds Tryd.pinned (.plain (OpenSpec.upto diskTornSpec)) diskTornUptoCard

/-- THE SECOND FORM's CARD OF 'quiltlaw02.DiskLimits'. -/
def diskLimitsUptoCard : Claim7 := { stood := { row := diskLimitsUptoRow, standIns := [], harness := (true, "f6d0d0b30534ad6155b0b8f8351e49dc1c0e1a88734275c1a8533dc4ffa5a397"), looks := true }, kinds := [], alts := [], laidByText := true, laidKinds := [.handle], laidTests := true, laidLooks := .later }
def DiskLimitsUptoCardSaid : Prop := Claim7.holds Tryd.pinned (.plain (OpenSpec.upto diskLimitsSpec)) diskLimitsUptoCard
end Rows
end Go.Proofs.YtibopcbebcikbaaDoor

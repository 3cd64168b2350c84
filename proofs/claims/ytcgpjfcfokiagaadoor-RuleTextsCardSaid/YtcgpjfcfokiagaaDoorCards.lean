/-
  DERIVED. GIVEN WITH THE SEED: THE CARDS: each row of YtcgpjfcfokiagaaDoorRows.lean that lists a variable, with what it lists TIED to the program's text (the seventh form; the later family's looks); each row that meets fmt, with fmt's text TOLD by the authors' own Lean function (tested against real Go, not proved from fmt's source: count such statements apart). THE CARD IS WHAT COUNTS. Prove the row's statement (the work); the ties are given (YtcgpjfcfokiagaaDoorTie.lean); close each card by the builder's one call (the guide's Derived/Test/ToyasCard.lean, 'card_holds'). Laid BY PROGRAM, IN A SANDBOX (cutbox-door.mjs). By AI agents, Wed Nov 11 2026. No macro, syntax, notation, axiom, sorry.
-/
import Derived.Test.YtcgpjfcfokiagaaDoorRows
import GoSem.ClaimSeven
namespace Go.Proofs.YtcgpjfcfokiagaaDoor
namespace Rows

/-- THE TIED CARD OF 'quiltlaw08.RuleTexts'. -/
def ruleTextsCard : Claim7 := { stood := { row := ruleTextsRow, standIns := [], harness := (true, "7ef936f5d284717e1fadda0a4197390669e49fbd712d6bd206251d2e1cc06fff"), looks := true }, kinds := [], alts := [], laidByText := true, laidKinds := [.handle], laidTests := true, laidLooks := .later }
def RuleTextsCardSaid : Prop := Claim7.holds Tryd.pinned (.plain (OpenSpec.ofChange ruleTextsSpec)) ruleTextsCard

/-- THE TIED CARD OF 'quiltlaw08.RuleNexts'. -/
def ruleNextsCard : Claim7 := { stood := { row := ruleNextsRow, standIns := [], harness := (true, "7ef936f5d284717e1fadda0a4197390669e49fbd712d6bd206251d2e1cc06fff"), looks := true }, kinds := [], alts := [], laidByText := true, laidKinds := [.handle], laidTests := true, laidLooks := .later }
def RuleNextsCardSaid : Prop := Claim7.holds Tryd.pinned (.plain (OpenSpec.ofChange ruleNextsSpec)) ruleNextsCard

/-- THE TIED CARD OF 'quiltlaw08.RuleMixed'. -/
def ruleMixedCard : Claim7 := { stood := { row := ruleMixedRow, standIns := [], harness := (true, "7ef936f5d284717e1fadda0a4197390669e49fbd712d6bd206251d2e1cc06fff"), looks := true }, kinds := [], alts := [], laidByText := true, laidKinds := [.handle], laidTests := true, laidLooks := .later }
def RuleMixedCardSaid : Prop := Claim7.holds Tryd.pinned (.plain (OpenSpec.ofChange ruleMixedSpec)) ruleMixedCard

/-- THE SECOND FORM's CARD OF 'quiltlaw08.RuleTexts'. -/
def ruleTextsUptoCard : Claim7 := { stood := { row := ruleTextsUptoRow, standIns := [], harness := (true, "7ef936f5d284717e1fadda0a4197390669e49fbd712d6bd206251d2e1cc06fff"), looks := true }, kinds := [], alts := [], laidByText := true, laidKinds := [.handle], laidTests := true, laidLooks := .later }
def RuleTextsUptoCardSaid : Prop := Claim7.holds Tryd.pinned (.plain (OpenSpec.upto ruleTextsSpec)) ruleTextsUptoCard

/-- THE SECOND FORM's CARD OF 'quiltlaw08.RuleNexts'. -/
def ruleNextsUptoCard : Claim7 := { stood := { row := ruleNextsUptoRow, standIns := [], harness := (true, "7ef936f5d284717e1fadda0a4197390669e49fbd712d6bd206251d2e1cc06fff"), looks := true }, kinds := [], alts := [], laidByText := true, laidKinds := [.handle], laidTests := true, laidLooks := .later }
def RuleNextsUptoCardSaid : Prop := Claim7.holds Tryd.pinned (.plain (OpenSpec.upto ruleNextsSpec)) ruleNextsUptoCard

/-- THE SECOND FORM's CARD OF 'quiltlaw08.RuleMixed'. -/
def ruleMixedUptoCard : Claim7 := { stood := { row := ruleMixedUptoRow, standIns := [], harness := (true, "7ef936f5d284717e1fadda0a4197390669e49fbd712d6bd206251d2e1cc06fff"), looks := true }, kinds := [], alts := [], laidByText := true, laidKinds := [.handle], laidTests := true, laidLooks := .later }
def RuleMixedUptoCardSaid : Prop := Claim7.holds Tryd.pinned (.plain (OpenSpec.upto ruleMixedSpec)) ruleMixedUptoCard
end Rows
end Go.Proofs.YtcgpjfcfokiagaaDoor

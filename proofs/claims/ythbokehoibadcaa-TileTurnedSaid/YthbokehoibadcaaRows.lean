/-
  No cell of these rows narrows 'for every input' (looked for: loops, veiled, ifaces, maps, wideKeys, modest, calm, conditions, laid).
  DERIVED. THE GIVEN ROWS OF THIS SEAT. 4 by the template 'for every input the law returns true; each argument reads behind the call as it read before'; 0 by the template 'total and deterministic' (their statements: YthbokehoibadcaaTotals.lean).
  GIVEN WITH THE SEED: the statements are not yours to turn. If you find one false, say at which input.
  Laid BY PROGRAM, IN A SANDBOX (cutbox-rows.mjs): the forced cells as the released guide's own fill.sh prints them over the translation 684fe8af35c7da9d… (all of the seat's roots in one cut). By AI agents, Wed Nov 11 2026. No macro, syntax, notation, axiom, sorry.
-/
import Derived.Test.YthbokehoibadcaaChecked
import GoSem.Claim
import GoSem.ClaimJoined
import GoSem.ClaimMapViews
import Derived.JoinedTies
import Derived.KernelRfl
namespace Go.Proofs.Ythbokehoibadcaa
/- THE CELL 'sum', in the pinned program and in every row, IS THE sha256 OF THE DUMP (.gsa) THAT YthbokehoibadcaaProg.lean LOADS. Nothing in Lean hashes anything: it is a label: what it is worth is what the hold of that sum in a sandbox is worth. -/
noncomputable def Try.pinned : Pinned := { name := "ythbokehoibadcaa", sum := "684fe8af35c7da9d135e7a0f04f3cb1fc952f84df2783f168b4a1ad528451fda", checked := Try.checked }
namespace Rows
def none {H : Type} : Left H := { results := [], args := [] }

/-- 'quiltlaw09.TileTurned': WHATEVER THE INPUT: true; the input reads as it did. -/
def tileTurnedSpec : ChangeSpec := { name := "tileTurned", fn := fun _ => fun
  | [d1, d2, d3] => { results := [.lit (.bool true)], args := [d1, d2, d3] }
  | _ => none }
def tileTurnedRow : OpenClaim := { program := "ythbokehoibadcaa", sum := "684fe8af35c7da9d135e7a0f04f3cb1fc952f84df2783f168b4a1ad528451fda", func := "quilt/quiltlaw09.TileTurned", spec := "tileTurned", unfollowed := true, recurses := true, apart := false }
def TileTurnedSaid : Prop := tileTurnedRow.holds Try.pinned (OpenSpec.ofChange tileTurnedSpec)

/-- ITS FALSE NEIGHBOUR: 'it returns false'. Refute it at one input. -/
def tileTurnedWrong : ChangeSpec := { name := "tileTurned", fn := fun _ => fun
  | [d1, d2, d3] => { results := [.lit (.bool false)], args := [d1, d2, d3] }
  | _ => none }
def TileTurnedWrongFalsely : Prop := tileTurnedRow.holds Try.pinned (OpenSpec.ofChange tileTurnedWrong)

/-- 'quiltlaw09.TileSteps': WHATEVER THE INPUT: true; the input reads as it did. -/
def tileStepsSpec : ChangeSpec := { name := "tileSteps", fn := fun _ => fun
  | [d1, d2, d3] => { results := [.lit (.bool true)], args := [d1, d2, d3] }
  | _ => none }
def tileStepsRow : OpenClaim := { program := "ythbokehoibadcaa", sum := "684fe8af35c7da9d135e7a0f04f3cb1fc952f84df2783f168b4a1ad528451fda", func := "quilt/quiltlaw09.TileSteps", spec := "tileSteps", unfollowed := true, recurses := true, apart := false }
def TileStepsSaid : Prop := tileStepsRow.holds Try.pinned (OpenSpec.ofChange tileStepsSpec)

/-- ITS FALSE NEIGHBOUR: 'it returns false'. Refute it at one input. -/
def tileStepsWrong : ChangeSpec := { name := "tileSteps", fn := fun _ => fun
  | [d1, d2, d3] => { results := [.lit (.bool false)], args := [d1, d2, d3] }
  | _ => none }
def TileStepsWrongFalsely : Prop := tileStepsRow.holds Try.pinned (OpenSpec.ofChange tileStepsWrong)

/-- 'quiltlaw09.TileBuilt': WHATEVER THE INPUT: true; the input reads as it did. -/
def tileBuiltSpec : ChangeSpec := { name := "tileBuilt", fn := fun _ => fun
  | [d] => { results := [.lit (.bool true)], args := [d] }
  | _ => none }
def tileBuiltRow : OpenClaim := { program := "ythbokehoibadcaa", sum := "684fe8af35c7da9d135e7a0f04f3cb1fc952f84df2783f168b4a1ad528451fda", func := "quilt/quiltlaw09.TileBuilt", spec := "tileBuilt", unfollowed := true, recurses := true, apart := false }
def TileBuiltSaid : Prop := tileBuiltRow.holds Try.pinned (OpenSpec.ofChange tileBuiltSpec)

/-- ITS FALSE NEIGHBOUR: 'it returns false'. Refute it at one input. -/
def tileBuiltWrong : ChangeSpec := { name := "tileBuilt", fn := fun _ => fun
  | [d] => { results := [.lit (.bool false)], args := [d] }
  | _ => none }
def TileBuiltWrongFalsely : Prop := tileBuiltRow.holds Try.pinned (OpenSpec.ofChange tileBuiltWrong)

/-- 'quiltlaw09.TileStill': WHATEVER THE INPUT: true; the input reads as it did. -/
def tileStillSpec : ChangeSpec := { name := "tileStill", fn := fun _ => fun
  | [d1, d2, d3] => { results := [.lit (.bool true)], args := [d1, d2, d3] }
  | _ => none }
def tileStillRow : OpenClaim := { program := "ythbokehoibadcaa", sum := "684fe8af35c7da9d135e7a0f04f3cb1fc952f84df2783f168b4a1ad528451fda", func := "quilt/quiltlaw09.TileStill", spec := "tileStill", unfollowed := true, recurses := true, apart := false }
def TileStillSaid : Prop := tileStillRow.holds Try.pinned (OpenSpec.ofChange tileStillSpec)

/-- ITS FALSE NEIGHBOUR: 'it returns false'. Refute it at one input. -/
def tileStillWrong : ChangeSpec := { name := "tileStill", fn := fun _ => fun
  | [d1, d2, d3] => { results := [.lit (.bool false)], args := [d1, d2, d3] }
  | _ => none }
def TileStillWrongFalsely : Prop := tileStillRow.holds Try.pinned (OpenSpec.ofChange tileStillWrong)

/- THE SECOND FORM. 'bulk': how many values and letters a reading holds, each counted each time it is reached (what is shared counts as often as it is met; a slice's spare places count too). A statement '..UptoSaid' is the law's where the arguments, and the package variables that the reading takes, are together of bulk at most 1048576: NARROWER than '..Said'. Prove '..Said' where nothing that the law and all that it calls make is longer than what came in: it says more and counts as full. Else prove '..UptoSaid'. A law counts once. -/
mutual
def uptoBulk {H : Type} : DataW H → Nat
  | .lit (.string bytes) => bytes.length + 1
  | .lit _ => 1
  | .nil => 1
  | .ptr d => uptoBulk d + 1
  | .slice elems spare => uptoBulkAll elems + uptoBulkAll spare + 1
  | .agg parts => uptoBulkAll parts + 1
  | .iface _ d => uptoBulk d + 1
  | .map entries => uptoBulkEntries entries + 1
  | .held _ => 1
def uptoBulkAll {H : Type} : List (DataW H) → Nat
  | [] => 0
  | d :: r => uptoBulk d + uptoBulkAll r
def uptoBulkEntries {H : Type} : List (Lit × DataW H) → Nat
  | [] => 0
  | x :: r => uptoBulkEntry x + uptoBulkEntries r
def uptoBulkEntry {H : Type} : Lit × DataW H → Nat
  | (.string bytes, d) => bytes.length + uptoBulk d + 1
  | (_, d) => uptoBulk d + 1
 end
def uptoSmall : (H : Type) → List (DataW H) → Bool := fun _ ds => decide (uptoBulkAll ds ≤ 1048576)
def OpenSpec.upto (s : _root_.Go.ChangeSpec) : _root_.Go.OpenSpec := { _root_.Go.OpenSpec.ofChange s with cond := some uptoSmall }

/-- 'quiltlaw09.TileTurned', WHERE WHAT IT READS IS OF BULK AT MOST 1048576: true; the input reads as it did. -/
def tileTurnedUptoRow : OpenClaim := { program := "ythbokehoibadcaa", sum := "684fe8af35c7da9d135e7a0f04f3cb1fc952f84df2783f168b4a1ad528451fda", func := "quilt/quiltlaw09.TileTurned", spec := "tileTurned", unfollowed := true, recurses := true, apart := false, narrowed := true }
def TileTurnedUptoSaid : Prop := tileTurnedUptoRow.holds Try.pinned (OpenSpec.upto tileTurnedSpec)

/-- 'quiltlaw09.TileSteps', WHERE WHAT IT READS IS OF BULK AT MOST 1048576: true; the input reads as it did. -/
def tileStepsUptoRow : OpenClaim := { program := "ythbokehoibadcaa", sum := "684fe8af35c7da9d135e7a0f04f3cb1fc952f84df2783f168b4a1ad528451fda", func := "quilt/quiltlaw09.TileSteps", spec := "tileSteps", unfollowed := true, recurses := true, apart := false, narrowed := true }
def TileStepsUptoSaid : Prop := tileStepsUptoRow.holds Try.pinned (OpenSpec.upto tileStepsSpec)

/-- 'quiltlaw09.TileBuilt', WHERE WHAT IT READS IS OF BULK AT MOST 1048576: true; the input reads as it did. -/
def tileBuiltUptoRow : OpenClaim := { program := "ythbokehoibadcaa", sum := "684fe8af35c7da9d135e7a0f04f3cb1fc952f84df2783f168b4a1ad528451fda", func := "quilt/quiltlaw09.TileBuilt", spec := "tileBuilt", unfollowed := true, recurses := true, apart := false, narrowed := true }
def TileBuiltUptoSaid : Prop := tileBuiltUptoRow.holds Try.pinned (OpenSpec.upto tileBuiltSpec)

/-- 'quiltlaw09.TileStill', WHERE WHAT IT READS IS OF BULK AT MOST 1048576: true; the input reads as it did. -/
def tileStillUptoRow : OpenClaim := { program := "ythbokehoibadcaa", sum := "684fe8af35c7da9d135e7a0f04f3cb1fc952f84df2783f168b4a1ad528451fda", func := "quilt/quiltlaw09.TileStill", spec := "tileStill", unfollowed := true, recurses := true, apart := false, narrowed := true }
def TileStillUptoSaid : Prop := tileStillUptoRow.holds Try.pinned (OpenSpec.upto tileStillSpec)

end Rows
end Go.Proofs.Ythbokehoibadcaa

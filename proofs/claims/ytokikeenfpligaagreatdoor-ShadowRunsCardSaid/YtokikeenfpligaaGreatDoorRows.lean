/-
  NARROWER THAN 'FOR EVERY INPUT', by the rows' own cells (each row's printed sentence says how): ShadowRuns: laid · ShadowNew: laid · ShadowAtomic: laid · ShadowRots: laid · ShadowBack: laid.
  DERIVED. THE GIVEN ROWS OF THIS SEAT. 5 by the template 'for every input the law returns true; each argument reads behind the call as it read before'; 0 by the template 'total and deterministic' (their statements: YtokikeenfpligaaGreatDoorTotals.lean).
  GIVEN WITH THE SEED: the statements are not yours to turn. If you find one false, say at which input.
  Laid BY PROGRAM, IN A SANDBOX (cutbox-rows.mjs): the forced cells as the released guide's own fill.sh prints them over the translation 98eb2fbf55d61b7e… (all of the seat's roots in one cut). By AI agents, Wed Nov 11 2026. No macro, syntax, notation, axiom, sorry.
-/
import Derived.Test.YtokikeenfpligaaGreatDoorChecked
import GoSem.Claim
import GoSem.ClaimJoined
import GoSem.ClaimMapViews
import Derived.JoinedTies
import Derived.KernelRfl
namespace Go.Proofs.YtokikeenfpligaaGreatDoor
/- THE CELL 'sum', in the pinned program and in every row, IS THE sha256 OF THE DUMP (.gsa) THAT YtokikeenfpligaaGreatDoorProg.lean LOADS. Nothing in Lean hashes anything: it is a label: what it is worth is what the hold of that sum in a sandbox is worth. -/
noncomputable def Tryz.pinned : Pinned := { name := "ytokikeenfpligaagreatdoor", sum := "98eb2fbf55d61b7e56edd4b93da9c04bf032e3ec6815cecd69cc3430ff96a14b", checked := Tryz.checked }
namespace Rows
def none {H : Type} : Left H := { results := [], args := [] }

/- WHAT THE LISTED PACKAGE-LEVEL VARIABLES READ AS WHEN THE CALL BEGINS. Each datum BY PROGRAM (the guide's laid-datum.mjs) off the statement by which the dump's own 'gosem.cut.vars' lays the variable. In a bare row this is a premise. The card (YtokikeenfpligaaGreatDoorCards.lean) ties it to the program's text. -/
def laid_errors_errorType {H : Type} : DataW H := .iface "internal/reflectlite.rtype" (.agg [.ptr (.lit (.string [101, 114, 114, 111, 114]))])

/-- 'quiltlaw05.ShadowRuns': WHATEVER THE INPUT: true; the input reads as it did. -/
def shadowRunsSpec : ChangeSpec := { name := "shadowRuns", fn := fun _ => fun
  | [d1, d2, d3] => { results := [.lit (.bool true)], args := [d1, d2, d3] }
  | _ => none }
def shadowRunsRow : OpenClaim := { program := "ytokikeenfpligaagreatdoor", sum := "98eb2fbf55d61b7e56edd4b93da9c04bf032e3ec6815cecd69cc3430ff96a14b", func := "quilt/quiltlaw05.ShadowRuns", spec := "shadowRuns", inPlace := ["sync/atomic.AddInt64", "maps.clone", "internal/reflectlite.TypeOf", "internal/reflectlite.ValueOf", "(internal/reflectlite.Value).Type", "(internal/reflectlite.Value).IsNil", "(internal/reflectlite.Value).Elem", "(internal/reflectlite.Value).Set"], unfollowed := true, recurses := true, named := ["errors.errorType"], apart := false, laid := [("errors.errorType", laid_errors_errorType)] }
def ShadowRunsSaid : Prop := shadowRunsRow.holds Tryz.pinned (OpenSpec.ofChange shadowRunsSpec)

/-- ITS FALSE NEIGHBOUR: 'it returns false'. Refute it at one input. -/
def shadowRunsWrong : ChangeSpec := { name := "shadowRuns", fn := fun _ => fun
  | [d1, d2, d3] => { results := [.lit (.bool false)], args := [d1, d2, d3] }
  | _ => none }
def ShadowRunsWrongFalsely : Prop := shadowRunsRow.holds Tryz.pinned (OpenSpec.ofChange shadowRunsWrong)

/-- 'quiltlaw05.ShadowNew': WHATEVER THE INPUT: true; the input reads as it did. -/
def shadowNewSpec : ChangeSpec := { name := "shadowNew", fn := fun _ => fun
  | [d1, d2] => { results := [.lit (.bool true)], args := [d1, d2] }
  | _ => none }
def shadowNewRow : OpenClaim := { program := "ytokikeenfpligaagreatdoor", sum := "98eb2fbf55d61b7e56edd4b93da9c04bf032e3ec6815cecd69cc3430ff96a14b", func := "quilt/quiltlaw05.ShadowNew", spec := "shadowNew", inPlace := ["sync/atomic.AddInt64", "internal/reflectlite.TypeOf", "internal/reflectlite.ValueOf", "(internal/reflectlite.Value).Type", "(internal/reflectlite.Value).IsNil", "(internal/reflectlite.Value).Elem", "(internal/reflectlite.Value).Set", "maps.clone"], unfollowed := true, recurses := true, named := ["errors.errorType"], apart := false, laid := [("errors.errorType", laid_errors_errorType)] }
def ShadowNewSaid : Prop := shadowNewRow.holds Tryz.pinned (OpenSpec.ofChange shadowNewSpec)

/-- ITS FALSE NEIGHBOUR: 'it returns false'. Refute it at one input. -/
def shadowNewWrong : ChangeSpec := { name := "shadowNew", fn := fun _ => fun
  | [d1, d2] => { results := [.lit (.bool false)], args := [d1, d2] }
  | _ => none }
def ShadowNewWrongFalsely : Prop := shadowNewRow.holds Tryz.pinned (OpenSpec.ofChange shadowNewWrong)

/-- 'quiltlaw05.ShadowAtomic': WHATEVER THE INPUT: true; the input reads as it did. -/
def shadowAtomicSpec : ChangeSpec := { name := "shadowAtomic", fn := fun _ => fun
  | [d1, d2, d3] => { results := [.lit (.bool true)], args := [d1, d2, d3] }
  | _ => none }
def shadowAtomicRow : OpenClaim := { program := "ytokikeenfpligaagreatdoor", sum := "98eb2fbf55d61b7e56edd4b93da9c04bf032e3ec6815cecd69cc3430ff96a14b", func := "quilt/quiltlaw05.ShadowAtomic", spec := "shadowAtomic", inPlace := ["sync/atomic.AddInt64", "maps.clone", "internal/reflectlite.TypeOf", "internal/reflectlite.ValueOf", "(internal/reflectlite.Value).Type", "(internal/reflectlite.Value).IsNil", "(internal/reflectlite.Value).Elem", "(internal/reflectlite.Value).Set"], unfollowed := true, recurses := true, named := ["errors.errorType"], apart := false, laid := [("errors.errorType", laid_errors_errorType)] }
def ShadowAtomicSaid : Prop := shadowAtomicRow.holds Tryz.pinned (OpenSpec.ofChange shadowAtomicSpec)

/-- ITS FALSE NEIGHBOUR: 'it returns false'. Refute it at one input. -/
def shadowAtomicWrong : ChangeSpec := { name := "shadowAtomic", fn := fun _ => fun
  | [d1, d2, d3] => { results := [.lit (.bool false)], args := [d1, d2, d3] }
  | _ => none }
def ShadowAtomicWrongFalsely : Prop := shadowAtomicRow.holds Tryz.pinned (OpenSpec.ofChange shadowAtomicWrong)

/-- 'quiltlaw05.ShadowRots': WHATEVER THE INPUT: true; the input reads as it did. -/
def shadowRotsSpec : ChangeSpec := { name := "shadowRots", fn := fun _ => fun
  | [d1, d2, d3] => { results := [.lit (.bool true)], args := [d1, d2, d3] }
  | _ => none }
def shadowRotsRow : OpenClaim := { program := "ytokikeenfpligaagreatdoor", sum := "98eb2fbf55d61b7e56edd4b93da9c04bf032e3ec6815cecd69cc3430ff96a14b", func := "quilt/quiltlaw05.ShadowRots", spec := "shadowRots", inPlace := ["sync/atomic.AddInt64", "maps.clone", "internal/reflectlite.TypeOf", "internal/reflectlite.ValueOf", "(internal/reflectlite.Value).Type", "(internal/reflectlite.Value).IsNil", "(internal/reflectlite.Value).Elem", "(internal/reflectlite.Value).Set"], unfollowed := true, recurses := true, named := ["errors.errorType"], apart := false, laid := [("errors.errorType", laid_errors_errorType)] }
def ShadowRotsSaid : Prop := shadowRotsRow.holds Tryz.pinned (OpenSpec.ofChange shadowRotsSpec)

/-- ITS FALSE NEIGHBOUR: 'it returns false'. Refute it at one input. -/
def shadowRotsWrong : ChangeSpec := { name := "shadowRots", fn := fun _ => fun
  | [d1, d2, d3] => { results := [.lit (.bool false)], args := [d1, d2, d3] }
  | _ => none }
def ShadowRotsWrongFalsely : Prop := shadowRotsRow.holds Tryz.pinned (OpenSpec.ofChange shadowRotsWrong)

/-- 'quiltlaw05.ShadowBack': WHATEVER THE INPUT: true; the input reads as it did. -/
def shadowBackSpec : ChangeSpec := { name := "shadowBack", fn := fun _ => fun
  | [d1, d2] => { results := [.lit (.bool true)], args := [d1, d2] }
  | _ => none }
def shadowBackRow : OpenClaim := { program := "ytokikeenfpligaagreatdoor", sum := "98eb2fbf55d61b7e56edd4b93da9c04bf032e3ec6815cecd69cc3430ff96a14b", func := "quilt/quiltlaw05.ShadowBack", spec := "shadowBack", inPlace := ["sync/atomic.AddInt64", "maps.clone", "internal/reflectlite.TypeOf", "internal/reflectlite.ValueOf", "(internal/reflectlite.Value).Type", "(internal/reflectlite.Value).IsNil", "(internal/reflectlite.Value).Elem", "(internal/reflectlite.Value).Set"], unfollowed := true, recurses := true, named := ["errors.errorType"], apart := false, laid := [("errors.errorType", laid_errors_errorType)] }
def ShadowBackSaid : Prop := shadowBackRow.holds Tryz.pinned (OpenSpec.ofChange shadowBackSpec)

/-- ITS FALSE NEIGHBOUR: 'it returns false'. Refute it at one input. -/
def shadowBackWrong : ChangeSpec := { name := "shadowBack", fn := fun _ => fun
  | [d1, d2] => { results := [.lit (.bool false)], args := [d1, d2] }
  | _ => none }
def ShadowBackWrongFalsely : Prop := shadowBackRow.holds Tryz.pinned (OpenSpec.ofChange shadowBackWrong)

/- THE SECOND FORM. 'bulk': how many values and letters a reading holds, each counted each time it is reached (what is shared counts as often as it is met; a slice's spare places count too). A statement '..UptoSaid' is the law's where the arguments, and the package variables that the reading takes, are together of bulk at most 1048576: NARROWER than '..Said'. Prove '..Said' where nothing that the law and all that it calls make is longer than what came in: it says more and counts as full. Else prove '..UptoSaid'. A law counts once. -/
mutual
def uptoBulk {H : Type} : DataW H → Nat
  | .lit (.string bytes) => bytes.length + 1
  | .lit _ => 1
  | .nil => 1
  | .ptr d => uptoBulk d + 1
  | .slice elems spare => uptoBulkAll elems + uptoBulkAll spare + 1
  | .agg parts => uptoBulkAll parts + 1
  | .iface _ d => uptoBulk d + 1
  | .map entries => uptoBulkEntries entries + 1
  | .held _ => 1
def uptoBulkAll {H : Type} : List (DataW H) → Nat
  | [] => 0
  | d :: r => uptoBulk d + uptoBulkAll r
def uptoBulkEntries {H : Type} : List (Lit × DataW H) → Nat
  | [] => 0
  | x :: r => uptoBulkEntry x + uptoBulkEntries r
def uptoBulkEntry {H : Type} : Lit × DataW H → Nat
  | (.string bytes, d) => bytes.length + uptoBulk d + 1
  | (_, d) => uptoBulk d + 1
 end
def uptoSmall : (H : Type) → List (DataW H) → Bool := fun _ ds => decide (uptoBulkAll ds ≤ 1048576)
def OpenSpec.upto (s : _root_.Go.ChangeSpec) : _root_.Go.OpenSpec := { _root_.Go.OpenSpec.ofChange s with cond := some uptoSmall }

/-- 'quiltlaw05.ShadowRuns', WHERE WHAT IT READS IS OF BULK AT MOST 1048576: true; the input reads as it did. -/
def shadowRunsUptoRow : OpenClaim := { program := "ytokikeenfpligaagreatdoor", sum := "98eb2fbf55d61b7e56edd4b93da9c04bf032e3ec6815cecd69cc3430ff96a14b", func := "quilt/quiltlaw05.ShadowRuns", spec := "shadowRuns", inPlace := ["sync/atomic.AddInt64", "maps.clone", "internal/reflectlite.TypeOf", "internal/reflectlite.ValueOf", "(internal/reflectlite.Value).Type", "(internal/reflectlite.Value).IsNil", "(internal/reflectlite.Value).Elem", "(internal/reflectlite.Value).Set"], unfollowed := true, recurses := true, named := ["errors.errorType"], apart := false, laid := [("errors.errorType", laid_errors_errorType)], narrowed := true }
def ShadowRunsUptoSaid : Prop := shadowRunsUptoRow.holds Tryz.pinned (OpenSpec.upto shadowRunsSpec)

/-- 'quiltlaw05.ShadowNew', WHERE WHAT IT READS IS OF BULK AT MOST 1048576: true; the input reads as it did. -/
def shadowNewUptoRow : OpenClaim := { program := "ytokikeenfpligaagreatdoor", sum := "98eb2fbf55d61b7e56edd4b93da9c04bf032e3ec6815cecd69cc3430ff96a14b", func := "quilt/quiltlaw05.ShadowNew", spec := "shadowNew", inPlace := ["sync/atomic.AddInt64", "internal/reflectlite.TypeOf", "internal/reflectlite.ValueOf", "(internal/reflectlite.Value).Type", "(internal/reflectlite.Value).IsNil", "(internal/reflectlite.Value).Elem", "(internal/reflectlite.Value).Set", "maps.clone"], unfollowed := true, recurses := true, named := ["errors.errorType"], apart := false, laid := [("errors.errorType", laid_errors_errorType)], narrowed := true }
def ShadowNewUptoSaid : Prop := shadowNewUptoRow.holds Tryz.pinned (OpenSpec.upto shadowNewSpec)

/-- 'quiltlaw05.ShadowAtomic', WHERE WHAT IT READS IS OF BULK AT MOST 1048576: true; the input reads as it did. -/
def shadowAtomicUptoRow : OpenClaim := { program := "ytokikeenfpligaagreatdoor", sum := "98eb2fbf55d61b7e56edd4b93da9c04bf032e3ec6815cecd69cc3430ff96a14b", func := "quilt/quiltlaw05.ShadowAtomic", spec := "shadowAtomic", inPlace := ["sync/atomic.AddInt64", "maps.clone", "internal/reflectlite.TypeOf", "internal/reflectlite.ValueOf", "(internal/reflectlite.Value).Type", "(internal/reflectlite.Value).IsNil", "(internal/reflectlite.Value).Elem", "(internal/reflectlite.Value).Set"], unfollowed := true, recurses := true, named := ["errors.errorType"], apart := false, laid := [("errors.errorType", laid_errors_errorType)], narrowed := true }
def ShadowAtomicUptoSaid : Prop := shadowAtomicUptoRow.holds Tryz.pinned (OpenSpec.upto shadowAtomicSpec)

/-- 'quiltlaw05.ShadowRots', WHERE WHAT IT READS IS OF BULK AT MOST 1048576: true; the input reads as it did. -/
def shadowRotsUptoRow : OpenClaim := { program := "ytokikeenfpligaagreatdoor", sum := "98eb2fbf55d61b7e56edd4b93da9c04bf032e3ec6815cecd69cc3430ff96a14b", func := "quilt/quiltlaw05.ShadowRots", spec := "shadowRots", inPlace := ["sync/atomic.AddInt64", "maps.clone", "internal/reflectlite.TypeOf", "internal/reflectlite.ValueOf", "(internal/reflectlite.Value).Type", "(internal/reflectlite.Value).IsNil", "(internal/reflectlite.Value).Elem", "(internal/reflectlite.Value).Set"], unfollowed := true, recurses := true, named := ["errors.errorType"], apart := false, laid := [("errors.errorType", laid_errors_errorType)], narrowed := true }
def ShadowRotsUptoSaid : Prop := shadowRotsUptoRow.holds Tryz.pinned (OpenSpec.upto shadowRotsSpec)

/-- 'quiltlaw05.ShadowBack', WHERE WHAT IT READS IS OF BULK AT MOST 1048576: true; the input reads as it did. -/
def shadowBackUptoRow : OpenClaim := { program := "ytokikeenfpligaagreatdoor", sum := "98eb2fbf55d61b7e56edd4b93da9c04bf032e3ec6815cecd69cc3430ff96a14b", func := "quilt/quiltlaw05.ShadowBack", spec := "shadowBack", inPlace := ["sync/atomic.AddInt64", "maps.clone", "internal/reflectlite.TypeOf", "internal/reflectlite.ValueOf", "(internal/reflectlite.Value).Type", "(internal/reflectlite.Value).IsNil", "(internal/reflectlite.Value).Elem", "(internal/reflectlite.Value).Set"], unfollowed := true, recurses := true, named := ["errors.errorType"], apart := false, laid := [("errors.errorType", laid_errors_errorType)], narrowed := true }
def ShadowBackUptoSaid : Prop := shadowBackUptoRow.holds Tryz.pinned (OpenSpec.upto shadowBackSpec)

end Rows
end Go.Proofs.YtokikeenfpligaaGreatDoor

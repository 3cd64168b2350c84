/-
  No cell of these rows narrows 'for every input' (looked for: loops, veiled, ifaces, maps, wideKeys, modest, calm, conditions, laid).
  DERIVED. THE GIVEN ROWS OF THIS SEAT. 6 by the template 'for every input the law returns true; each argument reads behind the call as it read before'; 0 by the template 'total and deterministic' (their statements: YtnonddjmcjllfaaTotals.lean).
  GIVEN WITH THE SEED: the statements are not yours to turn. If you find one false, say at which input.
  Laid BY PROGRAM, IN A SANDBOX (cutbox-rows.mjs): the forced cells as the released guide's own fill.sh prints them over the translation 63c1a4cf25572a1e… (all of the seat's roots in one cut). By AI agents, Wed Nov 11 2026. No macro, syntax, notation, axiom, sorry.
-/
import Derived.Test.YtnonddjmcjllfaaChecked
import GoSem.Claim
import GoSem.ClaimJoined
import GoSem.ClaimMapViews
import Derived.JoinedTies
import Derived.KernelRfl
namespace Go.Proofs.Ytnonddjmcjllfaa
/- THE CELL 'sum', in the pinned program and in every row, IS THE sha256 OF THE DUMP (.gsa) THAT YtnonddjmcjllfaaProg.lean LOADS. Nothing in Lean hashes anything: it is a label: what it is worth is what the hold of that sum in a sandbox is worth. -/
noncomputable def Try.pinned : Pinned := { name := "ytnonddjmcjllfaa", sum := "63c1a4cf25572a1e4c3fb58572aacb87552592711b7ce415dcf77be0bdae6f8b", checked := Try.checked }
namespace Rows
def none {H : Type} : Left H := { results := [], args := [] }

/-- 'quiltlaw06.HashMixes': WHATEVER THE INPUT: true; the input reads as it did. -/
def hashMixesSpec : ChangeSpec := { name := "hashMixes", fn := fun _ => fun
  | [d1, d2, d3] => { results := [.lit (.bool true)], args := [d1, d2, d3] }
  | _ => none }
def hashMixesRow : OpenClaim := { program := "ytnonddjmcjllfaa", sum := "63c1a4cf25572a1e4c3fb58572aacb87552592711b7ce415dcf77be0bdae6f8b", func := "quilt/quiltlaw06.HashMixes", spec := "hashMixes", apart := false }
def HashMixesSaid : Prop := hashMixesRow.holds Try.pinned (OpenSpec.ofChange hashMixesSpec)

/-- ITS FALSE NEIGHBOUR: 'it returns false'. Refute it at one input. -/
def hashMixesWrong : ChangeSpec := { name := "hashMixes", fn := fun _ => fun
  | [d1, d2, d3] => { results := [.lit (.bool false)], args := [d1, d2, d3] }
  | _ => none }
def HashMixesWrongFalsely : Prop := hashMixesRow.holds Try.pinned (OpenSpec.ofChange hashMixesWrong)

/-- 'quiltlaw06.HashBack': WHATEVER THE INPUT: true; the input reads as it did. -/
def hashBackSpec : ChangeSpec := { name := "hashBack", fn := fun _ => fun
  | [d1, d2] => { results := [.lit (.bool true)], args := [d1, d2] }
  | _ => none }
def hashBackRow : OpenClaim := { program := "ytnonddjmcjllfaa", sum := "63c1a4cf25572a1e4c3fb58572aacb87552592711b7ce415dcf77be0bdae6f8b", func := "quilt/quiltlaw06.HashBack", spec := "hashBack", apart := false }
def HashBackSaid : Prop := hashBackRow.holds Try.pinned (OpenSpec.ofChange hashBackSpec)

/-- ITS FALSE NEIGHBOUR: 'it returns false'. Refute it at one input. -/
def hashBackWrong : ChangeSpec := { name := "hashBack", fn := fun _ => fun
  | [d1, d2] => { results := [.lit (.bool false)], args := [d1, d2] }
  | _ => none }
def HashBackWrongFalsely : Prop := hashBackRow.holds Try.pinned (OpenSpec.ofChange hashBackWrong)

/-- 'quiltlaw06.HashOnce': WHATEVER THE INPUT: true; the input reads as it did. -/
def hashOnceSpec : ChangeSpec := { name := "hashOnce", fn := fun _ => fun
  | [d1, d2, d3] => { results := [.lit (.bool true)], args := [d1, d2, d3] }
  | _ => none }
def hashOnceRow : OpenClaim := { program := "ytnonddjmcjllfaa", sum := "63c1a4cf25572a1e4c3fb58572aacb87552592711b7ce415dcf77be0bdae6f8b", func := "quilt/quiltlaw06.HashOnce", spec := "hashOnce", apart := false }
def HashOnceSaid : Prop := hashOnceRow.holds Try.pinned (OpenSpec.ofChange hashOnceSpec)

/-- ITS FALSE NEIGHBOUR: 'it returns false'. Refute it at one input. -/
def hashOnceWrong : ChangeSpec := { name := "hashOnce", fn := fun _ => fun
  | [d1, d2, d3] => { results := [.lit (.bool false)], args := [d1, d2, d3] }
  | _ => none }
def HashOnceWrongFalsely : Prop := hashOnceRow.holds Try.pinned (OpenSpec.ofChange hashOnceWrong)

/-- 'quiltlaw06.HashFronts': WHATEVER THE INPUT: true; the input reads as it did. -/
def hashFrontsSpec : ChangeSpec := { name := "hashFronts", fn := fun _ => fun
  | [d1, d2, d3] => { results := [.lit (.bool true)], args := [d1, d2, d3] }
  | _ => none }
def hashFrontsRow : OpenClaim := { program := "ytnonddjmcjllfaa", sum := "63c1a4cf25572a1e4c3fb58572aacb87552592711b7ce415dcf77be0bdae6f8b", func := "quilt/quiltlaw06.HashFronts", spec := "hashFronts", apart := false }
def HashFrontsSaid : Prop := hashFrontsRow.holds Try.pinned (OpenSpec.ofChange hashFrontsSpec)

/-- ITS FALSE NEIGHBOUR: 'it returns false'. Refute it at one input. -/
def hashFrontsWrong : ChangeSpec := { name := "hashFronts", fn := fun _ => fun
  | [d1, d2, d3] => { results := [.lit (.bool false)], args := [d1, d2, d3] }
  | _ => none }
def HashFrontsWrongFalsely : Prop := hashFrontsRow.holds Try.pinned (OpenSpec.ofChange hashFrontsWrong)

/-- 'quiltlaw06.HashChains': WHATEVER THE INPUT: true; the input reads as it did. -/
def hashChainsSpec : ChangeSpec := { name := "hashChains", fn := fun _ => fun
  | [d1, d2] => { results := [.lit (.bool true)], args := [d1, d2] }
  | _ => none }
def hashChainsRow : OpenClaim := { program := "ytnonddjmcjllfaa", sum := "63c1a4cf25572a1e4c3fb58572aacb87552592711b7ce415dcf77be0bdae6f8b", func := "quilt/quiltlaw06.HashChains", spec := "hashChains", apart := false }
def HashChainsSaid : Prop := hashChainsRow.holds Try.pinned (OpenSpec.ofChange hashChainsSpec)

/-- ITS FALSE NEIGHBOUR: 'it returns false'. Refute it at one input. -/
def hashChainsWrong : ChangeSpec := { name := "hashChains", fn := fun _ => fun
  | [d1, d2] => { results := [.lit (.bool false)], args := [d1, d2] }
  | _ => none }
def HashChainsWrongFalsely : Prop := hashChainsRow.holds Try.pinned (OpenSpec.ofChange hashChainsWrong)

/-- 'quiltlaw06.HashTurns': WHATEVER THE INPUT: true; the input reads as it did. -/
def hashTurnsSpec : ChangeSpec := { name := "hashTurns", fn := fun _ => fun
  | [d1, d2] => { results := [.lit (.bool true)], args := [d1, d2] }
  | _ => none }
def hashTurnsRow : OpenClaim := { program := "ytnonddjmcjllfaa", sum := "63c1a4cf25572a1e4c3fb58572aacb87552592711b7ce415dcf77be0bdae6f8b", func := "quilt/quiltlaw06.HashTurns", spec := "hashTurns", apart := false }
def HashTurnsSaid : Prop := hashTurnsRow.holds Try.pinned (OpenSpec.ofChange hashTurnsSpec)

/-- ITS FALSE NEIGHBOUR: 'it returns false'. Refute it at one input. -/
def hashTurnsWrong : ChangeSpec := { name := "hashTurns", fn := fun _ => fun
  | [d1, d2] => { results := [.lit (.bool false)], args := [d1, d2] }
  | _ => none }
def HashTurnsWrongFalsely : Prop := hashTurnsRow.holds Try.pinned (OpenSpec.ofChange hashTurnsWrong)

/- THE SECOND FORM. 'bulk': how many values and letters a reading holds, each counted each time it is reached (what is shared counts as often as it is met; a slice's spare places count too). A statement '..UptoSaid' is the law's where the arguments, and the package variables that the reading takes, are together of bulk at most 1048576: NARROWER than '..Said'. Prove '..Said' where nothing that the law and all that it calls make is longer than what came in: it says more and counts as full. Else prove '..UptoSaid'. A law counts once. -/
mutual
def uptoBulk {H : Type} : DataW H → Nat
  | .lit (.string bytes) => bytes.length + 1
  | .lit _ => 1
  | .nil => 1
  | .ptr d => uptoBulk d + 1
  | .slice elems spare => uptoBulkAll elems + uptoBulkAll spare + 1
  | .agg parts => uptoBulkAll parts + 1
  | .iface _ d => uptoBulk d + 1
  | .map entries => uptoBulkEntries entries + 1
  | .held _ => 1
def uptoBulkAll {H : Type} : List (DataW H) → Nat
  | [] => 0
  | d :: r => uptoBulk d + uptoBulkAll r
def uptoBulkEntries {H : Type} : List (Lit × DataW H) → Nat
  | [] => 0
  | x :: r => uptoBulkEntry x + uptoBulkEntries r
def uptoBulkEntry {H : Type} : Lit × DataW H → Nat
  | (.string bytes, d) => bytes.length + uptoBulk d + 1
  | (_, d) => uptoBulk d + 1
 end
def uptoSmall : (H : Type) → List (DataW H) → Bool := fun _ ds => decide (uptoBulkAll ds ≤ 1048576)
def OpenSpec.upto (s : _root_.Go.ChangeSpec) : _root_.Go.OpenSpec := { _root_.Go.OpenSpec.ofChange s with cond := some uptoSmall }

/-- 'quiltlaw06.HashMixes', WHERE WHAT IT READS IS OF BULK AT MOST 1048576: true; the input reads as it did. -/
def hashMixesUptoRow : OpenClaim := { program := "ytnonddjmcjllfaa", sum := "63c1a4cf25572a1e4c3fb58572aacb87552592711b7ce415dcf77be0bdae6f8b", func := "quilt/quiltlaw06.HashMixes", spec := "hashMixes", apart := false, narrowed := true }
def HashMixesUptoSaid : Prop := hashMixesUptoRow.holds Try.pinned (OpenSpec.upto hashMixesSpec)

/-- 'quiltlaw06.HashBack', WHERE WHAT IT READS IS OF BULK AT MOST 1048576: true; the input reads as it did. -/
def hashBackUptoRow : OpenClaim := { program := "ytnonddjmcjllfaa", sum := "63c1a4cf25572a1e4c3fb58572aacb87552592711b7ce415dcf77be0bdae6f8b", func := "quilt/quiltlaw06.HashBack", spec := "hashBack", apart := false, narrowed := true }
def HashBackUptoSaid : Prop := hashBackUptoRow.holds Try.pinned (OpenSpec.upto hashBackSpec)

/-- 'quiltlaw06.HashOnce', WHERE WHAT IT READS IS OF BULK AT MOST 1048576: true; the input reads as it did. -/
def hashOnceUptoRow : OpenClaim := { program := "ytnonddjmcjllfaa", sum := "63c1a4cf25572a1e4c3fb58572aacb87552592711b7ce415dcf77be0bdae6f8b", func := "quilt/quiltlaw06.HashOnce", spec := "hashOnce", apart := false, narrowed := true }
def HashOnceUptoSaid : Prop := hashOnceUptoRow.holds Try.pinned (OpenSpec.upto hashOnceSpec)

/-- 'quiltlaw06.HashFronts', WHERE WHAT IT READS IS OF BULK AT MOST 1048576: true; the input reads as it did. -/
def hashFrontsUptoRow : OpenClaim := { program := "ytnonddjmcjllfaa", sum := "63c1a4cf25572a1e4c3fb58572aacb87552592711b7ce415dcf77be0bdae6f8b", func := "quilt/quiltlaw06.HashFronts", spec := "hashFronts", apart := false, narrowed := true }
def HashFrontsUptoSaid : Prop := hashFrontsUptoRow.holds Try.pinned (OpenSpec.upto hashFrontsSpec)

/-- 'quiltlaw06.HashChains', WHERE WHAT IT READS IS OF BULK AT MOST 1048576: true; the input reads as it did. -/
def hashChainsUptoRow : OpenClaim := { program := "ytnonddjmcjllfaa", sum := "63c1a4cf25572a1e4c3fb58572aacb87552592711b7ce415dcf77be0bdae6f8b", func := "quilt/quiltlaw06.HashChains", spec := "hashChains", apart := false, narrowed := true }
def HashChainsUptoSaid : Prop := hashChainsUptoRow.holds Try.pinned (OpenSpec.upto hashChainsSpec)

/-- 'quiltlaw06.HashTurns', WHERE WHAT IT READS IS OF BULK AT MOST 1048576: true; the input reads as it did. -/
def hashTurnsUptoRow : OpenClaim := { program := "ytnonddjmcjllfaa", sum := "63c1a4cf25572a1e4c3fb58572aacb87552592711b7ce415dcf77be0bdae6f8b", func := "quilt/quiltlaw06.HashTurns", spec := "hashTurns", apart := false, narrowed := true }
def HashTurnsUptoSaid : Prop := hashTurnsUptoRow.holds Try.pinned (OpenSpec.upto hashTurnsSpec)

end Rows
end Go.Proofs.Ytnonddjmcjllfaa

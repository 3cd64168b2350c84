/-
  THE WALKS of rule.Next, and of the document's May. Conditions: the parts are numbers of 16 bits.
-/

import Derived.Test.YtangbokcdgganaaGreatDoorRc
namespace Go.Proofs.YtangbokcdgganaaGreatDoor
open Go.RowKit Ru

def pick (b l : Nat) (x : Bool) (n : Nat) : Bool := if x then hs l n else hs b n
end Go.Proofs.YtangbokcdgganaaGreatDoor

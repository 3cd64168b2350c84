/-
  RLE, the plain side of Parse: texts as lists of bytes.
-/
import Derived.Test.YtangbokcdgganaaGreatDoorRv
import Derived.Test.YtangbokcdgganaaGreatDoorCa
import Derived.Lib.SlTrimSet
import Derived.Lib.IndexLaws
namespace Go.Proofs.YtangbokcdgganaaGreatDoor
open Go.Lib Go.Proofs.YtangbokcdgganaaGreatDoor.Ce Go.Proofs.YtangbokcdgganaaGreatDoor.Ru

namespace Rl
def most : Nat := 274877906944
def isNum (c : UInt8) : Bool := decide (48 ≤ c.toNat) && decide (c.toNat ≤ 57)
def numL : List UInt8 → Nat → Nat → Nat × Nat
  | [], n, k => (n, k)
  | c :: t, n, k => if isNum c = true then numL t (min (n * 10 + (c.toNat - 48)) 274877906945) (k + 1) else (n, k)
theorem numL_le : ∀ (l : List UInt8) (n k : Nat), k ≤ (numL l n k).2 ∧ (numL l n k).2 ≤ k + l.length
  | [], n, k => by simp [numL]
  | c :: t, n, k => by
    unfold numL
    split
    · have := numL_le t (min (n * 10 + (c.toNat - 48)) 274877906945) (k + 1)
      simp only [List.length_cons]; omega
    · simp
def isTag (c : UInt8) : Bool := c == 98 || c == 111 || c == 36
/-- readRun: the number, how many digits, whether it is a run. -/
def runL (l : List UInt8) : Nat × Nat × Bool :=
  if l.head? = some 48 then (0, 0, false)
  else if (l[(numL l 0 0).2]?).any isTag = true then (max (numL l 0 0).1 1, (numL l 0 0).2, true)
  else (0, (numL l 0 0).2, false)
theorem runL_lt {l : List UInt8} (h : (runL l).2.2 = true) : (runL l).2.1 < l.length := by
  unfold runL at h ⊢
  split at h
  · simp at h
  · split at h
    · rename_i h1 h2
      rw [if_neg h1, if_pos h2]
      by_cases hl : (numL l 0 0).2 < l.length
      · exact hl
      · rw [List.getElem?_eq_none (by omega)] at h2; simp at h2
    · simp at h
/-- A row of cells. -/
def rowC (x y : Nat) : Nat → List Cel
  | 0 => []
  | n + 1 => rowC x y n ++ [(((x + n : Nat) : Int), ((y : Nat) : Int))]
theorem rowC_len (x y : Nat) : ∀ n, (rowC x y n).length = n
  | 0 => rfl
  | n + 1 => by simp [rowC, rowC_len x y n]
/-- lay: where the next run begins, and the cells. -/
def layP (x y : Nat) (cs : List Cel) (n : Nat) (c : UInt8) : Option (Nat × Nat × List Cel) :=
  if c = 98 then (if x + n ≤ 274877906945 then some (x + n, y, cs) else none)
  else if c = 111 then (if cs.length + n ≤ 4096 then (if x + n ≤ 274877906945 then some (x + n, y, cs ++ rowC x y n) else none) else none)
  else if y + n ≤ 274877906944 then some (0, y + n, cs) else none
def btw : List UInt8 := [32, 9, 13, 10]
inductive Out where
  | ok (cs : List Cel)
  | err (k : Nat) (e : Int)
def tl (l : List UInt8) : List UInt8 := trimLeftS l btw
theorem tl_len (l : List UInt8) : (tl l).length ≤ l.length := by
  unfold tl trimLeftS; exact (List.dropWhile_sublist _).length_le
def layR (x y : Nat) (cs : List Cel) (t : List UInt8) : Option (Nat × Nat × List Cel) :=
  if (runL t).1 ≤ 274877906944 then layP x y cs (runL t).1 (t.getD (runL t).2.1 0) else none
def runsL (l : List UInt8) (at' x y : Nat) (cs : List Cel) : Out :=
  if (tl l).head? = some 33 then .ok cs
  else if _h : (runL (tl l)).2.2 = true then
    match layR x y cs (tl l) with
    | none => .err (at' + (l.length - (tl l).length)) 6
    | some (x', y', cs') => runsL ((tl l).drop ((runL (tl l)).2.1 + 1)) (at' + (l.length - (tl l).length) + (runL (tl l)).2.1 + 1) x' y' cs'
  else .err (at' + (l.length - (tl l).length) + (runL (tl l)).2.1) 3
termination_by l.length
decreasing_by
  have h1 := tl_len l
  have h2 := runL_lt _h
  simp only [List.length_drop]
  omega
/-- Notes. -/
def behL (l : List UInt8) : Nat :=
  if h : l.head? = some 35 then
    (if 0 ≤ indexByte l 10 then (indexByte l 10).toNat + 1 + behL (l.drop ((indexByte l 10).toNat + 1)) else l.length)
  else 0
termination_by l.length
decreasing_by
  cases l with
  | nil => simp at h
  | cons a t => simp only [List.length_drop, List.length_cons]; omega
/-- strings.Cut at one byte. -/
def cutL (l : List UInt8) (c : UInt8) : List UInt8 × List UInt8 × Bool :=
  if 0 ≤ indexByte l c then (l.take (indexByte l c).toNat, l.drop ((indexByte l c).toNat + 1), true) else (l, [], false)
def bareL (l : List UInt8) : List UInt8 := trimS l [32, 9, 13]
def isNumberL (l : List UInt8) : Bool :=
  decide (0 < (numL l 0 0).2) && decide ((numL l 0 0).2 = l.length) && decide ((numL l 0 0).1 ≤ 274877906944) && (decide (l = [48]) || !decide (l.head? = some 48))
def isSizeL (l name : List UInt8) : Bool :=
  (cutL l 61).2.2 && decide (bareL (cutL l 61).1 = name) && isNumberL (bareL (cutL l 61).2.1)
/-- lawOf. -/
def lawC (l : List UInt8) : Option (List UInt8) :=
  if ((cutL l 61).2.2 && decide (bareL (cutL l 61).1 = [114, 117, 108, 101])) = true then some (bareL (cutL l 61).2.1) else none
def lawB (l : List UInt8) : Option (List UInt8) :=
  if ((cutL l 44).2.2 && isSizeL (cutL l 44).1 [121]) = true then lawC (cutL l 44).2.1 else none
def lawL (l : List UInt8) : Option (List UInt8) :=
  if ((cutL l 44).2.2 && isSizeL (cutL l 44).1 [120]) = true then lawB (cutL l 44).2.1 else none
/-- readHead: the rule, or the error's number. -/
def headL (l : List UInt8) : (Nat × Nat) × Int :=
  match lawL l with
  | none => ((0, 0), 3)
  | some t => match P (t.map UInt8.toNat) with
    | none => ((0, 0), 11)
    | some r => if mayR r.1 r.2 = true then (r, 0) else ((0, 0), 11)
/-- Parse: the rule, the cells, where, the error. -/
structure PR where
  r : Nat × Nat
  cs : List Cel
  k : Nat
  e : Int
def bodyL (r : Nat × Nat) : Out → PR
  | .ok cs => ⟨r, cs, 0, 0⟩
  | .err k e => ⟨(0, 0), [], k, e⟩
def lineL (l : List UInt8) : List UInt8 := (cutL l 10).1
def parseL (l : List UInt8) : PR :=
  if 65536 < l.length then ⟨(0, 0), [], 0, 2⟩
  else if (headL (lineL (l.drop (behL l)))).2 = 0 then
    bodyL (headL (lineL (l.drop (behL l)))).1 (runsL (l.drop (behL l + (lineL (l.drop (behL l))).length)) (behL l + (lineL (l.drop (behL l))).length) 0 0 [])
  else ⟨(0, 0), [], behL l, (headL (lineL (l.drop (behL l)))).2⟩
end Rl
end Go.Proofs.YtangbokcdgganaaGreatDoor

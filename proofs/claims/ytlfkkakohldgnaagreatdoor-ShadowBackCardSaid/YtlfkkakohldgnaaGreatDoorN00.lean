/-
  A DISK IN MEMORY: its struct, its sectors that are sure, the pointers to those that are pending, the list of what is pending. No program in it but the types' numbers.
-/
import Derived.Test.YtlfkkakohldgnaaGreatDoorProg
import Derived.WalkKit
import Derived.Deep.MidRow
import Derived.Lib.Hide
namespace Go.Proofs.YtlfkkakohldgnaaGreatDoor
open Go.RowKit

structure St where
  n : Nat
  D : Nat
  S : Nat
  L : Nat
  sure : Nat → Nat → Int
  now : Nat → Nat → Int
  late : Nat → Option Nat
  pv : Value
  pend : List Nat
  writes : Int
  left : Int

def St.has (s : St) (b : Nat) : Prop := b = s.D ∨ b = s.S ∨ b = s.L ∨ s.pv.ownBlock = some b ∨ ∃ i, s.late i = some b

structure St.Ok (B : Nat) (s : St) : Prop where
  n1 : s.n ≤ 16384
  bD : B ≤ s.D
  bS : B ≤ s.S
  bL : B ≤ s.L
  DS : s.D ≠ s.S
  DL : s.D ≠ s.L
  SL : s.S ≠ s.L
  lt : ∀ i b, s.late i = some b → B ≤ b ∧ b ≠ s.D ∧ b ≠ s.S ∧ b ≠ s.L ∧ s.pv.ownBlock ≠ some b
  inj : ∀ i j b, s.late i = some b → s.late j = some b → i = j
  pD : s.pv.ownBlock ≠ some s.D
  pS : s.pv.ownBlock ≠ some s.S
  pL : s.pv.ownBlock ≠ some s.L
  nd : s.pend.Nodup
  mem : ∀ i, i ∈ s.pend ↔ s.late i ≠ none
  lim : ∀ i, s.late i ≠ none → i < s.n
  l0 : -9223372036854775808 ≤ s.left
  l1 : s.left ≤ 9223372036854775807
  us : ∀ i j, 0 ≤ s.sure i j ∧ s.sure i j < 256
  un : ∀ i j, 0 ≤ s.now i j ∧ s.now i j < 256

def ptr (b : Option Nat) : Value := .pointer (b.map fun b => ⟨b, 0, none⟩)
def nats (l : List Nat) : List Value := l.map fun (i : Nat) => Value.int .i64 (i : Int)

structure DiskAt (B : Nat) (w : World) (s : St) : Prop where
  ok : s.Ok B
  d0 : w.cell? ⟨s.D, 0, none⟩ = some (.slice (some ⟨s.S, 0, none⟩) s.n s.n)
  d1 : w.cell? ⟨s.D, 1, none⟩ = some (.slice (some ⟨s.L, 0, none⟩) s.n s.n)
  d2 : w.cell? ⟨s.D, 2, none⟩ = some s.pv
  d3 : w.cell? ⟨s.D, 3, none⟩ = some (.int .i64 s.writes)
  d4 : w.cell? ⟨s.D, 4, none⟩ = some (.int .i64 s.left)
  dS : s.S < w.heap.size
  dL : s.L < w.heap.size
  fD : ∀ i, w.frozen? ⟨s.D, i, none⟩ = false
  cS : ∀ i j, i < s.n → j < 512 → w.cell? ⟨s.S, i * 512 + j, none⟩ = some (.int .u8 (s.sure i j))
  fS : ∀ i, w.frozen? ⟨s.S, i, none⟩ = false
  cL : ∀ i, i < s.n → w.cell? ⟨s.L, i, none⟩ = some (ptr (s.late i))
  fL : ∀ i, w.frozen? ⟨s.L, i, none⟩ = false
  p : w.ownsRow B 3 1 s.pv s.pend.length (nats s.pend)
  cT : ∀ i b, s.late i = some b → ∀ j, j < 512 → w.cell? ⟨b, j, none⟩ = some (.int .u8 (s.now i j))
  fT : ∀ i b, s.late i = some b → ∀ j, w.frozen? ⟨b, j, none⟩ = false

theorem DiskAt.lt {B : Nat} {w : World} {s : St} (h : DiskAt B w s) : ∀ b, s.has b → B ≤ b ∧ b < w.heap.size := by
  intro b hb
  rcases hb with rfl | rfl | rfl | hp | ⟨i, hi⟩
  · exact ⟨h.ok.bD, World.block_lt_of_cell? w _ h.d0⟩
  · exact ⟨h.ok.bS, h.dS⟩
  · exact ⟨h.ok.bL, h.dL⟩
  · exact h.p.lt b hp
  · exact ⟨(h.ok.lt i b hi).1, World.block_lt_of_cell? w _ (h.cT i b hi 0 (by omega))⟩

/-- every block of the disk is as it was -/
theorem DiskAt.same {B : Nat} {w w' : World} {s : St} (h : DiskAt B w s) (hs : w.heap.size ≤ w'.heap.size) (hb : ∀ k, s.has k → w'.heap[k]? = w.heap[k]?) : DiskAt B w' s := by
  have hc : ∀ k o, s.has k → w'.cell? ⟨k, o, none⟩ = w.cell? ⟨k, o, none⟩ := fun k o hk => World.cell?_of_block (hb k hk)
  have hf : ∀ k o, s.has k → w'.frozen? ⟨k, o, none⟩ = w.frozen? ⟨k, o, none⟩ := fun k o hk => World.frozen?_of_block (hb k hk)
  have D : s.has s.D := .inl rfl
  have S : s.has s.S := .inr (.inl rfl)
  have L : s.has s.L := .inr (.inr (.inl rfl))
  have T : ∀ i b, s.late i = some b → s.has b := fun i b hi => .inr (.inr (.inr (.inr ⟨i, hi⟩)))
  refine ⟨h.ok, ?_, ?_, ?_, ?_, ?_, Nat.lt_of_lt_of_le h.dS hs, Nat.lt_of_lt_of_le h.dL hs, ?_, ?_, ?_, ?_, ?_, ?_, ?_, ?_⟩
  · rw [hc _ _ D]; exact h.d0
  · rw [hc _ _ D]; exact h.d1
  · rw [hc _ _ D]; exact h.d2
  · rw [hc _ _ D]; exact h.d3
  · rw [hc _ _ D]; exact h.d4
  · intro i; rw [hf _ _ D]; exact h.fD i
  · intro i j hi hj; rw [hc _ _ S]; exact h.cS i j hi hj
  · intro i; rw [hf _ _ S]; exact h.fS i
  · intro i hi; rw [hc _ _ L]; exact h.cL i hi
  · intro i; rw [hf _ _ L]; exact h.fL i
  · refine ⟨h.p.1, ?_⟩
    rcases h.p.2 with hn | ⟨g, cap, cur, hv, hg, hh, r⟩
    · exact .inl hn
    · exact .inr ⟨g, cap, cur, hv, hg, by rw [hb g (.inr (.inr (.inr (.inl (by rw [hv]; rfl)))))]; exact hh, r⟩
  · intro i b hi j hj; rw [hc _ _ (T i b hi)]; exact h.cT i b hi j hj
  · intro i b hi j; rw [hf _ _ (T i b hi)]; exact h.fT i b hi j

theorem DiskAt.below {B : Nat} {w w' : World} {s : St} (h : DiskAt B w s) (hb : Below w.heap.size w w') : DiskAt B w' s :=
  h.same hb.size fun k hk => hb.block k (h.lt k hk).2

/-- from a world and a disk to another world and disk: what is no block of the disk's is as it was -/
structure Step (w : World) (s : St) (w' : World) (s' : St) : Prop where
  os : w'.os = w.os
  tape : w'.tape = w.tape
  output : w'.output = w.output
  size : w.heap.size ≤ w'.heap.size
  block : ∀ k, k < w.heap.size → ¬ s.has k → w'.heap[k]? = w.heap[k]?
  own : ∀ k, s'.has k → s.has k ∨ w.heap.size ≤ k

theorem Step.of_below {w w' : World} {s : St} (h : Below w.heap.size w w') : Step w s w' s := ⟨h.os, h.tape, h.output, h.size, fun k hk _ => h.block k hk, fun _ h => .inl h⟩
theorem Step.refl (w : World) (s : St) : Step w s w s := .of_below (Below.refl _ _)
theorem Step.trans {a b c : World} {r s t : St} (h : Step a r b s) (k : Step b s c t) : Step a r c t :=
  ⟨k.os.trans h.os, k.tape.trans h.tape, k.output.trans h.output, Nat.le_trans h.size k.size, fun i hi hn => (k.block i (Nat.lt_of_lt_of_le hi h.size) (fun hs => by rcases h.own i hs with e | e; exact hn e; omega)).trans (h.block i hi hn),
    fun i hi => by
      rcases k.own i hi with e | e
      · exact h.own i e
      · exact .inr (Nat.le_trans h.size e)⟩
theorem Step.below {B : Nat} {w w' : World} {s s' : St} (h : Step w s w' s') (hd : DiskAt B w s) : Below B w w' :=
  ⟨h.os, h.tape, h.output, h.size, fun k hk => h.block k (Nat.lt_of_lt_of_le hk (Nat.le_of_lt (Nat.lt_of_le_of_lt hd.ok.bS hd.dS))) (fun hs => by have := (hd.lt k hs).1; omega)⟩
/-- one block of the disk's is written -/
theorem Step.write {w w' : World} {s s' : St} (b : Nat) (hb : s.has b) (os : w'.os = w.os) (tape : w'.tape = w.tape) (output : w'.output = w.output) (size : w.heap.size ≤ w'.heap.size) (h : ∀ k, k < w.heap.size → k ≠ b → w'.heap[k]? = w.heap[k]?) (own : ∀ k, s'.has k → s.has k ∨ w.heap.size ≤ k) : Step w s w' s' :=
  ⟨os, tape, output, size, fun k hk hn => h k hk (fun e => hn (e ▸ hb)), own⟩
end Go.Proofs.YtlfkkakohldgnaaGreatDoor

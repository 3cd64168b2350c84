/-
  maps.Keys of a map keyed by cells: its iterator, whatever the loop's body does. Conditions: those that each lemma names.
-/

import Derived.Test.YticnhpddidaaeaaCm
import Derived.RangeFuncNested
import Derived.RangeFuncBound
import Derived.RangeFuncCalls
import Derived.RangeFuncLeaves
import Derived.RangeFuncFrom
import Derived.RangeFuncBox
import Derived.RangeFuncWrites
import Derived.Shelf.Abstract
import Derived.Shelf.AbstractIn
import Derived.Shelf.RegionOpen
import Derived.OwnWalkIn
import Derived.TacticsInMore
import Derived.RegionIn
import Derived.LoopNIn
import Derived.LoopIn
import Derived.Maps.OwnIn
import Derived.Sort.MapsRangeIn
namespace Go.Proofs.Yticnhpddidaaeaa
open Go.RowKit Ru Ce Go.Maps Go.Shelf

/-- what has come -/
structure ColC (D : DataW Unit) (left : Lit → Bool) (ss : List Cel) : Prop where
  nd : ss.Nodup
  i6 : ∀ x ∈ ss, I6 x
  mem : ∀ x, I6 x → (x ∈ ss ↔ Maps.has D (ky x) = true ∧ left (ky x) = false)
theorem ColC.start (D : DataW Unit) : ColC D (Maps.has D) [] := ⟨List.Pairwise.nil, (fun x h => by cases h), fun x _ => ⟨(fun h => by cases h), fun ⟨h1, h2⟩ => by rw [h1] at h2; cases h2⟩⟩
theorem same_ky {a b : Cel} (ha : I6 a) (hb : I6 b) : (ky a).sameKey (ky b) = decide (a = b) := by
  by_cases e : a = b
  · subst e
    rw [WideAt.sameKey_self (ky_key a), decide_eq_true rfl]
  · rw [decide_eq_false e]
    cases h : (ky a).sameKey (ky b)
    · rfl
    · exact absurd (WideAt.sameKey_eq h) (ky_ne ha hb e)
theorem ColC.step {D : DataW Unit} {left : Lit → Bool} {ss : List Cel} (h : ColC D left ss) {c : Cel} (hc : I6 c) (hl : left (ky c) = true) (hh : Maps.has D (ky c) = true) : ColC D (fun z => left z && !z.sameKey (ky c)) (ss ++ [c]) := by
  have hn : ¬ c ∈ ss := fun q => by have := ((h.mem c hc).1 q).2; rw [hl] at this; cases this
  refine ⟨List.nodup_append.2 ⟨h.nd, List.pairwise_singleton _ _, fun a ha b hb e => ?_⟩, fun x hx => ?_, fun x hx => ?_⟩
  · rw [List.mem_singleton] at hb
    subst hb e
    exact hn ha
  · rcases List.mem_append.1 hx with hx | hx
    · exact h.i6 x hx
    · rw [List.mem_singleton] at hx
      rw [hx]; exact hc
  · rw [List.mem_append, List.mem_singleton, h.mem x hx, same_ky hx hc]
    by_cases e : x = c
    · subst e
      simp [hh]
    · simp [e]
/-- a cell that the map has -/
abbrev KC (D : DataW Unit) := { x : Cel // I6 x ∧ Maps.has D (ky x) = true }
abbrev encC {D : DataW Unit} (x : KC D) : Array Value := #[.agg #[.int .i64 x.1.1, .int .i64 x.1.2]]
def AllC (D : DataW Unit) (xs : List (KC D)) : Prop := (xs.map Subtype.val).Nodup ∧ ∀ x, I6 x → (x ∈ xs.map Subtype.val ↔ Maps.has D (ky x) = true)
def PartC (D : DataW Unit) (xs : List (KC D)) : Prop := (xs.map Subtype.val).Nodup
set_option maxRecDepth 100000 in
set_option maxHeartbeats 1000000 in
theorem keys1_in (F : Fence) (n : Nat) (h10 : F.fn 28) (hro : F.round = none) (hn : 1 ≤ n) (l Bm b nn : Nat) (D0 : DataW Unit) (J Jx : List (KC D0) → World → Prop)
    (hY : ∀ pre x W, J pre W → pre.length < Maps.size D0 → YieldAt F (n - 1) Try.prog l (encC x) W fun e W' =>
      (e = .returned (.bool true) ∧ J (pre ++ [x]) W' ∧ KeepsWalks W W') ∨ (e = .returned (.bool false) ∧ Jx (pre ++ [x]) W'))
    (W : World) (hJ : AbidesFrom W.heap.size J) (hm : W.cell? ⟨Bm, 0, none⟩ = some (.map (some b))) (hown : OwnsC W b nn D0) (h0 : J [] W) :
    CallsIn F n Try.prog 28 #[.func (.yield l) #[] #[], .pointer (some ⟨Bm, 0, none⟩)] W fun e W' => (∃ v, e = .returned v) ∧
      ((∃ ss, AllC D0 ss ∧ J ss W') ∨ (∃ pre, PartC D0 pre ∧ Jx pre W')) := by
  refine callsIn_of_wp Try.func28 rfl h10 ?_ hro
  simp only [Try.ntmps28, List.size_toArray, List.length_cons, List.length_nil, Nat.reduceAdd, Nat.reduceSub, Array.replicate_succ, Array.replicate_zero, List.push_toArray, List.append_toArray, List.nil_append, List.cons_append]
  gi_wp2_with (first
    | (gi_at_range; refine wpListIn_range_own _ rfl _ 43 rfl 31 3 klaw Try.underlying43 _ b nn _ rfl hown ?_; intro w0 hrg0 hg0 hs0)
    | gi_in)
  go_frame
  gi_loopw [3] (fun _ wr => ∃ (left : Lit → Bool) (cnt : Nat) (ss : List (KC D0)), wr.ranges Try.prog 31 (plainElem Try.prog 3) b W.heap.size nn D0 left cnt ∧ ss.length + cnt ≤ Maps.size D0 ∧ ColC D0 left (ss.map Subtype.val) ∧ J ss wr)
    (fun _ wr => wr.rangeLeft b W.heap.size)
  case atStart =>
    exact ⟨_, _, [], hrg0, by simp, ColC.start D0, hJ [] W w0 none h0 hg0 (fun r e => by cases e)⟩
  case round =>
    obtain ⟨left, cnt, ss, hrg, hcs, hC, hJs⟩ := hrel
    gi_wp2_with (first
      | (gi_at_next; refine wpListIn_next_ranges _ rfl _ rfl 31 klaw _ (fun c : Cel => Value.agg #[.int .i64 c.1, .int .i64 c.2]) id (fun key kl hk => by obtain ⟨x, hx, _⟩ := ky_inv hk; exact ⟨x, hx⟩) (fun v _ _ => ⟨v, rfl⟩) b W.heap.size nn _ _ _ rfl hrg ?_ ?_)
      | gi_in)
    · intro hc0 hl0
      gi_wp2
      go_end0
      exact ⟨⟨_, rfl⟩, .inl ⟨ss, ⟨hC.nd, fun x hx => by rw [hC.mem x hx, hl0]; simp⟩, hJs⟩⟩
    · intro x1 x2 c kl yd yp w2 cnt2 hkey hlk hv hat hrg2 hlt hg2 hs2 hen
      obtain ⟨x, ex, hx6, rfl⟩ := ky_inv hkey
      obtain ⟨rfl, rfl⟩ : x1 = x.1 ∧ x2 = x.2 := by simpa using ex
      have hx : Maps.has D0 (ky x) = true := has_true_of_atKey hat
      have hJ2 : J ss w2 := hJ ss wr w2 (some W.heap.size) hJs hg2 (fun r e => by cases e; exact ⟨Nat.le_refl _, hrg.iter_walk⟩)
      have hJ3 : J ss (w2.alloc (.cells #[.int .i64 x.1, .int .i64 x.2] 31)) := hJ ss w2 _ none hJ2 (World.grownBy_alloc w2 _ none) (fun r e => by cases e)
      obtain ⟨fn, tmps, assign, body, hy, hR⟩ := hY ss ⟨x, hx6, hx⟩ _ hJ3 (by omega)
      have hrg2a := hrg2.alloc (.cells #[.int .i64 x.1, .int .i64 x.2] 31)
      have hC2 := hC.step hx6 hlk hx
      dsimp only [encC] at hy
      clear hs2 hat hkey ex hJ2 hJ3
      gi_wp2
      refine hR.mono ?_
      rintro e W3 (⟨rfl, hJ4, hk3⟩ | ⟨rfl, hJx3⟩)
      · gi_wp2
        have hrg3 := hrg2a.of_walks hk3
        go_roundw
        case rel => exact ⟨_, cnt2, ss ++ [⟨x, hx6, hx⟩], hrg3, by simp; omega, by rw [List.map_append]; exact hC2, hJ4⟩
        case measure => rw [hrg3.left_eq, hrg.left_eq]; exact hlt
      · gi_wp2
        refine bodyPost_ret (results_none rfl _ _ _) rfl ?_
        exact ⟨⟨_, rfl⟩, .inr ⟨ss ++ [⟨x, hx6, hx⟩], by unfold PartC; rw [List.map_append]; exact hC2.nd, hJx3⟩⟩
theorem keys_stops (F : Fence) (n : Nat) (h10 : F.fn 28) (hro : F.round = none) (hn : 1 ≤ n) (Bm b nn : Nat) (D0 : DataW Unit) (w : World) (hBm : Bm < w.heap.size)
    (hm : w.cell? ⟨Bm, 0, none⟩ = some (.map (some b))) (hown : OwnsC w b nn D0) :
    SeqStopsK F n Try.prog 28 #[.pointer (some ⟨Bm, 0, none⟩)] (encC (D := D0)) KeepsWalks (AllC D0) (PartC D0) (Maps.size D0) w := fun l J Jx W hW hJ _ hY h0 =>
  keys1_in F n h10 hro hn l Bm b nn D0 J Jx hY W hJ ((hW.cell (p := ⟨Bm, 0, none⟩) hBm).trans hm) (owns_heap hown (hW.block b hown.lt)) h0
set_option maxRecDepth 100000 in
theorem keys_in (F : Fence) (n : Nat) (h7 : F.fn 19) (hro : F.round = none) (mb : Option Nat) (w : World) :
    CallsIn F n Try.prog 19 #[.map mb] w fun e w' => e = .returned (.func (.func 28) #[] #[.pointer (some ⟨w.heap.size, 0, none⟩)]) ∧ w' = w.alloc (.cells #[.map mb] 43) := by
  refine callsIn_of_wp Try.func19 rfl h7 ?_ hro
  simp only [Try.ntmps19, List.size_toArray, List.length_cons, List.length_nil, Nat.reduceAdd, Nat.reduceSub, Array.replicate_succ, Array.replicate_zero, List.push_toArray, List.append_toArray, List.nil_append, List.cons_append]
  gi_wp2
  go_ret
  exact ⟨rfl, rfl⟩
end Go.Proofs.Yticnhpddidaaeaa

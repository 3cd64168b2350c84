/-
  TWO ROWS of truths that grow side by side; the document's Cell at a place of sixty-four. Conditions: those that each names.
-/
import Derived.Test.YthbokehoibadcaaDoorGg
import Derived.Test.YthbokehoibadcaaDoorErr
import Derived.Test.YthbokehoibadcaaDoorSu
import Derived.Maps.AppendAt
namespace Go.Proofs.YthbokehoibadcaaDoor
open Go.RowKit Ti Ru

theorem same_still {P : Program} {f : FuncId} {args : Array Value} {v : Value} (h : ∀ w, Calls P f args w fun e w' => e = .returned v ∧ w = w') (w : World) (n : Nat) : Calls P f args (w.drewN n) fun e w'' => e = .returned v ∧ ∃ m, w'' = w.drewN m :=
  (h _).mono fun _ _ ⟨he, hm⟩ => ⟨he, n, hm.symm⟩
/-- two rows of truths of one's own, so long each, in blocks of their own -/
structure Tw (W ws : World) (P Q : Nat → Bool) (m k : Nat) (v u : Value) : Prop where
  a : ws.ownsRow W.heap.size 4 1 v m (bls P m)
  b : ws.ownsRow W.heap.size 4 1 u k (bls Q k)
  ne : ∀ g, v.ownBlock = some g → u.ownBlock ≠ some g
  below : Below W.heap.size W ws
theorem Tw.swap {W ws : World} {P Q : Nat → Bool} {m k : Nat} {v u : Value} (h : Tw W ws P Q m k v u) : Tw W ws Q P k m u v := ⟨h.b, h.a, fun g h1 h2 => h.ne g h2 h1, h.below⟩
theorem Tw.nil {W ws : World} {P Q : Nat → Bool} (h : Below W.heap.size W ws) : Tw W ws P Q 0 0 (.slice none 0 0) (.slice none 0 0) := ⟨World.ownsRow_nil _ _ _ _, World.ownsRow_nil _ _ _ _, (by intro g h; cases h), h⟩
theorem Tw.on {W ws w' : World} {P Q : Nat → Bool} {m k : Nat} {v u : Value} (h : Tw W ws P Q m k v u) (hb : Below ws.heap.size ws w') : Tw W w' P Q m k v u := ⟨bls_keep h.a hb (Nat.le_refl _), bls_keep h.b hb (Nat.le_refl _), h.ne, h.below.trans (hb.mono h.below.size)⟩
theorem Tw.growA {W ws w2 : World} {P Q : Nat → Bool} {m k : Nat} {v u v2 : Value} {q : Bool} (h : Tw W ws P Q m k v u) (hq : q = P m) (hown : w2.ownsRow W.heap.size 4 1 v2 (m + 1) (bls P m ++ [.bool q])) (hg : (ws.alloc (.cells #[.bool q] 4)).grownBy w2 v.ownBlock)
    (hat : v2.ownBlock = v.ownBlock ∨ v2.ownBlock = some (ws.alloc (.cells #[.bool q] 4)).heap.size) : Tw W w2 P Q (m + 1) k v2 u := by
  rw [hq, bls_succ] at hown
  have hs := h.below.size
  refine ⟨hown, (h.b.alloc _).kept hg ?_, ?_, (h.below.alloc hs (.cells #[.bool q] 4)).grown hg (by simp; omega) (fun j hj => (h.a.lt j hj).1)⟩
  · cases hu : u.ownBlock with
    | none => exact .inl rfl
    | some g =>
      refine .inr fun e => ?_
      exact h.ne g e.symm hu
  · intro g h1 h2
    rcases hat with e | e
    · exact h.ne g (e.symm.trans h1) h2
    · have h3 := (h.b.lt g h2).2
      rw [e] at h1
      have h4 := Option.some.inj h1
      simp at h4
      omega
theorem Tw.growB {W ws w2 : World} {P Q : Nat → Bool} {m k : Nat} {v u u2 : Value} {q : Bool} (h : Tw W ws P Q m k v u) (hq : q = Q k) (hown : w2.ownsRow W.heap.size 4 1 u2 (k + 1) (bls Q k ++ [.bool q])) (hg : (ws.alloc (.cells #[.bool q] 4)).grownBy w2 u.ownBlock)
    (hat : u2.ownBlock = u.ownBlock ∨ u2.ownBlock = some (ws.alloc (.cells #[.bool q] 4)).heap.size) : Tw W w2 P Q m (k + 1) v u2 := (h.swap.growA hq hown hg hat).swap
theorem Tw.whole {W ws : World} {P Q : Nat → Bool} {v u : Value} (h : Tw W ws P Q 64 64 v u) : ∃ g cap g2 cap2, v = .slice (some ⟨g, 0, none⟩) 64 cap ∧ u = .slice (some ⟨g2, 0, none⟩) 64 cap2 ∧ GridAt ws 64 g P ∧ GridAt ws 64 g2 Q := by
  obtain ⟨g, cap, h1, _, h2, h3⟩ := own_bls h.a (by decide)
  obtain ⟨g2, cap2, k1, _, k2, k3⟩ := own_bls h.b (by decide)
  exact ⟨g, cap, g2, cap2, h1, k1, ⟨h2, h3⟩, ⟨k2, k3⟩⟩
theorem cell_k (t : T6) (m : Nat) (hm : m < 64) (w : World) : Calls Tryd.prog 8 #[.int .u64 (rg t), .int .i64 ((m : Int) % 8), .int .i64 ((m : Int) / 8)] w fun e w' => e = .returned (.bool (t.getLsbD m)) ∧ w = w' := by
  have h := cell_ref t (m % 8) (m / 8) (by omega) (by omega) w
  rw [show 8 * (m / 8) + m % 8 = m by omega, Int.natCast_emod, Int.natCast_ediv] at h
  exact h
theorem cell_turn (t : T6) (m : Nat) (hm : m < 64) (w : World) : Calls Tryd.prog 8 #[.int .u64 (rg t), .int .i64 ((m : Int) / 8), .int .i64 (7 - (m : Int) % 8)] w fun e w' => e = .returned (.bool (t.getLsbD (turnI m))) ∧ w = w' := by
  have h := cell_ref t (m / 8) (7 - m % 8) (by omega) (by omega) w
  rw [show 8 * (7 - m % 8) + m / 8 = turnI m by unfold turnI; omega, Int.natCast_ediv, show ((7 - m % 8 : Nat) : Int) = 7 - (m : Int) % 8 by omega] at h
  exact h
theorem cell_flip (t : T6) (m : Nat) (hm : m < 64) (w : World) : Calls Tryd.prog 8 #[.int .u64 (rg t), .int .i64 (7 - (m : Int) % 8), .int .i64 ((m : Int) / 8)] w fun e w' => e = .returned (.bool (t.getLsbD (flipI m))) ∧ w = w' := by
  have h := cell_ref t (7 - m % 8) (m / 8) (by omega) (by omega) w
  rw [show 8 * (m / 8) + (7 - m % 8) = flipI m by unfold flipI; omega, Int.natCast_ediv, show ((7 - m % 8 : Nat) : Int) = 7 - (m : Int) % 8 by omega] at h
  exact h
theorem made_at {g cap : Nat} {L : Nat → Bool} {w : World} (h : GridAt w 64 g L) (n : Nat) : Calls Tryd.prog 11 #[.slice (some ⟨g, 0, none⟩) 64 cap] (w.drewN n) fun e w' => e = .returned (.int .u64 (rg (mkT L))) ∧ ∃ m, w' = w.drewN m :=
  (made_ref g cap L (w.drewN n) (h.on (n₀ := w.heap.size) (below_drewN (Below.refl _ w) n) (Nat.le_refl _)).at_).mono fun _ _ ⟨he, hm⟩ => ⟨he, n, hm.symm⟩
theorem on_is (t : T6) (X Y : Nat) (h : 8 * Y + X < 64) : setB t X Y true = mkT (fun i => t.getLsbD i || decide (i = 8 * Y + X)) := by
  apply eq_mkT
  intro i _
  exact or_cell t X Y h i
theorem off_is (t : T6) (X Y : Nat) (h : 8 * Y + X < 64) : setB t X Y false = mkT (fun i => t.getLsbD i && !decide (i = 8 * Y + X)) := by
  apply eq_mkT
  intro i _
  exact not_cell t X Y h i
end Go.Proofs.YthbokehoibadcaaDoor

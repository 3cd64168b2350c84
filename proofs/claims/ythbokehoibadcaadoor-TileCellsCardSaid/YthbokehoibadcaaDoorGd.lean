/-
  A GRID THAT GROWS CELL BY CELL in a box of its own; append in a region that draws its order. Conditions: those that each names.
-/
import Derived.Test.YthbokehoibadcaaDoorGc
import Derived.Deep.RegionHeld3
import Derived.Deep.QuietTactic
import Derived.BigQuiet
namespace Go.Proofs.YthbokehoibadcaaDoor
open Go.RowKit Ti

/-- append, of truths, in a region that draws its order -/
theorem step_appB {ops : Array Oper} {o : Oper} {a : Go.Act} {w : World} {K : Go.Act → World → Prop} {Q : Exit → Go.Act → World → Prop} {E : Prop} (hgd : o.guard = none) (s x : Operand)
    (ho : o.op = .call { callee := .builtin .append, args := #[s, x], argTypes := #[30, 30] }) (B n : Nat) (v : Value) (xs : List Value) (hs : a.eval s = v) (hown : w.ownsRow B 4 1 v n xs) (ad : Addr) (q : Bool) (hx : a.eval x = .slice (some ad) 1 1)
    (hc : w.cell? ad = some (.bool q)) (hm : n ≤ 600) (hbase : B ≤ w.heap.size)
    (h : ∀ v' w', w'.ownsRow B 4 1 v' (n + 1) (xs ++ [.bool q]) → w.grownBy w' v.ownBlock → K (a.put o.dst v') w') : if Region.wanted o (yielded ops a.tmps) = true then Oper.wp Tryd.prog o a w K Q else E := by
  have hw : Region.wanted o (yielded ops a.tmps) = true := by simp [Region.wanted, hgd]
  rw [if_pos hw]
  obtain ⟨i, hi, hz0, hz1, hz2⟩ := info_parts info_bl
  have had : ∀ j u, [Value.bool q][j]? = some u → w.cell? (ad.add j) = some u := by
    intro j u hj
    cases j with
    | zero => simp at hj; subst hj; rw [show ad.add 0 = ad by obtain ⟨b, off, sp⟩ := ad; cases sp <;> simp [Addr.add]]; exact hc
    | succ j => simp at hj
  obtain ⟨v', w', hr, h2, h3, _⟩ := run_append_own (P := Tryd.prog) w B 30 o.type 4 i (.bool false) 1 1 Tryd.underlying30 hi hz0 hz1 hz2 rfl (by decide) v n xs hown ad 1 1 [.bool q] rfl had (by simp [Value.oneCell']) (row_bytes n hm).1 (row_bytes n hm).2 hbase
  unfold Oper.wp execOp
  simp only [ho, resolve, invoke, builtin, Sem.run_bind, Sem.run_pure, Result.andThen_ok, List.map_toArray, List.map_cons, List.map_nil, hs, hx, hr]
  exact h v' w' h2 h3
/-- the same, alone -/
theorem wp_appB {o : Oper} {a : Go.Act} {w : World} {K : Go.Act → World → Prop} {Q : Exit → Go.Act → World → Prop} (s x : Operand)
    (ho : o.op = .call { callee := .builtin .append, args := #[s, x], argTypes := #[30, 30] }) (B n : Nat) (v : Value) (xs : List Value) (hs : a.eval s = v) (hown : w.ownsRow B 4 1 v n xs) (ad : Addr) (q : Bool) (hx : a.eval x = .slice (some ad) 1 1)
    (hc : w.cell? ad = some (.bool q)) (hm : n ≤ 600) (hbase : B ≤ w.heap.size) (hg : o.guard = none) (d : Tmp) (hd : o.dst = some d)
    (h : ∀ v' w', w'.ownsRow B 4 1 v' (n + 1) (xs ++ [.bool q]) → w.grownBy w' v.ownBlock → K (a.put (some d) v') w') : Oper.wp Tryd.prog o a w K Q := by
  rw [← hd] at h
  have k := step_appB (ops := #[]) (E := True) hg s x ho B n v xs hs hown ad q hx hc hm hbase h (Q := Q)
  rwa [if_pos (by simp [Region.wanted, hg])] at k
/-- where a grid is built -/
structure OutAt (w ws : World) (R X Bs : Nat) (I : Int) (P : Nat → Bool) (m : Nat) (v : Value) : Prop where
  box : ws.heap[X]? = some (.cells #[.int .i64 I, v] 48)
  res : ws.heap[R]? = some (.cells #[.int .i64 0, .slice none 0 0] 48)
  own : ws.ownsRow Bs 4 1 v m (bls P m)
  below : Below w.heap.size w ws
  size : Bs ≤ ws.heap.size
  order : w.heap.size ≤ X ∧ w.heap.size ≤ R ∧ X < Bs ∧ R < Bs ∧ ¬ R = X
theorem OutAt.on {w ws w' : World} {R X Bs : Nat} {I : Int} {P : Nat → Bool} {m : Nat} {v : Value} (h : OutAt w ws R X Bs I P m v) (k : Below ws.heap.size ws w') : OutAt w w' R X Bs I P m v :=
  ⟨(k.block _ (lt_of_block h.box)).trans h.box, (k.block _ (lt_of_block h.res)).trans h.res, bls_keep h.own k (Nat.le_refl _), h.below.trans (k.mono h.below.size), Nat.le_trans h.size k.size, h.order⟩
theorem OutAt.cells {w ws : World} {R X Bs : Nat} {I : Int} {P : Nat → Bool} {m : Nat} {v : Value} (h : OutAt w ws R X Bs I P m v) : ws.cell? ⟨X, 1, none⟩ = some v ∧ ws.frozen? ⟨X, 1, none⟩ = false ∧ ws.cell? ⟨X, 0, none⟩ = some (.int .i64 I) :=
  ⟨cell_of_row _ _ 1 _ _ _ h.box, frozen_of_row _ _ 1 _ _ h.box, cell_of_row _ _ 0 _ _ _ h.box⟩
theorem OutAt.grow {w ws w2 : World} {R X Bs : Nat} {I : Int} {P : Nat → Bool} {m : Nat} {v v2 : Value} {q : Bool} (h : OutAt w ws R X Bs I P m v) (hq : q = P m) (hown : w2.ownsRow Bs 4 1 v2 (m + 1) (bls P m ++ [.bool q])) (hg : (ws.alloc (.cells #[.bool q] 4)).grownBy w2 v.ownBlock) :
    OutAt w (w2.setCell ⟨X, 1, none⟩ v2) R X Bs I P (m + 1) v2 ∧ w2.cell? ⟨X, 1, none⟩ = some v ∧ w2.frozen? ⟨X, 1, none⟩ = false ∧ w2.cell? ⟨X, 0, none⟩ = some (.int .i64 I) ∧ Below Bs ws w2 := by
  rw [hq, bls_succ] at hown
  have h1 : Below Bs ws w2 := ((Below.refl Bs ws).alloc h.size (.cells #[.bool q] 4)).grown hg (by have := h.size; simp; omega) (fun j hj => (h.own.lt j hj).1)
  have hX := (h1.block X h.order.2.2.1).trans h.box
  have hR := (h1.block R h.order.2.2.2.1).trans h.res
  refine ⟨⟨?_, ?_, ?_, ?_, ?_, h.order⟩, cell_of_row _ _ 1 _ _ _ hX, frozen_of_row _ _ 1 _ _ hX, cell_of_row _ _ 0 _ _ _ hX, h1⟩
  · rw [heap_setCell_same _ _ 1 _ _ _ hX]; rfl
  · exact (heap_setCell_other _ _ _ _ h.order.2.2.2.2).trans hR
  · obtain ⟨e, h0 | ⟨g, cap, cur, hv, hb, hgg, hrest⟩⟩ := hown
    · exact ⟨e, .inl h0⟩
    · exact ⟨e, .inr ⟨g, cap, cur, hv, hb, (heap_setCell_other _ _ _ _ (by have := h.order.2.2.1; show ¬ g = X; omega)).trans hgg, hrest⟩⟩
  · have h2 : Below w.heap.size w w2 := h.below.trans (h1.mono (by have := h.order; omega))
    exact h2.setCell (p := ⟨X, 1, none⟩) h.order.1 _
  · have := h1.size; have := h.size; show Bs ≤ (World.setCell w2 _ _).heap.size; simp; omega
theorem OutAt.drew {w ws : World} {R X Bs : Nat} {I : Int} {P : Nat → Bool} {m : Nat} {v : Value} (h : OutAt w ws R X Bs I P m v) : OutAt w ws.drew R X Bs I P m v := h.on (Below.refl _ ws).drew
end Go.Proofs.YthbokehoibadcaaDoor

/-
  RLE: a plane in memory; lay, a run laid.
-/
import Derived.Test.YtangbokcdgganaaGreatDoorLf
import Derived.Laws.AppendOwn
import Derived.Laws.OwnMore
import Derived.Deep.CutBlock
import Derived.BigRegion
namespace Go.Proofs.YtangbokcdgganaaGreatDoor
open Go.RowKit Ru Ce
open Go.Lib (indexByte hasPrefix)

theorem step_append_runI {P : Program} {ops : Array Oper} {o : Oper} {a : Act} {w : World} {K : Act → World → Prop} {Q : Exit → Act → World → Prop} {E : Prop} (hgd : o.guard = none) (s x : Operand) (t tn : TypeId)
    (ho : o.op = .call { callee := .builtin .append, args := #[s, x], argTypes := #[t, tn] }) (v u : Value) (hs : a.eval s = v) (hx : a.eval x = u) {v' : Value} {w' : World} (hr : (Builtin.append_ #[t, tn] o.type #[v, u]).run P w = .ok v' w') (h : K (a.put o.dst v') w') :
    if Region.wanted o (yielded ops a.tmps) = true then Oper.wp P o a w K Q else E := by
  have hw : Region.wanted o (yielded ops a.tmps) = true := by simp [Region.wanted, hgd]
  rw [if_pos hw]
  unfold Oper.wp execOp
  simp only [ho, resolve, invoke, builtin, Sem.run_bind, Sem.run_pure, Result.andThen_ok, List.map_toArray, List.map_cons, List.map_nil, hs, hx, hr]
  exact h
namespace Rl
theorem own_same {T : TypeId} {w w' : World} {B n : Nat} {v : Value} {l : List Cel} (h : OwnC T w B v n l) (hb : ∀ b, v.ownBlock = some b → w'.heap[b]? = w.heap[b]?) : OwnC T w' B v n l := by
  refine ⟨h.1, ?_⟩
  rcases h.2 with h2 | ⟨g, cap, cur, rfl, h3, h4, h5⟩
  · exact .inl h2
  · exact .inr ⟨g, cap, cur, rfl, h3, (hb g rfl).trans h4, h5⟩
theorem own_lt {T : TypeId} {w : World} {B n : Nat} {v : Value} {l : List Cel} (h : OwnC T w B v n l) {b : Nat} (hb : v.ownBlock = some b) : B ≤ b ∧ b < w.heap.size := by
  rcases h.2 with ⟨rfl, _⟩ | ⟨g, cap, cur, rfl, h3, h4, h5⟩
  · cases hb
  · obtain rfl : g = b := Option.some.inj hb
    exact ⟨h3, lt_of_block h4⟩
theorem row3 {w : World} {g : Nat} {v0 v1 v2 : Value} {t : TypeId} (h : w.heap[g]? = some (.cells #[v0, v1, v2] t (0, 0))) :
    (w.cell? ⟨g, 0, none⟩ = some v0 ∧ w.cell? ⟨g, 1, none⟩ = some v1 ∧ w.cell? ⟨g, 2, none⟩ = some v2) ∧ w.frozen? ⟨g, 0, none⟩ = false ∧ w.frozen? ⟨g, 1, none⟩ = false ∧ w.frozen? ⟨g, 2, none⟩ = false :=
  ⟨⟨cell_of_row _ _ 0 _ _ _ h, cell_of_row _ _ 1 _ _ _ h, cell_of_row _ _ 2 _ _ _ h⟩, frozen_of_row w g 0 _ _ h, frozen_of_row w g 1 _ _ h, frozen_of_row w g 2 _ _ h⟩
theorem set3_0 {w : World} {g : Nat} {a0 a1 a2 : Value} {t : TypeId} (h : w.heap[g]? = some (.cells #[a0, a1, a2] t (0, 0))) (v : Value) : (w.setCell ⟨g, 0, none⟩ v).heap[g]? = some (.cells #[v, a1, a2] t (0, 0)) :=
  heap_setCell_same w g 0 _ _ v h
theorem set3_1 {w : World} {g : Nat} {a0 a1 a2 : Value} {t : TypeId} (h : w.heap[g]? = some (.cells #[a0, a1, a2] t (0, 0))) (v : Value) : (w.setCell ⟨g, 1, none⟩ v).heap[g]? = some (.cells #[a0, v, a2] t (0, 0)) :=
  heap_setCell_same w g 1 _ _ v h
theorem set3_2 {w : World} {g : Nat} {a0 a1 a2 : Value} {t : TypeId} (h : w.heap[g]? = some (.cells #[a0, a1, a2] t (0, 0))) (v : Value) : (w.setCell ⟨g, 2, none⟩ v).heap[g]? = some (.cells #[a0, a1, v] t (0, 0)) :=
  heap_setCell_same w g 2 _ _ v h
structure Pl (B : Nat) (w : World) (g : Nat) (v : Value) (x y : Int) (cs : List Cel) : Prop where
  blk : w.heap[g]? = some (.cells #[.int .i64 x, .int .i64 y, v] 80 (0, 0))
  own : OwnC 25 w B v cs.length cs
  ne : ¬ v.ownBlock = some g
  le : B ≤ g
theorem Pl.other {B : Nat} {w w' : World} {g : Nat} {v : Value} {x y : Int} {cs : List Cel} (h : Pl B w g v x y cs) (hb : ∀ b, b < w.heap.size → w'.heap[b]? = w.heap[b]?) : Pl B w' g v x y cs :=
  ⟨(hb g (lt_of_block h.blk)).trans h.blk, own_same h.own (fun b hv => hb b (own_lt h.own hv).2), h.ne, h.le⟩
theorem Pl.set {B : Nat} {w w' : World} {g : Nat} {v : Value} {x y x' y' : Int} {cs : List Cel} (h : Pl B w g v x y cs) (hg : w'.heap[g]? = some (.cells #[.int .i64 x', .int .i64 y', v] 80 (0, 0))) (hb : ∀ b, b ≠ g → w'.heap[b]? = w.heap[b]?) : Pl B w' g v x' y' cs :=
  ⟨hg, own_same h.own (fun b hv => hb b (fun e => h.ne (by rw [hv, e]))), h.ne, h.le⟩
/-- the cells with one more -/
theorem Pl.app {B : Nat} {w : World} {g : Nat} {v : Value} {x y : Int} {cs : List Cel} (h : Pl B w g v x y cs) (hr : cs.length < 4096) {W : World} (hW : W = w.alloc (.cells #[.int .i64 x, .int .i64 y] 25)) :
    ∃ v' w', (Builtin.append_ #[23, 23] 23 #[v, .slice (some ⟨w.heap.size, 0, none⟩) 1 1]).run Tryz.prog W = .ok v' w' ∧ w'.cell? ⟨g, 2, none⟩ = some v ∧ (w'.cell? ⟨g, 0, none⟩ = some (.int .i64 x) ∧ w'.cell? ⟨g, 1, none⟩ = some (.int .i64 y)) ∧ w'.frozen? ⟨g, 2, none⟩ = false ∧ Pl B (w'.setCell ⟨g, 2, none⟩ v') g v' x y (cs ++ [(x, y)]) ∧ Below B w (w'.setCell ⟨g, 2, none⟩ v') := by
  subst hW
  obtain ⟨i, hi, hz0, hz1, hz2⟩ := info_parts info_a
  have hlg := lt_of_block h.blk
  have hown := own_same (w' := w.alloc (.cells #[.int .i64 x, .int .i64 y] 25)) h.own (fun b hv => heap_alloc_old w _ (own_lt h.own hv).2)
  obtain ⟨v', w', h1, h2, h3, _, h5⟩ := run_append_own_at (P := Tryz.prog) (w.alloc (.cells #[.int .i64 x, .int .i64 y] 25)) B 23 23 25 i (cv (0, 0)) 2 16 Tryz.underlying23 hi hz0 hz1 hz2 rfl (by decide) v cs.length (cl cs) hown ⟨w.heap.size, 0, none⟩ 1 1 (cc (x, y)) rfl (cells2 25 w (x, y)) (cc_one _) (by unfold maxLen; omega) (by omega) (by have := h.le; simp; omega)
  rw [cl_snoc] at h2
  have hgw : w'.heap[g]? = some (.cells #[.int .i64 x, .int .i64 y, v] 80 (0, 0)) := (h3.block g (Nat.lt_of_lt_of_le hlg (by simp)) (fun e => h.ne e.symm)).trans ((heap_alloc_old w _ hlg).trans h.blk)
  have hne : ¬ v'.ownBlock = some g := by
    rcases h5 with e | e
    · rw [e]; exact h.ne
    · rw [e]; intro q; have := Option.some.inj q; simp at this; omega
  have hl : (cs ++ [(x, y)]).length = cs.length + 1 := by simp
  refine ⟨v', w', h1, cell_of_row _ _ 2 _ _ _ hgw, ⟨cell_of_row _ _ 0 _ _ _ hgw, cell_of_row _ _ 1 _ _ _ hgw⟩, frozen_of_row _ _ 2 _ _ hgw, ⟨set3_2 hgw v', ?_, hne, h.le⟩, ?_⟩
  · rw [hl]
    exact own_same h2 (fun b hv => heap_setCell_other w' ⟨g, 2, none⟩ b v' (fun e => hne (by rw [hv, e])))
  · refine Below.setCell (p := ⟨g, 2, none⟩) ?_ h.le v'
    refine ⟨h3.os, h3.tape, h3.output, Nat.le_trans (by simp) h3.size, fun k hk => ?_⟩
    have hkw : k < w.heap.size := Nat.lt_of_lt_of_le hk (Nat.le_trans h.le (Nat.le_of_lt hlg))
    refine (h3.block k (Nat.lt_of_lt_of_le hkw (by simp)) (fun e => ?_)).trans (heap_alloc_old w _ hkw)
    have := (own_lt h.own e.symm).1
    omega
end Rl
end Go.Proofs.YtangbokcdgganaaGreatDoor

/-
  SMALL LAWS ON WORLDS, and a call that ends with a whole array as its result. No program's function in it.
  WHICH BYTES ARE GOOD: the last four, held against the register. Conditions: that the bytes are bytes.
-/
import Derived.Laws.Rows
import Derived.Laws.Tables
import Derived.Deep.QuietTactic
import Derived.BigQuiet
import Derived.OneCell
import Derived.Deep.MidRow
import Derived.Deep.RegionHeld3
import Derived.WalkSmall
import Derived.Test.YtokikeenfpligaaGreatDoorU02
import Derived.Test.YtokikeenfpligaaGreatDoorU01
namespace Go.Proofs.YtokikeenfpligaaGreatDoor.Sm
open Go.RowKit Crc

theorem below2 (w : World) (a b : Obj) : Below w.heap.size w ((w.alloc a).alloc b) := ((Below.refl _ _).alloc (Nat.le_refl _) _).alloc (by simp) _
theorem below_setRow {B : Nat} {a w : World} (h : Below B a w) (b : Nat) (hb : B ≤ b) (cs : Array Value) : Below B a (w.setRow b cs) :=
  ⟨h.os, h.tape, h.output, by simpa using h.size, fun k hk => (setRow_other w b k cs (by omega)).trans (h.block k hk)⟩
/-- a call ends with a whole array as its result -/
theorem post_cell_row {P : Program} {fn : Func} {R : Ending → World → Prop} {a : Act} {w : World} {p : Tmp} {ty : TypeId} (h : fn.results = #[.cell p ty]) (g : Nat) (t : TypeId) (cs : Array Value) (fr : Nat × Nat) (d : TypeDesc)
    (hu : P.underlying ty = some d) (hd : (match d with | .struct _ | .array _ _ => true | _ => false) = true) (hi : (P.info? ty).map (·.size) = some cs.size)
    (hp : a.tmps.getD p undef = .pointer (some ⟨g, 0, none⟩)) (hg : w.heap[g]? = some (.cells cs t fr)) (hdf : a.defers = []) (hR : R (.returned (.agg cs)) w) : bodyPost P fn R .ret a w :=
  bodyPost_ret (results_cell_row h a.tmps w g t cs fr d hp hg hu hd hi) hdf hR

end Go.Proofs.YtokikeenfpligaaGreatDoor.Sm
namespace Go.Proofs.YtokikeenfpligaaGreatDoor.Sm
open Crc

/-- the four bytes of the sum -/
def tls (ys : List Int) : List Int := [rg (tb (more 0#32 ys) 0), rg (tb (more 0#32 ys) 1), rg (tb (more 0#32 ys) 2), rg (tb (more 0#32 ys) 3)]
/-- bytes, marked behind -/
def mk (ys : List Int) : List Int := ys ++ tls ys
/-- is what is marked good? -/
def isGood (xs : List Int) : Bool := decide (up ones xs = magic)
/-- are these four bytes the sum's? -/
def Four (ys : List Int) (t0 t1 t2 t3 : Int) : Bool := t0 == rg (tb (more 0#32 ys) 0) && (t1 == rg (tb (more 0#32 ys) 1) && (t2 == rg (tb (more 0#32 ys) 2) && t3 == rg (tb (more 0#32 ys) 3)))
theorem not_zero : ~~~(0#32) = ones := by decide
theorem more_zero (ys : List Int) : more 0#32 ys = ~~~(up ones ys) := by unfold more; rw [not_zero]
theorem good_mk (ys : List Int) : isGood (mk ys) = true := by
  unfold isGood mk
  rw [decide_eq_true_eq, up_append]
  show upv (up ones ys) ((tls ys).map b8) = magic
  have e : (tls ys).map b8 = tl (~~~(up ones ys)) := by
    rw [← more_zero]
    simp only [tls, List.map_cons, List.map_nil, b8_rg]
    rfl
  rw [e, good_of]
theorem tb_rg_of {s : BitVec 32} {i : Nat} {t : Int} (h : t = rg (tb s i)) : b8 t = tb s i := by rw [h, b8_rg]
theorem small_b8 {t : Int} (h : 0 ≤ t ∧ t < 256) : (b8 t).toNat < 256 := by
  have := rg_b8 t h.1 (by omega)
  unfold rg at this
  omega
theorem four_good (ys : List Int) (t0 t1 t2 t3 : Int) (h0 : 0 ≤ t0 ∧ t0 < 256) (h1 : 0 ≤ t1 ∧ t1 < 256) (h2 : 0 ≤ t2 ∧ t2 < 256) (h3 : 0 ≤ t3 ∧ t3 < 256) :
    Four ys t0 t1 t2 t3 = isGood (ys ++ [t0, t1, t2, t3]) := by
  rw [Bool.eq_iff_iff]
  unfold isGood
  rw [decide_eq_true_eq, up_append]
  show _ ↔ upv (up ones ys) [b8 t0, b8 t1, b8 t2, b8 t3] = magic
  constructor
  · intro h
    simp only [Four, Bool.and_eq_true, beq_iff_eq] at h
    obtain ⟨e0, e1, e2, e3⟩ := h
    rw [tb_rg_of e0, tb_rg_of e1, tb_rg_of e2, tb_rg_of e3, more_zero]
    exact good_of _
  · intro h
    obtain ⟨s, hs⟩ := tl_of (b8 t0) (b8 t1) (b8 t2) (b8 t3) (small_b8 h0) (small_b8 h1) (small_b8 h2) (small_b8 h3)
    rw [← hs] at h
    have e := tl_good _ _ h
    rw [← more_zero] at e
    subst e
    have hs' : tb (more 0#32 ys) 0 = b8 t0 ∧ tb (more 0#32 ys) 1 = b8 t1 ∧ tb (more 0#32 ys) 2 = b8 t2 ∧ tb (more 0#32 ys) 3 = b8 t3 := by
      unfold tl at hs
      simpa using hs
    obtain ⟨a0, a1, a2, a3⟩ := hs'
    simp only [Four, Bool.and_eq_true, beq_iff_eq]
    rw [a0, a1, a2, a3, rg_b8 t0 h0.1 (by omega), rg_b8 t1 h1.1 (by omega), rg_b8 t2 h2.1 (by omega), rg_b8 t3 h3.1 (by omega)]
    exact ⟨rfl, rfl, rfl, rfl⟩
theorem four_last (xs : List Int) (h : 4 ≤ xs.length) : ∃ ys t0 t1 t2 t3, xs = ys ++ [t0, t1, t2, t3] := by
  refine ⟨xs.take (xs.length - 4), xs[xs.length - 4], xs[xs.length - 3], xs[xs.length - 2], xs[xs.length - 1], ?_⟩
  apply List.ext_getElem
  · simp; omega
  · intro i h1 h2
    rw [List.getElem_append]
    split
    · rw [List.getElem_take]
    · rename_i hi
      simp at hi
      obtain ⟨j, rfl⟩ : ∃ j, i = (xs.length - 4) + j := ⟨i - (xs.length - 4), by omega⟩
      have hj : j < 4 := by omega
      have e : (xs.length - 4 + j) - (xs.take (xs.length - 4)).length = j := by rw [List.length_take]; omega
      simp only [e]
      match j, hj with
      | 0, _ => rfl
      | 1, _ => simp only [List.getElem_cons_succ, List.getElem_cons_zero]; (congr 1 <;> omega)
      | 2, _ => simp only [List.getElem_cons_succ, List.getElem_cons_zero]; (congr 1 <;> omega)
      | 3, _ => simp only [List.getElem_cons_succ, List.getElem_cons_zero]; (congr 1 <;> omega)
end Go.Proofs.YtokikeenfpligaaGreatDoor.Sm

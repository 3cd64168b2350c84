/-
  WHAT THE ROWS' LISTED TABLES GIVE THE WALKS: the library's table, the near sides, cell by cell. Condition: the listed variables read as the program's text lays them.
-/
import Derived.Test.YtifkhmcdgmnipaaGreatDoorRows
import Derived.ProofKit
import Derived.LaidMore
import Derived.LaidLaws
import Derived.LaidHandle
import Derived.OpenShut
import Derived.Stop.Joined
import Derived.Test.YtifkhmcdgmnipaaGreatDoorR45
namespace Go.Proofs.YtifkhmcdgmnipaaGreatDoor
open Go.ChangeShapes Go.WideShapes Go.ChangeAt Go.RowKit Go.WideElems

theorem take_one {cs : List Value} {i : Nat} {a : Value} (h : (cs.drop (i * 1)).take 1 = [a]) : cs[i]? = some a := by
  rw [Nat.mul_one] at h
  have h2 := congrArg (·[0]?) h
  simp only [List.getElem?_cons_zero] at h2
  rw [List.getElem?_take_of_lt (by omega), List.getElem?_drop, Nat.add_zero] at h2
  exact h2
theorem arr_cells {H : Type} {enc : TypeId × Value → H} {P : Program} {w : World} {base : Nat} {spare : Nat → Bool} {held : Bool} {fuel : Nat} {t e : TypeId} {n : Nat} {k : IntKind} {cs : List Value} {x : DataW H × List MemPlace}
    (ht : P.underlying t = some (.array n e)) (he : P.underlying e = some (.int k)) (hc : P.cellsOf e = 1) (ns : List Int) (hx : x.1 = .agg (ns.map fun v => (DataW.lit (Lit.int k v) : DataW H))) (h : DataW.trod enc P w base spare held fuel t cs = some x) :
    ∀ (i : Nat) (v : Int), ns[i]? = some v → cs[i]? = some (Value.int k v) := by
  obtain ⟨xs, m, _, rfl, _, hn, hel⟩ := DataW.trod_array ht h
  simp only [DataW.agg.injEq] at hx
  intro i v hv
  have hxi : (xs.map (·.1))[i]? = some (DataW.lit (Lit.int k v)) := by rw [hx, List.getElem?_map, hv]; rfl
  rw [List.getElem?_map] at hxi
  obtain ⟨y, hy, hy1⟩ := Option.map_eq_some_iff.1 hxi
  have hin : i < n := by
    rw [← hn]
    exact (List.getElem?_eq_some_iff.1 hy).1
  have h1 := hel i hin
  rw [hy, hc] at h1
  obtain ⟨a, e1, e2, _⟩ := DataW.trod_int he h1
  have e3 : a = v := by
    rw [e2] at hy1
    injection hy1 with hy1
    injection hy1
  subst e3
  exact take_one e1
theorem gTab : Tryz.prog.globalNamed "math/bits.deBruijn64tab" = some 2 := by kernel_rfl
theorem gNear : Tryz.prog.globalNamed "quilt/find.near" = some 0 := by kernel_rfl
theorem tTab : (Tryz.prog.globals[(2 : Nat)]?).map (·.type) = some 146 := by kernel_rfl
theorem tNear : (Tryz.prog.globals[(0 : Nat)]?).map (·.type) = some 98 := by kernel_rfl
theorem c8 : Tryz.prog.cellsOf 5 = 1 := by kernel_rfl
theorem ci : Tryz.prog.cellsOf 3 = 1 := by kernel_rfl
theorem c2i : Tryz.prog.cellsOf 97 = 2 := by kernel_rfl
theorem tab_dat : ∀ j, j < 64 → (Go.Lib.deBruijn64tab.map fun n => ((n : Nat) : Int))[j]? = some ((Go.Lib.deBruijn64tab.getD j 0 : Nat) : Int) := by decide +kernel
set_option maxRecDepth 100000 in
theorem tab_is : (Rows.laid_math_bits_deBruijn64tab : DataW Unit) = .agg ((Go.Lib.deBruijn64tab.map fun n => ((n : Nat) : Int)).map fun v => DataW.lit (Lit.int .u8 v)) := by rfl
set_option maxRecDepth 100000 in
theorem near_is : (Rows.laid_quilt_find_near : DataW Unit) = .agg ([0, 1, 2, 3].map fun s => .agg ([((Qd.ner s 0 : Nat) : Int), ((Qd.ner s 1 : Nat) : Int)].map fun v => DataW.lit (Lit.int .i64 v))) := by rfl
theorem near_cells {w : World} {base : Nat} {spare : Nat → Bool} {held : Bool} {fuel : Nat} {cs : List Value} {x : DataW Unit × List MemPlace} {enc : TypeId × Value → Unit}
    (hx : x.1 = Rows.laid_quilt_find_near) (h : DataW.trod enc Tryz.prog w base spare held fuel 98 cs = some x) : ∀ s j, s < 4 → j < 2 → cs[s * 2 + j]? = some (.int .i64 (Qd.ner s j : Nat)) := by
  obtain ⟨xs, m, _, rfl, _, hn, hel⟩ := DataW.trod_array Tryz.underlying98 h
  rw [near_is] at hx
  simp only [DataW.agg.injEq] at hx
  intro s j hs hj
  have hxi : (xs.map (·.1))[s]? = some (.agg ([((Qd.ner s 0 : Nat) : Int), ((Qd.ner s 1 : Nat) : Int)].map fun v => DataW.lit (Lit.int .i64 v))) := by
    rw [hx]
    have h4 : s = 0 ∨ s = 1 ∨ s = 2 ∨ s = 3 := by omega
    rcases h4 with rfl | rfl | rfl | rfl <;> rfl
  rw [List.getElem?_map] at hxi
  obtain ⟨y, hy, hy1⟩ := Option.map_eq_some_iff.1 hxi
  have h1 := hel s hs
  rw [hy, c2i] at h1
  have h2 := arr_cells Tryz.underlying97 Tryz.underlying3 ci _ hy1 h1 j (Qd.ner s j : Nat) (by
    have h3 : j = 0 ∨ j = 1 := by omega
    rcases h3 with rfl | rfl <;> rfl)
  rw [List.getElem?_take_of_lt (by omega), List.getElem?_drop] at h2
  exact h2
theorem lay_of {W : World} (h : laidMet Tryz.prog [("math/bits.deBruijn64tab", Rows.laid_math_bits_deBruijn64tab), ("quilt/find.near", Rows.laid_quilt_find_near)] W) : TabZ W ∧ NearZ W := by
  obtain ⟨ps, ⟨g0, t0, cs0, f0, p0, q0, hg0, ht0, hv0, hd0, ⟨g1, t1, cs1, f1, p1, q1, hg1, ht1, hv1, hd1, _, _⟩, _⟩, _, _⟩ := h
  obtain rfl := Option.some.inj (gTab.symm.trans hg0)
  obtain rfl := Option.some.inj (gNear.symm.trans hg1)
  obtain rfl := Option.some.inj (tTab.symm.trans ht0)
  obtain rfl := Option.some.inj (tNear.symm.trans ht1)
  constructor
  · intro j hj
    have h1 := arr_cells Tryz.underlying146 Tryz.underlying5 c8 _ tab_is hd0 j _ (tab_dat j hj)
    have h2 := World.var?_cell hg0 hv0 j
    rw [h2]
    simpa using h1
  · intro s j hs hj
    have h1 := near_cells rfl hd1 s j hs hj
    have h2 := World.var?_cell hg1 hv1 (s * 2 + j)
    rw [h2]
    simpa using h1
end Go.Proofs.YtifkhmcdgmnipaaGreatDoor

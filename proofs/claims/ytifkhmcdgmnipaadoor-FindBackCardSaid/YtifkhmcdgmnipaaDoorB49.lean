/-
  WHAT CELLS, A CELL AND TWO NUMBERS THAT CAME IN GIVE A WALK. Conditions: that they could be read.
  APPEND OF ONE CELL to a row of the call's own, in a region that draws. Conditions: those that each lemma names.
-/
import Derived.OpenShut
import Derived.Deep.Slices
import Derived.Deep.SlicePairs
import Derived.Deep.MidRow
import Derived.ChangeSlices
import Derived.ChangeArms
import Derived.ChangeSame
import Derived.Laws.IdiomArrays
import Derived.WideShapes
import Derived.Lib.SmallJoins
import Derived.Maps.AppendAt
import Derived.Deep.RegionHeld3
import Derived.Test.YtifkhmcdgmnipaaDoorB46
namespace Go.Proofs.YtifkhmcdgmnipaaDoor
open Go.RowKit Go.ChangeShapes Go.WideShapes Go.Deep Ce Cl

def I6 (c : Cel) : Prop := (-9223372036854775808 ≤ c.1 ∧ c.1 ≤ 9223372036854775807) ∧ (-9223372036854775808 ≤ c.2 ∧ c.2 ≤ 9223372036854775807)
/-- cells that came in -/
structure IsC (w : World) (a : Option Addr) (n : Nat) (L : List Cel) : Prop where
  cls : Cls w a L
  len : L.length = n
  nil : a = none → n = 0
  max : n ≤ 9223372036854775807
  i6 : ∀ x ∈ L, I6 x
theorem wf_to6 {a : Int} (h : (Lit.int .i64 a).wf = true) : -9223372036854775808 ≤ a ∧ a ≤ 9223372036854775807 := by
  have h1 : IntKind.i64.min ≤ a ∧ a ≤ IntKind.i64.max := by simpa [Lit.wf] using h
  have e0 : IntKind.i64.min = -9223372036854775808 := rfl
  have e1 : IntKind.i64.max = 9223372036854775807 := rfl
  omega
section
variable {H : Type} {enc : TypeId × Value → H} {w : World} {base : Nat} {spare : Nat → Bool} {held : Bool}
set_option maxRecDepth 100000 in
theorem cells_open {fuel : Nat} {a : Option Addr} {len cap : Nat} {x : DataW H × List MemPlace} (h : DataW.trod enc Tryd.prog w base spare held fuel 22 [.slice a len cap] = some x) : ∃ L, IsC w a len L := by
  rcases open_slice_pairs Tryd.underlying22 Tryd.underlying32 (by kernel_rfl) rfl rfl (by kernel_rfl) (by kernel_rfl) h with ⟨hcs, _⟩ | ⟨ad, len', cap', m, n, V0, V1, D0, D1, P0, P1, hcs, _, hl, hm, hmm, _, hi⟩
  · simp at hcs
    obtain ⟨rfl, rfl, rfl⟩ := hcs
    exact ⟨[], cls_nil _ _, rfl, fun _ => rfl, by omega, fun x hx => by cases hx⟩
  · simp at hcs
    obtain ⟨rfl, rfl, rfl⟩ := hcs
    have hlm : len ≤ m := by rw [hmm]; split <;> omega
    unfold maxLen at hm
    have hspot : 0 < len → ad.spot = none := by
      intro h0
      obtain ⟨c0, _, _, _⟩ := hi 0 (by omega)
      have e : ad.add (0 * 2) = ad := by simp [Addr.add]
      rw [e] at c0
      exact World.cell?_spot c0
    have each : ∀ i, ∃ c : Cel, i < len → I6 c ∧ ∃ b o, some ad = some (⟨b, o, none⟩ : Addr) ∧ w.cell? ⟨b, o + i * 2, none⟩ = some (.int .i64 c.1) ∧ w.cell? ⟨b, o + i * 2 + 1, none⟩ = some (.int .i64 c.2) := by
      intro i
      by_cases hlt : i < len
      · obtain ⟨c0, c1, t0, t1⟩ := hi i (by omega)
        obtain ⟨x0, e0, _, w0⟩ := DataW.trod_int Tryd.underlying3 t0
        obtain ⟨x1, e1, _, w1⟩ := DataW.trod_int Tryd.underlying3 t1
        simp at e0 e1
        rw [e0] at c0
        rw [e1] at c1
        have hs := hspot (by omega)
        obtain ⟨b, o, spot⟩ := ad
        change spot = none at hs
        subst hs
        rw [Addr.add_mid] at c0 c1
        exact ⟨(x0, x1), fun _ => ⟨⟨wf_to6 w0, wf_to6 w1⟩, b, o, rfl, c0, by rw [Nat.add_assoc]; exact c1⟩⟩
      · exact ⟨(0, 0), fun h => absurd h hlt⟩
    refine ⟨(List.range len).map fun i => (each i).choose, ?_, by simp, (fun e => by cases e), by omega, ?_⟩
    · intro i hi2
      have hlt : i < len := by simpa using hi2
      obtain ⟨_, b, o, e, c0, c1⟩ := (each i).choose_spec hlt
      exact ⟨b, o, e, by simpa using c0, by simpa using c1⟩
    · intro x hx
      obtain ⟨i, hi2, rfl⟩ := List.mem_map.1 hx
      exact ((each i).choose_spec (List.mem_range.1 hi2)).1
end
end Go.Proofs.YtifkhmcdgmnipaaDoor
namespace Go.Proofs.YtifkhmcdgmnipaaDoor
open Go.RowKit Ce Cl

theorem cells_at {w : World} {g : Nat} {x : Cel} {T : TypeId} (h : w.heap[g]? = some (.cells #[.int .i64 x.1, .int .i64 x.2] T (0, 0))) : ∀ j u, (cc x)[j]? = some u → w.cell? ((⟨g, 0, none⟩ : Addr).add j) = some u := by
  intro j u hj
  rw [show (⟨g, 0, none⟩ : Addr).add j = ⟨g, j, none⟩ from by simp [Addr.add]; omega, cell_of_row _ _ j _ _ _ h]
  simpa [cc] using hj
set_option maxRecDepth 100000 in
/-- append of one cell to a row of the call's own, in a region that draws -/
theorem step_appA {ops : Array Oper} {o : Oper} {a : Act} {w : World} {K : Act → World → Prop} {Q : Exit → Act → World → Prop} {E : Prop} (hgd : o.guard = none) (s x : Operand)
    (ho : o.op = .call { callee := .builtin .append, args := #[s, x], argTypes := #[30, 30] }) (B n : Nat) (v : Value) (L : List Cel) (hs : a.eval s = v) (hown : OwnC 33 w B v n L) (ad : Addr) (c : Cel) (hx : a.eval x = .slice (some ad) 1 1)
    (hc : ∀ j u, (cc c)[j]? = some u → w.cell? (ad.add j) = some u) (hm : n ≤ 1000000) (hbase : B ≤ w.heap.size)
    (h : ∀ v' w', OwnC 33 w' B v' (n + 1) (L ++ [c]) → w.grownBy w' v.ownBlock → (v'.ownBlock = v.ownBlock ∨ v'.ownBlock = some w.heap.size) → K (a.put o.dst v') w') : if Region.wanted o (yielded ops a.tmps) = true then Oper.wp Tryd.prog o a w K Q else E := by
  have hw : Region.wanted o (yielded ops a.tmps) = true := by simp [Region.wanted, hgd]
  rw [if_pos hw]
  obtain ⟨i, hi, hz0, hz1, hz2⟩ := info_parts info_a
  obtain ⟨v', w', hr, h2, h3, _, h5⟩ := run_append_own_at (P := Tryd.prog) w B 30 o.type 33 i (cv (0, 0)) 2 16 Tryd.underlying30 hi hz0 hz1 hz2 rfl (by decide) v n (cl L) hown ad 1 1 (cc c) rfl hc (cc_one c) (by unfold maxLen; omega) (by omega) hbase
  unfold Oper.wp execOp
  simp only [ho, resolve, invoke, builtin, Sem.run_bind, Sem.run_pure, Result.andThen_ok, List.map_toArray, List.map_cons, List.map_nil, hs, hx, hr]
  exact h v' w' (by rw [cl_snoc] at h2; exact h2) h3 h5
end Go.Proofs.YtifkhmcdgmnipaaDoor

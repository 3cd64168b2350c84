/-
  WHAT CAME IN: a list of acts, a slice of whole numbers. Conditions: that it could be read.
-/
import Derived.Test.YtkmedlbokneegaaDoorSu
import Derived.Test.YtkmedlbokneegaaDoorIn
import Derived.OpenShut
import Derived.Deep.Slices
import Derived.Deep.Fields
import Derived.ChangeSlices
import Derived.ChangeArms
namespace Go.Proofs.YtkmedlbokneegaaDoor
open Go.RowKit Go.ChangeShapes Go.WideShapes Go.Deep

abbrev IsRow := Sm.IsRow
def I64 (n : Int) : Prop := -9223372036854775808 ≤ n ∧ n ≤ 9223372036854775807
/-- the numbers of a slice that came in -/
theorem row_at {w : World} {a : Option Addr} {len cap : Nat} {zs : List Int} (h : IsRow .i64 w a len cap zs) : len ≤ 9223372036854775807 ∧ ∀ i, i < len → ∃ b o, a = some ⟨b, o, none⟩ ∧ w.cell? ⟨b, o + i, none⟩ = some (.int .i64 (zs.getD i 0)) ∧ I64 (zs.getD i 0) := by
  rcases h with ⟨rfl, rfl, rfl, rfl⟩ | ⟨x, rfl, hl, hm, hz, hc, hw⟩
  · exact ⟨by omega, fun i hi => absurd hi (by omega)⟩
  · unfold maxLen at hm
    refine ⟨by omega, fun i hi => ?_⟩
    obtain ⟨b, o, spot⟩ := x
    have c := hc i (by omega)
    have hs : spot = none := by
      have c0 := hc 0 (by omega)
      simpa [Addr.add] using World.cell?_spot c0
    subst hs
    rw [Addr.add_mid] at c
    refine ⟨b, o, rfl, c, ?_⟩
    have hx : zs.getD i 0 ∈ zs := by
      have : i < zs.length := by omega
      simp [this]
    exact bounds_i64 (hw _ hx)
/-- one act's fields -/
structure ActV where
  kind : Int
  i : Int
  b : ByteArray
  bad : Bool
  n : Int
def ActV.cells (A : ActV) : List Value := [.int .i64 A.kind, .int .i64 A.i, .string A.b, .bool A.bad, .int .i64 A.n]
/-- an act that came in -/
structure ActOk (A : ActV) : Prop where
  kind : I64 A.kind
  i : I64 A.i
  b : A.b.size ≤ 9223372036854775807
  n : I64 A.n
def IsActs (w : World) (a : Option Addr) (n : Nat) (l : Nat → ActV) : Prop :=
  n ≤ 9223372036854775807 ∧ ∀ i, i < n → ∃ b o, a = some ⟨b, o, none⟩ ∧ w.rangeAt b (o + i * 5) (l i).cells ∧ ActOk (l i)

section
variable {H : Type} {enc : TypeId × Value → H} {w : World} {base : Nat} {spare : Nat → Bool} {held : Bool}
set_option maxRecDepth 100000 in
theorem act_of {fuel : Nat} {cs : List Value} {x : DataW H × List MemPlace} (h : DataW.trod enc Tryd.prog w base spare held fuel 42 cs = some x) :
    ∃ A : ActV, cs = A.cells ∧ ActOk A := by
  obtain ⟨xs, n, _, _, hlen, hxl, hf⟩ := DataW.trod_struct Tryd.underlying42 h
  have h5 : cs.length = 5 := hlen.trans (by kernel_rfl)
  match cs, h5, hf with
  | [c0, c1, c2, c3, c4], _, hf =>
    have hx5 : xs.length = 5 := hxl
    match xs, hx5, hf with
    | [x0, x1, x2, x3, x4], _, hf =>
      have e1 : Tryd.prog.cellsOf 3 = 1 := by kernel_rfl
      have e2 : Tryd.prog.cellsOf 9 = 1 := by kernel_rfl
      have e3 : Tryd.prog.cellsOf 4 = 1 := by kernel_rfl
      have f0 := hf 0 _ rfl
      have f1 := hf 1 _ rfl
      have f2 := hf 2 _ rfl
      have f3 := hf 3 _ rfl
      have f4 := hf 4 _ rfl
      change DataW.trod enc Tryd.prog w base spare held n 3 (List.take (Tryd.prog.cellsOf 3) [c0, c1, c2, c3, c4]) = some x0 at f0
      rw [e1] at f0
      change DataW.trod enc Tryd.prog w base spare held n 3 (List.take (Tryd.prog.cellsOf 3) [c1, c2, c3, c4]) = some x1 at f1
      rw [e1] at f1
      change DataW.trod enc Tryd.prog w base spare held n 9 (List.take (Tryd.prog.cellsOf 9) [c2, c3, c4]) = some x2 at f2
      rw [e2] at f2
      change DataW.trod enc Tryd.prog w base spare held n 4 (List.take (Tryd.prog.cellsOf 4) [c3, c4]) = some x3 at f3
      rw [e3] at f3
      change DataW.trod enc Tryd.prog w base spare held n 3 (List.take (Tryd.prog.cellsOf 3) [c4]) = some x4 at f4
      rw [e1] at f4
      obtain ⟨n0, g0, _, w0⟩ := DataW.trod_int Tryd.underlying3 f0
      obtain ⟨n1, g1, _, w1⟩ := DataW.trod_int Tryd.underlying3 f1
      obtain ⟨s2, g2, _, w2⟩ := DataW.trod_string Tryd.underlying9 f2
      obtain ⟨b3, g3, _⟩ := DataW.trod_bool Tryd.underlying4 f3
      obtain ⟨n4, g4, _, w4⟩ := DataW.trod_int Tryd.underlying3 f4
      unfold maxLen at w2
      refine ⟨⟨n0, n1, s2, b3, n4⟩, ?_, ⟨bounds_i64 w0, bounds_i64 w1, w2, bounds_i64 w4⟩⟩
      simp at g0 g1 g2 g3 g4
      rw [g0, g1, g2, g3, g4]
      rfl
set_option maxRecDepth 100000 in
theorem acts_of {fuel : Nat} {a : Option Addr} {len cap : Nat} {x : DataW H × List MemPlace} (h : DataW.trod enc Tryd.prog w base spare held fuel 22 [.slice a len cap] = some x) : ∃ l, IsActs w a len l := by
  rcases open_slice Tryd.underlying22 h with ⟨hcs, _⟩ | ⟨ad, len', cap', m, n, D, Pl, hcs, _, hl, hm, hmm, _, hi⟩
  · simp at hcs
    obtain ⟨rfl, rfl, rfl⟩ := hcs
    exact ⟨fun _ => ⟨0, 0, ByteArray.empty, false, 0⟩, by omega, fun i hi => absurd hi (by omega)⟩
  · simp at hcs
    obtain ⟨rfl, rfl, rfl⟩ := hcs
    have hlm : len ≤ m := by rw [hmm]; split <;> omega
    have e6 : Tryd.prog.cellsOf 42 = 5 := by kernel_rfl
    have hspot : 0 < len → ad.spot = none := by
      intro h0
      obtain ⟨cs', hc, ht⟩ := hi 0 (by omega)
      rw [e6] at hc
      obtain ⟨A, rfl, _⟩ := act_of ht
      obtain ⟨_, _, hat⟩ := World.cells?_some hc
      have c1 : w.cell? ((ad.add (0 * 5)).add 0) = some (.int .i64 A.kind) := hat 0 (by omega)
      have e : (ad.add (0 * 5)).add 0 = ad := by simp [Addr.add]
      rw [e] at c1
      exact World.cell?_spot c1
    have hA : ∀ i, ∃ A : ActV, i < len → ∃ b o, some ad = some (⟨b, o, none⟩ : Addr) ∧ w.rangeAt b (o + i * 5) A.cells ∧ ActOk A := by
      intro i
      by_cases hlt : i < len
      · obtain ⟨cs', hc, ht⟩ := hi i (by omega)
        rw [e6] at hc
        obtain ⟨A, rfl, hok⟩ := act_of ht
        obtain ⟨_, hcl, hat⟩ := World.cells?_some hc
        refine ⟨A, fun _ => ?_⟩
        have hs := hspot (by omega)
        obtain ⟨b, o, spot⟩ := ad
        change spot = none at hs
        subst hs
        refine ⟨b, o, rfl, fun j v hv => ?_, hok⟩
        have hj : j < 5 := by
          have := (List.getElem?_eq_some_iff.1 hv).1
          simpa [ActV.cells] using this
        have c := hat j hj
        rw [Addr.add_mid, Addr.add_mid] at c
        rw [c]
        exact hv
      · exact ⟨⟨0, 0, ByteArray.empty, false, 0⟩, fun h => absurd h hlt⟩
    unfold maxLen at hm
    exact ⟨fun i => (hA i).choose, by omega, fun i hi => (hA i).choose_spec hi⟩
end
theorem act_cell {W w : World} {b o : Nat} {cs : List Value} (hb : Below W.heap.size W w) (h : W.rangeAt b o cs) (j : Nat) (v : Value) (hv : cs[j]? = some v) : w.cell? ⟨b, o + j, none⟩ = some v :=
  (hb.cell (p := ⟨b, o + j, none⟩) (World.block_lt_of_cell? W _ (h j v hv))).trans (h j v hv)
theorem below_drewN (w : World) (n : Nat) : Below w.heap.size w (w.drewN n) := ⟨(Below.refl w.heap.size w).os, (Below.refl w.heap.size w).tape, (Below.refl w.heap.size w).output, (Below.refl w.heap.size w).size, (Below.refl w.heap.size w).block⟩
theorem PlN.drewN {W w w0 : World} {N p D : Nat} {X : Px} {H0 : Nat → Prop} (h : PlN W N w p D X w0 H0) (n : Nat) : PlN W N (w.drewN n) p D X w0 H0 := h.below (below_drewN w n)
theorem pl_dirty_nil {W w w0 : World} {N p D : Nat} {X : Px} {H0 : Nat → Prop} (h : PlN W N w p D X w0 H0) (hd : X.dirt X.m = []) :
    Calls Tryd.prog 21 #[.pointer (some ⟨p, 0, none⟩)] w fun e w' => ∃ ao ac, e = .returned (.slice ao 0 ac) ∧ PlN W N w' p D X w0 H0 :=
  (pl_dirty h).mono fun _ _ ⟨ao, ac, he, _, h2⟩ => ⟨ao, ac, by rw [hd] at he; exact he, h2⟩
theorem pl_flush_flat {W w w0 : World} {N p D : Nat} {X : Px} {H0 : Nat → Prop} (h : PlN W N w p D X w0 H0) (hN : N + 1025 < 2305843009213693952) (hd : ∀ j, j < X.m → (X.fr j).d = false) :
    Calls Tryd.prog 19 #[.pointer (some ⟨p, 0, none⟩)] w fun e w' => e = .returned .nilIface ∧ PlN W (N + X.m) w' p D (X.disk X.d.flush) w0 H0 :=
  (pl_flush h hN).mono fun _ _ ⟨he, h2⟩ => by
    rw [flush_flat hd] at he h2
    rw [show errv ((X.disk X.d.flush, (0 : Int)) : Px × Int).2 = .nilIface from errv0] at he
    exact ⟨he, h2⟩
end Go.Proofs.YtkmedlbokneegaaDoor

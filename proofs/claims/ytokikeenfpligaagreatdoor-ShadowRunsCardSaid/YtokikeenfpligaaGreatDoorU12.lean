/-
  WHAT CAME IN: a list of acts, each with a page. Conditions: that it could be read.
-/
import Derived.OpenShut
import Derived.Deep.Slices
import Derived.Deep.Fields
import Derived.ChangeSlices
import Derived.ChangeArms
import Derived.Test.YtokikeenfpligaaGreatDoorU11
import Derived.Test.YtokikeenfpligaaGreatDoorU06
namespace Go.Proofs.YtokikeenfpligaaGreatDoor
open Go.RowKit Go.ChangeShapes Go.WideShapes Go.Deep

def I64 (n : Int) : Prop := -9223372036854775808 ≤ n ∧ n ≤ 9223372036854775807
/-- a page that came in -/
structure PageIn (w : World) (ki nu ep si : Int) (a : Option Addr) (n : Nat) (rs : List (List Int)) : Prop where
  k0 : 0 ≤ ki
  k1 : ki < 256
  n0 : 0 ≤ nu
  n1 : nu < 4294967296
  e0 : 0 ≤ ep
  e1 : ep < 18446744073709551616
  s0 : -9223372036854775808 ≤ si
  s1 : si ≤ 9223372036854775807
  recs : Sm.Recs w a rs
  len : rs.length = n
  max : n ≤ 9223372036854775807
theorem wf_u32 {x : Int} (h : (Lit.int .u32 x).wf = true) : 0 ≤ x ∧ x < 4294967296 := by
  have h1 : IntKind.u32.min ≤ x ∧ x ≤ IntKind.u32.max := by simpa [Lit.wf] using h
  have e0 : IntKind.u32.min = 0 := rfl
  have e1 : IntKind.u32.max = 4294967295 := rfl
  omega
theorem wf_u64 {x : Int} (h : (Lit.int .u64 x).wf = true) : 0 ≤ x ∧ x < 18446744073709551616 := by
  have h1 : IntKind.u64.min ≤ x ∧ x ≤ IntKind.u64.max := by simpa [Lit.wf] using h
  have e0 : IntKind.u64.min = 0 := rfl
  have e1 : IntKind.u64.max = 18446744073709551615 := rfl
  omega
section
variable {H : Type} {enc : TypeId × Value → H} {w : World} {base : Nat} {spare : Nat → Bool} {held : Bool}
set_option maxRecDepth 100000 in
/-- one record -/
theorem rec_of {fuel : Nat} {cs : List Value} {x : DataW H × List MemPlace} (h : DataW.trod enc Tryz.prog w base spare held fuel 72 cs = some x) :
    ∃ (ra : Option Addr) (rc : Nat) (xs : List Int), cs = [.slice ra xs.length rc] ∧ Sm.Lies w ra xs ∧ xs.length ≤ rc ∧ rc ≤ 9223372036854775807 := by
  rcases open_ints Tryz.underlying72 Tryz.underlying5 (by kernel_rfl) h with ⟨hcs, _⟩ | ⟨a, len, cap, zs, hcs, _, hl, hm, hz, _, hcell, hwz⟩
  · exact ⟨none, 0, [], hcs, Sm.lies_nil _ _, Nat.le_refl _, by omega⟩
  · unfold maxLen at hm
    have hz' : len ≤ zs.length := by rw [hz]; split <;> omega
    have hlen : (zs.take len).length = len := by rw [List.length_take]; omega
    refine ⟨some a, cap, zs.take len, by rw [hlen]; exact hcs, ?_, by omega, by omega⟩
    intro i hi
    have hi' : i < len := by omega
    have hiz : i < zs.length := by omega
    obtain ⟨b, off, spot⟩ := a
    have c := hcell i hiz
    have hspot : spot = none := by
      have c0 := hcell 0 (by omega)
      simpa [Addr.add] using World.cell?_spot c0
    subst hspot
    have e : zs.getD i 0 = (zs.take len)[i] := by rw [List.getElem_take]; simp [hiz]
    rw [e, Addr.add_mid] at c
    have hb := bounds_u8 (hwz (zs.take len)[i] (List.mem_of_mem_take (List.getElem_mem hi)))
    exact ⟨b, off, rfl, c, hb.1, by omega⟩
set_option maxRecDepth 100000 in
theorem recs_of {fuel : Nat} {cs : List Value} {x : DataW H × List MemPlace} (h : DataW.trod enc Tryz.prog w base spare held fuel 41 cs = some x) :
    ∃ (a : Option Addr) (n c : Nat) (rs : List (List Int)), cs = [.slice a n c] ∧ Sm.Recs w a rs ∧ rs.length = n ∧ n ≤ 9223372036854775807 := by
  rcases open_slice Tryz.underlying41 h with ⟨hcs, _⟩ | ⟨ad, len, cap, m, n, D, Pl, hcs, _, hl, hm, hmm, _, hi⟩
  · exact ⟨none, 0, 0, [], hcs, fun i hi => absurd hi (by simp), rfl, by omega⟩
  · have hlm : len ≤ m := by rw [hmm]; split <;> omega
    have e1 : Tryz.prog.cellsOf 72 = 1 := by kernel_rfl
    have hspot : 0 < len → ad.spot = none := by
      intro h0
      obtain ⟨cs', hc, ht⟩ := hi 0 (by omega)
      rw [e1] at hc
      obtain ⟨ra, rc, xs, rfl, _⟩ := rec_of ht
      obtain ⟨_, _, hat⟩ := World.cells?_some hc
      have c := hat 0 (by omega)
      have e : (ad.add (0 * 1)).add 0 = ad := by simp [Addr.add]
      rw [e] at c
      exact World.cell?_spot (v := .slice ra xs.length rc) (by simpa using c)
    have hA : ∀ i, ∃ xs : List Int, i < len → ∃ b off ra rc, ad = (⟨b, off, none⟩ : Addr) ∧ w.cell? ⟨b, off + i, none⟩ = some (.slice ra xs.length rc) ∧ Sm.Lies w ra xs ∧ xs.length ≤ rc ∧ rc ≤ 9223372036854775807 := by
      intro i
      by_cases hlt : i < len
      · obtain ⟨cs', hc, ht⟩ := hi i (by omega)
        rw [e1] at hc
        obtain ⟨ra, rc, xs, rfl, h1, h2, h3⟩ := rec_of ht
        obtain ⟨_, hcl, hat⟩ := World.cells?_some hc
        have c := hat 0 (by omega)
        obtain ⟨b, o, spot⟩ := ad
        have e0 : (Addr.add (Addr.add ⟨b, o, spot⟩ (i * 1)) 0) = Addr.add ⟨b, o, spot⟩ i := by simp [Addr.add]
        rw [e0] at c
        have hs := hspot (by omega)
        change spot = none at hs
        subst hs
        rw [Addr.add_mid] at c
        exact ⟨xs, fun _ => ⟨b, o, ra, rc, rfl, by simpa using c, h1, h2, h3⟩⟩
      · exact ⟨[], fun h => absurd h hlt⟩
    unfold maxLen at hm
    refine ⟨some ad, len, cap, (List.range len).map fun i => (hA i).choose, hcs, ?_, by simp, by omega⟩
    intro i hi'
    have hil : i < len := by simpa using hi'
    obtain ⟨b, off, ra, rc, h0, h1, h2, h3, h4⟩ := (hA i).choose_spec hil
    have e : ((List.range len).map fun i => (hA i).choose)[i] = (hA i).choose := by simp
    rw [e]
    exact ⟨b, off, ra, rc, by rw [h0], h1, h2, h3, h4⟩
set_option maxRecDepth 100000 in
theorem page_of {fuel : Nat} {cs : List Value} {x : DataW H × List MemPlace} (h : DataW.trod enc Tryz.prog w base spare held fuel 43 cs = some x) :
    ∃ ki nu ep si a n c rs, cs = [.int .u8 ki, .int .u32 nu, .int .u64 ep, .int .i64 si, .slice a n c] ∧ PageIn w ki nu ep si a n rs := by
  obtain ⟨xs, n, _, _, hlen, hxl, hf⟩ := DataW.trod_struct Tryz.underlying43 h
  have h5 : cs.length = 5 := hlen.trans (by kernel_rfl)
  match cs, h5, hf with
  | [c0, c1, c2, c3, c4], _, hf =>
    have hx5 : xs.length = 5 := hxl
    match xs, hx5, hf with
    | [x0, x1, x2, x3, x4], _, hf =>
      have e1 : Tryz.prog.cellsOf 3 = 1 := by kernel_rfl
      have e2 : Tryz.prog.cellsOf 5 = 1 := by kernel_rfl
      have e3 : Tryz.prog.cellsOf 39 = 1 := by kernel_rfl
      have e4 : Tryz.prog.cellsOf 40 = 1 := by kernel_rfl
      have e5 : Tryz.prog.cellsOf 41 = 1 := by kernel_rfl
      have f0 := hf 0 _ rfl
      have f1 := hf 1 _ rfl
      have f2 := hf 2 _ rfl
      have f3 := hf 3 _ rfl
      have f4 := hf 4 _ rfl
      change DataW.trod enc Tryz.prog w base spare held n 5 (List.take (Tryz.prog.cellsOf 5) [c0, c1, c2, c3, c4]) = some x0 at f0
      rw [e2] at f0
      change DataW.trod enc Tryz.prog w base spare held n 39 (List.take (Tryz.prog.cellsOf 39) [c1, c2, c3, c4]) = some x1 at f1
      rw [e3] at f1
      change DataW.trod enc Tryz.prog w base spare held n 40 (List.take (Tryz.prog.cellsOf 40) [c2, c3, c4]) = some x2 at f2
      rw [e4] at f2
      change DataW.trod enc Tryz.prog w base spare held n 3 (List.take (Tryz.prog.cellsOf 3) [c3, c4]) = some x3 at f3
      rw [e1] at f3
      change DataW.trod enc Tryz.prog w base spare held n 41 (List.take (Tryz.prog.cellsOf 41) [c4]) = some x4 at f4
      rw [e5] at f4
      obtain ⟨n0, g0, _, w0⟩ := DataW.trod_int Tryz.underlying5 f0
      obtain ⟨n1, g1, _, w1⟩ := DataW.trod_int Tryz.underlying39 f1
      obtain ⟨n2, g2, _, w2⟩ := DataW.trod_int Tryz.underlying40 f2
      obtain ⟨n3, g3, _, w3⟩ := DataW.trod_int Tryz.underlying3 f3
      obtain ⟨a, m, c, rs, g4, hr, hl, hm⟩ := recs_of f4
      have b0 := bounds_u8 w0
      have b1 := wf_u32 w1
      have b2 := wf_u64 w2
      have b3 := bounds_i64 w3
      refine ⟨n0, n1, n2, n3, a, m, c, rs, ?_, ⟨b0.1, by omega, b1.1, b1.2, b2.1, b2.2, b3.1, b3.2, hr, hl, hm⟩⟩
      simp at g0 g1 g2 g3 g4
      rw [g0, g1, g2, g3, g4]
/-- one act's fields -/
structure ActV where
  kind : Int
  n : Int
  ki : Int
  nu : Int
  ep : Int
  si : Int
  a : Option Addr
  q : Nat
  c : Nat
  rs : List (List Int)
def ActV.cells (A : ActV) : List Value := [.int .i64 A.kind, .int .i64 A.n, .int .u8 A.ki, .int .u32 A.nu, .int .u64 A.ep, .int .i64 A.si, .slice A.a A.q A.c]
/-- an act that came in -/
structure ActOk (w : World) (A : ActV) : Prop where
  kind : I64 A.kind
  n : I64 A.n
  pg : PageIn w A.ki A.nu A.ep A.si A.a A.q A.rs
def act0 : ActV := ⟨0, 0, 0, 0, 0, 0, none, 0, 0, []⟩
def IsActs (w : World) (a : Option Addr) (n : Nat) (l : Nat → ActV) : Prop :=
  n ≤ 9223372036854775807 ∧ ∀ i, i < n → ∃ b o, a = some ⟨b, o, none⟩ ∧ w.rangeAt b (o + i * 7) (l i).cells ∧ ActOk w (l i)
set_option maxRecDepth 100000 in
theorem act_of {fuel : Nat} {cs : List Value} {x : DataW H × List MemPlace} (h : DataW.trod enc Tryz.prog w base spare held fuel 45 cs = some x) :
    ∃ A : ActV, cs = A.cells ∧ ActOk w A := by
  obtain ⟨xs, n, _, _, hlen, hxl, hf⟩ := DataW.trod_struct Tryz.underlying45 h
  have h5 : cs.length = 7 := hlen.trans (by kernel_rfl)
  match cs, h5, hf with
  | [c0, c1, c2, c3, c4, c5, c6], _, hf =>
    have hx5 : xs.length = 3 := hxl
    match xs, hx5, hf with
    | [x0, x1, x2], _, hf =>
      have e1 : Tryz.prog.cellsOf 3 = 1 := by kernel_rfl
      have e2 : Tryz.prog.cellsOf 43 = 5 := by kernel_rfl
      have f0 := hf 0 _ rfl
      have f1 := hf 1 _ rfl
      have f2 := hf 2 _ rfl
      change DataW.trod enc Tryz.prog w base spare held n 3 (List.take (Tryz.prog.cellsOf 3) [c0, c1, c2, c3, c4, c5, c6]) = some x0 at f0
      rw [e1] at f0
      change DataW.trod enc Tryz.prog w base spare held n 3 (List.take (Tryz.prog.cellsOf 3) [c1, c2, c3, c4, c5, c6]) = some x1 at f1
      rw [e1] at f1
      change DataW.trod enc Tryz.prog w base spare held n 43 (List.take (Tryz.prog.cellsOf 43) [c2, c3, c4, c5, c6]) = some x2 at f2
      rw [e2] at f2
      obtain ⟨n0, g0, _, w0⟩ := DataW.trod_int Tryz.underlying3 f0
      obtain ⟨n1, g1, _, w1⟩ := DataW.trod_int Tryz.underlying3 f1
      obtain ⟨ki, nu, ep, si, a, q, c, rs, g2, hp⟩ := page_of f2
      refine ⟨⟨n0, n1, ki, nu, ep, si, a, q, c, rs⟩, ?_, ⟨bounds_i64 w0, bounds_i64 w1, hp⟩⟩
      simp at g0 g1 g2
      obtain ⟨g2, g3, g4, g5, g6⟩ := g2
      rw [g0, g1, g2, g3, g4, g5, g6]
      rfl
set_option maxRecDepth 100000 in
theorem acts_of {fuel : Nat} {a : Option Addr} {len cap : Nat} {x : DataW H × List MemPlace} (h : DataW.trod enc Tryz.prog w base spare held fuel 22 [.slice a len cap] = some x) : ∃ l, IsActs w a len l := by
  rcases open_slice Tryz.underlying22 h with ⟨hcs, _⟩ | ⟨ad, len', cap', m, n, D, Pl, hcs, _, hl, hm, hmm, _, hi⟩
  · simp at hcs
    obtain ⟨rfl, rfl, rfl⟩ := hcs
    exact ⟨fun _ => act0, by omega, fun i hi => absurd hi (by omega)⟩
  · simp at hcs
    obtain ⟨rfl, rfl, rfl⟩ := hcs
    have hlm : len ≤ m := by rw [hmm]; split <;> omega
    have e6 : Tryz.prog.cellsOf 45 = 7 := by kernel_rfl
    have hspot : 0 < len → ad.spot = none := by
      intro h0
      obtain ⟨cs', hc, ht⟩ := hi 0 (by omega)
      rw [e6] at hc
      obtain ⟨A, rfl, _⟩ := act_of ht
      obtain ⟨_, _, hat⟩ := World.cells?_some hc
      have c1 : w.cell? ((ad.add (0 * 7)).add 0) = some (.int .i64 A.kind) := hat 0 (by omega)
      have e : (ad.add (0 * 7)).add 0 = ad := by simp [Addr.add]
      rw [e] at c1
      exact World.cell?_spot c1
    have hA : ∀ i, ∃ A : ActV, i < len → ∃ b o, some ad = some (⟨b, o, none⟩ : Addr) ∧ w.rangeAt b (o + i * 7) A.cells ∧ ActOk w A := by
      intro i
      by_cases hlt : i < len
      · obtain ⟨cs', hc, ht⟩ := hi i (by omega)
        rw [e6] at hc
        obtain ⟨A, rfl, hok⟩ := act_of ht
        obtain ⟨_, hcl, hat⟩ := World.cells?_some hc
        refine ⟨A, fun _ => ?_⟩
        have hs := hspot (by omega)
        obtain ⟨b, o, spot⟩ := ad
        change spot = none at hs
        subst hs
        refine ⟨b, o, rfl, fun j v hv => ?_, hok⟩
        have hj : j < 7 := by
          have := (List.getElem?_eq_some_iff.1 hv).1
          simpa [ActV.cells] using this
        have c := hat j hj
        rw [Addr.add_mid, Addr.add_mid] at c
        rw [c]
        exact hv
      · exact ⟨act0, fun h => absurd h hlt⟩
    unfold maxLen at hm
    exact ⟨fun i => (hA i).choose, by omega, fun i hi => (hA i).choose_spec hi⟩
end
theorem act_cell {W w : World} {b o : Nat} {cs : List Value} (hb : Below W.heap.size W w) (h : W.rangeAt b o cs) (j : Nat) (v : Value) (hv : cs[j]? = some v) : w.cell? ⟨b, o + j, none⟩ = some v :=
  (hb.cell (p := ⟨b, o + j, none⟩) (World.block_lt_of_cell? W _ (h j v hv))).trans (h j v hv)
end Go.Proofs.YtokikeenfpligaaGreatDoor

/-
  WHAT CAME IN: a list of acts, each with a page. Conditions: that it could be read.
  THE DOCUMENT's OWN LISTS of pages: entries that lie in memory; find, Tables of the reference. Conditions: those that each lemma names.
  THE REFERENCE's without: a list without a number. Conditions: the entries lie in memory.
-/
import Derived.OpenShut
import Derived.Deep.Slices
import Derived.Deep.Fields
import Derived.ChangeSlices
import Derived.ChangeArms
import Derived.WalkKit
import Derived.Maps.AppendAt
import Derived.Test.YtlfkkakohldgnaaGreatDoorN31
import Derived.Test.YtlfkkakohldgnaaGreatDoorN11
namespace Go.Proofs.YtlfkkakohldgnaaGreatDoor
open Go.RowKit Go.ChangeShapes Go.WideShapes Go.Deep

def I64 (n : Int) : Prop := -9223372036854775808 ≤ n ∧ n ≤ 9223372036854775807
/-- a page that came in -/
structure PageIn (w : World) (ki nu ep si : Int) (a : Option Addr) (n : Nat) (rs : List (List Int)) : Prop where
  k0 : 0 ≤ ki
  k1 : ki < 256
  n0 : 0 ≤ nu
  n1 : nu < 4294967296
  e0 : 0 ≤ ep
  e1 : ep < 18446744073709551616
  s0 : -9223372036854775808 ≤ si
  s1 : si ≤ 9223372036854775807
  recs : Sm.Recs w a rs
  len : rs.length = n
  max : n ≤ 9223372036854775807
theorem wf_u32 {x : Int} (h : (Lit.int .u32 x).wf = true) : 0 ≤ x ∧ x < 4294967296 := by
  have h1 : IntKind.u32.min ≤ x ∧ x ≤ IntKind.u32.max := by simpa [Lit.wf] using h
  have e0 : IntKind.u32.min = 0 := rfl
  have e1 : IntKind.u32.max = 4294967295 := rfl
  omega
theorem wf_u64 {x : Int} (h : (Lit.int .u64 x).wf = true) : 0 ≤ x ∧ x < 18446744073709551616 := by
  have h1 : IntKind.u64.min ≤ x ∧ x ≤ IntKind.u64.max := by simpa [Lit.wf] using h
  have e0 : IntKind.u64.min = 0 := rfl
  have e1 : IntKind.u64.max = 18446744073709551615 := rfl
  omega
section
variable {H : Type} {enc : TypeId × Value → H} {w : World} {base : Nat} {spare : Nat → Bool} {held : Bool}
set_option maxRecDepth 100000 in
/-- one record -/
theorem rec_of {fuel : Nat} {cs : List Value} {x : DataW H × List MemPlace} (h : DataW.trod enc Tryz.prog w base spare held fuel 72 cs = some x) :
    ∃ (ra : Option Addr) (rc : Nat) (xs : List Int), cs = [.slice ra xs.length rc] ∧ Sm.Lies w ra xs ∧ xs.length ≤ rc ∧ rc ≤ 9223372036854775807 := by
  rcases open_ints Tryz.underlying72 Tryz.underlying5 (by kernel_rfl) h with ⟨hcs, _⟩ | ⟨a, len, cap, zs, hcs, _, hl, hm, hz, _, hcell, hwz⟩
  · exact ⟨none, 0, [], hcs, Sm.lies_nil _ _, Nat.le_refl _, by omega⟩
  · unfold maxLen at hm
    have hz' : len ≤ zs.length := by rw [hz]; split <;> omega
    have hlen : (zs.take len).length = len := by rw [List.length_take]; omega
    refine ⟨some a, cap, zs.take len, by rw [hlen]; exact hcs, ?_, by omega, by omega⟩
    intro i hi
    have hi' : i < len := by omega
    have hiz : i < zs.length := by omega
    obtain ⟨b, off, spot⟩ := a
    have c := hcell i hiz
    have hspot : spot = none := by
      have c0 := hcell 0 (by omega)
      simpa [Addr.add] using World.cell?_spot c0
    subst hspot
    have e : zs.getD i 0 = (zs.take len)[i] := by rw [List.getElem_take]; simp [hiz]
    rw [e, Addr.add_mid] at c
    have hb := bounds_u8 (hwz (zs.take len)[i] (List.mem_of_mem_take (List.getElem_mem hi)))
    exact ⟨b, off, rfl, c, hb.1, by omega⟩
set_option maxRecDepth 100000 in
theorem recs_of {fuel : Nat} {cs : List Value} {x : DataW H × List MemPlace} (h : DataW.trod enc Tryz.prog w base spare held fuel 41 cs = some x) :
    ∃ (a : Option Addr) (n c : Nat) (rs : List (List Int)), cs = [.slice a n c] ∧ Sm.Recs w a rs ∧ rs.length = n ∧ n ≤ 9223372036854775807 := by
  rcases open_slice Tryz.underlying41 h with ⟨hcs, _⟩ | ⟨ad, len, cap, m, n, D, Pl, hcs, _, hl, hm, hmm, _, hi⟩
  · exact ⟨none, 0, 0, [], hcs, fun i hi => absurd hi (by simp), rfl, by omega⟩
  · have hlm : len ≤ m := by rw [hmm]; split <;> omega
    have e1 : Tryz.prog.cellsOf 72 = 1 := by kernel_rfl
    have hspot : 0 < len → ad.spot = none := by
      intro h0
      obtain ⟨cs', hc, ht⟩ := hi 0 (by omega)
      rw [e1] at hc
      obtain ⟨ra, rc, xs, rfl, _⟩ := rec_of ht
      obtain ⟨_, _, hat⟩ := World.cells?_some hc
      have c := hat 0 (by omega)
      have e : (ad.add (0 * 1)).add 0 = ad := by simp [Addr.add]
      rw [e] at c
      exact World.cell?_spot (v := .slice ra xs.length rc) (by simpa using c)
    have hA : ∀ i, ∃ xs : List Int, i < len → ∃ b off ra rc, ad = (⟨b, off, none⟩ : Addr) ∧ w.cell? ⟨b, off + i, none⟩ = some (.slice ra xs.length rc) ∧ Sm.Lies w ra xs ∧ xs.length ≤ rc ∧ rc ≤ 9223372036854775807 := by
      intro i
      by_cases hlt : i < len
      · obtain ⟨cs', hc, ht⟩ := hi i (by omega)
        rw [e1] at hc
        obtain ⟨ra, rc, xs, rfl, h1, h2, h3⟩ := rec_of ht
        obtain ⟨_, hcl, hat⟩ := World.cells?_some hc
        have c := hat 0 (by omega)
        obtain ⟨b, o, spot⟩ := ad
        have e0 : (Addr.add (Addr.add ⟨b, o, spot⟩ (i * 1)) 0) = Addr.add ⟨b, o, spot⟩ i := by simp [Addr.add]
        rw [e0] at c
        have hs := hspot (by omega)
        change spot = none at hs
        subst hs
        rw [Addr.add_mid] at c
        exact ⟨xs, fun _ => ⟨b, o, ra, rc, rfl, by simpa using c, h1, h2, h3⟩⟩
      · exact ⟨[], fun h => absurd h hlt⟩
    unfold maxLen at hm
    refine ⟨some ad, len, cap, (List.range len).map fun i => (hA i).choose, hcs, ?_, by simp, by omega⟩
    intro i hi'
    have hil : i < len := by simpa using hi'
    obtain ⟨b, off, ra, rc, h0, h1, h2, h3, h4⟩ := (hA i).choose_spec hil
    have e : ((List.range len).map fun i => (hA i).choose)[i] = (hA i).choose := by simp
    rw [e]
    exact ⟨b, off, ra, rc, by rw [h0], h1, h2, h3, h4⟩
set_option maxRecDepth 100000 in
theorem page_of {fuel : Nat} {cs : List Value} {x : DataW H × List MemPlace} (h : DataW.trod enc Tryz.prog w base spare held fuel 43 cs = some x) :
    ∃ ki nu ep si a n c rs, cs = [.int .u8 ki, .int .u32 nu, .int .u64 ep, .int .i64 si, .slice a n c] ∧ PageIn w ki nu ep si a n rs := by
  obtain ⟨xs, n, _, _, hlen, hxl, hf⟩ := DataW.trod_struct Tryz.underlying43 h
  have h5 : cs.length = 5 := hlen.trans (by kernel_rfl)
  match cs, h5, hf with
  | [c0, c1, c2, c3, c4], _, hf =>
    have hx5 : xs.length = 5 := hxl
    match xs, hx5, hf with
    | [x0, x1, x2, x3, x4], _, hf =>
      have e1 : Tryz.prog.cellsOf 3 = 1 := by kernel_rfl
      have e2 : Tryz.prog.cellsOf 5 = 1 := by kernel_rfl
      have e3 : Tryz.prog.cellsOf 39 = 1 := by kernel_rfl
      have e4 : Tryz.prog.cellsOf 40 = 1 := by kernel_rfl
      have e5 : Tryz.prog.cellsOf 41 = 1 := by kernel_rfl
      have f0 := hf 0 _ rfl
      have f1 := hf 1 _ rfl
      have f2 := hf 2 _ rfl
      have f3 := hf 3 _ rfl
      have f4 := hf 4 _ rfl
      change DataW.trod enc Tryz.prog w base spare held n 5 (List.take (Tryz.prog.cellsOf 5) [c0, c1, c2, c3, c4]) = some x0 at f0
      rw [e2] at f0
      change DataW.trod enc Tryz.prog w base spare held n 39 (List.take (Tryz.prog.cellsOf 39) [c1, c2, c3, c4]) = some x1 at f1
      rw [e3] at f1
      change DataW.trod enc Tryz.prog w base spare held n 40 (List.take (Tryz.prog.cellsOf 40) [c2, c3, c4]) = some x2 at f2
      rw [e4] at f2
      change DataW.trod enc Tryz.prog w base spare held n 3 (List.take (Tryz.prog.cellsOf 3) [c3, c4]) = some x3 at f3
      rw [e1] at f3
      change DataW.trod enc Tryz.prog w base spare held n 41 (List.take (Tryz.prog.cellsOf 41) [c4]) = some x4 at f4
      rw [e5] at f4
      obtain ⟨n0, g0, _, w0⟩ := DataW.trod_int Tryz.underlying5 f0
      obtain ⟨n1, g1, _, w1⟩ := DataW.trod_int Tryz.underlying39 f1
      obtain ⟨n2, g2, _, w2⟩ := DataW.trod_int Tryz.underlying40 f2
      obtain ⟨n3, g3, _, w3⟩ := DataW.trod_int Tryz.underlying3 f3
      obtain ⟨a, m, c, rs, g4, hr, hl, hm⟩ := recs_of f4
      have b0 := bounds_u8 w0
      have b1 := wf_u32 w1
      have b2 := wf_u64 w2
      have b3 := bounds_i64 w3
      refine ⟨n0, n1, n2, n3, a, m, c, rs, ?_, ⟨b0.1, by omega, b1.1, b1.2, b2.1, b2.2, b3.1, b3.2, hr, hl, hm⟩⟩
      simp at g0 g1 g2 g3 g4
      rw [g0, g1, g2, g3, g4]
/-- one act's fields -/
structure ActV where
  kind : Int
  n : Int
  ki : Int
  nu : Int
  ep : Int
  si : Int
  a : Option Addr
  q : Nat
  c : Nat
  rs : List (List Int)
def ActV.cells (A : ActV) : List Value := [.int .i64 A.kind, .int .i64 A.n, .int .u8 A.ki, .int .u32 A.nu, .int .u64 A.ep, .int .i64 A.si, .slice A.a A.q A.c]
/-- an act that came in -/
structure ActOk (w : World) (A : ActV) : Prop where
  kind : I64 A.kind
  n : I64 A.n
  pg : PageIn w A.ki A.nu A.ep A.si A.a A.q A.rs
def act0 : ActV := ⟨0, 0, 0, 0, 0, 0, none, 0, 0, []⟩
def IsActs (w : World) (a : Option Addr) (n : Nat) (l : Nat → ActV) : Prop :=
  n ≤ 9223372036854775807 ∧ ∀ i, i < n → ∃ b o, a = some ⟨b, o, none⟩ ∧ w.rangeAt b (o + i * 7) (l i).cells ∧ ActOk w (l i)
set_option maxRecDepth 100000 in
theorem act_of {fuel : Nat} {cs : List Value} {x : DataW H × List MemPlace} (h : DataW.trod enc Tryz.prog w base spare held fuel 45 cs = some x) :
    ∃ A : ActV, cs = A.cells ∧ ActOk w A := by
  obtain ⟨xs, n, _, _, hlen, hxl, hf⟩ := DataW.trod_struct Tryz.underlying45 h
  have h5 : cs.length = 7 := hlen.trans (by kernel_rfl)
  match cs, h5, hf with
  | [c0, c1, c2, c3, c4, c5, c6], _, hf =>
    have hx5 : xs.length = 3 := hxl
    match xs, hx5, hf with
    | [x0, x1, x2], _, hf =>
      have e1 : Tryz.prog.cellsOf 3 = 1 := by kernel_rfl
      have e2 : Tryz.prog.cellsOf 43 = 5 := by kernel_rfl
      have f0 := hf 0 _ rfl
      have f1 := hf 1 _ rfl
      have f2 := hf 2 _ rfl
      change DataW.trod enc Tryz.prog w base spare held n 3 (List.take (Tryz.prog.cellsOf 3) [c0, c1, c2, c3, c4, c5, c6]) = some x0 at f0
      rw [e1] at f0
      change DataW.trod enc Tryz.prog w base spare held n 3 (List.take (Tryz.prog.cellsOf 3) [c1, c2, c3, c4, c5, c6]) = some x1 at f1
      rw [e1] at f1
      change DataW.trod enc Tryz.prog w base spare held n 43 (List.take (Tryz.prog.cellsOf 43) [c2, c3, c4, c5, c6]) = some x2 at f2
      rw [e2] at f2
      obtain ⟨n0, g0, _, w0⟩ := DataW.trod_int Tryz.underlying3 f0
      obtain ⟨n1, g1, _, w1⟩ := DataW.trod_int Tryz.underlying3 f1
      obtain ⟨ki, nu, ep, si, a, q, c, rs, g2, hp⟩ := page_of f2
      refine ⟨⟨n0, n1, ki, nu, ep, si, a, q, c, rs⟩, ?_, ⟨bounds_i64 w0, bounds_i64 w1, hp⟩⟩
      simp at g0 g1 g2
      obtain ⟨g2, g3, g4, g5, g6⟩ := g2
      rw [g0, g1, g2, g3, g4, g5, g6]
      rfl
set_option maxRecDepth 100000 in
theorem acts_of {fuel : Nat} {a : Option Addr} {len cap : Nat} {x : DataW H × List MemPlace} (h : DataW.trod enc Tryz.prog w base spare held fuel 22 [.slice a len cap] = some x) : ∃ l, IsActs w a len l := by
  rcases open_slice Tryz.underlying22 h with ⟨hcs, _⟩ | ⟨ad, len', cap', m, n, D, Pl, hcs, _, hl, hm, hmm, _, hi⟩
  · simp at hcs
    obtain ⟨rfl, rfl, rfl⟩ := hcs
    exact ⟨fun _ => act0, by omega, fun i hi => absurd hi (by omega)⟩
  · simp at hcs
    obtain ⟨rfl, rfl, rfl⟩ := hcs
    have hlm : len ≤ m := by rw [hmm]; split <;> omega
    have e6 : Tryz.prog.cellsOf 45 = 7 := by kernel_rfl
    have hspot : 0 < len → ad.spot = none := by
      intro h0
      obtain ⟨cs', hc, ht⟩ := hi 0 (by omega)
      rw [e6] at hc
      obtain ⟨A, rfl, _⟩ := act_of ht
      obtain ⟨_, _, hat⟩ := World.cells?_some hc
      have c1 : w.cell? ((ad.add (0 * 7)).add 0) = some (.int .i64 A.kind) := hat 0 (by omega)
      have e : (ad.add (0 * 7)).add 0 = ad := by simp [Addr.add]
      rw [e] at c1
      exact World.cell?_spot c1
    have hA : ∀ i, ∃ A : ActV, i < len → ∃ b o, some ad = some (⟨b, o, none⟩ : Addr) ∧ w.rangeAt b (o + i * 7) A.cells ∧ ActOk w A := by
      intro i
      by_cases hlt : i < len
      · obtain ⟨cs', hc, ht⟩ := hi i (by omega)
        rw [e6] at hc
        obtain ⟨A, rfl, hok⟩ := act_of ht
        obtain ⟨_, hcl, hat⟩ := World.cells?_some hc
        refine ⟨A, fun _ => ?_⟩
        have hs := hspot (by omega)
        obtain ⟨b, o, spot⟩ := ad
        change spot = none at hs
        subst hs
        refine ⟨b, o, rfl, fun j v hv => ?_, hok⟩
        have hj : j < 7 := by
          have := (List.getElem?_eq_some_iff.1 hv).1
          simpa [ActV.cells] using this
        have c := hat j hj
        rw [Addr.add_mid, Addr.add_mid] at c
        rw [c]
        exact hv
      · exact ⟨act0, fun h => absurd h hlt⟩
    unfold maxLen at hm
    exact ⟨fun i => (hA i).choose, by omega, fun i hi => (hA i).choose_spec hi⟩
end
theorem act_cell {W w : World} {b o : Nat} {cs : List Value} (hb : Below W.heap.size W w) (h : W.rangeAt b o cs) (j : Nat) (v : Value) (hv : cs[j]? = some v) : w.cell? ⟨b, o + j, none⟩ = some v :=
  (hb.cell (p := ⟨b, o + j, none⟩) (World.block_lt_of_cell? W _ (h j v hv))).trans (h j v hv)
end Go.Proofs.YtlfkkakohldgnaaGreatDoor
namespace Go.Proofs.YtlfkkakohldgnaaGreatDoor
open Go.RowKit

structure Ent where
  n : Int
  ki : Int
  nu : Int
  ep : Int
  si : Int
  a : Option Addr
  q : Nat
  c : Nat
  late : Bool
def Ent.cells (x : Ent) : List Value := [.int .i64 x.n, .int .u8 x.ki, .int .u32 x.nu, .int .u64 x.ep, .int .i64 x.si, .slice x.a x.q x.c, .bool x.late]
def Ent.val (x : Ent) : Value := .agg #[.int .i64 x.n, .int .u8 x.ki, .int .u32 x.nu, .int .u64 x.ep, .int .i64 x.si, .slice x.a x.q x.c, .bool x.late]
/-- entries on end -/
def el : List Ent → List Value
  | [] => []
  | x :: L => x.cells ++ el L
theorem el_len : ∀ L : List Ent, (el L).length = L.length * 7
  | [] => rfl
  | x :: L => by
    show (x.cells ++ el L).length = _
    rw [List.length_append, el_len L, List.length_cons]
    show 7 + L.length * 7 = _
    omega
theorem el_app : ∀ L M : List Ent, el (L ++ M) = el L ++ el M
  | [], _ => rfl
  | x :: L, M => by
    show x.cells ++ el (L ++ M) = x.cells ++ el L ++ el M
    rw [el_app L M, List.append_assoc]
theorem el_snoc (L : List Ent) (x : Ent) : el L ++ x.cells = el (L ++ [x]) := by
  rw [el_app]
  show el L ++ x.cells = el L ++ (x.cells ++ [])
  rw [List.append_nil]
theorem cells_one (x : Ent) : ∀ u ∈ x.cells, u.oneCell' = true := by
  intro u hu
  simp [Ent.cells] at hu
  rcases hu with rfl | rfl | rfl | rfl | rfl | rfl | rfl <;> rfl
theorem el_one : ∀ L : List Ent, ∀ u ∈ el L, u.oneCell' = true
  | [], _, h => by cases h
  | x :: L, u, h => by
    rcases List.mem_append.1 h with h | h
    · exact cells_one x u h
    · exact el_one L u h
theorem el_at : ∀ (L : List Ent) (i : Nat) (h : i < L.length) (j : Nat), j < 7 → (el L)[i * 7 + j]? = (L[i].cells)[j]?
  | [], _, h, _, _ => absurd h (Nat.not_lt_zero _)
  | x :: L, 0, _, j, hj => by
    show (x.cells ++ el L)[0 * 7 + j]? = (x.cells)[j]?
    rw [Nat.zero_mul, Nat.zero_add, List.getElem?_append_left hj]
  | x :: L, i + 1, h, j, hj => by
    have h7 : x.cells.length = 7 := rfl
    show (x.cells ++ el L)[(i + 1) * 7 + j]? = _
    rw [List.getElem?_append_right (by rw [h7]; omega), h7, show (i + 1) * 7 + j - 7 = i * 7 + j by omega]
    exact el_at L i (by simpa using h) j hj
/-- entries that lie in memory -/
def Ents (w : World) (a : Option Addr) (L : List Ent) : Prop := ∀ i (h : i < L.length), ∃ b off, a = some ⟨b, off, none⟩ ∧ w.rangeAt b (off + i * 7) L[i].cells
theorem range_same {w w' : World} {b o : Nat} {cs : List Value} (h : w.rangeAt b o cs) (hb : w'.heap[b]? = w.heap[b]?) : w'.rangeAt b o cs := fun j v hv => (World.cell?_of_block hb).trans (h j v hv)
theorem Ents.same {w w' : World} {a : Option Addr} {L : List Ent} (h : Ents w a L) (hb : ∀ b o, a = some ⟨b, o, none⟩ → w'.heap[b]? = w.heap[b]?) : Ents w' a L := fun i hi => by
  obtain ⟨b, off, ha, hr⟩ := h i hi
  exact ⟨b, off, ha, range_same hr (hb b off ha)⟩
theorem Ents.below {w w' : World} {a : Option Addr} {L : List Ent} (h : Ents w a L) (hb : Below w.heap.size w w') : Ents w' a L := fun i hi => by
  obtain ⟨b, off, ha, hr⟩ := h i hi
  exact ⟨b, off, ha, range_same hr (hb.block b (World.block_lt_of_cell? w _ (hr 0 _ rfl)))⟩
theorem ents_nil (w : World) (a : Option Addr) : Ents w a [] := fun i hi => absurd hi (by simp)
/-- a list of its own in new memory -/
abbrev OwnE (w : World) (B : Nat) (v : Value) (n : Nat) (L : List Ent) : Prop := w.ownsRow B 96 7 v n (el L)
theorem own_ents {w : World} {B n : Nat} {v : Value} {L : List Ent} (h : OwnE w B v n L) : ∃ ao cap, v = .slice ao n cap ∧ Ents w ao L ∧ n ≤ cap ∧ cap ≤ 9223372036854775807 ∧ L.length = n ∧ (∀ b off, ao = some ⟨b, off, none⟩ → B ≤ b ∧ b < w.heap.size ∧ off = 0) := by
  obtain ⟨hl, h⟩ := h
  have hn : L.length = n := by rw [el_len] at hl; omega
  rcases h with ⟨rfl, h0⟩ | ⟨g, cap, cur, rfl, hB, hg, hnc, hm, hcs, ht⟩
  · obtain rfl : L = [] := List.eq_nil_of_length_eq_zero (by omega)
    exact ⟨none, 0, by rw [h0], ents_nil _ _, by omega, by omega, by omega, fun b off e => by cases e⟩
  · unfold maxLen at hm
    refine ⟨_, cap, rfl, ?_, by omega, by omega, hn, fun b off e => by injection e with e; injection e with e1 e2; exact ⟨by omega, by rw [← e1]; exact lt_of_block hg, e2.symm⟩⟩
    intro i hi
    refine ⟨g, 0, rfl, fun j v hv => ?_⟩
    have hj : j < 7 := (List.getElem?_eq_some_iff.1 hv).1
    rw [cell_of_row w _ _ _ _ _ hg, Nat.zero_add]
    have e := el_at L i hi j hj
    rw [← ht, List.getElem?_take, if_pos (by omega), hv] at e
    simpa using e
set_option maxRecDepth 100000 in
theorem info_ent : (Tryz.prog.info? 96).map (fun i => (i.zero, i.size, i.bytes)) = some (some (Ent.val ⟨0, 0, 0, 0, 0, none, 0, 0, false⟩), 7, 64) := by kernel_rfl

/-- the place of a number in a list, -1 where it is not -/
def plc (xs : List Int) (x : Int) : Int := if x ∈ xs then (xs.idxOf x : Int) else -1
theorem idx_at' {xs : List Int} {k : Nat} (hk : k < xs.length) (hn : xs[k] ∉ xs.take k) : xs.idxOf xs[k] = k := by
  have e : xs = xs.take k ++ xs[k] :: xs.drop (k + 1) := by
    rw [← List.drop_eq_getElem_cons hk, List.take_append_drop]
  have h2 : (xs.take k ++ xs[k] :: xs.drop (k + 1)).idxOf xs[k] = k := by
    rw [List.idxOf_append, if_neg hn, List.idxOf_cons_self, List.length_take]
    omega
  rw [← e] at h2
  exact h2
def nums5 (L : List Ent) : List Int := L.map Ent.n
set_option maxRecDepth 100000 in
theorem find_ref (a : Option Addr) (n c : Nat) (L : List Ent) (x : Int) (w : World) (ha : Ents w a L) (hn : L.length = n) (hm : n ≤ 9223372036854775807) :
    Calls Tryz.prog 46 #[.slice a n c, .int .i64 x] w fun e w' => e = .returned (.int .i64 (plc (nums5 L) x)) ∧ w = w' := by
  have HA := Lib.hid ha
  have HN := Lib.hid (show (nums5 L).length = n by unfold nums5; rw [List.length_map]; exact hn)
  have HL := Lib.hid hn
  clear ha hn
  go_enter Tryz.func46, Tryz.ntmps46
  go_wp2
  go_loop [5] (fun i => ∃ k : Nat, k ≤ n ∧ i = .int .i64 k ∧ Hid (x ∉ (nums5 L).take k)) (fun i => n - (intOf i).toNat)
  case atStart => exact ⟨0, by omega, rfl, by simp [Hid]⟩
  case round =>
    obtain ⟨k, hk, rfl, HT⟩ := hrel
    by_cases hlt : k < n
    · have hkl : k < (nums5 L).length := by rw [HN.out]; exact hlt
      obtain ⟨b, off, rfl, hc⟩ := HA.out k (by rw [HL.out]; exact hlt)
      have hc0 : w.cell? ⟨b, off + k * 7, none⟩ = some (.int .i64 ((nums5 L)[k])) := (hc 0 _ rfl).trans (by simp [nums5])
      have hlt' : (k : Int) < (n : Int) := by omega
      clear hc
      by_cases he : (nums5 L)[k] = x
      · have HP := Lib.hid (show (k : Int) = plc (nums5 L) x by
          have hmem : x ∈ nums5 L := he ▸ List.getElem_mem hkl
          unfold plc
          rw [if_pos hmem, ← he, idx_at' hkl (by rw [he]; exact HT.out)])
        rw [he] at hc0
        clear he
        go_wp2
        go_ret
        rw [HP.out]
        exact ⟨rfl, rfl⟩
      · have hb : ((nums5 L)[k] == x) = false := by rw [beq_eq_false_iff_ne]; exact he
        have HT2 : Hid (x ∉ (nums5 L).take (k + 1)) := by
          show x ∉ (nums5 L).take (k + 1)
          rw [List.take_succ_eq_append_getElem hkl, List.mem_append, List.mem_singleton]
          exact fun q => q.elim HT.out (fun e => he e.symm)
        generalize (nums5 L)[k] = y at hc0 hb he
        clear he
        go_wp2
        go_round
        case rel => exact ⟨k + 1, by omega, by go_num, HT2⟩
        case measure => simp [intOf]; omega
    · obtain rfl : k = n := by omega
      have HP := Lib.hid (show (-1 : Int) = plc (nums5 L) x by
        have h := HT.out
        rw [← HN.out, List.take_length] at h
        unfold plc
        rw [if_neg h])
      go_wp2
      go_ret
      rw [← HP.out]
      exact ⟨rfl, rfl⟩
/-- as many tables as the last one's number asks for -/
def tblsE (L : List Ent) : Int := match L.getLast? with | none => 0 | some x => x.n / 123 + 1
set_option maxRecDepth 100000 in
theorem tables_ref (a : Option Addr) (n c : Nat) (L : List Ent) (w : World) (ha : Ents w a L) (hn : L.length = n) (hm : n ≤ 9223372036854775807) (hb : ∀ x ∈ L, 0 ≤ x.n ∧ x.n < 15006) :
    Calls Tryz.prog 63 #[.slice a n c] w fun e w' => e = .returned (.int .i64 (tblsE L)) ∧ w = w' := by
  by_cases h0 : n = 0
  · subst h0
    have hl : L = [] := List.length_eq_zero_iff.1 hn
    have HT := Lib.hid (show tblsE L = 0 by rw [hl]; rfl)
    clear ha hn hl
    go_enter Tryz.func63, Tryz.ntmps63
    go_wp2
    go_ret
    rw [HT.out]
    exact ⟨rfl, rfl⟩
  · have hl : n - 1 < L.length := by omega
    obtain ⟨b, off, rfl, hr⟩ := ha (n - 1) hl
    have hc0 : w.cell? ⟨b, off + (n - 1) * 7, none⟩ = some (.int .i64 (L[n - 1].n)) := hr 0 _ rfl
    have hx := hb _ (List.getElem_mem hl)
    have HT := Lib.hid (show tblsE L = L[n - 1].n / 123 + 1 by
      unfold tblsE
      rw [List.getLast?_eq_getElem?, hn, List.getElem?_eq_getElem hl])
    generalize L[n - 1].n = y at hc0 hx HT
    have hy0 := hx.1
    have hy1 := hx.2
    obtain ⟨m, rfl⟩ : ∃ m, n = m + 1 := ⟨n - 1, by omega⟩
    rw [Nat.add_sub_cancel] at hc0
    clear ha hr hn hb hl hx h0
    have hm1 : ((m + 1 : Nat) : Int) - 1 = (m : Int) := by omega
    have hnz : ¬ ((m + 1 : Nat) : Int) = 0 := by omega
    go_enter Tryz.func63, Tryz.ntmps63
    go_wp2
    go_ret
    rw [HT.out]
    exact ⟨rfl, rfl⟩
end Go.Proofs.YtlfkkakohldgnaaGreatDoor
namespace Go.Proofs.YtlfkkakohldgnaaGreatDoor
open Go.RowKit

/-- a list in new memory -/
def NewE (w : World) (L : List Ent) (e : Ending) (w' : World) : Prop := ∃ v, e = .returned v ∧ OwnE w' w.heap.size v L.length L ∧ Below w.heap.size w w'
def wo (L : List Ent) (x : Int) : List Ent := L.filter fun y => decide (y.n ≠ x)
theorem wo_len (L : List Ent) (x : Int) : (wo L x).length ≤ L.length := List.length_filter_le _ _
theorem cells7 (w : World) (x : Ent) : ∀ j u, x.cells[j]? = some u → (w.alloc (.cells #[.int .i64 x.n, .int .u8 x.ki, .int .u32 x.nu, .int .u64 x.ep, .int .i64 x.si, .slice x.a x.q x.c, .bool x.late] 96)).cell? ((⟨w.heap.size, 0, none⟩ : Addr).add j) = some u := by
  intro j u hj
  rw [show (⟨w.heap.size, 0, none⟩ : Addr).add j = ⟨w.heap.size, j, none⟩ from by simp [Addr.add]; omega]
  rw [cell_of_row _ _ j _ _ _ (heap_alloc_new w _)]
  simpa [Ent.cells] using hj
set_option maxRecDepth 100000 in
set_option maxHeartbeats 1000000 in
theorem without_ref (a : Option Addr) (n c : Nat) (L : List Ent) (x : Int) (w : World) (ha : Ents w a L) (hn : L.length = n) (hm : n ≤ 1000) :
    Calls Tryz.prog 79 #[.slice a n c, .int .i64 x] w (NewE w (wo L x)) := by
  have HA := Lib.hid ha
  have HL := Lib.hid hn
  obtain ⟨i0, hi, hz0, hz1, hz2⟩ := info_parts info_ent
  have HI := Lib.hid hi
  have HI0 := Lib.hid hz0
  have HI1 := Lib.hid hz1
  have HI2 := Lib.hid hz2
  clear ha hn hi hz0 hz1 hz2
  go_enter Tryz.func79, Tryz.ntmps79
  go_wp2
  go_loopw [5, 6] (fun v i wr => ∃ k : Nat, k ≤ n ∧ i = .int .i64 k ∧ Hid (OwnE wr w.heap.size v (wo (L.take k) x).length (wo (L.take k) x)) ∧ Hid (Below w.heap.size w wr)) (fun _ i _ => n - (intOf i).toNat)
  case atStart => exact ⟨0, by omega, rfl, Lib.hid (World.ownsRow_nil _ _ _ _), Lib.hid (Below.refl _ _)⟩
  case round =>
    obtain ⟨k, hk, rfl, HO, HB⟩ := hrel
    by_cases hlt : k < n
    · have hkl : k < L.length := by rw [HL.out]; exact hlt
      obtain ⟨b, off, rfl, hr⟩ := HA.out.below HB.out |> fun h => (HA.out.below (HB.out.mono (Nat.le_refl _))) k hkl
      have c0 : wr.cell? ⟨b, off + k * 7, none⟩ = some (.int .i64 L[k].n) := hr 0 _ rfl
      have c1 : wr.cell? ⟨b, off + k * 7 + 1, none⟩ = some (.int .u8 L[k].ki) := hr 1 _ rfl
      have c2 : wr.cell? ⟨b, off + k * 7 + 2, none⟩ = some (.int .u32 L[k].nu) := hr 2 _ rfl
      have c3 : wr.cell? ⟨b, off + k * 7 + 3, none⟩ = some (.int .u64 L[k].ep) := hr 3 _ rfl
      have c4 : wr.cell? ⟨b, off + k * 7 + 4, none⟩ = some (.int .i64 L[k].si) := hr 4 _ rfl
      have c5 : wr.cell? ⟨b, off + k * 7 + 5, none⟩ = some (.slice L[k].a L[k].q L[k].c) := hr 5 _ rfl
      have c6 : wr.cell? ⟨b, off + k * 7 + 6, none⟩ = some (.bool L[k].late) := hr 6 _ rfl
      have HW := Lib.hid (show wo (L.take (k + 1)) x = wo (L.take k) x ++ (if decide (L[k].n ≠ x) = true then [L[k]] else []) by
        rw [List.take_succ_eq_append_getElem hkl]
        unfold wo
        rw [List.filter_append]
        congr 1
        simp [List.filter_cons])
      have HML := Lib.hid (show (wo (L.take k) x).length ≤ k from Nat.le_trans (wo_len _ _) (List.length_take_le _ _))
      have hlt' : (k : Int) < (n : Int) := by omega
      generalize L[k] = y at c0 c1 c2 c3 c4 c5 c6 HW
      clear hr
      by_cases he : y.n = x
      · have hb : (y.n != x) = false := by simp [he]
        rw [if_neg (by simp [he])] at HW
        rw [List.append_nil] at HW
        clear he
        go_wp2
        go_roundw
        case rel => exact ⟨k + 1, by omega, by go_num, by rw [HW.out]; exact HO, HB⟩
        case measure => simp [intOf]; omega
      · have hb : (y.n != x) = true := by simp [he]
        rw [if_pos (by simp [he])] at HW
        clear he
        go_wp2_with (at_builtin; refine wpList_append_own _ rfl (.tmp 20) (.tmp 25) 34 rfl w.heap.size 96 i0 (Ent.val ⟨0, 0, 0, 0, 0, none, 0, 0, false⟩) 7 64 Tryz.underlying34 HI.out HI0.out HI1.out HI2.out rfl (by decide) _ (wo (L.take k) x).length (el (wo (L.take k) x)) rfl (HO.out.alloc _) ⟨wr.heap.size, 0, none⟩ 1 1 y.cells rfl rfl (cells7 _ _) (cells_one y) (by have := HML.out; unfold maxLen; omega) (by have := HML.out; omega) (by have := HB.out.size; simp; omega) ?_; intro v2 w5 hown hgrow _; have HO5 := Lib.hid hown; have HB5 := Lib.hid ((HB.out.alloc HB.out.size (.cells #[.int .i64 y.n, .int .u8 y.ki, .int .u32 y.nu, .int .u64 y.ep, .int .i64 y.si, .slice y.a y.q y.c, .bool y.late] 96)).grown hgrow (by have := HB.out.size; simp; omega) (fun j hj => (HO.out.lt j hj).1)); clear hown hgrow)
        go_roundw
        case rel => exact ⟨k + 1, by omega, by go_num, by rw [HW.out, List.length_append]; exact Lib.hid (by have h := HO5.out; rw [el_snoc] at h; exact h), HB5⟩
        case measure => simp [intOf]; omega
    · obtain rfl : k = n := by omega
      have HT := Lib.hid (show L.take k = L from List.take_of_length_le (by rw [HL.out]; exact Nat.le_refl _))
      rw [HT.out] at HO
      obtain ⟨ao, cap, rfl, _⟩ := own_ents HO.out
      go_wp2
      go_ret
      exact ⟨_, rfl, HO.out, HB.out⟩
end Go.Proofs.YtlfkkakohldgnaaGreatDoor

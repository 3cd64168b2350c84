/-
  WHAT CAME IN: a list of acts, a slice of whole numbers. Conditions: that it could be read.
  WHAT WAS LAID LAST, as the statements keep it, and the pool beside it. Conditions: those that each lemma names.
  THE DOCUMENT's OWN POOL AS PLAIN DATA: where a sector stands, and how its search for a frame goes. No program in it. Conditions: those that each lemma names.
-/
import Derived.OpenShut
import Derived.Deep.Slices
import Derived.Deep.Fields
import Derived.ChangeSlices
import Derived.ChangeArms
import Derived.Test.YtfhnnfheonkneaaDoorQv
import Derived.Test.YtfhnnfheonkneaaDoorQd
namespace Go.Proofs.YtfhnnfheonkneaaDoor
open Go.RowKit Go.ChangeShapes Go.WideShapes Go.Deep

abbrev IsRow := Sm.IsRow
def I64 (n : Int) : Prop := -9223372036854775808 ≤ n ∧ n ≤ 9223372036854775807
/-- the numbers of a slice that came in -/
theorem row_at {w : World} {a : Option Addr} {len cap : Nat} {zs : List Int} (h : IsRow .i64 w a len cap zs) : len ≤ 9223372036854775807 ∧ ∀ i, i < len → ∃ b o, a = some ⟨b, o, none⟩ ∧ w.cell? ⟨b, o + i, none⟩ = some (.int .i64 (zs.getD i 0)) ∧ I64 (zs.getD i 0) := by
  rcases h with ⟨rfl, rfl, rfl, rfl⟩ | ⟨x, rfl, hl, hm, hz, hc, hw⟩
  · exact ⟨by omega, fun i hi => absurd hi (by omega)⟩
  · unfold maxLen at hm
    refine ⟨by omega, fun i hi => ?_⟩
    obtain ⟨b, o, spot⟩ := x
    have c := hc i (by omega)
    have hs : spot = none := by
      have c0 := hc 0 (by omega)
      simpa [Addr.add] using World.cell?_spot c0
    subst hs
    rw [Addr.add_mid] at c
    refine ⟨b, o, rfl, c, ?_⟩
    have hx : zs.getD i 0 ∈ zs := by
      have : i < zs.length := by omega
      simp [this]
    exact bounds_i64 (hw _ hx)
/-- one act's fields -/
structure ActV where
  kind : Int
  i : Int
  b : ByteArray
  bad : Bool
  n : Int
def ActV.cells (A : ActV) : List Value := [.int .i64 A.kind, .int .i64 A.i, .string A.b, .bool A.bad, .int .i64 A.n]
/-- an act that came in -/
structure ActOk (A : ActV) : Prop where
  kind : I64 A.kind
  i : I64 A.i
  b : A.b.size ≤ 9223372036854775807
  n : I64 A.n
def IsActs (w : World) (a : Option Addr) (n : Nat) (l : Nat → ActV) : Prop :=
  n ≤ 9223372036854775807 ∧ ∀ i, i < n → ∃ b o, a = some ⟨b, o, none⟩ ∧ w.rangeAt b (o + i * 5) (l i).cells ∧ ActOk (l i)

section
variable {H : Type} {enc : TypeId × Value → H} {w : World} {base : Nat} {spare : Nat → Bool} {held : Bool}
set_option maxRecDepth 100000 in
theorem act_of {fuel : Nat} {cs : List Value} {x : DataW H × List MemPlace} (h : DataW.trod enc Tryd.prog w base spare held fuel 42 cs = some x) :
    ∃ A : ActV, cs = A.cells ∧ ActOk A := by
  obtain ⟨xs, n, _, _, hlen, hxl, hf⟩ := DataW.trod_struct Tryd.underlying42 h
  have h5 : cs.length = 5 := hlen.trans (by kernel_rfl)
  match cs, h5, hf with
  | [c0, c1, c2, c3, c4], _, hf =>
    have hx5 : xs.length = 5 := hxl
    match xs, hx5, hf with
    | [x0, x1, x2, x3, x4], _, hf =>
      have e1 : Tryd.prog.cellsOf 3 = 1 := by kernel_rfl
      have e2 : Tryd.prog.cellsOf 9 = 1 := by kernel_rfl
      have e3 : Tryd.prog.cellsOf 4 = 1 := by kernel_rfl
      have f0 := hf 0 _ rfl
      have f1 := hf 1 _ rfl
      have f2 := hf 2 _ rfl
      have f3 := hf 3 _ rfl
      have f4 := hf 4 _ rfl
      change DataW.trod enc Tryd.prog w base spare held n 3 (List.take (Tryd.prog.cellsOf 3) [c0, c1, c2, c3, c4]) = some x0 at f0
      rw [e1] at f0
      change DataW.trod enc Tryd.prog w base spare held n 3 (List.take (Tryd.prog.cellsOf 3) [c1, c2, c3, c4]) = some x1 at f1
      rw [e1] at f1
      change DataW.trod enc Tryd.prog w base spare held n 9 (List.take (Tryd.prog.cellsOf 9) [c2, c3, c4]) = some x2 at f2
      rw [e2] at f2
      change DataW.trod enc Tryd.prog w base spare held n 4 (List.take (Tryd.prog.cellsOf 4) [c3, c4]) = some x3 at f3
      rw [e3] at f3
      change DataW.trod enc Tryd.prog w base spare held n 3 (List.take (Tryd.prog.cellsOf 3) [c4]) = some x4 at f4
      rw [e1] at f4
      obtain ⟨n0, g0, _, w0⟩ := DataW.trod_int Tryd.underlying3 f0
      obtain ⟨n1, g1, _, w1⟩ := DataW.trod_int Tryd.underlying3 f1
      obtain ⟨s2, g2, _, w2⟩ := DataW.trod_string Tryd.underlying9 f2
      obtain ⟨b3, g3, _⟩ := DataW.trod_bool Tryd.underlying4 f3
      obtain ⟨n4, g4, _, w4⟩ := DataW.trod_int Tryd.underlying3 f4
      unfold maxLen at w2
      refine ⟨⟨n0, n1, s2, b3, n4⟩, ?_, ⟨bounds_i64 w0, bounds_i64 w1, w2, bounds_i64 w4⟩⟩
      simp at g0 g1 g2 g3 g4
      rw [g0, g1, g2, g3, g4]
      rfl
set_option maxRecDepth 100000 in
theorem acts_of {fuel : Nat} {a : Option Addr} {len cap : Nat} {x : DataW H × List MemPlace} (h : DataW.trod enc Tryd.prog w base spare held fuel 22 [.slice a len cap] = some x) : ∃ l, IsActs w a len l := by
  rcases open_slice Tryd.underlying22 h with ⟨hcs, _⟩ | ⟨ad, len', cap', m, n, D, Pl, hcs, _, hl, hm, hmm, _, hi⟩
  · simp at hcs
    obtain ⟨rfl, rfl, rfl⟩ := hcs
    exact ⟨fun _ => ⟨0, 0, ByteArray.empty, false, 0⟩, by omega, fun i hi => absurd hi (by omega)⟩
  · simp at hcs
    obtain ⟨rfl, rfl, rfl⟩ := hcs
    have hlm : len ≤ m := by rw [hmm]; split <;> omega
    have e6 : Tryd.prog.cellsOf 42 = 5 := by kernel_rfl
    have hspot : 0 < len → ad.spot = none := by
      intro h0
      obtain ⟨cs', hc, ht⟩ := hi 0 (by omega)
      rw [e6] at hc
      obtain ⟨A, rfl, _⟩ := act_of ht
      obtain ⟨_, _, hat⟩ := World.cells?_some hc
      have c1 : w.cell? ((ad.add (0 * 5)).add 0) = some (.int .i64 A.kind) := hat 0 (by omega)
      have e : (ad.add (0 * 5)).add 0 = ad := by simp [Addr.add]
      rw [e] at c1
      exact World.cell?_spot c1
    have hA : ∀ i, ∃ A : ActV, i < len → ∃ b o, some ad = some (⟨b, o, none⟩ : Addr) ∧ w.rangeAt b (o + i * 5) A.cells ∧ ActOk A := by
      intro i
      by_cases hlt : i < len
      · obtain ⟨cs', hc, ht⟩ := hi i (by omega)
        rw [e6] at hc
        obtain ⟨A, rfl, hok⟩ := act_of ht
        obtain ⟨_, hcl, hat⟩ := World.cells?_some hc
        refine ⟨A, fun _ => ?_⟩
        have hs := hspot (by omega)
        obtain ⟨b, o, spot⟩ := ad
        change spot = none at hs
        subst hs
        refine ⟨b, o, rfl, fun j v hv => ?_, hok⟩
        have hj : j < 5 := by
          have := (List.getElem?_eq_some_iff.1 hv).1
          simpa [ActV.cells] using this
        have c := hat j hj
        rw [Addr.add_mid, Addr.add_mid] at c
        rw [c]
        exact hv
      · exact ⟨⟨0, 0, ByteArray.empty, false, 0⟩, fun h => absurd h hlt⟩
    unfold maxLen at hm
    exact ⟨fun i => (hA i).choose, by omega, fun i hi => (hA i).choose_spec hi⟩
end
theorem act_cell {W w : World} {b o : Nat} {cs : List Value} (hb : Below W.heap.size W w) (h : W.rangeAt b o cs) (j : Nat) (v : Value) (hv : cs[j]? = some v) : w.cell? ⟨b, o + j, none⟩ = some v :=
  (hb.cell (p := ⟨b, o + j, none⟩) (World.block_lt_of_cell? W _ (h j v hv))).trans (h j v hv)
theorem below_drewN (w : World) (n : Nat) : Below w.heap.size w (w.drewN n) := ⟨(Below.refl w.heap.size w).os, (Below.refl w.heap.size w).tape, (Below.refl w.heap.size w).output, (Below.refl w.heap.size w).size, (Below.refl w.heap.size w).block⟩
theorem PlN.drewN {W w w0 : World} {N p D : Nat} {X : Px} {H0 : Nat → Prop} (h : PlN W N w p D X w0 H0) (n : Nat) : PlN W N (w.drewN n) p D X w0 H0 := h.below (below_drewN w n)
theorem pl_dirty_nil {W w w0 : World} {N p D : Nat} {X : Px} {H0 : Nat → Prop} (h : PlN W N w p D X w0 H0) (hd : X.dirt X.m = []) :
    Calls Tryd.prog 17 #[.pointer (some ⟨p, 0, none⟩)] w fun e w' => ∃ ao ac, e = .returned (.slice ao 0 ac) ∧ PlN W N w' p D X w0 H0 :=
  (pl_dirty h).mono fun _ _ ⟨ao, ac, he, _, h2⟩ => ⟨ao, ac, by rw [hd] at he; exact he, h2⟩
theorem pl_flush_flat {W w w0 : World} {N p D : Nat} {X : Px} {H0 : Nat → Prop} (h : PlN W N w p D X w0 H0) (hN : N + 1025 < 2305843009213693952) (hd : ∀ j, j < X.m → (X.fr j).d = false) :
    Calls Tryd.prog 25 #[.pointer (some ⟨p, 0, none⟩)] w fun e w' => e = .returned .nilIface ∧ PlN W (N + X.m) w' p D (X.disk X.d.flush) w0 H0 :=
  (pl_flush h hN).mono fun _ _ ⟨he, h2⟩ => by
    rw [flush_flat hd] at he h2
    rw [show errv ((X.disk X.d.flush, (0 : Int)) : Px × Int).2 = .nilIface from errv0] at he
    exact ⟨he, h2⟩
end Go.Proofs.YtfhnnfheonkneaaDoor
namespace Go.Proofs.YtfhnnfheonkneaaDoor
open Go.RowKit Go.Maps

/-- what was laid last, as the statements keep it -/
structure Last (wr : World) (g K : Nat) (ls : Nat → ByteArray) : Prop where
  c : ∀ q, q < K → wr.cell? ⟨g, q, none⟩ = some (.string (ls q))
  f : ∀ q, wr.frozen? ⟨g, q, none⟩ = false
theorem Last.made (w : World) (n : Nat) : Last (w.alloc (.cells (Array.replicate n (.string ⟨#[]⟩)) 9)) w.heap.size n (fun _ => ⟨#[]⟩) := by
  refine ⟨fun q hq => ?_, fun q => frozen_of_row _ _ _ _ _ (heap_alloc_new _ _)⟩
  rw [cell_of_row _ _ _ _ _ _ (heap_alloc_new _ _)]
  simp [hq]
theorem Last.set {wr : World} {g K : Nat} {ls : Nat → ByteArray} (h : Last wr g K ls) (q : Nat) (hq : q < K) (t : ByteArray) : Last (wr.setCell ⟨g, q, none⟩ (.string t)) g K (updT ls q t) := by
  refine ⟨fun j hj => ?_, fun j => by rw [World.frozen?_setCell]; exact h.f j⟩
  unfold updT
  by_cases e : j = q
  · subst e
    rw [if_pos rfl]
    exact World.cell?_setCell_same _ _ _ (h.c j hj)
  · rw [if_neg e, World.cell?_setCell_other _ _ _ _ (by intro x; simp only [Addr.mk.injEq] at x; omega)]
    exact h.c j hj
theorem Last.keep {w w' : World} {g K : Nat} {ls : Nat → ByteArray} (h : Last w g K ls) (hb : w'.heap[g]? = w.heap[g]?) : Last w' g K ls :=
  ⟨fun q hq => (World.cell?_of_block hb).trans (h.c q hq), fun q => (World.frozen?_of_block hb).trans (h.f q)⟩
/-- what was laid, and what the sectors are -/
def Laid1 (ls ct : Nat → ByteArray) (q : Nat) : Prop := (ls q = ⟨#[]⟩ ∧ ct q = zT) ∨ (ct q = ls q ∧ (ls q).size = 512 ∧ goodT (ls q) = true)
theorem Laid1.upd {ls ct : Nat → ByteArray} (h : ∀ q, Laid1 ls ct q) (p : Nat) (s : ByteArray) : ∀ q, Laid1 (updT ls p (mkT s)) (updT ct p (mkT s)) q := fun q => by
  unfold Laid1 updT
  by_cases e : q = p
  · rw [if_pos e, if_pos e]; exact .inr ⟨rfl, mkT_size s, mkT_good s⟩
  · rw [if_neg e, if_neg e]; exact h q
/-- the pool in the statements' loops -/
structure PInv (W wr : World) (N p D g K : Nat) (X : Px) (ls ct : Nat → ByteArray) : Prop where
  pl : ∃ H, Pl W N wr p D X H ∧ ¬ H g
  gW : W.heap.size ≤ g
  gl : g < wr.heap.size
  last : Last wr g K ls
  laid : ∀ q, Laid1 ls ct q
  sem : Sem X ct
  free : Free X
  n : X.d.n = K
theorem str_some {t : ByteArray} (h : t.size = 512) : (t.toList == (⟨#[]⟩ : ByteArray).toList) = false ∧ (t.toList == []) = false ∧ t.toList ≠ [] := by
  have e : t.toList ≠ [] := fun q => by
    have := congrArg List.length q
    rw [ByteArray.toList_eq, Array.length_toList] at this
    have h2 : t.data.size = 512 := h
    rw [h2] at this
    exact absurd this (by decide)
  have e2 : (⟨#[]⟩ : ByteArray).toList = [] := by rw [ByteArray.toList_eq]
  exact ⟨by rw [e2, beq_eq_false_iff_ne]; exact e, by rw [beq_eq_false_iff_ne]; exact e, e⟩
theorem stored {W wr w2 : World} {N p D g K : Nat} {X : Px} {ls ct : Nat → ByteArray} {H : Nat → Prop} (h : PInv W wr N p D g K X ls ct) (h2 : PlN W N w2 p D X wr H) (hg : ¬ H g) (q : Nat) (hq : q < K) (s : ByteArray) :
    (∃ H2, Pl W N (w2.setCell ⟨g, q, none⟩ (.string (mkT s))) p D X H2 ∧ ¬ H2 g) ∧ Last (w2.setCell ⟨g, q, none⟩ (.string (mkT s))) g K (updT ls q (mkT s)) ∧ g < (w2.setCell ⟨g, q, none⟩ (.string (mkT s))).heap.size := by
  obtain ⟨H2, k1, k2⟩ := h2.open' h.gl hg
  refine ⟨⟨H2, k1.other k2 h.gW _ _, k2⟩, (h.last.keep (h2.block h.gl hg)).set q hq _, ?_⟩
  obtain ⟨_, _, hs⟩ := h2
  have := hs.size
  have := h.gl
  simp
  omega
theorem written {W wr w3 w4 : World} {N M p D g K : Nat} {X Y : Px} {ls ct : Nat → ByteArray} {H : Nat → Prop} (h : PInv W wr N p D g K X ls ct) (h4 : PlN W (N + 1) w4 p D Y w3 H) (hg : ¬ H g) (q : Nat) (s : ByteArray) (hl : Last w3 g K (updT ls q (mkT s))) (hgl : g < w3.heap.size) (hs : Sem Y (updT ct q (mkT s))) (hk : Keep X Y) (hM : N + 1 ≤ M) : PInv W w4 M p D g K Y (updT ls q (mkT s)) (updT ct q (mkT s)) := by
  obtain ⟨H2, k1, k2⟩ := h4.open' hgl hg
  refine ⟨⟨H2, k1.mono hM, k2⟩, h.gW, ?_, hl.keep (h4.block hgl hg), Laid1.upd h.laid q s, hs, hk.free, hk.n.trans h.n⟩
  obtain ⟨_, _, hs⟩ := h4
  exact Nat.lt_of_lt_of_le hgl hs.size
end Go.Proofs.YtfhnnfheonkneaaDoor
namespace Go.Proofs.YtfhnnfheonkneaaDoor
open Go.RowKit Go.Maps

/-- the place of a sector in all the frames, -1 where none holds it -/
def plF (X : Px) (i : Int) : Int :=
  match (List.range X.m).find? fun k => (X.fr k).i == i with
  | some k => (k : Int)
  | none => -1
theorem find_first {p : Nat → Bool} {m k : Nat} (hk : k < m) (hp : p k = true) (hn : ∀ j, j < k → p j = false) : (List.range m).find? p = some k := by
  cases h : (List.range m).find? p with
  | none =>
    have := List.find?_eq_none.1 h k (by simpa using hk)
    exact absurd hp this
  | some j =>
    obtain ⟨al, bl, he, ha⟩ := (List.find?_eq_some_iff_append.1 h).2
    have hj := List.find?_some h
    by_cases e : j < k
    · rw [hn j e] at hj; cases hj
    · by_cases e2 : j = k
      · rw [e2]
      · exfalso
        have hl : al.length = j := by
          have h1 : (List.range m)[al.length]? = some j := by rw [he]; simp
          have h2 : al.length < m := by
            have := congrArg List.length he
            simp at this
            omega
          rw [List.getElem?_range h2] at h1
          exact Option.some.inj h1
        have hka : k ∈ al := by
          have h1 : (List.range m)[k]? = some k := List.getElem?_range hk
          rw [he, List.getElem?_append_left (by omega)] at h1
          exact List.mem_of_getElem? h1
        have := ha k hka
        rw [hp] at this
        cases this
theorem plF_hit {X : Px} {i : Int} {k : Nat} (hk : k < X.m) (h : (X.fr k).i = i) (hn : ∀ j, j < k → (X.fr j).i ≠ i) : plF X i = k := by
  unfold plF
  rw [find_first (p := fun k => (X.fr k).i == i) hk (by simpa using h) (fun j hj => by simpa using hn j hj)]
theorem plF_miss {X : Px} {i : Int} (hn : ∀ j, j < X.m → (X.fr j).i ≠ i) : plF X i = -1 := by
  unfold plF
  have : (List.range X.m).find? (fun k => (X.fr k).i == i) = none := by
    rw [List.find?_eq_none]
    intro k hk
    simpa using hn k (by simpa using hk)
  rw [this]
theorem plF_some {N : Nat} {X : Px} (o : X.Ok N) {i : Int} {k : Nat} (h : X.at i = some k) : plF X i = k := by
  obtain ⟨h1, h2⟩ := at_some h
  have hcm := o.cm
  exact plF_hit (by omega) h2 fun j hj e => by have := o.inj j k (by omega) h1 (e.trans h2.symm); omega
theorem plF_none {N : Nat} {X : Px} (o : X.Ok N) {i : Int} (hi : 0 ≤ i) (h : X.at i = none) : plF X i = -1 := by
  refine plF_miss fun j hj e => ?_
  by_cases hc : j < X.c
  · exact at_none h j hc e
  · rw [o.emp j (by omega)] at e
    change (-1 : Int) = i at e
    omega
theorem plF_empty {N : Nat} {X : Px} (o : X.Ok N) (hc : X.c < X.m) : plF X (-1) = X.c := by
  refine plF_hit hc (by rw [o.emp _ (Nat.le_refl _)]; rfl) fun j hj e => ?_
  have := (o.sec j hj).1
  omega
theorem plF_full {N : Nat} {X : Px} (o : X.Ok N) (hc : ¬ X.c < X.m) : plF X (-1) = -1 := by
  have hcm := o.cm
  refine plF_miss fun j hj e => ?_
  have := (o.sec j (by omega)).1
  omega
theorem put_put (X : Px) (k : Nat) (f g : Fr) : (X.put k f).put k g = X.put k g := by
  unfold Px.put
  congr 1
  funext j
  simp only
  split <;> rfl
/-- the search, as the document goes: what the disk and the hand are when a frame gives way -/
def gaveP (X : Px) : Px := if (X.fr (turnP (3 * X.m) X).2).d = true then (turnP (3 * X.m) X).1.disk ((turnP (3 * X.m) X).1.d.wrote ((turnP (3 * X.m) X).1.fr (turnP (3 * X.m) X).2).i.toNat ((turnP (3 * X.m) X).1.fr (turnP (3 * X.m) X).2).t) else (turnP (3 * X.m) X).1
/-- the loop's round: where the search stands, and where it ends -/
def Goal (X : Px) (n : Nat) (Y : Px) : Prop := turnP (3 * X.m) X = turnP n Y
theorem Goal.start (X : Px) : Goal X (3 * X.m) X := rfl
theorem Goal.held {X Y : Px} {n : Nat} (h : Goal X (n + 1) Y) (hh : 0 < (Y.fr Y.hand).h) : Goal X n Y.turn := by
  unfold Goal at h ⊢
  rw [h]
  show (if 0 < (Y.fr Y.hand).h then _ else _) = _
  rw [if_pos hh]
theorem Goal.used {X Y : Px} {n : Nat} (h : Goal X (n + 1) Y) (hh : (Y.fr Y.hand).h = 0) (hu : (Y.fr Y.hand).u = true) : Goal X n (Y.turn.unuse Y.hand) := by
  unfold Goal at h ⊢
  rw [h]
  show (if 0 < (Y.fr Y.hand).h then _ else if (Y.fr Y.hand).u = true then _ else _) = _
  rw [if_neg (by omega), if_pos hu]
theorem Goal.done {X Y : Px} {n : Nat} (h : Goal X (n + 1) Y) (hh : (Y.fr Y.hand).h = 0) (hu : (Y.fr Y.hand).u = false) : turnP (3 * X.m) X = (Y.turn, Y.hand) := by
  unfold Goal at h
  rw [h]
  show (if 0 < (Y.fr Y.hand).h then _ else if (Y.fr Y.hand).u = true then _ else _) = _
  rw [if_neg (by omega), if_neg (by rw [hu]; decide)]
/-- what find answers, where the frame at the hand gives way -/
theorem find_end {X Y : Px} {i : Int} (ha : X.at i = none) (hc : ¬ X.c < X.m) (hh : X.held = false) (ht : turnP (3 * X.m) X = (Y.turn, Y.hand)) :
    (((Y.fr Y.hand).d = false → findP X i = (Y.turn.put Y.hand (Fr.new i), Y.hand, 0)) ∧
    ((Y.fr Y.hand).d = true → Y.d.left = 0 → findP X i = (Y.turn, 0, 5)) ∧
    ((Y.fr Y.hand).d = true → Y.d.left ≠ 0 → findP X i = ((Y.turn.disk (Y.d.wrote (Y.fr Y.hand).i.toNat (Y.fr Y.hand).t)).put Y.hand (Fr.new i), Y.hand, 0))) := by
  have e := findP_give ha hc
  have g := giveP_not hh
  rw [ht] at g
  simp only at g
  have hf : Y.turn.fr Y.hand = Y.fr Y.hand := rfl
  refine ⟨fun hd => ?_, fun hd hl => ?_, fun hd hl => ?_⟩
  · rw [cleanP_no (X := Y.turn) (by rw [hf]; exact hd)] at g
    simp only [if_true] at g
    rw [e, g]
    rfl
  · rw [cleanP_full (X := Y.turn) (by rw [hf]; exact hd) hl] at g
    rw [e, g]
    rfl
  · rw [cleanP_ok (X := Y.turn) (by rw [hf]; exact hd) hl] at g
    simp only [if_true] at g
    rw [e, g]
    simp only [if_true]
    rw [put_put]
    rfl
theorem find_pins' {X : Px} {i : Int} (ha : X.at i = none) (hc : ¬ X.c < X.m) (hh : X.held = true) : findP X i = (X, 0, 10) := by
  rw [findP_give ha hc, giveP_held hh]
  rfl
/-- what is so of every pool that the hand passes -/
structure Pass (N : Nat) (X Y : Px) (t n : Nat) : Prop where
  ok : Y.Ok N
  d : Y.d = X.d
  m : Y.m = X.m
  c : Y.c = X.c
  loads : Y.loads = X.loads
  lt : t < X.m
  h0 : (Y.fr t).h = 0
  far : far Y t < n
  goal : Goal X n Y
theorem Pass.start {N : Nat} {X : Px} (o : X.Ok N) (hh : X.held = false) : ∃ t, Pass N X X t (3 * X.m) := by
  obtain ⟨t, ht, h0⟩ := held_no hh
  have h1 := far_le X t o.m0
  have h2 := o.m0
  exact ⟨t, o, rfl, rfl, rfl, rfl, ht, h0, by omega, Goal.start X⟩
theorem Pass.held {N : Nat} {X Y : Px} {t n : Nat} (h : Pass N X Y t (n + 1)) (hh : 0 < (Y.fr Y.hand).h) : Pass N X Y.turn t n := by
  have h1 := far_held h.ok.hm (by rw [h.m]; exact h.lt) h.h0 hh
  have h2 := h.far
  exact ⟨h.ok.turn, h.d, h.m, h.c, h.loads, h.lt, h.h0, by omega, h.goal.held hh⟩
theorem Pass.used {N : Nat} {X Y : Px} {t n : Nat} (h : Pass N X Y t (n + 1)) (hc : X.c = X.m) (hh : (Y.fr Y.hand).h = 0) (hu : (Y.fr Y.hand).u = true) : Pass N X (Y.turn.unuse Y.hand) t n := by
  have h1 := far_used h.ok.hm (by rw [h.m]; exact h.lt : t < Y.m) hu
  have h2 := h.far
  refine ⟨h.ok.turn.unuse (k := Y.hand) (by show Y.hand < Y.c; rw [h.c, hc, ← h.m]; exact h.ok.hm), h.d, h.m, h.c, h.loads, h.lt, ?_, by omega, h.goal.used hh hu⟩
  unfold Px.unuse
  rw [put_fr]
  split
  · rename_i e; rw [← e]; exact h.h0
  · exact h.h0
theorem Pass.n0 {N : Nat} {X Y : Px} {t n : Nat} (h : Pass N X Y t n) : 0 < n := by have := h.far; omega
end Go.Proofs.YtfhnnfheonkneaaDoor

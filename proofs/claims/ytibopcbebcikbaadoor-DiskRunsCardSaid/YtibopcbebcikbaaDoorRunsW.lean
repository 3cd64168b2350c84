/-
  THE WALK of DiskRuns: it is true of all numbers and all lists of acts. Conditions: the list could be read; package errors' type is laid.
-/
import Derived.Test.YtibopcbebcikbaaDoorRu
import Derived.Deep.CutBlock
import Derived.Deep.DeepCutAuto
namespace Go.Proofs.YtibopcbebcikbaaDoor
open Go.RowKit

/-- an act's fields, read in a later world -/
structure ActCells (w : World) (b o : Nat) (A : ActV) : Prop where
  c0 : w.cell? ⟨b, o, none⟩ = some (.int .i64 A.kind)
  c1 : w.cell? ⟨b, o + 1, none⟩ = some (.int .i64 A.i)
  c2 : w.cell? ⟨b, o + 2, none⟩ = some (.string A.b)
  c3 : w.cell? ⟨b, o + 3, none⟩ = some (.slice A.ka A.kn A.kc)
  c4 : w.cell? ⟨b, o + 4, none⟩ = some (.int .i64 A.torn)
  c5 : w.cell? ⟨b, o + 5, none⟩ = some (.int .i64 A.part)
theorem act_cells {W w : World} {b o : Nat} {A : ActV} (h : W.rangeAt b o A.cells) (hb : Below W.heap.size W w) : ActCells w b o A := by
  have g : ∀ j v, A.cells[j]? = some v → w.cell? ⟨b, o + j, none⟩ = some v := fun j v hv => (hb.cell (p := ⟨b, o + j, none⟩) (World.block_lt_of_cell? W _ (h j v hv))).trans (h j v hv)
  exact ⟨g 0 _ rfl, g 1 _ rfl, g 2 _ rfl, g 3 _ rfl, g 4 _ rfl, g 5 _ rfl⟩
theorem disk_new {K : Nat} (h1 : 1 ≤ K) (h2 : K ≤ 6) (x : Int) (hx : x = K) (w : World) : Calls Tryd.prog 7 #[.int .i64 x] w (NewAt K w) := new_at K x w hx h1 (by omega)
def RefNewV (n : Nat) (w : World) (e : Ending) (w' : World) : Prop := ∃ r : Ref, e = .returned (.agg #[.slice (some ⟨r.nb, 0, none⟩) r.n r.nc, .slice (some ⟨r.sb, 0, none⟩) r.n r.sc, .slice r.pa r.pend.length r.pc, .int .i64 r.writes, .int .i64 r.left]) ∧ RefFresh w n w' r
theorem ref_new {K : Nat} (h1 : 1 ≤ K) (h2 : K ≤ 6) (x : Int) (hx : x = K) (w : World) : Calls Tryd.prog 8 #[.int .i64 x] w (RefNewV K w) := by
  subst hx
  exact (refnew_any K w h1 (by omega)).mono fun _ _ ⟨r, he, h⟩ => ⟨r, he, h⟩
/-- what holds at the head of each round -/
structure RunInv (W w : World) (p T K i : Nat) (s : St) (r : Ref) : Prop where
  both : Both W w p s r
  c : refCells w T r
  f : ∀ j, w.frozen? ⟨T, j, none⟩ = false
  lo : W.heap.size ≤ T
  lt : T < w.heap.size
  nT : ¬ s.has T
  off : Far r (lone T)
  n : s.n = K
  k0 : 0 ≤ s.writes
  k1 : s.writes ≤ i
theorem runs_start {W w0 w1 : World} {p K : Nat} {s : St} {r : Ref} (h : At W w0 p s) (hn : New K s) (hr : RefFresh w0 K w1 r) : RunInv W (w1.alloc (refObj r)) p w1.heap.size K 0 s r := by
  have hb : Below w0.heap.size w0 (w1.alloc (refObj r)) := hr.below.trans ((alX w1 _).mono hr.below.size)
  have hlt := h.d.lt
  have ok2 := hr.ok.below (alX w1 (refObj r))
  have hcur : ∀ i j, s.cur i j = 0 := fun i j => by unfold St.cur; rw [hn.late i]; exact hn.sure i j
  refine ⟨⟨h.below hb, ok2, ⟨fun e => by have := (hlt _ e).2; have := hr.nb; omega, fun e => by have := (hlt _ e).2; have := hr.sb; omega, fun b off ha => ?_⟩, ⟨by rw [hr.n, hn.n], fun i j _ => by rw [hr.N, hcur], fun i j _ => by rw [hr.S, hn.sure], by rw [hr.pend, hn.pend], by rw [hr.writes, hn.writes], by rw [hr.left, hn.left]; rfl⟩⟩, refObj_cells w1 r, fun j => frozen_of_row _ _ _ _ _ (heap_alloc_new w1 (refObj r)), by have := h.b.size; have := hr.below.size; omega, by simp, fun e => by have := (hlt _ e).2; have := hr.below.size; omega, Far.old hr.ok (Classical.em _) (Nat.le_refl _), hn.n, by rw [hn.writes]; omega, by rw [hn.writes]; omega⟩
  rw [(hr.ok.nil hr.pend).1] at ha
  cases ha
/-- behind an act, its answer in a block of its own -/
structure RunMid (W wx : World) (p T T1 K i : Nat) (s : St) (r r0 : Ref) : Prop where
  both : Both W wx p s r
  c : refCells wx T1 r
  o : refCells wx T r0
  f : ∀ j, wx.frozen? ⟨T, j, none⟩ = false
  lo : W.heap.size ≤ T
  lt : T < wx.heap.size
  nT : ¬ s.has T
  off : Far r (lone T)
  n : s.n = K
  k0 : 0 ≤ s.writes
  k1 : s.writes ≤ (i : Int) + 1
  ne : T1 ≠ T
def RunCut (W : World) (p T K i : Nat) (r0 : Ref) (t c : Value) (wx : World) : Prop := ∃ T1 s r, t = .pointer (some ⟨T1, 0, none⟩) ∧ c = .bool true ∧ RunMid W wx p T T1 K i s r r0
theorem run_store {W wx : World} {p T T1 K i : Nat} {s : St} {r r0 : Ref} (h : RunMid W wx p T T1 K i s r r0) : RunInv W (((((wx.setCell ⟨T, 0, none⟩ (.slice (some ⟨r.nb, 0, none⟩) r.n r.nc)).setCell ⟨T, 1, none⟩ (.slice (some ⟨r.sb, 0, none⟩) r.n r.sc)).setCell ⟨T, 2, none⟩ (.slice r.pa r.pend.length r.pc)).setCell ⟨T, 3, none⟩ (.int .i64 r.writes)).setCell ⟨T, 4, none⟩ (.int .i64 r.left)) p T K (i + 1) s r := by
  have hbut := But.five (X := T) (w := wx) (.slice (some ⟨r.nb, 0, none⟩) r.n r.nc) (.slice (some ⟨r.sb, 0, none⟩) r.n r.sc) (.slice r.pa r.pend.length r.pc) (.int .i64 r.writes) (.int .i64 r.left)
  have ho := h.off.off
  have hat := (Now.first h.both.a).but hbut h.nT h.lo
  obtain ⟨z0, z1, z2, z3, z4⟩ := h.o
  exact ⟨⟨hat, h.both.ok.but hbut ho.1 ho.2.1 ho.2.2, h.both.far, h.both.same⟩, ⟨by simp [go_sem, z0], by simp [go_sem, z1], by simp [go_sem, z2], by simp [go_sem, z3], by simp [go_sem, z4]⟩, fun j => (World.frozen?_of_block rfl).trans (by simpa [go_sem] using h.f j), h.lo, Nat.lt_of_lt_of_le h.lt hbut.size, h.nT, h.off, h.n, h.k0, h.k1⟩
theorem keep11 {w : World} {X Y V : Nat} {q0 q1 q2 q3 q4 q5 : Nat} {u0 u1 u2 u3 u4 a0 a1 a2 a3 a4 a5 : Value} {v0 v1 v2 v3 v4 : Value} (hne : X ≠ Y) (hnv : V ≠ Y) (h : w.cell? ⟨X, 0, none⟩ = some u0 ∧ w.cell? ⟨X, 1, none⟩ = some u1 ∧ w.cell? ⟨X, 2, none⟩ = some u2 ∧ w.cell? ⟨X, 3, none⟩ = some u3 ∧ w.cell? ⟨X, 4, none⟩ = some u4 ∧ w.cell? ⟨V, q0, none⟩ = some a0 ∧ w.cell? ⟨V, q1, none⟩ = some a1 ∧ w.cell? ⟨V, q2, none⟩ = some a2 ∧ w.cell? ⟨V, q3, none⟩ = some a3 ∧ w.cell? ⟨V, q4, none⟩ = some a4 ∧ w.cell? ⟨V, q5, none⟩ = some a5) :
    (((((w.setCell ⟨Y, 0, none⟩ v0).setCell ⟨Y, 1, none⟩ v1).setCell ⟨Y, 2, none⟩ v2).setCell ⟨Y, 3, none⟩ v3).setCell ⟨Y, 4, none⟩ v4).cell? ⟨X, 0, none⟩ = some u0 ∧ (((((w.setCell ⟨Y, 0, none⟩ v0).setCell ⟨Y, 1, none⟩ v1).setCell ⟨Y, 2, none⟩ v2).setCell ⟨Y, 3, none⟩ v3).setCell ⟨Y, 4, none⟩ v4).cell? ⟨X, 1, none⟩ = some u1 ∧ (((((w.setCell ⟨Y, 0, none⟩ v0).setCell ⟨Y, 1, none⟩ v1).setCell ⟨Y, 2, none⟩ v2).setCell ⟨Y, 3, none⟩ v3).setCell ⟨Y, 4, none⟩ v4).cell? ⟨X, 2, none⟩ = some u2 ∧ (((((w.setCell ⟨Y, 0, none⟩ v0).setCell ⟨Y, 1, none⟩ v1).setCell ⟨Y, 2, none⟩ v2).setCell ⟨Y, 3, none⟩ v3).setCell ⟨Y, 4, none⟩ v4).cell? ⟨X, 3, none⟩ = some u3 ∧ (((((w.setCell ⟨Y, 0, none⟩ v0).setCell ⟨Y, 1, none⟩ v1).setCell ⟨Y, 2, none⟩ v2).setCell ⟨Y, 3, none⟩ v3).setCell ⟨Y, 4, none⟩ v4).cell? ⟨X, 4, none⟩ = some u4 ∧ (((((w.setCell ⟨Y, 0, none⟩ v0).setCell ⟨Y, 1, none⟩ v1).setCell ⟨Y, 2, none⟩ v2).setCell ⟨Y, 3, none⟩ v3).setCell ⟨Y, 4, none⟩ v4).cell? ⟨V, q0, none⟩ = some a0 ∧ (((((w.setCell ⟨Y, 0, none⟩ v0).setCell ⟨Y, 1, none⟩ v1).setCell ⟨Y, 2, none⟩ v2).setCell ⟨Y, 3, none⟩ v3).setCell ⟨Y, 4, none⟩ v4).cell? ⟨V, q1, none⟩ = some a1 ∧ (((((w.setCell ⟨Y, 0, none⟩ v0).setCell ⟨Y, 1, none⟩ v1).setCell ⟨Y, 2, none⟩ v2).setCell ⟨Y, 3, none⟩ v3).setCell ⟨Y, 4, none⟩ v4).cell? ⟨V, q2, none⟩ = some a2 ∧ (((((w.setCell ⟨Y, 0, none⟩ v0).setCell ⟨Y, 1, none⟩ v1).setCell ⟨Y, 2, none⟩ v2).setCell ⟨Y, 3, none⟩ v3).setCell ⟨Y, 4, none⟩ v4).cell? ⟨V, q3, none⟩ = some a3 ∧ (((((w.setCell ⟨Y, 0, none⟩ v0).setCell ⟨Y, 1, none⟩ v1).setCell ⟨Y, 2, none⟩ v2).setCell ⟨Y, 3, none⟩ v3).setCell ⟨Y, 4, none⟩ v4).cell? ⟨V, q4, none⟩ = some a4 ∧ (((((w.setCell ⟨Y, 0, none⟩ v0).setCell ⟨Y, 1, none⟩ v1).setCell ⟨Y, 2, none⟩ v2).setCell ⟨Y, 3, none⟩ v3).setCell ⟨Y, 4, none⟩ v4).cell? ⟨V, q5, none⟩ = some a5 := by
  have hb := fun j => (But.five (X := Y) (w := w) v0 v1 v2 v3 v4).cell hne j
  have hv := fun j => (But.five (X := Y) (w := w) v0 v1 v2 v3 v4).cell hnv j
  rw [hb, hb, hb, hb, hb, hv, hv, hv, hv, hv, hv]
  exact h
theorem low11 {w w' : World} {X V : Nat} {q0 q1 q2 q3 q4 q5 : Nat} {u0 u1 u2 u3 u4 a0 a1 a2 a3 a4 a5 : Value} (hb : Below w.heap.size w w') (h : w.cell? ⟨X, 0, none⟩ = some u0 ∧ w.cell? ⟨X, 1, none⟩ = some u1 ∧ w.cell? ⟨X, 2, none⟩ = some u2 ∧ w.cell? ⟨X, 3, none⟩ = some u3 ∧ w.cell? ⟨X, 4, none⟩ = some u4 ∧ w.cell? ⟨V, q0, none⟩ = some a0 ∧ w.cell? ⟨V, q1, none⟩ = some a1 ∧ w.cell? ⟨V, q2, none⟩ = some a2 ∧ w.cell? ⟨V, q3, none⟩ = some a3 ∧ w.cell? ⟨V, q4, none⟩ = some a4 ∧ w.cell? ⟨V, q5, none⟩ = some a5) : w'.cell? ⟨X, 0, none⟩ = some u0 ∧ w'.cell? ⟨X, 1, none⟩ = some u1 ∧ w'.cell? ⟨X, 2, none⟩ = some u2 ∧ w'.cell? ⟨X, 3, none⟩ = some u3 ∧ w'.cell? ⟨X, 4, none⟩ = some u4 ∧ w'.cell? ⟨V, q0, none⟩ = some a0 ∧ w'.cell? ⟨V, q1, none⟩ = some a1 ∧ w'.cell? ⟨V, q2, none⟩ = some a2 ∧ w'.cell? ⟨V, q3, none⟩ = some a3 ∧ w'.cell? ⟨V, q4, none⟩ = some a4 ∧ w'.cell? ⟨V, q5, none⟩ = some a5 := by
  have hc : ∀ b j v, w.cell? ⟨b, j, none⟩ = some v → w'.cell? ⟨b, j, none⟩ = some v := fun b j v hv => (hb.cell (p := ⟨b, j, none⟩) (World.block_lt_of_cell? w _ hv)).trans hv
  obtain ⟨h0, h1, h2, h3, h4, h5, h6, h7, h8, h9, h10⟩ := h
  exact ⟨hc _ _ _ h0, hc _ _ _ h1, hc _ _ _ h2, hc _ _ _ h3, hc _ _ _ h4, hc _ _ _ h5, hc _ _ _ h6, hc _ _ _ h7, hc _ _ _ h8, hc _ _ _ h9, hc _ _ _ h10⟩
theorem step11 {w w' : World} {s s' : St} {X V : Nat} {q0 q1 q2 q3 q4 q5 : Nat} {u0 u1 u2 u3 u4 a0 a1 a2 a3 a4 a5 : Value} (hb : Step w s w' s') (hX : ¬ s.has X) (hV : ¬ s.has V) (h : w.cell? ⟨X, 0, none⟩ = some u0 ∧ w.cell? ⟨X, 1, none⟩ = some u1 ∧ w.cell? ⟨X, 2, none⟩ = some u2 ∧ w.cell? ⟨X, 3, none⟩ = some u3 ∧ w.cell? ⟨X, 4, none⟩ = some u4 ∧ w.cell? ⟨V, q0, none⟩ = some a0 ∧ w.cell? ⟨V, q1, none⟩ = some a1 ∧ w.cell? ⟨V, q2, none⟩ = some a2 ∧ w.cell? ⟨V, q3, none⟩ = some a3 ∧ w.cell? ⟨V, q4, none⟩ = some a4 ∧ w.cell? ⟨V, q5, none⟩ = some a5) : w'.cell? ⟨X, 0, none⟩ = some u0 ∧ w'.cell? ⟨X, 1, none⟩ = some u1 ∧ w'.cell? ⟨X, 2, none⟩ = some u2 ∧ w'.cell? ⟨X, 3, none⟩ = some u3 ∧ w'.cell? ⟨X, 4, none⟩ = some u4 ∧ w'.cell? ⟨V, q0, none⟩ = some a0 ∧ w'.cell? ⟨V, q1, none⟩ = some a1 ∧ w'.cell? ⟨V, q2, none⟩ = some a2 ∧ w'.cell? ⟨V, q3, none⟩ = some a3 ∧ w'.cell? ⟨V, q4, none⟩ = some a4 ∧ w'.cell? ⟨V, q5, none⟩ = some a5 := by
  have hc : ∀ b j v, ¬ s.has b → w.cell? ⟨b, j, none⟩ = some v → w'.cell? ⟨b, j, none⟩ = some v := fun b j v hn hv => (cell_of_block (hb.block b (World.block_lt_of_cell? w ⟨b, j, none⟩ hv) hn)).trans hv
  obtain ⟨h0, h1, h2, h3, h4, h5, h6, h7, h8, h9, h10⟩ := h
  exact ⟨hc _ _ _ hX h0, hc _ _ _ hX h1, hc _ _ _ hX h2, hc _ _ _ hX h3, hc _ _ _ hX h4, hc _ _ _ hV h5, hc _ _ _ hV h6, hc _ _ _ hV h7, hc _ _ _ hV h8, hc _ _ _ hV h9, hc _ _ _ hV h10⟩
structure RunAct (W w1 : World) (p T K i : Nat) (s : St) (r r0 : Ref) : Prop where
  both : Both W w1 p s r
  o : refCells w1 T r0
  f : ∀ j, w1.frozen? ⟨T, j, none⟩ = false
  lo : W.heap.size ≤ T
  lt : T < w1.heap.size
  nT : ¬ s.has T
  off : Far r (lone T)
  n : s.n = K
  k0 : 0 ≤ s.writes
  k1 : s.writes ≤ (i : Int) + 1
def ActV2 (W w : World) (p T K i : Nat) (s : St) (r0 : Ref) (e : Ending) (w' : World) : Prop := ∃ s' r, e = .returned (.tuple #[.agg #[.slice (some ⟨r.nb, 0, none⟩) r.n r.nc, .slice (some ⟨r.sb, 0, none⟩) r.n r.sc, .slice r.pa r.pend.length r.pc, .int .i64 r.writes, .int .i64 r.left], .bool true]) ∧ Step w s w' s' ∧ RunAct W w' p T K i s' r r0 ∧ (∀ X, X < w.heap.size → Far r0 (lone X) → Far r (lone X))
theorem run_act {W wr w : World} {p T K i : Nat} {s : St} {r : Ref} (h : RunInv W wr p T K i s r) (hb : Below wr.heap.size wr w) (hl : Laid W) (hi : i < 50) (hK : K ≤ 6) (A : ActV) (hs : A.b.size ≤ 1000) (hA : ActOk W A) (hkb : 0 < A.kn → ∀ b off, A.ka = some ⟨b, off, none⟩ → b < W.heap.size) :
    Calls Tryd.prog 10 #[.pointer (some ⟨p, 0, none⟩), .agg #[.slice (some ⟨r.nb, 0, none⟩) r.n r.nc, .slice (some ⟨r.sb, 0, none⟩) r.n r.sc, .slice r.pa r.pend.length r.pc, .int .i64 r.writes, .int .i64 r.left], .agg #[.int .i64 A.kind, .int .i64 A.i, .string A.b, .slice A.ka A.kn A.kc, .int .i64 A.torn, .int .i64 A.part]] w (ActV2 W w p T K i s r) := by
  have hbo : Both W w p s r := ⟨h.both.a.below hb, h.both.ok.below hb, h.both.far, h.both.same⟩
  have hAw : ActOk w A := ⟨hA.kind, hA.i, hA.b, hA.ints.below (hbo.a.b), hA.len, hA.torn, hA.part, hA.vals, hA.kn⟩
  refine (act_any hl s r A w hbo h.k0 (by have := h.k1; omega) (by have := pend_le h.both.a.d.ok; rw [h.n] at this; omega) hs hAw (fun h0 b off ha e => by have := (h.both.a.d.lt b e).1; have := hkb h0 b off ha; omega)).mono fun e w' ⟨s', r', he, hB, hS, h0, h1, hn, hold⟩ => ⟨s', r', he, hS, ⟨hB, ?_, fun j => ?_, h.lo, ?_, fun e => ?_, hold _ (Nat.lt_of_lt_of_le h.lt hb.size) h.off, by rw [hn, h.n], h0, by have := h.k1; omega⟩, hold⟩
  · have hc : ∀ j v, wr.cell? ⟨T, j, none⟩ = some v → w'.cell? ⟨T, j, none⟩ = some v := fun j v hv => (cell_of_block (hS.block T (Nat.lt_of_lt_of_le h.lt hb.size) h.nT)).trans ((hb.cell (p := ⟨T, j, none⟩) h.lt).trans hv)
    exact ⟨hc _ _ h.c.1, hc _ _ h.c.2.1, hc _ _ h.c.2.2.1, hc _ _ h.c.2.2.2.1, hc _ _ h.c.2.2.2.2⟩
  · exact (World.frozen?_of_block (hS.block T (Nat.lt_of_lt_of_le h.lt hb.size) h.nT)).trans ((hb.frozen (p := ⟨T, j, none⟩) h.lt).trans (h.f j))
  · have := h.lt; have := hb.size; have := hS.size; omega
  · rcases hS.own _ e with q | q
    · exact h.nT q
    · have := h.lt; have := hb.size; omega
theorem run_act_al {W wr : World} {p T K i : Nat} {s : St} {r : Ref} (h : RunInv W wr p T K i s r) (hl : Laid W) (hi : i < 50) (hK : K ≤ 6) (A : ActV) (hs : A.b.size ≤ 1000) (hA : ActOk W A) (hkb : 0 < A.kn → ∀ b off, A.ka = some ⟨b, off, none⟩ → b < W.heap.size) :
    Calls Tryd.prog 10 #[.pointer (some ⟨p, 0, none⟩), .agg #[.slice (some ⟨r.nb, 0, none⟩) r.n r.nc, .slice (some ⟨r.sb, 0, none⟩) r.n r.sc, .slice r.pa r.pend.length r.pc, .int .i64 r.writes, .int .i64 r.left], .agg #[.int .i64 A.kind, .int .i64 A.i, .string A.b, .slice A.ka A.kn A.kc, .int .i64 A.torn, .int .i64 A.part]] (wr.alloc (.cells #[.slice none 0 0, .slice none 0 0, .slice none 0 0, .int .i64 0, .int .i64 0] 32)).drew (fun e w' => ∃ s' r', e = .returned (.tuple #[.agg #[.slice (some ⟨r'.nb, 0, none⟩) r'.n r'.nc, .slice (some ⟨r'.sb, 0, none⟩) r'.n r'.sc, .slice r'.pa r'.pend.length r'.pc, .int .i64 r'.writes, .int .i64 r'.left], .bool true]) ∧ Step (wr.alloc zobj).drew s w' s' ∧ RunAct W w' p T K i s' r' r ∧ TZ wr w' wr.heap.size ∧ ¬ s'.has wr.heap.size ∧ Far r' (lone wr.heap.size)) := by
  have hb : Below wr.heap.size wr (wr.alloc zobj).drew := Below.drew (Below.al (Below.refl _ _) zobj)
  have hz : TZ wr (wr.alloc zobj).drew wr.heap.size := (tz_new (w0 := wr) (x := wr) (Nat.le_refl _)).below (Below.drew (Below.refl _ _))
  have hn : ¬ s.has wr.heap.size := fun e => by have := (h.both.a.d.lt _ e).2; omega
  refine (run_act h hb hl hi hK A hs hA hkb).mono fun e w' ⟨s', r', he, hS, hR, hold⟩ => ⟨s', r', he, hS, hR, ?_, fun e => ?_, hold _ hz.lt (Far.old h.both.ok (Classical.em _) (Nat.le_refl _))⟩
  · have hc : ∀ j v, (wr.alloc zobj).drew.cell? ⟨wr.heap.size, j, none⟩ = some v → w'.cell? ⟨wr.heap.size, j, none⟩ = some v := fun j v hv => (cell_of_block (hS.block _ hz.lt hn)).trans hv
    exact ⟨⟨hc _ _ hz.z.1, hc _ _ hz.z.2.1, hc _ _ hz.z.2.2.1, hc _ _ hz.z.2.2.2.1, hc _ _ hz.z.2.2.2.2⟩, fun j => (World.frozen?_of_block (hS.block _ hz.lt hn)).trans (hz.f j), hz.lo, Nat.lt_of_lt_of_le hz.lt hS.size⟩
  · rcases hS.own _ e with q | q
    · exact hn q
    · have := hz.lt; omega
def runW (w : World) (T : Nat) (r : Ref) : World := (((((w.setCell ⟨T, 0, none⟩ (.slice (some ⟨r.nb, 0, none⟩) r.n r.nc)).setCell ⟨T, 1, none⟩ (.slice (some ⟨r.sb, 0, none⟩) r.n r.sc)).setCell ⟨T, 2, none⟩ (.slice r.pa r.pend.length r.pc)).setCell ⟨T, 3, none⟩ (.int .i64 r.writes)).setCell ⟨T, 4, none⟩ (.int .i64 r.left))
theorem runW_def (w : World) (T : Nat) (r : Ref) : runW w T r = (((((w.setCell ⟨T, 0, none⟩ (.slice (some ⟨r.nb, 0, none⟩) r.n r.nc)).setCell ⟨T, 1, none⟩ (.slice (some ⟨r.sb, 0, none⟩) r.n r.sc)).setCell ⟨T, 2, none⟩ (.slice r.pa r.pend.length r.pc)).setCell ⟨T, 3, none⟩ (.int .i64 r.writes)).setCell ⟨T, 4, none⟩ (.int .i64 r.left)) := rfl
theorem run_below {W w w' : World} {p T K i : Nat} {s : St} {r : Ref} (h : RunInv W w p T K i s r) (hb : Below w.heap.size w w') : RunInv W w' p T K i s r := by
  have hc : ∀ j v, w.cell? ⟨T, j, none⟩ = some v → w'.cell? ⟨T, j, none⟩ = some v := fun j v hv => (hb.cell (p := ⟨T, j, none⟩) h.lt).trans hv
  exact ⟨⟨h.both.a.below hb, h.both.ok.below hb, h.both.far, h.both.same⟩, ⟨hc _ _ h.c.1, hc _ _ h.c.2.1, hc _ _ h.c.2.2.1, hc _ _ h.c.2.2.2.1, hc _ _ h.c.2.2.2.2⟩, fun j => (hb.frozen (p := ⟨T, j, none⟩) h.lt).trans (h.f j), h.lo, Nat.lt_of_lt_of_le h.lt hb.size, h.nT, h.off, h.n, h.k0, h.k1⟩
section
variable {P : Program} {ops : Array Oper} {Q : Exit → Act → World → Prop} {md : Region.Mode} {s : Nat} {S : Bool → World → Prop}
/-- one that does not come up, since its guard says so -/
theorem Till.skip {i : Nat} {d : Tmp} {o : Oper} {f : Nat} {l : Array Bool} {a : Act} {w : World} (hi : ops[i]? = some o) (hd : o.dst = some d) (hsel : Region.noSelect ops = true) (hf : Region.free md ops l i = true) (hr : (Region.ready md ops l).contains i = true)
    (hn : (s != i) = true) (hQ : ∀ c a w, Q (.panic c) (a.put o.dst undef) w → Q (.panic c) a w) (hS : S (l.getD s false) w) (hw : Region.wanted o (yielded ops a.tmps) = false)
    (hb : (!(l.getD s false) || !(Region.waitsFor md ops s i)) = true) (h : Till P md ops Q s S f (l.setIfInBounds i true) (a.put (some d) undef) w) : Till P md ops Q s S (f + 1) l a w := by
  rw [← hd] at h
  refine Till.first (G := fun _ => True) hi hsel (by simpa using hn) hQ (fun _ _ _ _ => trivial) f l a w (Region.free_spec hi hf) (by simpa using hr) (fun q => ?_) (.inr ⟨hw, rfl⟩) hS h
  rw [q] at hb
  simpa using hb
end
theorem run_new {W w1 : World} {p T K i : Nat} {s : St} {r r0 : Ref} (h : RunAct W w1 p T K i s r r0) : RunMid W (w1.alloc (refObj r)) p T w1.heap.size K i s r r0 := by
  have hb := alX w1 (refObj r)
  have hc : ∀ j v, w1.cell? ⟨T, j, none⟩ = some v → (w1.alloc (refObj r)).cell? ⟨T, j, none⟩ = some v := fun j v hv => (hb.cell (p := ⟨T, j, none⟩) h.lt).trans hv
  exact ⟨⟨h.both.a.below hb, h.both.ok.below hb, h.both.far, h.both.same⟩, refObj_cells w1 r, ⟨hc _ _ h.o.1, hc _ _ h.o.2.1, hc _ _ h.o.2.2.1, hc _ _ h.o.2.2.2.1, hc _ _ h.o.2.2.2.2⟩, fun j => (hb.frozen (p := ⟨T, j, none⟩) h.lt).trans (h.f j), h.lo, Nat.lt_of_lt_of_le h.lt hb.size, h.nT, h.off, h.n, h.k0, h.k1, by have := h.lt; omega⟩
theorem But.cells5 {X : Nat} {w w' : World} (h : But X w w') {b : Nat} (hb : b ≠ X) {v0 v1 v2 v3 v4 : Value} (c : Cells5 w b v0 v1 v2 v3 v4) : Cells5 w' b v0 v1 v2 v3 v4 :=
  ⟨(h.cell hb _).trans c.1, (h.cell hb _).trans c.2.1, (h.cell hb _).trans c.2.2.1, (h.cell hb _).trans c.2.2.2.1, (h.cell hb _).trans c.2.2.2.2⟩
theorem But.frozen {X : Nat} {w w' : World} (h : But X w w') {b : Nat} (hb : b ≠ X) (f : ∀ j, w.frozen? ⟨b, j, none⟩ = false) (j : Nat) : w'.frozen? ⟨b, j, none⟩ = false := (World.frozen?_of_block (h.block b hb)).trans (f j)
theorem run_set {W w1 : World} {p T T1 K i : Nat} {s : St} {r r0 : Ref} (h : RunAct W w1 p T K i s r r0) (z : Cells5 w1 T1 (.slice none 0 0) (.slice none 0 0) (.slice none 0 0) (.int .i64 0) (.int .i64 0)) (lo : W.heap.size ≤ T1) (hn : ¬ s.has T1) (off : Far r (lone T1)) (ne : T1 ≠ T) : RunMid W (((((w1.setCell ⟨T1, 0, none⟩ (.slice (some ⟨r.nb, 0, none⟩) r.n r.nc)).setCell ⟨T1, 1, none⟩ (.slice (some ⟨r.sb, 0, none⟩) r.n r.sc)).setCell ⟨T1, 2, none⟩ (.slice r.pa r.pend.length r.pc)).setCell ⟨T1, 3, none⟩ (.int .i64 r.writes)).setCell ⟨T1, 4, none⟩ (.int .i64 r.left)) p T T1 K i s r r0 := by
  have hbut := But.five (X := T1) (w := w1) (.slice (some ⟨r.nb, 0, none⟩) r.n r.nc) (.slice (some ⟨r.sb, 0, none⟩) r.n r.sc) (.slice r.pa r.pend.length r.pc) (.int .i64 r.writes) (.int .i64 r.left)
  have ho := off.off
  have hat := (Now.first h.both.a).but hbut hn lo
  have ho2 := hbut.cells5 (Ne.symm ne) h.o
  have hf2 := hbut.frozen (Ne.symm ne) h.f
  obtain ⟨z0, z1, z2, z3, z4⟩ := z
  exact ⟨⟨hat, h.both.ok.but hbut ho.1 ho.2.1 ho.2.2, h.both.far, h.both.same⟩, ⟨by simp [go_sem, z0], by simp [go_sem, z1], by simp [go_sem, z2], by simp [go_sem, z3], by simp [go_sem, z4]⟩, ho2, hf2, h.lo, Nat.lt_of_lt_of_le h.lt hbut.size, h.nT, h.off, h.n, h.k0, h.k1, ne⟩
set_option maxRecDepth 100000 in
set_option maxHeartbeats 2000000 in
theorem runs_walk (n : Int) (a : Option Addr) (m c : Nat) (l : Nat → ActV) (W : World) (_wn : (Lit.int .i64 n).wf = true) (h1 : IsActs W a m l) (hkb : ∀ i, i < m → 0 < (l i).kn → ∀ b off, (l i).ka = some ⟨b, off, none⟩ → b < W.heap.size) (hl : Laid W) :
    Calls Tryd.prog 3 #[.int .i64 n, .slice a m c] W fun e w' => e = .returned (.bool true) ∧ Below W.heap.size W w' := by
  have HLD := Lib.hid hl
  obtain ⟨k, hk, hk2⟩ := red_nat n 6 (by omega) (by omega)
  have k0 : (0 : Int) ≤ (k : Int) := by omega
  obtain ⟨K, hK⟩ : ∃ K : Nat, K = k + 1 := ⟨_, rfl⟩
  have HK := Lib.hid (show (1 : Int) + (k : Int) = (K : Int) by omega)
  have K1 : 1 ≤ K := by omega
  have K6 : K ≤ 6 := by omega
  have HKB := Lib.hid hkb
  have h1m := h1.1
  have H1 := Lib.hid h1.2
  clear hl hK h1 hkb
  go_enter Tryd.func3, Tryd.ntmps3
  go_upto_block 0 with (first | (go_at_call 7; refine (disk_new K1 K6 _ HK.out _).mono ?_; rintro e wa ⟨p, s0, rfl, ha, hn⟩; have HA := Lib.hid ha; have HN := Lib.hid hn; clear ha hn) | (go_at_call 8; refine (ref_new K1 K6 _ HK.out _).mono ?_; rintro e wb ⟨r0, rfl, hr⟩; have HR := Lib.hid hr; clear hr))
  rw [HK.out]
  have HI := Lib.hid (runs_start HA.out HN.out HR.out)
  change Code.wp _ _ _ _ (wb.alloc (refObj r0))
  obtain ⟨T, eT⟩ : ∃ T, T = wb.heap.size := ⟨_, rfl⟩
  rw [← eT] at HI ⊢
  generalize wb.alloc (refObj r0) = wc at HI ⊢
  clear HR HA HN eT hk hk2
  go_wp2
  go_loopw [9] (fun x wr => ∃ (i : Nat) (s : St) (r : Ref), i ≤ m ∧ i ≤ 50 ∧ x = .int .i64 i ∧ Hid (RunInv W wr p T K i s r)) (fun x _ => 50 - (intOf x).toNat)
  case atStart => exact ⟨0, s0, r0, by omega, by omega, rfl, HI⟩
  case round =>
    obtain ⟨i, s, r, hi, hi2, rfl, HV⟩ := hrel
    rename_i wr
    by_cases hlt : i < m ∧ i < 50
    · obtain ⟨q1, q2⟩ := hlt
      have q1' : (i : Int) < (m : Int) := by omega
      have q2' : (i : Int) < 50 := by omega
      have i0 : (0 : Int) ≤ (i : Int) := by omega
      obtain ⟨bb, o, rfl, hr, hok⟩ := H1.out i q1
      have hkbi := HKB.out i q1
      have AC := act_cells hr HV.out.both.a.b
      have HAC := Lib.hid AC
      obtain ⟨g0, g1, g2, g3, g4, g5⟩ := AC
      have HOK := Lib.hid hok
      have HR := Lib.hid hr
      have HKI := Lib.hid hkbi
      clear hr hok hkbi
      generalize l i = A at *
      by_cases hbig : 600 < A.b.size ∨ 50 < A.kn
      · have HBB := Lib.hid hbig
        by_cases hb1 : (600 : Int) < (A.b.size : Int)
        · clear hbig
          go_wp2_with (go_at_call 9; refine (sure_at HV.out.both.a).mono ?_; rintro e wk ⟨rfl, hb2⟩; have HB2 := Lib.hid hb2; clear hb2)
          go_ret
          exact ⟨rfl, HB2.out.b⟩
        · have hb2 : (50 : Int) < (A.kn : Int) := by omega
          clear hbig
          go_wp2_with (go_at_call 9; refine (sure_at HV.out.both.a).mono ?_; rintro e wk ⟨rfl, hb2⟩; have HB2 := Lib.hid hb2; clear hb2)
          go_ret
          exact ⟨rfl, HB2.out.b⟩
      · have hb1 : (A.b.size : Int) ≤ 600 := by omega
        have hb2 : (A.kn : Int) ≤ 50 := by omega
        clear hbig
        go_upto_region 11 with (fail)
        go_cut [10, 11] (fun t c wx => RunCut W p T K i r t c wx)
        case rest =>
          obtain ⟨T1, s1, r1, rfl, rfl, hmid⟩ := hcut
          have HM := Lib.hid hmid
          obtain ⟨x0, x1, x2, x3, x4⟩ := hmid.c
          obtain ⟨y0, y1, y2, y3, y4⟩ := hmid.o
          have ft := hmid.f
          clear hmid g0 g1 g2 g3 g4 g5
          go_upto_region 13 with (fail)
          have HI2 := Lib.hid (run_store HM.out)
          change Code.wp _ _ _ _ (runW wc T r1)
          rw [← runW_def] at HI2
          clear x0 x1 x2 x3 x4 y0 y1 y2 y3 y4 ft HM
          generalize runW wc T r1 = w2 at HI2 ⊢
          obtain ⟨x0, x1, x2, x3, x4⟩ := HI2.out.c
          by_cases hin : 0 ≤ A.i ∧ A.i < (K : Int)
          · obtain ⟨in0, in1⟩ := hin
            go_wp2_with (first | (go_at_call 11; refine (same_any s1 r1 _ HI2.out.both).mono ?_; rintro e w3 ⟨rfl, b3⟩; have B3 := Lib.hid b3; have c1 := (act_cells HR.out (HI2.out.both.a.below b3).b).c1; clear b3) | (go_at_call 12; refine (read_at s1 A.i.toNat _ _ (HI2.out.both.a.below B3.out) (by omega) (by rw [HI2.out.n]; omega)).mono ?_; rintro e w4 ⟨g, cap, rfl, _, _, _, ha4, b4⟩; have B4 := Lib.hid b4; have d1 := (act_cells HR.out ha4.b).c1; clear ha4 b4))
            go_quiet (fail)
            go_wp2
            go_roundw
            case rel => exact ⟨i + 1, s1, r1, by omega, by omega, by go_num, Lib.hid (run_below HI2.out (below_drewN (B3.out.trans (B4.out.mono B3.out.size)) _))⟩
            case measure => simp [intOf]; omega
          · by_cases in0 : 0 ≤ A.i
            · have in1 : (K : Int) ≤ A.i := by omega
              have dd1 : decide (A.i < (K : Int)) = false := decide_eq_false (by omega)
              have dd0 : decide (0 ≤ A.i) = true := decide_eq_true in0
              clear hin
              go_wp2_with (first | (go_at_call 11; refine (same_any s1 r1 _ HI2.out.both).mono ?_; rintro e w3 ⟨rfl, b3⟩; have B3 := Lib.hid b3; have c1 := (act_cells HR.out (HI2.out.both.a.below b3).b).c1; clear b3) | (go_at_call 12; refine (read_err (HI2.out.both.a.below B3.out) A.i (by rw [HI2.out.n]; omega)).mono ?_; rintro e w4 ⟨rfl, rfl⟩))
              have C1 := Lib.hid (show w3.drew.cell? ⟨bb, o + i * 6 + 1, none⟩ = some (.int .i64 A.i) from c1)
              have HL3 := Lib.hid (HLD.out.below (HI2.out.both.a.below B3.out).b)
              go_region_held (fun w' => w'.cell? ⟨bb, o + i * 6 + 1, none⟩ = some (.int .i64 A.i)) (first | with_reducible exact C1.out | with_reducible assumption) ((go_at_call 13; refine (num_err 4 _ (HL3.out.below (Below.drew (Below.refl _ _)))).mono ?_; rintro e w5 ⟨rfl, b5⟩; have B5 := Lib.hid b5; have k1 := (b5.cell (p := ⟨bb, o + i * 6 + 1, none⟩) (World.block_lt_of_cell? _ _ C1.out)).trans C1.out; clear b5))
              go_wp2
              go_roundw
              case rel => exact ⟨i + 1, s1, r1, by omega, by omega, by go_num, Lib.hid (run_below HI2.out (B3.out.trans ((Below.drew (Below.refl _ _)).trans (B5.out) |>.mono B3.out.size)))⟩
              case measure => simp [intOf]; omega
            · have in1 : A.i < 0 := by omega
              have dd0 : decide (0 ≤ A.i) = false := decide_eq_false in0
              clear hin in0
              go_wp2_with (first | (go_at_call 11; refine (same_any s1 r1 _ HI2.out.both).mono ?_; rintro e w3 ⟨rfl, b3⟩; have B3 := Lib.hid b3; have c1 := (act_cells HR.out (HI2.out.both.a.below b3).b).c1; clear b3) | (go_at_call 12; refine (read_err (HI2.out.both.a.below B3.out) A.i (by omega)).mono ?_; rintro e w4 ⟨rfl, rfl⟩))
              have C1 := Lib.hid (show w3.drew.cell? ⟨bb, o + i * 6 + 1, none⟩ = some (.int .i64 A.i) from c1)
              have HL3 := Lib.hid (HLD.out.below (HI2.out.both.a.below B3.out).b)
              have hS0 : w3.drew.cell? ⟨bb, o + i * 6 + 1, none⟩ = some (.int .i64 A.i) := C1.out
              refine Till.region (s := 27) (S := fun _ w' => w'.cell? ⟨bb, o + i * 6 + 1, none⟩ = some (.int .i64 A.i)) (by kernel_rfl) ?_
              simp only [List.size_toArray, List.length_cons, List.length_nil]
              refine Till.move (i := 0) (d := 88) (v := ?_) rfl rfl (by kernel_rfl) (by kernel_rfl) (by kernel_rfl) (by kernel_rfl) (fun _ _ _ h => h) hS0 ?_ (by rfl) (by kernel_rfl) ?_
              rotate_left 1
              · intro w
                go_simp
                try with_reducible rfl
              dsimp only [Act.put]
              simp only [List.setIfInBounds_toArray, List.set_cons_zero, List.set_cons_succ]
              refine Till.move (i := 1) (d := 89) (v := ?_) rfl rfl (by kernel_rfl) (by kernel_rfl) (by kernel_rfl) (by kernel_rfl) (fun _ _ _ h => h) hS0 ?_ (by rfl) (by kernel_rfl) ?_
              rotate_left 1
              · intro w
                go_simp
                try with_reducible rfl
              dsimp only [Act.put]
              simp only [List.setIfInBounds_toArray, List.set_cons_zero, List.set_cons_succ]
              refine Till.move (i := 2) (d := 90) (v := ?_) rfl rfl (by kernel_rfl) (by kernel_rfl) (by kernel_rfl) (by kernel_rfl) (fun _ _ _ h => h) hS0 ?_ (by rfl) (by kernel_rfl) ?_
              rotate_left 1
              · intro w
                go_simp
                try with_reducible rfl
              dsimp only [Act.put]
              simp only [List.setIfInBounds_toArray, List.set_cons_zero, List.set_cons_succ]
              refine Till.move (i := 3) (d := 91) (v := ?_) rfl rfl (by kernel_rfl) (by kernel_rfl) (by kernel_rfl) (by kernel_rfl) (fun _ _ _ h => h) hS0 ?_ (by rfl) (by kernel_rfl) ?_
              rotate_left 1
              · intro w
                go_simp
                try with_reducible rfl
              dsimp only [Act.put]
              simp only [List.setIfInBounds_toArray, List.set_cons_zero, List.set_cons_succ]
              refine Till.move (i := 4) (d := 92) (v := ?_) rfl rfl (by kernel_rfl) (by kernel_rfl) (by kernel_rfl) (by kernel_rfl) (fun _ _ _ h => h) hS0 ?_ (by rfl) (by kernel_rfl) ?_
              rotate_left 1
              · intro w
                go_simp
                try with_reducible rfl
              dsimp only [Act.put]
              simp only [List.setIfInBounds_toArray, List.set_cons_zero, List.set_cons_succ]
              refine Till.move (i := 5) (d := 93) (v := ?_) rfl rfl (by kernel_rfl) (by kernel_rfl) (by kernel_rfl) (by kernel_rfl) (fun _ _ _ h => h) hS0 ?_ (by rfl) (by kernel_rfl) ?_
              rotate_left 1
              · intro w
                go_simp
                try with_reducible rfl
              dsimp only [Act.put]
              simp only [List.setIfInBounds_toArray, List.set_cons_zero, List.set_cons_succ]
              refine Till.read (i := 6) (d := 94) (v := ?_) (G := fun w' => w'.cell? ⟨bb, o + i * 6 + 1, none⟩ = some (.int .i64 A.i)) (fun _ _ h => h) rfl rfl (by kernel_rfl) (by kernel_rfl) (by kernel_rfl) (by kernel_rfl) (fun _ _ _ h => h) hS0 ?_ (by rfl) (by kernel_rfl) ?_
              rotate_left 1
              · intro w' hx
                go_simp
                try with_reducible rfl
              dsimp only [Act.put]
              simp only [List.setIfInBounds_toArray, List.set_cons_zero, List.set_cons_succ]
              refine Till.move (i := 7) (d := 95) (v := ?_) rfl rfl (by kernel_rfl) (by kernel_rfl) (by kernel_rfl) (by kernel_rfl) (fun _ _ _ h => h) hS0 ?_ (by rfl) (by kernel_rfl) ?_
              rotate_left 1
              · intro w
                go_simp
                try with_reducible rfl
              dsimp only [Act.put]
              simp only [List.setIfInBounds_toArray, List.set_cons_zero, List.set_cons_succ]
              refine Till.move (i := 8) (d := 96) (v := ?_) rfl rfl (by kernel_rfl) (by kernel_rfl) (by kernel_rfl) (by kernel_rfl) (fun _ _ _ h => h) hS0 ?_ (by rfl) (by kernel_rfl) ?_
              rotate_left 1
              · intro w
                go_simp
                try with_reducible rfl
              dsimp only [Act.put]
              simp only [List.setIfInBounds_toArray, List.set_cons_zero, List.set_cons_succ]
              refine Till.skip (i := 9) (d := 97) rfl rfl (by kernel_rfl) (by kernel_rfl) (by kernel_rfl) (by kernel_rfl) (fun _ _ _ h => h) hS0 (by rfl) (by kernel_rfl) ?_
              dsimp only [Act.put]
              simp only [List.setIfInBounds_toArray, List.set_cons_zero, List.set_cons_succ]
              refine Till.skip (i := 10) (d := 98) rfl rfl (by kernel_rfl) (by kernel_rfl) (by kernel_rfl) (by kernel_rfl) (fun _ _ _ h => h) hS0 (by rfl) (by kernel_rfl) ?_
              dsimp only [Act.put]
              simp only [List.setIfInBounds_toArray, List.set_cons_zero, List.set_cons_succ]
              refine Till.skip (i := 11) (d := 99) rfl rfl (by kernel_rfl) (by kernel_rfl) (by kernel_rfl) (by kernel_rfl) (fun _ _ _ h => h) hS0 (by rfl) (by kernel_rfl) ?_
              dsimp only [Act.put]
              simp only [List.setIfInBounds_toArray, List.set_cons_zero, List.set_cons_succ]
              refine Till.skip (i := 12) (d := 100) rfl rfl (by kernel_rfl) (by kernel_rfl) (by kernel_rfl) (by kernel_rfl) (fun _ _ _ h => h) hS0 (by rfl) (by kernel_rfl) ?_
              dsimp only [Act.put]
              simp only [List.setIfInBounds_toArray, List.set_cons_zero, List.set_cons_succ]
              refine Till.skip (i := 13) (d := 101) rfl rfl (by kernel_rfl) (by kernel_rfl) (by kernel_rfl) (by kernel_rfl) (fun _ _ _ h => h) hS0 (by rfl) (by kernel_rfl) ?_
              dsimp only [Act.put]
              simp only [List.setIfInBounds_toArray, List.set_cons_zero, List.set_cons_succ]
              refine Till.skip (i := 14) (d := 102) rfl rfl (by kernel_rfl) (by kernel_rfl) (by kernel_rfl) (by kernel_rfl) (fun _ _ _ h => h) hS0 (by rfl) (by kernel_rfl) ?_
              dsimp only [Act.put]
              simp only [List.setIfInBounds_toArray, List.set_cons_zero, List.set_cons_succ]
              refine Till.skip (i := 15) (d := 103) rfl rfl (by kernel_rfl) (by kernel_rfl) (by kernel_rfl) (by kernel_rfl) (fun _ _ _ h => h) hS0 (by rfl) (by kernel_rfl) ?_
              dsimp only [Act.put]
              simp only [List.setIfInBounds_toArray, List.set_cons_zero, List.set_cons_succ]
              refine Till.move (i := 16) (d := 104) (v := ?_) rfl rfl (by kernel_rfl) (by kernel_rfl) (by kernel_rfl) (by kernel_rfl) (fun _ _ _ h => h) hS0 ?_ (by rfl) (by kernel_rfl) ?_
              rotate_left 1
              · intro w
                go_simp
                try with_reducible rfl
              dsimp only [Act.put]
              simp only [List.setIfInBounds_toArray, List.set_cons_zero, List.set_cons_succ]
              refine Till.move (i := 17) (d := 105) (v := ?_) rfl rfl (by kernel_rfl) (by kernel_rfl) (by kernel_rfl) (by kernel_rfl) (fun _ _ _ h => h) hS0 ?_ (by rfl) (by kernel_rfl) ?_
              rotate_left 1
              · intro w
                go_simp
                try with_reducible rfl
              dsimp only [Act.put]
              simp only [List.setIfInBounds_toArray, List.set_cons_zero, List.set_cons_succ]
              refine Till.move (i := 18) (d := 106) (v := ?_) rfl rfl (by kernel_rfl) (by kernel_rfl) (by kernel_rfl) (by kernel_rfl) (fun _ _ _ h => h) hS0 ?_ (by rfl) (by kernel_rfl) ?_
              rotate_left 1
              · intro w
                go_simp
                try with_reducible rfl
              dsimp only [Act.put]
              simp only [List.setIfInBounds_toArray, List.set_cons_zero, List.set_cons_succ]
              refine Till.move (i := 19) (d := 107) (v := ?_) rfl rfl (by kernel_rfl) (by kernel_rfl) (by kernel_rfl) (by kernel_rfl) (fun _ _ _ h => h) hS0 ?_ (by rfl) (by kernel_rfl) ?_
              rotate_left 1
              · intro w
                go_simp
                try with_reducible rfl
              dsimp only [Act.put]
              simp only [List.setIfInBounds_toArray, List.set_cons_zero, List.set_cons_succ]
              refine Till.move (i := 20) (d := 108) (v := ?_) rfl rfl (by kernel_rfl) (by kernel_rfl) (by kernel_rfl) (by kernel_rfl) (fun _ _ _ h => h) hS0 ?_ (by rfl) (by kernel_rfl) ?_
              rotate_left 1
              · intro w
                go_simp
                try with_reducible rfl
              dsimp only [Act.put]
              simp only [List.setIfInBounds_toArray, List.set_cons_zero, List.set_cons_succ]
              refine Till.move (i := 21) (d := 109) (v := ?_) rfl rfl (by kernel_rfl) (by kernel_rfl) (by kernel_rfl) (by kernel_rfl) (fun _ _ _ h => h) hS0 ?_ (by rfl) (by kernel_rfl) ?_
              rotate_left 1
              · intro w
                go_simp
                try with_reducible rfl
              dsimp only [Act.put]
              simp only [List.setIfInBounds_toArray, List.set_cons_zero, List.set_cons_succ]
              refine Till.move (i := 22) (d := 110) (v := ?_) rfl rfl (by kernel_rfl) (by kernel_rfl) (by kernel_rfl) (by kernel_rfl) (fun _ _ _ h => h) hS0 ?_ (by rfl) (by kernel_rfl) ?_
              rotate_left 1
              · intro w
                go_simp
                try with_reducible rfl
              dsimp only [Act.put]
              simp only [List.setIfInBounds_toArray, List.set_cons_zero, List.set_cons_succ]
              refine Till.only false (i := 23) rfl (by kernel_rfl) (by rfl) (by kernel_rfl) fun K hK => ?_
              go_simp
              refine (num_err 4 _ (HL3.out.below (Below.drew (Below.refl _ _)))).mono ?_
              rintro e w5 ⟨rfl, b5⟩
              have B5 := Lib.hid b5
              have hS1 : w5.cell? ⟨bb, o + i * 6 + 1, none⟩ = some (.int .i64 A.i) := (b5.cell (p := ⟨bb, o + i * 6 + 1, none⟩) (World.block_lt_of_cell? _ _ C1.out)).trans C1.out
              clear b5
              refine hK.out _ _ hS1 ?_
              clear hK K
              refine Till.move (i := 24) (d := 112) (v := ?_) rfl rfl (by kernel_rfl) (by kernel_rfl) (by kernel_rfl) (by kernel_rfl) (fun _ _ _ h => h) hS1 ?_ (by rfl) (by kernel_rfl) ?_
              rotate_left 1
              · intro w
                go_simp
                try with_reducible rfl
              dsimp only [Act.put]
              simp only [List.setIfInBounds_toArray, List.set_cons_zero, List.set_cons_succ]
              refine Till.move (i := 25) (d := 113) (v := ?_) rfl rfl (by kernel_rfl) (by kernel_rfl) (by kernel_rfl) (by kernel_rfl) (fun _ _ _ h => h) hS1 ?_ (by rfl) (by kernel_rfl) ?_
              rotate_left 1
              · intro w
                go_simp
                try with_reducible rfl
              dsimp only [Act.put]
              simp only [List.setIfInBounds_toArray, List.set_cons_zero, List.set_cons_succ]
              refine Till.move (i := 26) (d := 114) (v := ?_) rfl rfl (by kernel_rfl) (by kernel_rfl) (by kernel_rfl) (by kernel_rfl) (fun _ _ _ h => h) hS1 ?_ (by rfl) (by kernel_rfl) ?_
              rotate_left 1
              · intro w
                go_simp
                try with_reducible rfl
              dsimp only [Act.put]
              simp only [List.setIfInBounds_toArray, List.set_cons_zero, List.set_cons_succ]
              refine Till.done (by kernel_rfl) ?_ _
              go_wp2
              go_roundw
              case rel => exact ⟨i + 1, s1, r1, by omega, by omega, by go_num, Lib.hid (run_below HI2.out (B3.out.trans ((Below.drew (Below.refl _ _)).trans (B5.out) |>.mono B3.out.size)))⟩
              case measure => simp [intOf]; omega
        case first =>
          have X11 := Lib.hid (show wr.cell? ⟨T, 0, none⟩ = some (.slice (some ⟨r.nb, 0, none⟩) r.n r.nc) ∧ wr.cell? ⟨T, 1, none⟩ = some (.slice (some ⟨r.sb, 0, none⟩) r.n r.sc) ∧ wr.cell? ⟨T, 2, none⟩ = some (.slice r.pa r.pend.length r.pc) ∧ wr.cell? ⟨T, 3, none⟩ = some (.int .i64 r.writes) ∧ wr.cell? ⟨T, 4, none⟩ = some (.int .i64 r.left) ∧ wr.cell? ⟨bb, o + i * 6, none⟩ = some (.int .i64 A.kind) ∧ wr.cell? ⟨bb, o + i * 6 + 1, none⟩ = some (.int .i64 A.i) ∧ wr.cell? ⟨bb, o + i * 6 + 2, none⟩ = some (.string A.b) ∧ wr.cell? ⟨bb, o + i * 6 + 3, none⟩ = some (.slice A.ka A.kn A.kc) ∧ wr.cell? ⟨bb, o + i * 6 + 4, none⟩ = some (.int .i64 A.torn) ∧ wr.cell? ⟨bb, o + i * 6 + 5, none⟩ = some (.int .i64 A.part) from ⟨HV.out.c.1, HV.out.c.2.1, HV.out.c.2.2.1, HV.out.c.2.2.2.1, HV.out.c.2.2.2.2, g0, g1, g2, g3, g4, g5⟩)
          have HNV := Lib.hid (show ¬ s.has bb from fun e => by have := (HV.out.both.a.d.lt _ e).1; have := World.block_lt_of_cell? W _ (HR.out 0 _ rfl); simp at this; omega)
          have HBB := Lib.hid (show bb < W.heap.size by have := World.block_lt_of_cell? W _ (HR.out 0 _ rfl); simpa using this)
          have HTT := Lib.hid (show T ≠ wr.heap.size by have := HV.out.lt; omega)
          have HBT := Lib.hid (show bb ≠ wr.heap.size by have := HV.out.both.a.b.size; have := HBB.out; omega)
          clear g0 g1 g2 g3 g4 g5
          go_region_held (fun w' => w'.cell? ⟨T, 0, none⟩ = some (.slice (some ⟨r.nb, 0, none⟩) r.n r.nc) ∧ w'.cell? ⟨T, 1, none⟩ = some (.slice (some ⟨r.sb, 0, none⟩) r.n r.sc) ∧ w'.cell? ⟨T, 2, none⟩ = some (.slice r.pa r.pend.length r.pc) ∧ w'.cell? ⟨T, 3, none⟩ = some (.int .i64 r.writes) ∧ w'.cell? ⟨T, 4, none⟩ = some (.int .i64 r.left) ∧ w'.cell? ⟨bb, o + i * 6, none⟩ = some (.int .i64 A.kind) ∧ w'.cell? ⟨bb, o + i * 6 + 1, none⟩ = some (.int .i64 A.i) ∧ w'.cell? ⟨bb, o + i * 6 + 2, none⟩ = some (.string A.b) ∧ w'.cell? ⟨bb, o + i * 6 + 3, none⟩ = some (.slice A.ka A.kn A.kc) ∧ w'.cell? ⟨bb, o + i * 6 + 4, none⟩ = some (.int .i64 A.torn) ∧ w'.cell? ⟨bb, o + i * 6 + 5, none⟩ = some (.int .i64 A.part)) (first | with_reducible assumption | with_reducible exact keep11 HTT.out HBT.out (by assumption) | with_reducible exact low11 (Below.drew (Below.refl _ _)) X11.out | with_reducible exact low11 (Below.drew (Below.al (Below.refl _ _) _)) X11.out | with_reducible exact low11 (alX _ _) (by assumption)) (first | (go_at_call 10; (with_reducible refine (run_act_al HV.out HLD.out q2 K6 A (by omega) HOK.out HKI.out).mono ?_); rintro e w1 ⟨s1, r1, rfl, st1, ra1, z1, nn1, of1⟩; have k11 := step11 st1 HV.out.nT HNV.out (low11 (Below.drew (Below.al (Below.refl _ _) zobj)) X11.out); have RA := Lib.hid ra1; have RZ := Lib.hid z1; have RN := Lib.hid nn1; have RO := Lib.hid of1; obtain ⟨⟨t0, t1, t2, t3, t4⟩, tf, _, _⟩ := z1; clear st1 ra1 nn1 of1) | (go_at_call 10; (with_reducible refine (run_act HV.out (Below.drew (Below.refl _ _)) HLD.out q2 K6 A (by omega) HOK.out HKI.out).mono ?_); rintro e w1 ⟨s1, r1, rfl, st1, ra1, _⟩; have k11 := step11 st1 HV.out.nT HNV.out (low11 (Below.drew (Below.refl _ _)) X11.out); have RA := Lib.hid ra1; clear st1 ra1))
          all_goals go_wp2
          all_goals go_meet
          · exact ⟨_, s1, r1, rfl, rfl, run_new RA.out⟩
          · exact ⟨_, s1, r1, rfl, rfl, run_set RA.out RZ.out.z (by have := HV.out.both.a.b.size; omega) RN.out RO.out (by have := HTT.out; omega)⟩
    · have HSU := Lib.hid HV.out.both.a
      by_cases hm : i < m
      · obtain rfl : i = 50 := by omega
        have hm2 : (50 : Int) < (m : Int) := by omega
        go_wp2_with (go_at_call 9; refine (sure_at HSU.out).mono ?_; rintro e wk ⟨rfl, hb2⟩; have HB2 := Lib.hid hb2; clear hb2)
        go_ret
        exact ⟨rfl, HB2.out.b⟩
      · obtain rfl : i = m := by omega
        go_wp2_with (go_at_call 9; refine (sure_at HSU.out).mono ?_; rintro e wk ⟨rfl, hb2⟩; have HB2 := Lib.hid hb2; clear hb2)
        go_ret
        exact ⟨rfl, HB2.out.b⟩
theorem runs_all (n : Int) (a : Option Addr) (m c : Nat) (l : Nat → ActV) (W : World) (wn : (Lit.int .i64 n).wf = true) (h1 : IsActs W a m l) (hl : Laid W) :
    Calls Tryd.prog 3 #[.int .i64 n, .slice a m c] W fun e w' => e = .returned (.bool true) ∧ Below W.heap.size W w' :=
  runs_walk n a m c l W wn h1 (fun i hi h0 b off ha => by
    obtain ⟨_, _, _, _, hok⟩ := h1.2 i hi
    obtain ⟨b', off', ha', hc⟩ := hok.ints 0 (by rw [hok.len]; exact h0)
    rw [ha] at ha'
    obtain ⟨rfl, rfl⟩ : b = b' ∧ off = off' := by simpa using ha'
    exact World.block_lt_of_cell? W _ hc) hl
end Go.Proofs.YtibopcbebcikbaaDoor

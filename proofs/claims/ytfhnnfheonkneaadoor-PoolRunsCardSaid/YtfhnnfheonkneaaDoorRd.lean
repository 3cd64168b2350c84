/-
  THE DOCUMENT's OWN POOL IN MEMORY: its value, its frames, its disk; loads and stores of it whole. Conditions: those that each lemma names.
  THE DOCUMENT's with: a pool with another frame at a place. Conditions: the pool lies in memory, the place is one of it.
  THE DOCUMENT's Place and Good. Conditions: the pool lies in memory; the text is one that a machine can hold.
  THE DOCUMENT's OWN DISK within its pool: a write, and all made sure. Conditions: the pool lies in memory.
-/
import Derived.Deep.RegionLaw
import Derived.Laws.CopyRow
import Derived.Test.YtfhnnfheonkneaaDoorRc
namespace Go.Proofs.YtfhnnfheonkneaaDoor
open Go.RowKit Go.Maps

def gcs (f : Fr) : Array Value := #[.int .i64 f.i, .string f.t, .bool f.d, .bool f.u, .int .i64 (f.h : Int)]
def gl (f : Fr) : List Value := [.int .i64 f.i, .string f.t, .bool f.d, .bool f.u, .int .i64 (f.h : Int)]
/-- frames in a row -/
structure FRow (w : World) (L m : Nat) (fr : Nat → Fr) : Prop where
  c : ∀ k, k < m → ∀ j v, (gl (fr k))[j]? = some v → w.cell? ⟨L, k * 5 + j, none⟩ = some v
  lt : L < w.heap.size
theorem FRow.at0 {w : World} {L m : Nat} {fr : Nat → Fr} (h : FRow w L m fr) {k : Nat} (hk : k < m) : w.cell? ⟨L, k * 5, none⟩ = some (.int .i64 (fr k).i) := h.c k hk 0 _ rfl
theorem FRow.at1 {w : World} {L m : Nat} {fr : Nat → Fr} (h : FRow w L m fr) {k : Nat} (hk : k < m) : w.cell? ⟨L, k * 5 + 1, none⟩ = some (.string (fr k).t) := h.c k hk 1 _ rfl
theorem FRow.at2 {w : World} {L m : Nat} {fr : Nat → Fr} (h : FRow w L m fr) {k : Nat} (hk : k < m) : w.cell? ⟨L, k * 5 + 2, none⟩ = some (.bool (fr k).d) := h.c k hk 2 _ rfl
theorem FRow.at3 {w : World} {L m : Nat} {fr : Nat → Fr} (h : FRow w L m fr) {k : Nat} (hk : k < m) : w.cell? ⟨L, k * 5 + 3, none⟩ = some (.bool (fr k).u) := h.c k hk 3 _ rfl
theorem FRow.at4 {w : World} {L m : Nat} {fr : Nat → Fr} (h : FRow w L m fr) {k : Nat} (hk : k < m) : w.cell? ⟨L, k * 5 + 4, none⟩ = some (.int .i64 ((fr k).h : Int)) := h.c k hk 4 _ rfl
theorem FRow.same {w w' : World} {L m : Nat} {fr : Nat → Fr} (h : FRow w L m fr) (hs : L < w'.heap.size) (hb : w'.heap[L]? = w.heap[L]?) : FRow w' L m fr :=
  ⟨fun k hk j v hv => (cell_of_block hb).trans (h.c k hk j v hv), hs⟩
/-- the document's pool -/
structure Rp where
  r : Ref
  L : Nat
  lc : Nat
  X : Px
def Rp.cs (ρ : Rp) : Array Value := #[.slice (some ⟨ρ.r.nb, 0, none⟩) ρ.r.n ρ.r.nc, .slice (some ⟨ρ.r.sb, 0, none⟩) ρ.r.n ρ.r.sc, .slice ρ.r.pa ρ.r.pend.length ρ.r.pc, .int .i64 ρ.r.writes, .int .i64 ρ.r.left, .slice (some ⟨ρ.L, 0, none⟩) ρ.X.m ρ.lc, .int .i64 (ρ.X.hand : Int), .int .i64 ρ.X.loads]
structure RTie (r : Ref) (d : Dk) : Prop where
  n : r.n = d.n
  cur : ∀ i, i < d.n → strOfNums (rowOf (r.N i)) = d.cur i
  pend : r.pend = d.pend
  writes : r.writes = d.writes
  left : r.left = max d.left (-1)
structure PendOk (d : Dk) : Prop where
  nd : d.pend.Nodup
  lt : ∀ i ∈ d.pend, i < d.n
  lf : d.left ≤ 9223372036854775807
theorem PendOk.wrote {d : Dk} (h : PendOk d) {i : Nat} (hi : i < d.n) (t : ByteArray) : PendOk (d.wrote i t) := by
  have hl := h.lf
  by_cases e : i ∈ d.pend
  · have e2 : (d.wrote i t).pend = d.pend := if_pos e
    exact ⟨by rw [e2]; exact h.nd, by rw [e2]; exact h.lt, by show (if 0 < d.left then d.left - 1 else d.left) ≤ _; split <;> omega⟩
  · have e2 : (d.wrote i t).pend = d.pend ++ [i] := if_neg e
    refine ⟨by rw [e2]; exact List.nodup_append.2 ⟨h.nd, by simp, fun a ha b hb => by simp at hb; subst hb; exact fun q => e (q ▸ ha)⟩, fun j hj => ?_, by show (if 0 < d.left then d.left - 1 else d.left) ≤ _; split <;> omega⟩
    rw [e2] at hj
    rcases List.mem_append.1 hj with q | q
    · exact h.lt j q
    · simp at q; subst q; exact hi
structure Rp.Ok (w : World) (ρ : Rp) : Prop where
  r : RefOk w ρ.r
  t : RTie ρ.r ρ.X.d
  row : FRow w ρ.L ρ.X.m ρ.X.fr
  lc : ρ.X.m ≤ ρ.lc ∧ ρ.lc ≤ 9223372036854775807
  m1 : 1 ≤ ρ.X.m ∧ ρ.X.m ≤ 1024
  pd : PendOk ρ.X.d
def Rp.blk (ρ : Rp) (b : Nat) : Prop := b = ρ.r.nb ∨ b = ρ.r.sb ∨ b = ρ.L ∨ (ρ.r.pend ≠ [] ∧ ∃ off, ρ.r.pa = some ⟨b, off, none⟩)
theorem Rp.Ok.lt {w : World} {ρ : Rp} (h : ρ.Ok w) {b : Nat} (hb : ρ.blk b) : b < w.heap.size := by
  have hl := h.r.lt
  rcases hb with rfl | rfl | rfl | ⟨hp, off, ha⟩
  · exact hl.1
  · exact hl.2
  · exact h.row.lt
  · obtain ⟨b', off', ha', hc⟩ := h.r.p 0 (by rw [List.length_map]; exact List.length_pos_iff.2 hp)
    rw [ha] at ha'
    obtain ⟨rfl, rfl⟩ : b = b' ∧ off = off' := by simpa using ha'
    exact World.block_lt_of_cell? w _ hc
theorem strs_moved {w w' : World} {b : Nat} {xs : List ByteArray} (h : Strs w (some ⟨b, 0, none⟩) xs) (hb : w'.heap[b]? = w.heap[b]?) : Strs w' (some ⟨b, 0, none⟩) xs := by
  intro i hi
  obtain ⟨b', off, ha, hc⟩ := h i hi
  obtain ⟨rfl, rfl⟩ : b = b' ∧ 0 = off := by simpa using ha
  exact ⟨b, 0, rfl, (cell_of_block hb).trans hc⟩
theorem Rp.Ok.moved {w w' : World} {ρ : Rp} (h : ρ.Ok w) (hs : w.heap.size ≤ w'.heap.size) (hb : ∀ b, ρ.blk b → w'.heap[b]? = w.heap[b]?) : ρ.Ok w' := by
  refine ⟨⟨strs_moved h.r.N (hb _ (.inl rfl)), strs_moved h.r.S (hb _ (.inr (.inl rfl))), h.r.nc, h.r.sc, ?_, h.r.bN, h.r.bS, h.r.n1, h.r.len, h.r.nil⟩, h.t, h.row.same (Nat.lt_of_lt_of_le h.row.lt hs) (hb _ (.inr (.inr (.inl rfl)))), h.lc, h.m1, h.pd⟩
  intro i hi
  obtain ⟨b, off, ha, hc⟩ := h.r.p i hi
  have hp : ρ.r.pend ≠ [] := fun e => by rw [e] at hi; exact absurd hi (by simp)
  exact ⟨b, off, ha, (cell_of_block (hb b (.inr (.inr (.inr ⟨hp, off, ha⟩))))).trans hc⟩
theorem Rp.Ok.below {w w' : World} {ρ : Rp} (h : ρ.Ok w) (hb : Below w.heap.size w w') : ρ.Ok w' :=
  h.moved hb.size fun b hk => hb.block b (h.lt hk)
/-- what becomes of it -/
structure RpGo (w : World) (ρ : Rp) (w' : World) (ρ' : Rp) : Prop where
  ok : ρ'.Ok w'
  below : Below w.heap.size w w'
  own : ∀ b, ρ'.blk b → ρ.blk b ∨ w.heap.size ≤ b
theorem RpGo.refl {w : World} {ρ : Rp} (h : ρ.Ok w) : RpGo w ρ w ρ := ⟨h, Below.refl _ _, fun _ hb => .inl hb⟩
theorem RpGo.trans {w w1 w2 : World} {ρ ρ1 ρ2 : Rp} (h : RpGo w ρ w1 ρ1) (h2 : RpGo w1 ρ1 w2 ρ2) : RpGo w ρ w2 ρ2 :=
  ⟨h2.ok, h.below.trans (h2.below.mono h.below.size), fun b hb => by
    rcases h2.own b hb with e | e
    · exact h.own b e
    · exact .inr (Nat.le_trans h.below.size e)⟩
theorem RpGo.b {w w1 w2 : World} {ρ ρ1 : Rp} (h : RpGo w ρ w1 ρ1) (hb : Below w1.heap.size w1 w2) : RpGo w ρ w2 ρ1 := ⟨h.ok.below hb, h.below.trans (hb.mono h.below.size), h.own⟩
theorem RpGo.off {w w1 : World} {ρ ρ1 : Rp} (h : RpGo w ρ w1 ρ1) {g : Nat} (hg : g < w.heap.size) (hn : ¬ ρ.blk g) : ¬ ρ1.blk g := fun e => by
  rcases h.own g e with q | q
  · exact hn q
  · omega
/-- one block is written -/
structure Ony (g : Nat) (w w' : World) : Prop where
  os : w'.os = w.os
  tape : w'.tape = w.tape
  output : w'.output = w.output
  size : w'.heap.size = w.heap.size
  block : ∀ k, k ≠ g → w'.heap[k]? = w.heap[k]?
theorem Ony.row (w : World) (g : Nat) (cs : Array Value) : Ony g w (w.setRow g cs) := ⟨rfl, rfl, rfl, by simp, fun k hk => setRow_other w g k cs hk⟩
theorem Ony.cell (w : World) (g j : Nat) (v : Value) : Ony g w (w.setCell ⟨g, j, none⟩ v) := ⟨rfl, rfl, rfl, by simp, fun k hk => Below.heap_setCell _ _ _ _ hk⟩
theorem Ony.below {g B : Nat} {w0 w w' : World} (h : Ony g w w') (hb : Below B w0 w) (hg : B ≤ g) : Below B w0 w' :=
  ⟨h.os.trans hb.os, h.tape.trans hb.tape, h.output.trans hb.output, by rw [h.size]; exact hb.size, fun k hk => (h.block k (by omega)).trans (hb.block k hk)⟩
theorem RpGo.ony {w w1 w2 : World} {ρ ρ1 : Rp} {g : Nat} (h : RpGo w ρ w1 ρ1) (ho : Ony g w1 w2) (hg : w.heap.size ≤ g) (hn : ¬ ρ1.blk g) : RpGo w ρ w2 ρ1 :=
  ⟨h.ok.moved (by rw [ho.size]; exact Nat.le_refl _) fun b hb => ho.block b (fun e => hn (e ▸ hb)), ho.below h.below hg, h.own⟩
/-- a block of our own that holds some value whole -/
structure Box (w0 w : World) (g : Nat) (ρ : Rp) (T : TypeId) (cs : Array Value) : Prop where
  h : w.heap[g]? = some (.cells cs T (0, 0))
  lo : w0.heap.size ≤ g
  off : ¬ ρ.blk g
theorem Box.lt {w0 w : World} {g : Nat} {ρ : Rp} {T : TypeId} {cs : Array Value} (h : Box w0 w g ρ T cs) : g < w.heap.size := (Array.getElem?_eq_some_iff.1 h.h).1
theorem Box.go {w0 w w' : World} {g : Nat} {ρ ρ' : Rp} {T : TypeId} {cs : Array Value} (h : Box w0 w g ρ T cs) (hg : RpGo w ρ w' ρ') : Box w0 w' g ρ' T cs :=
  ⟨(hg.below.block g h.lt).trans h.h, h.lo, hg.off h.lt h.off⟩
theorem Box.below {w0 w w' : World} {g : Nat} {ρ : Rp} {T : TypeId} {cs : Array Value} (h : Box w0 w g ρ T cs) (hb : Below w.heap.size w w') : Box w0 w' g ρ T cs :=
  ⟨(hb.block g h.lt).trans h.h, h.lo, h.off⟩
theorem Box.ony {w0 w w' : World} {g g' : Nat} {ρ : Rp} {T : TypeId} {cs : Array Value} (h : Box w0 w g ρ T cs) (ho : Ony g' w w') (hne : g ≠ g') : Box w0 w' g ρ T cs :=
  ⟨(ho.block g hne).trans h.h, h.lo, h.off⟩
theorem Box.cell {w0 w : World} {g : Nat} {ρ : Rp} {T : TypeId} {cs : Array Value} (h : Box w0 w g ρ T cs) (j : Nat) : w.cell? ⟨g, j, none⟩ = cs[j]? := cell_of_row _ _ _ _ _ _ h.h
theorem Box.fz {w0 w : World} {g : Nat} {ρ : Rp} {T : TypeId} {cs : Array Value} (h : Box w0 w g ρ T cs) (j : Nat) : w.frozen? ⟨g, j, none⟩ = false := frozen_of_row _ _ _ _ _ h.h

/-! the pool, and a frame, loaded and stored whole -/
set_option maxRecDepth 100000 in
theorem info_rp : (Tryd.prog.info? 38).map (·.size) = some 8 := by kernel_rfl
set_option maxRecDepth 100000 in
theorem info_rf : (Tryd.prog.info? 67).map (·.size) = some 5 := by kernel_rfl
set_option maxRecDepth 100000 in
theorem info_rd : (Tryd.prog.info? 35).map (·.size) = some 5 := by kernel_rfl
theorem cs_one (ρ : Rp) : ρ.cs.all (·.oneCell') = true := by simp [Rp.cs, Value.oneCell']
theorem gcs_one (f : Fr) : (gcs f).all (·.oneCell') = true := by simp [gcs, Value.oneCell']
section
variable {ops : Array Oper} {rest : List Oper} {o : Oper} {a : Act} {w : World} {Q : Exit → Act → World → Prop}
theorem ld_pool (hgd : o.guard = none) (x : Operand) (ho : o.op = .load 38 x) {w0 : World} {g : Nat} {ρ0 ρ : Rp} (hb : Box w0 w g ρ0 38 ρ.cs) (hx : a.eval x = .pointer (some ⟨g, 0, none⟩))
    (h : wpList Tryd.prog ops Q rest (a.put o.dst (.agg ρ.cs)) w) : wpList Tryd.prog ops Q (o :: rest) a w :=
  wpList_load_row hgd _ x ho g hx _ ρ.cs (0, 0) _ hb.h Tryd.underlying38 rfl info_rp h
theorem st_pool (hgd : o.guard = none) (x y : Operand) (ho : o.op = .store 38 x y) {w0 : World} {g : Nat} {ρ0 ρ : Rp} {old : Array Value} (hb : Box w0 w g ρ0 38 old) (h8 : old.size = 8) (hx : a.eval x = .pointer (some ⟨g, 0, none⟩)) (hy : a.eval y = .agg ρ.cs)
    (h : ∀ w', Ony g w w' → Box w0 w' g ρ0 38 ρ.cs → wpList Tryd.prog ops Q rest (a.put o.dst undef) w') : wpList Tryd.prog ops Q (o :: rest) a w :=
  wpList_store_row hgd _ x y ho g ρ.cs hx hy _ old hb.h info_rp h8 (cs_one ρ) (h _ (Ony.row w g ρ.cs) ⟨setRow_heap _ _ _ _ _ _ hb.h, hb.lo, hb.off⟩)
/-- a new block takes it -/
theorem st_new (hgd : o.guard = none) (x y : Operand) (ho : o.op = .store 38 x y) {w0 w1 : World} {ρ : Rp} {old : Array Value} (hw : w = w1.alloc (.cells old 38)) (h8 : old.size = 8) (hb : Below w0.heap.size w0 w1) (hok : ρ.Ok w1) (hx : a.eval x = .pointer (some ⟨w1.heap.size, 0, none⟩)) (hy : a.eval y = .agg ρ.cs)
    (h : ∀ w' g, g = w1.heap.size → Below w1.heap.size w1 w' → Box w0 w' g ρ 38 ρ.cs → wpList Tryd.prog ops Q rest (a.put o.dst undef) w') : wpList Tryd.prog ops Q (o :: rest) a w := by
  subst hw
  have hh := heap_alloc_new w1 (.cells old 38)
  exact wpList_store_row hgd _ x y ho w1.heap.size ρ.cs hx hy _ old hh info_rp h8 (cs_one ρ) (h _ _ rfl ((Ony.row _ w1.heap.size ρ.cs).below ((Below.refl _ _).alloc (Nat.le_refl _) _) (Nat.le_refl _)) ⟨setRow_heap _ _ _ _ _ _ hh, hb.size, fun e => by have := hok.lt e; omega⟩)
theorem st_newf (hgd : o.guard = none) (x y : Operand) (ho : o.op = .store 67 x y) {w0 w1 : World} {ρ : Rp} {f : Fr} {old : Array Value} (hw : w = w1.alloc (.cells old 67)) (h8 : old.size = 5) (hb : Below w0.heap.size w0 w1) (hok : ρ.Ok w1) (hx : a.eval x = .pointer (some ⟨w1.heap.size, 0, none⟩)) (hy : a.eval y = .agg (gcs f))
    (h : ∀ w' g, g = w1.heap.size → Below w1.heap.size w1 w' → Box w0 w' g ρ 67 (gcs f) → wpList Tryd.prog ops Q rest (a.put o.dst undef) w') : wpList Tryd.prog ops Q (o :: rest) a w := by
  subst hw
  have hh := heap_alloc_new w1 (.cells old 67)
  exact wpList_store_row hgd _ x y ho w1.heap.size (gcs f) hx hy _ old hh info_rf h8 (gcs_one f) (h _ _ rfl ((Ony.row _ w1.heap.size (gcs f)).below ((Below.refl _ _).alloc (Nat.le_refl _) _) (Nat.le_refl _)) ⟨setRow_heap _ _ _ _ _ _ hh, hb.size, fun e => by have := hok.lt e; omega⟩)
theorem ld_frame (hgd : o.guard = none) (x : Operand) (ho : o.op = .load 67 x) {w0 : World} {g : Nat} {ρ0 : Rp} {f : Fr} (hb : Box w0 w g ρ0 67 (gcs f)) (hx : a.eval x = .pointer (some ⟨g, 0, none⟩))
    (h : wpList Tryd.prog ops Q rest (a.put o.dst (.agg (gcs f))) w) : wpList Tryd.prog ops Q (o :: rest) a w :=
  wpList_load_row hgd _ x ho g hx _ (gcs f) (0, 0) _ hb.h Tryd.underlying67 rfl info_rf h
def Rp.disk (ρ : Rp) (r : Ref) (d : Dk) : Rp := { ρ with r := r, X := ρ.X.disk d }
/-- the pool's disk is stored -/
theorem st_disk (hgd : o.guard = none) (x y : Operand) (ho : o.op = .store 35 x y) {w0 : World} {g : Nat} {ρ0 ρ : Rp} {r : Ref} (d : Dk) (hb : Box w0 w g ρ0 38 ρ.cs) (hx : a.eval x = .pointer (some ⟨g, 0, none⟩)) (hy : a.eval y = .agg #[.slice (some ⟨r.nb, 0, none⟩) r.n r.nc, .slice (some ⟨r.sb, 0, none⟩) r.n r.sc, .slice r.pa r.pend.length r.pc, .int .i64 r.writes, .int .i64 r.left])
    (h : ∀ w', Ony g w w' → Box w0 w' g ρ0 38 (ρ.disk r d).cs → wpList Tryd.prog ops Q rest (a.put o.dst undef) w') : wpList Tryd.prog ops Q (o :: rest) a w := by
  refine wpList_plain hgd fun _ hK => ?_
  have hs := run_storeCells_at (P := Tryd.prog) g 0 38 [.slice (some ⟨r.nb, 0, none⟩) r.n r.nc, .slice (some ⟨r.sb, 0, none⟩) r.n r.sc, .slice r.pa r.pend.length r.pc, .int .i64 r.writes, .int .i64 r.left] 0 ρ.cs w hb.h (by show 0 + 0 + 5 ≤ 8; omega) (by intro v hv; simp at hv; rcases hv with rfl | rfl | rfl | rfl | rfl <;> rfl)
  unfold Oper.wp execOp
  cases hq : Tryd.prog.info? 35 with
  | none => have := info_rd; rw [hq] at this; cases this
  | some q =>
    have hi : q.size = 5 := by have := info_rd; rw [hq] at this; exact Option.some.inj this
    simp [ho, hx, hy, Instr.storeAt, Instr.sureAddr, Result.andThen_ok, storeVar, sizeOf, typeInfo, hq, hi, Value.cells, hs]
    exact hK _ _ (h _ (Ony.row w g _) ⟨setRow_heap _ _ _ _ _ _ hb.h, hb.lo, hb.off⟩)
end
section
variable {ops : Array Oper} {rest : List Oper} {o : Oper} {a : Act} {w : World} {Q : Exit → Act → World → Prop}
/-- one cell of a block of our own is stored -/
theorem st_fld (ty : TypeId) (hgd : o.guard = none) (x y : Operand) (ho : o.op = .store ty x y) (h1 : (Tryd.prog.info? ty).map (·.size) = some 1) {w0 : World} {g j : Nat} {ρ0 : Rp} {T : TypeId} {cs cs' : Array Value} {v : Value} (hb : Box w0 w g ρ0 T cs) (hx : a.eval x = .pointer (some ⟨g, j, none⟩)) (hy : a.eval y = v) (hv : v.oneCell' = true) (hvc : v.cells = #[v]) (hj : j < cs.size) (hcs : cs.setIfInBounds j v = cs')
    (h : ∀ w', Ony g w w' → Box w0 w' g ρ0 T cs' → wpList Tryd.prog ops Q rest (a.put o.dst undef) w') : wpList Tryd.prog ops Q (o :: rest) a w := by
  subst hy hcs
  refine wpList_plain hgd fun _ hK => ?_
  have hs := run_storeCells_at (P := Tryd.prog) g j T [a.eval y] 0 cs w hb.h (by show j + 0 + 1 ≤ cs.size; omega) (by intro u hu; simp at hu; rw [hu]; exact hv)
  have he : (cs.toList.take (j + 0) ++ [a.eval y] ++ cs.toList.drop (j + 0 + [a.eval y].length)).toArray = cs.setIfInBounds j (a.eval y) := by
    apply Array.ext'
    simp [List.set_eq_take_append_cons_drop, hj]
  rw [he] at hs
  unfold Oper.wp execOp
  cases hq : Tryd.prog.info? ty with
  | none => rw [hq] at h1; cases h1
  | some q =>
    have hi : q.size = 1 := by rw [hq] at h1; exact Option.some.inj h1
    simp [ho, hx, Instr.storeAt, Instr.sureAddr, Result.andThen_ok, storeVar, sizeOf, typeInfo, hq, hi, hvc, hs]
    exact hK _ _ (h _ (Ony.row w g _) ⟨setRow_heap _ _ _ _ _ _ hb.h, hb.lo, hb.off⟩)
/-- a frame of a row is stored -/
theorem st_elem (hgd : o.guard = none) (x y : Operand) (ho : o.op = .store 67 x y) {g k : Nat} {f : Fr} {T : TypeId} {cur : Array Value} (hg : w.heap[g]? = some (.cells cur T (0, 0))) (hk : k * 5 + 5 ≤ cur.size) (hx : a.eval x = .pointer (some ⟨g, k * 5, none⟩)) (hy : a.eval y = .agg (gcs f))
    (h : ∀ w', Ony g w w' → w'.heap[g]? = some (.cells (splice cur.toList (k * 5) (gl f)).toArray T (0, 0)) → wpList Tryd.prog ops Q rest (a.put o.dst undef) w') : wpList Tryd.prog ops Q (o :: rest) a w := by
  refine wpList_plain hgd fun _ hK => ?_
  have hs := run_storeCells_at (P := Tryd.prog) g (k * 5) T (gl f) 0 cur w hg (by show k * 5 + 0 + 5 ≤ cur.size; omega) (by intro v hv; simp [gl] at hv; rcases hv with rfl | rfl | rfl | rfl | rfl <;> rfl)
  have hs' : (storeCells ⟨g, k * 5, none⟩ [.int .i64 f.i, .string f.t, .bool f.d, .bool f.u, .int .i64 (f.h : Int)] 0).run Tryd.prog w = .ok () (w.setRow g (splice cur.toList (k * 5) (gl f)).toArray) := by simpa [splice, gl] using hs
  unfold Oper.wp execOp
  cases hq : Tryd.prog.info? 67 with
  | none => have := info_rf; rw [hq] at this; cases this
  | some q =>
    have hi : q.size = 5 := by have := info_rf; rw [hq] at this; exact Option.some.inj this
    simp [ho, hx, hy, Instr.storeAt, Instr.sureAddr, Result.andThen_ok, storeVar, sizeOf, typeInfo, hq, hi, Value.cells, gcs, hs']
    exact hK _ _ (h _ (Ony.row w g _) (setRow_heap _ _ _ _ _ _ hg))
end
theorem Box.c0 {w0 w : World} {g : Nat} {ρ0 ρ : Rp} {T : TypeId} (h : Box w0 w g ρ0 T ρ.cs) : w.cell? ⟨g, 0, none⟩ = some (.slice (some ⟨ρ.r.nb, 0, none⟩) ρ.r.n ρ.r.nc) := h.cell 0
theorem Box.c1 {w0 w : World} {g : Nat} {ρ0 ρ : Rp} {T : TypeId} (h : Box w0 w g ρ0 T ρ.cs) : w.cell? ⟨g, 1, none⟩ = some (.slice (some ⟨ρ.r.sb, 0, none⟩) ρ.r.n ρ.r.sc) := h.cell 1
theorem Box.c2 {w0 w : World} {g : Nat} {ρ0 ρ : Rp} {T : TypeId} (h : Box w0 w g ρ0 T ρ.cs) : w.cell? ⟨g, 2, none⟩ = some (.slice ρ.r.pa ρ.r.pend.length ρ.r.pc) := h.cell 2
theorem Box.c3 {w0 w : World} {g : Nat} {ρ0 ρ : Rp} {T : TypeId} (h : Box w0 w g ρ0 T ρ.cs) : w.cell? ⟨g, 3, none⟩ = some (.int .i64 ρ.r.writes) := h.cell 3
theorem Box.c4 {w0 w : World} {g : Nat} {ρ0 ρ : Rp} {T : TypeId} (h : Box w0 w g ρ0 T ρ.cs) : w.cell? ⟨g, 4, none⟩ = some (.int .i64 ρ.r.left) := h.cell 4
theorem Box.c5 {w0 w : World} {g : Nat} {ρ0 ρ : Rp} {T : TypeId} (h : Box w0 w g ρ0 T ρ.cs) : w.cell? ⟨g, 5, none⟩ = some (.slice (some ⟨ρ.L, 0, none⟩) ρ.X.m ρ.lc) := h.cell 5
theorem Box.c6 {w0 w : World} {g : Nat} {ρ0 ρ : Rp} {T : TypeId} (h : Box w0 w g ρ0 T ρ.cs) : w.cell? ⟨g, 6, none⟩ = some (.int .i64 (ρ.X.hand : Int)) := h.cell 6
theorem Box.c7 {w0 w : World} {g : Nat} {ρ0 ρ : Rp} {T : TypeId} (h : Box w0 w g ρ0 T ρ.cs) : w.cell? ⟨g, 7, none⟩ = some (.int .i64 ρ.X.loads) := h.cell 7
theorem Box.g0 {w0 w : World} {g : Nat} {ρ0 : Rp} {f : Fr} {T : TypeId} (h : Box w0 w g ρ0 T (gcs f)) : w.cell? ⟨g, 0, none⟩ = some (.int .i64 f.i) := h.cell 0
theorem Box.g1 {w0 w : World} {g : Nat} {ρ0 : Rp} {f : Fr} {T : TypeId} (h : Box w0 w g ρ0 T (gcs f)) : w.cell? ⟨g, 1, none⟩ = some (.string f.t) := h.cell 1
theorem Box.g2 {w0 w : World} {g : Nat} {ρ0 : Rp} {f : Fr} {T : TypeId} (h : Box w0 w g ρ0 T (gcs f)) : w.cell? ⟨g, 2, none⟩ = some (.bool f.d) := h.cell 2
theorem Box.g3 {w0 w : World} {g : Nat} {ρ0 : Rp} {f : Fr} {T : TypeId} (h : Box w0 w g ρ0 T (gcs f)) : w.cell? ⟨g, 3, none⟩ = some (.bool f.u) := h.cell 3
theorem Box.g4 {w0 w : World} {g : Nat} {ρ0 : Rp} {f : Fr} {T : TypeId} (h : Box w0 w g ρ0 T (gcs f)) : w.cell? ⟨g, 4, none⟩ = some (.int .i64 (f.h : Int)) := h.cell 4
/-- a cell of it is written -/
theorem Box.set {w0 w : World} {g : Nat} {ρ : Rp} {T : TypeId} {cs cs' : Array Value} (h : Box w0 w g ρ T cs) (j : Nat) (v : Value) (e : cs.setIfInBounds j v = cs') : Box w0 (w.setCell ⟨g, j, none⟩ v) g ρ T cs' := by
  subst e
  refine ⟨?_, h.lo, h.off⟩
  have hl := h.lt
  have e := (Array.getElem?_eq_some_iff.1 h.h).2
  show (w.heap.modify g _)[g]? = _
  rw [Array.getElem?_modify, if_pos rfl, h.h]
  rfl
/-! the calls' first blocks -/
def zcs : Array Value := #[.slice none 0 0, .slice none 0 0, .slice none 0 0, .int .i64 0, .int .i64 0, .slice none 0 0, .int .i64 0, .int .i64 0]
structure Enter2 (w w1 : World) (ρ : Rp) : Prop where
  p : Box w w1 w.heap.size ρ 38 ρ.cs
  z : Box w w1 (w.heap.size + 1) ρ 38 zcs
  go : RpGo w ρ w1 ρ
  s : w1.heap.size = w.heap.size + 2
theorem enter2 {w : World} {ρ : Rp} (h : ρ.Ok w) : Enter2 w ((w.alloc (.cells ρ.cs 38)).alloc (.cells zcs 38)) ρ := by
  have hb : Below w.heap.size w ((w.alloc (.cells ρ.cs 38)).alloc (.cells zcs 38)) := ((Below.refl _ _).alloc (Nat.le_refl _) _).alloc (by simp) _
  exact ⟨⟨heap_alloc2_old _ _ _, Nat.le_refl _, fun e => by have := h.lt e; omega⟩, ⟨heap_alloc2_new _ _ _, by omega, fun e => by have := h.lt e; omega⟩, (RpGo.refl h).b hb, by simp⟩
structure Enter3 (w w1 : World) (ρ : Rp) (f : Fr) : Prop where
  p : Box w w1 w.heap.size ρ 38 ρ.cs
  f : Box w w1 (w.heap.size + 1) ρ 67 (gcs f)
  z : Box w w1 (w.heap.size + 2) ρ 38 zcs
  go : RpGo w ρ w1 ρ
  s : w1.heap.size = w.heap.size + 3
theorem enter3 {w : World} {ρ : Rp} (f : Fr) (h : ρ.Ok w) : Enter3 w (((w.alloc (.cells ρ.cs 38)).alloc (.cells (gcs f) 67)).alloc (.cells zcs 38)) ρ f := by
  have h2 : ((w.alloc (.cells ρ.cs 38)).alloc (.cells (gcs f) 67)).heap.size = w.heap.size + 2 := by simp
  have hb : Below w.heap.size w (((w.alloc (.cells ρ.cs 38)).alloc (.cells (gcs f) 67)).alloc (.cells zcs 38)) := (((Below.refl _ _).alloc (Nat.le_refl _) _).alloc (by simp) _).alloc (by simp; omega) _
  refine ⟨⟨(heap_alloc_old _ _ (by omega)).trans (heap_alloc2_old _ _ _), Nat.le_refl _, fun e => by have := h.lt e; omega⟩, ⟨(heap_alloc_old _ _ (by omega)).trans (heap_alloc2_new _ _ _), by omega, fun e => by have := h.lt e; omega⟩, ⟨?_, by omega, fun e => by have := h.lt e; omega⟩, (RpGo.refl h).b hb, by simp⟩
  have := heap_alloc_new ((w.alloc (.cells ρ.cs 38)).alloc (.cells (gcs f) 67)) (.cells zcs 38)
  rw [h2] at this
  exact this
/-- a call ends with a pool as its result -/
theorem post_pool {fn : Func} {R : Ending → World → Prop} {a : Act} {w0 w : World} {p : Tmp} {g : Nat} {ρ0 ρ : Rp} (h : fn.results = #[.cell p 38]) (hb : Box w0 w g ρ0 38 ρ.cs)
    (hp : a.tmps.getD p undef = .pointer (some ⟨g, 0, none⟩)) (hdf : a.defers = []) (hR : R (.returned (.agg ρ.cs)) w) : bodyPost Tryd.prog fn R .ret a w :=
  Sm.post_cell_row h g _ ρ.cs (0, 0) _ Tryd.underlying38 rfl info_rp hp hb.h hdf hR
end Go.Proofs.YtfhnnfheonkneaaDoor
namespace Go.Proofs.YtfhnnfheonkneaaDoor
open Go.RowKit Go.Maps

set_option maxRecDepth 100000 in
theorem info_rf3 : (Tryd.prog.info? 67).map (fun i => (i.zero, i.size, i.bytes)) = some (some (.agg #[.int .i64 0, .string ⟨#[]⟩, .bool false, .bool false, .int .i64 0]), 5, 40) := by kernel_rfl
set_option maxRecDepth 100000 in
theorem info_sl : (Tryd.prog.info? 36).map (·.size) = some 1 := by kernel_rfl
def gvf (fr : Nat → Fr) (q : Nat) : Value := (gl (fr (q / 5))).getD (q % 5) (.int .i64 0)
/-- frames on end -/
def fsl (fr : Nat → Fr) (m : Nat) : List Value := (List.range (m * 5)).map (gvf fr)
theorem fsl_len (fr : Nat → Fr) (m : Nat) : (fsl fr m).length = m * 5 := by simp [fsl]
theorem gl_get (f : Fr) {j : Nat} (h : j < 5) : (gl f)[j]? = some ((gl f).getD j (.int .i64 0)) := by
  have hl : j < (gl f).length := h
  rw [List.getD_eq_getElem?_getD, List.getElem?_eq_getElem hl]
  rfl
theorem gl_one (f : Fr) : ∀ v ∈ gl f, v.oneCell' = true := by
  intro v hv; simp [gl] at hv; rcases hv with rfl | rfl | rfl | rfl | rfl <;> rfl
theorem fsl_one (fr : Nat → Fr) (m : Nat) : ∀ v ∈ fsl fr m, v.oneCell' = true := by
  intro v hv
  unfold fsl at hv
  obtain ⟨q, _, rfl⟩ := List.mem_map.1 hv
  exact gl_one _ _ (List.mem_of_getElem? (gl_get (fr (q / 5)) (Nat.mod_lt q (by omega))))
theorem fsl_at (fr : Nat → Fr) {m k j : Nat} (hk : k < m) (hj : j < 5) : (fsl fr m)[k * 5 + j]? = (gl (fr k))[j]? := by
  unfold fsl
  rw [List.getElem?_map, List.getElem?_range (by omega), Option.map_some, gl_get _ hj]
  unfold gvf
  rw [show (k * 5 + j) / 5 = k by omega, show (k * 5 + j) % 5 = j by omega]
theorem FRow.cells {w : World} {L m : Nat} {fr : Nat → Fr} (h : FRow w L m fr) : ∀ j u, (fsl fr m)[j]? = some u → w.cell? ((⟨L, 0, none⟩ : Addr).add j) = some u := by
  intro j u hu
  have hj : j < m * 5 := by
    have := (List.getElem?_eq_some_iff.1 hu).1
    rwa [fsl_len] at this
  have e := fsl_at fr (k := j / 5) (j := j % 5) (m := m) (by omega) (by omega)
  rw [show j / 5 * 5 + j % 5 = j by omega] at e
  rw [e] at hu
  have := h.c (j / 5) (by omega) (j % 5) u hu
  rw [show j / 5 * 5 + j % 5 = j by omega] at this
  rw [Addr.add_mid, Nat.zero_add]
  exact this
/-- a row that was copied, with another frame in it -/
theorem row_put {w' : World} {g m cap k : Nat} {fr : Nat → Fr} {cur : Array Value} {T : TypeId} {f : Fr} (hc : cur.toList.take (m * 5) = fsl fr m) (hs : cur.size = cap * 5) (hm : m ≤ cap) (hk : k < m) (hg : w'.heap[g]? = some (.cells (splice cur.toList (k * 5) (gl f)).toArray T (0, 0))) : FRow w' g m (fun j => if j = k then f else fr j) := by
  refine ⟨fun q hq j v hv => ?_, (Array.getElem?_eq_some_iff.1 hg).1⟩
  have hj : j < 5 := (List.getElem?_eq_some_iff.1 hv).1
  rw [cell_of_row _ _ _ _ _ _ hg]
  have hl : (gl f).length = 5 := rfl
  have hl2 : cur.toList.length = cap * 5 := by rw [Array.length_toList, hs]
  rw [List.getElem?_toArray, splice_get _ _ _ (by rw [hl, hl2]; omega), hl]
  by_cases e : q = k
  · subst e
    rw [if_neg (by omega), if_pos (by omega), show q * 5 + j - q * 5 = j by omega]
    simpa using hv
  · have e2 : cur.toList[q * 5 + j]? = some v := by
      have h1 := fsl_at fr (k := q) (j := j) (m := m) hq hj
      rw [← hc, List.getElem?_take, if_pos (by omega)] at h1
      rw [h1]
      simpa [e] using hv
    by_cases h2 : q * 5 + j < k * 5
    · rw [if_pos h2]; exact e2
    · rw [if_neg h2, if_neg (by omega)]; exact e2
def Rp.with (ρ : Rp) (L lc k : Nat) (f : Fr) : Rp := { ρ with L := L, lc := lc, X := ρ.X.put k f }
def RpAt (w : World) (ρ : Rp) (X : Px) (e : Ending) (w' : World) : Prop := ∃ ρ', e = .returned (.agg ρ'.cs) ∧ ρ'.X = X ∧ RpGo w ρ w' ρ'
/-- the row that the call makes -/
def Fresh5 (w1 : World) (v : Value) (m : Nat) (fr : Nat → Fr) (w2 : World) : Prop := ∃ g cap cur, v = .slice (some ⟨g, 0, none⟩) m cap ∧ w1.heap.size ≤ g ∧ w2.heap[g]? = some (.cells cur 67 (0, 0)) ∧ m ≤ cap ∧ cap ≤ 9223372036854775807 ∧ cur.size = cap * 5 ∧ cur.toList.take (m * 5) = fsl fr m
theorem fresh5 {w1 w2 : World} {v : Value} {m : Nat} {fr : Nat → Fr} (h : w2.ownsRow w1.heap.size 67 5 v (0 + m) ([] ++ fsl fr m)) (hm : 1 ≤ m) : Fresh5 w1 v m fr w2 := by
  rw [Nat.zero_add, List.nil_append] at h
  rcases h.2 with ⟨_, e⟩ | ⟨g, cap, cur, rfl, hB, hg, hnc, hcm, hcs, ht⟩
  · omega
  · unfold maxLen at hcm
    exact ⟨g, cap, cur, rfl, hB, hg, hnc, by omega, hcs, ht⟩
theorem with_ok {w w2 w3 : World} {ρ : Rp} {g cap k : Nat} {f : Fr} {cur : Array Value} (h : ρ.Ok w) (hb : Below w.heap.size w w2) (h3 : Ony g w2 w3) (hw : w.heap.size ≤ g) (hh : w3.heap[g]? = some (.cells (splice cur.toList (k * 5) (gl f)).toArray 67 (0, 0))) (hm : ρ.X.m ≤ cap) (hcp : cap ≤ 9223372036854775807) (hs : cur.size = cap * 5) (hc : cur.toList.take (ρ.X.m * 5) = fsl ρ.X.fr ρ.X.m) (hk : k < ρ.X.m) : RpGo w ρ w3 (ρ.with g cap k f) := by
  have hb3 := h3.below hb hw
  have hr := h.below hb3
  refine ⟨⟨hr.r, ⟨hr.t.n, hr.t.cur, hr.t.pend, hr.t.writes, hr.t.left⟩, row_put hc hs hm hk hh, ⟨hm, hcp⟩, hr.m1, hr.pd⟩, hb3, fun b hb => ?_⟩
  rcases hb with e | e | e | e
  · exact .inl (.inl e)
  · exact .inl (.inr (.inl e))
  · exact .inr (by rw [e]; exact hw)
  · exact .inl (.inr (.inr (.inr e)))
set_option maxRecDepth 100000 in
set_option maxHeartbeats 800000 in
theorem rwith_any (ρ : Rp) (k : Nat) (f : Fr) (w : World) (h : ρ.Ok w) (hk : k < ρ.X.m) :
    Calls Tryd.prog 41 #[.agg ρ.cs, .int .i64 (k : Int), .agg (gcs f)] w (RpAt w ρ (ρ.X.put k f)) := by
  obtain ⟨ie, hi, hz0, hz1, hz2⟩ := info_parts info_rf3
  have HI := Lib.hid hi
  have HZ0 := Lib.hid hz0
  have HZ1 := Lib.hid hz1
  have HZ2 := Lib.hid hz2
  have h0 := Lib.hid h
  have HE := Lib.hid (enter3 f h)
  have HM := Lib.hid h.m1
  have k0 : (0 : Int) ≤ (k : Int) := by omega
  have k1 : (k : Int) < (ρ.X.m : Int) := by omega
  have HK := Lib.hid hk
  clear h hi hz0 hz1 hz2 hk
  go_enter Tryd.func41, Tryd.ntmps41
  go_upto_region 1 with (fail)
  change Code.wp _ _ _ _ (((w.alloc (.cells ρ.cs 38)).alloc (.cells (gcs f) 67)).alloc (.cells zcs 38))
  generalize ((w.alloc (.cells ρ.cs 38)).alloc (.cells (gcs f) 67)).alloc (.cells zcs 38) = w1 at HE ⊢
  have c5 := HE.out.p.c5
  have HS := Lib.hid HE.out.s
  go_wp2_with (first | (at_builtin; refine wpList_append_own _ rfl (.tmp 8) (.tmp 10) 36 rfl w1.heap.size 67 ie _ 5 40 Tryd.underlying36 HI.out HZ0.out HZ1.out HZ2.out rfl (by decide) (.slice none 0 0) 0 [] rfl (World.ownsRow_nil _ _ _ _) ⟨ρ.L, 0, none⟩ ρ.X.m ρ.lc (fsl ρ.X.fr ρ.X.m) rfl (fsl_len _ _) HE.out.go.ok.row.cells (fsl_one _ _) (by unfold maxLen; have := HM.out; omega) (by have := HM.out; omega) (Nat.le_refl _) ?_; intro v2 w2 hown hgrow _; obtain ⟨g, cap, cur, rfl, hgl, hgh, hgm, hgc, hgs, hgt⟩ := fresh5 hown HM.out.1; have HB2 := Lib.hid (Below.grown (Below.refl w1.heap.size w1) hgrow (Nat.le_refl _) (fun j hj => by cases hj)); have HG := Lib.hid hgh; have HGT := Lib.hid hgt; have HGS := Lib.hid hgs; have HF2 := Lib.hid (HE.out.f.below HB2.out); have HP2 := Lib.hid (HE.out.p.below HB2.out); have HZ2b := Lib.hid (HE.out.z.below HB2.out); clear hown hgrow hgh hgt hgs) | (refine ld_frame rfl _ rfl HF2.out rfl ?_) | (refine st_elem (k := k) (f := f) rfl _ _ rfl HG.out (by have := HGS.out; have := HK.out; omega) rfl rfl ?_; intro w3 ho3 hg3; have HO3 := Lib.hid ho3; have HG3 := Lib.hid hg3; have B3 := HP2.out.ony ho3 (by have := HS.out; omega); have d5 := B3.c5; have df := B3.fz 5; have HP4 := Lib.hid (B3.set (cs' := (ρ.with g cap k f).cs) 5 (.slice (some ⟨g, 0, none⟩) ρ.X.m cap) rfl); have HO4 := Lib.hid (Ony.cell w3 w.heap.size 5 (.slice (some ⟨g, 0, none⟩) ρ.X.m cap)); clear ho3 hg3 B3) | (refine ld_pool rfl _ rfl HP4.out rfl ?_) | (refine st_pool rfl _ _ rfl ((HZ2b.out.ony HO3.out (by have := HS.out; omega)).ony HO4.out (by omega)) rfl rfl rfl ?_; intro w5 ho5 hz5; have HO5 := Lib.hid ho5; have HZ5 := Lib.hid hz5; clear ho5 hz5))
  refine post_pool rfl HZ5.out rfl rfl ?_
  have hb := HE.out.go.below
  have hb2 := hb.trans (HB2.out.mono hb.size)
  have hs1 := HS.out
  have G := with_ok (k := k) (f := f) h0.out hb2 HO3.out (by omega) HG3.out hgm hgc HGS.out HGT.out HK.out
  have o1 : ¬ (ρ.with g cap k f).blk w.heap.size := fun e => by
    rcases e with e | e | e | e
    · exact HE.out.p.off (.inl e)
    · exact HE.out.p.off (.inr (.inl e))
    · change w.heap.size = g at e; omega
    · exact HE.out.p.off (.inr (.inr (.inr e)))
  have o2 : ¬ (ρ.with g cap k f).blk (w.heap.size + 2) := fun e => by
    rcases e with e | e | e | e
    · exact HE.out.z.off (.inl e)
    · exact HE.out.z.off (.inr (.inl e))
    · change w.heap.size + 2 = g at e; omega
    · exact HE.out.z.off (.inr (.inr (.inr e)))
  exact ⟨_, rfl, rfl, (G.ony HO4.out (Nat.le_refl _) o1).ony HO5.out (by omega) o2⟩
end Go.Proofs.YtfhnnfheonkneaaDoor
namespace Go.Proofs.YtfhnnfheonkneaaDoor
open Go.RowKit Go.Maps

theorem enter1 {w : World} {ρ : Rp} (h : ρ.Ok w) : Box w (w.alloc (.cells ρ.cs 38)) w.heap.size ρ 38 ρ.cs ∧ RpGo w ρ (w.alloc (.cells ρ.cs 38)) ρ :=
  ⟨⟨heap_alloc_new _ _, Nat.le_refl _, fun e => by have := h.lt e; omega⟩, (RpGo.refl h).b ((Below.refl _ _).alloc (Nat.le_refl _) _)⟩
set_option maxRecDepth 100000 in
set_option maxHeartbeats 800000 in
theorem rplace_any (ρ : Rp) (i : Int) (w : World) (h : ρ.Ok w) :
    Calls Tryd.prog 45 #[.agg ρ.cs, .int .i64 i] w fun e w' => e = .returned (.int .i64 (plF ρ.X i)) ∧ Below w.heap.size w w' := by
  have E := enter1 h
  have c5 := E.1.c5
  have HR := Lib.hid E.2.ok.row
  have HB := Lib.hid E.2.below
  have HM := Lib.hid h.m1
  clear E h
  go_enter Tryd.func45, Tryd.ntmps45
  go_upto_region 1 with (fail)
  change Code.wp _ _ _ _ (w.alloc (.cells ρ.cs 38))
  generalize w.alloc (.cells ρ.cs 38) = w1 at c5 HR HB ⊢
  go_wp2
  go_loop [5] (fun x => ∃ k : Nat, k ≤ ρ.X.m ∧ x = .int .i64 k ∧ Hid (∀ j, j < k → (ρ.X.fr j).i ≠ i)) (fun x => ρ.X.m - (intOf x).toNat)
  case atStart => exact ⟨0, by omega, rfl, Lib.hid (fun j hj => absurd hj (by omega))⟩
  case round =>
    obtain ⟨k, hk, rfl, HT⟩ := hrel
    by_cases hlt : k < ρ.X.m
    · have g0 := HR.out.at0 hlt
      have hlt' : (k : Int) < (ρ.X.m : Int) := by omega
      have j0 : (0 : Int) ≤ (k : Int) := by omega
      have hm1 : ρ.X.m ≤ 1024 := HM.out.2
      by_cases he : (ρ.X.fr k).i = i
      · have HP := Lib.hid (plF_hit hlt he HT.out)
        rw [he] at g0
        clear he
        go_wp2
        go_ret
        rw [HP.out]; exact ⟨rfl, HB.out⟩
      · have hb : ((ρ.X.fr k).i == i) = false := by rw [beq_eq_false_iff_ne]; exact he
        have HT2 : Hid (∀ j, j < k + 1 → (ρ.X.fr j).i ≠ i) := Lib.hid fun j hj => by
          rcases Nat.lt_or_ge j k with q | q
          · exact HT.out j q
          · obtain rfl : j = k := by omega
            exact he
        generalize (ρ.X.fr k).i = y at g0 hb he
        clear he
        go_wp2
        go_round
        case rel => exact ⟨k + 1, by omega, by go_num, HT2⟩
        case measure => simp [intOf]; omega
    · obtain rfl : k = ρ.X.m := by omega
      have HP := Lib.hid (plF_miss HT.out)
      go_wp2
      go_ret
      rw [HP.out]; exact ⟨rfl, HB.out⟩
set_option maxRecDepth 100000 in
set_option maxHeartbeats 800000 in
theorem rgood_any (t : ByteArray) (w : World) (ht : t.size = 512) :
    Calls Tryd.prog 39 #[.string t] w fun e w' => e = .returned (.bool (goodT t)) ∧ Below w.heap.size w w' := by
  have hc := conv_b t ht
  have HL := Lib.hid (bw_lies w t)
  have HB := Lib.hid (bw_below w t)
  have hcl : 512 ≤ bc w t := by have := bc_le w t; rw [ht] at this; exact this
  have HN := Lib.hid (show (nums t).length = 512 by rw [nums_len, ht])
  have HMK := Lib.hid (show (Sm.mkd (nums t)).length = 512 by rw [Sm.mkd_len (by rw [nums_len, ht]; omega), nums_len, ht])
  have HG := Lib.hid (show ((strOfNums (Sm.mkd (nums t))).toList == t.toList) = goodT t by
    have := Sm.good_str (xs := nums t) (fun i hi => nums_byte t i hi) (by rw [nums_len, ht]; omega)
    rw [str_nums] at this
    exact this)
  go_enter Tryd.func39, Tryd.ntmps39
  go_wp2_with (go_at_call 37; refine (Sm.refmark_any w.heap.size 0 (bc w t) 512 (nums t) _ HN.out (by omega) HL.out.sm (by omega) hcl).mono ?_; rintro e w5 ⟨bo, cp, rfl, hl6, hb6⟩; have HL6 := Lib.hid (Sm.Lies.out hl6); have HB6 := Lib.hid hb6; have hcv := conv_any (c := cp) HL6.out HMK.out; clear hl6 hb6)
  go_ret
  rw [← HG.out]; exact ⟨rfl, HB.out.trans (HB6.out.mono HB.out.size)⟩
end Go.Proofs.YtfhnnfheonkneaaDoor
namespace Go.Proofs.YtfhnnfheonkneaaDoor
open Go.RowKit Go.Maps

def RdAt (w : World) (ρ : Rp) (d : Dk) (e : Ending) (w' : World) : Prop := ∃ r', e = .returned (.tuple #[.agg #[.slice (some ⟨r'.nb, 0, none⟩) r'.n r'.nc, .slice (some ⟨r'.sb, 0, none⟩) r'.n r'.sc, .slice r'.pa r'.pend.length r'.pc, .int .i64 r'.writes, .int .i64 r'.left], .int .i64 0]) ∧ RpGo w ρ w' (ρ.disk r' d)
theorem lone_of {ρ : Rp} {b : Nat} (h : ¬ ρ.blk b) (hp : ρ.r.pend = [] → ρ.r.pa = none) : Far ρ.r (lone b) := by
  refine ⟨fun e => h (.inl (lone_has e).symm), fun e => h (.inr (.inl (lone_has e).symm)), fun c off ha e => ?_⟩
  have := lone_has e
  subst this
  by_cases q : ρ.r.pend = []
  · rw [hp q] at ha; cases ha
  · exact h (.inr (.inr (.inr ⟨q, off, ha⟩)))
theorem blk_of {ρ : Rp} {r' : Ref} {d : Dk} {b : Nat} (h : (ρ.disk r' d).blk b) (hf : Far r' (lone b)) : b = ρ.L := by
  have o := Far.off hf
  rcases h with e | e | e | ⟨hp, off, ha⟩
  · exact absurd e.symm o.1
  · exact absurd e.symm o.2.1
  · exact e
  · exact absurd rfl (o.2.2 b off ha (List.length_pos_iff.2 hp))
theorem rd_go {w w' : World} {ρ : Rp} {r' : Ref} {d : Dk} (h : ρ.Ok w) (g : RefGo w ρ.r w' r') (t : RTie r' d) (pd : PendOk d) : RpGo w ρ w' (ρ.disk r' d) := by
  refine ⟨⟨g.ok, t, (h.below g.below).row, h.lc, h.m1, pd⟩, g.below, fun b hb => ?_⟩
  by_cases q : ρ.blk b
  · exact .inl q
  · rcases Nat.lt_or_ge b w.heap.size with l | l
    · have := blk_of hb (g.far _ (lone_of q (fun e => (h.r.nil e).1)) (fun c hc => by rw [lone_has hc]; exact l))
      exact .inl (.inr (.inr (.inl this)))
    · exact .inr l
theorem rdwrite_ok (ρ : Rp) (i : Nat) (t : ByteArray) (w : World) (h : ρ.Ok w) (hi : i < ρ.X.d.n) (ht : t.size = 512) (hl : ρ.X.d.left ≠ 0) (w0 : 0 ≤ ρ.X.d.writes) (w1 : ρ.X.d.writes < 4611686018427387904) :
    Calls Tryd.prog 46 #[.agg #[.slice (some ⟨ρ.r.nb, 0, none⟩) ρ.r.n ρ.r.nc, .slice (some ⟨ρ.r.sb, 0, none⟩) ρ.r.n ρ.r.sc, .slice ρ.r.pa ρ.r.pend.length ρ.r.pc, .int .i64 ρ.r.writes, .int .i64 ρ.r.left], .int .i64 (i : Int), .string t] w (RdAt w ρ (ρ.X.d.wrote i t)) := by
  have hpn : ρ.r.pend.length ≤ 99 ∨ ρ.r.pend.length = 100 := by
    have := h.r.len
    omega
  have e : writeC ρ.r.n ρ.r.left i t.size = 0 := by
    unfold writeC
    rw [if_neg (by rw [h.t.n]; omega), if_neg (by omega), if_neg (by rw [h.t.left]; omega)]
  have hk := refwrite_any ρ.r i t w h.r (by rw [h.t.n]; exact hi) ht (by rw [h.t.left]; omega) (by rw [h.t.left]; have := h.pd.lf; omega) (by rw [h.t.left]; omega) (by rw [h.t.writes]; exact w0) (by rw [h.t.writes]; exact w1) (fun hp => by
    have hle := nodup_le ρ.X.d.n (i :: ρ.X.d.pend) (List.nodup_cons.2 ⟨by rw [← h.t.pend]; exact hp, h.pd.nd⟩) (fun x hx => by
      rcases List.mem_cons.1 hx with rfl | q
      · exact hi
      · exact h.pd.lt x q)
    have hn := h.r.n1.2
    rw [h.t.n] at hn
    rw [h.t.pend]
    rw [List.length_cons] at hle
    omega)
  refine hk.mono fun e w' ⟨r', he, k⟩ => ⟨r', he, rd_go h ⟨k.ok, k.far, k.below⟩ ⟨k.n.trans h.t.n, fun j hj => ?_, ?_, ?_, ?_⟩ (h.pd.wrote hi t)⟩
  · rw [k.N]
    unfold upd
    show strOfNums (rowOf (fun x => if j = i then txt t x else ρ.r.N j x)) = if j = i then t else ρ.X.d.cur j
    by_cases q : j = i
    · simp only [if_pos q]
      exact row_txt ht fun _ _ => rfl
    · simp only [if_neg q]
      exact h.t.cur j hj
  · rw [k.pend, h.t.pend]; rfl
  · rw [k.writes, h.t.writes]; rfl
  · rw [k.left, h.t.left]
    show _ = max (if 0 < ρ.X.d.left then ρ.X.d.left - 1 else ρ.X.d.left) (-1)
    by_cases q : 0 < ρ.X.d.left
    · rw [if_pos q, if_pos (by omega)]; omega
    · rw [if_neg q, if_neg (by omega)]
theorem rdwrite_full (ρ : Rp) (i : Nat) (t : ByteArray) (w : World) (h : ρ.Ok w) (hi : i < ρ.X.d.n) (ht : t.size = 512) (hl : ρ.X.d.left = 0) :
    Calls Tryd.prog 46 #[.agg #[.slice (some ⟨ρ.r.nb, 0, none⟩) ρ.r.n ρ.r.nc, .slice (some ⟨ρ.r.sb, 0, none⟩) ρ.r.n ρ.r.sc, .slice ρ.r.pa ρ.r.pend.length ρ.r.pc, .int .i64 ρ.r.writes, .int .i64 ρ.r.left], .int .i64 (i : Int), .string t] w fun e w' => e = .returned (.tuple #[.agg #[.slice (some ⟨ρ.r.nb, 0, none⟩) ρ.r.n ρ.r.nc, .slice (some ⟨ρ.r.sb, 0, none⟩) ρ.r.n ρ.r.sc, .slice ρ.r.pa ρ.r.pend.length ρ.r.pc, .int .i64 ρ.r.writes, .int .i64 ρ.r.left], .int .i64 5]) ∧ Below w.heap.size w w' :=
  (refwrite_full ρ.r i t w (by rw [h.t.n]; exact hi) h.r.n1.2 ht (by rw [h.t.left, hl]; rfl)).mono fun _ _ ⟨he, hb⟩ => ⟨he, hb⟩
def Ref.sure (r : Ref) : Ref := { r with sb := r.nb, sc := r.nc, S := r.N, pa := none, pc := 0, pend := [] }
theorem rdflush_go {w w' : World} {ρ : Rp} (h : ρ.Ok w) (hb : Below w.heap.size w w') : RpGo w ρ w' (ρ.disk ρ.r.sure ρ.X.d.flush) := by
  have h' := h.below hb
  refine ⟨⟨⟨h'.r.N, h'.r.N, h'.r.nc, h'.r.nc, ints_nil _ _, h'.r.bN, h'.r.bN, h'.r.n1, Nat.zero_le _, fun _ => ⟨rfl, rfl⟩⟩, ⟨h.t.n, h.t.cur, rfl, h.t.writes, h.t.left⟩, h'.row, h.lc, h.m1, ⟨List.nodup_nil, fun i hi => absurd hi (by intro q; cases q), h.pd.lf⟩⟩, hb, fun b q => ?_⟩
  rcases q with e | e | e | ⟨hp, _⟩
  · exact .inl (.inl e)
  · exact .inl (.inl e)
  · exact .inl (.inr (.inr (.inl e)))
  · exact absurd rfl hp
def dcs (r : Ref) : Array Value := #[.slice (some ⟨r.nb, 0, none⟩) r.n r.nc, .slice (some ⟨r.sb, 0, none⟩) r.n r.sc, .slice r.pa r.pend.length r.pc, .int .i64 r.writes, .int .i64 r.left]
theorem dcs_one (r : Ref) : (dcs r).all (·.oneCell') = true := by simp [dcs, Value.oneCell']
section
variable {ops : Array Oper} {rest : List Oper} {o : Oper} {a : Act} {w : World} {Q : Exit → Act → World → Prop}
theorem st_newd (hgd : o.guard = none) (x y : Operand) (ho : o.op = .store 35 x y) {w0 w1 : World} {ρ : Rp} {r : Ref} {old : Array Value} (hw : w = w1.alloc (.cells old 35)) (h8 : old.size = 5) (hb : Below w0.heap.size w0 w1) (hok : ρ.Ok w1) (hx : a.eval x = .pointer (some ⟨w1.heap.size, 0, none⟩)) (hy : a.eval y = .agg (dcs r))
    (h : ∀ w' g, g = w1.heap.size → Below w1.heap.size w1 w' → Box w0 w' g ρ 35 (dcs r) → wpList Tryd.prog ops Q rest (a.put o.dst undef) w') : wpList Tryd.prog ops Q (o :: rest) a w := by
  subst hw
  have hh := heap_alloc_new w1 (.cells old 35)
  exact wpList_store_row hgd _ x y ho w1.heap.size (dcs r) hx hy _ old hh info_rd h8 (dcs_one r) (h _ _ rfl ((Ony.row _ w1.heap.size (dcs r)).below ((Below.refl _ _).alloc (Nat.le_refl _) _) (Nat.le_refl _)) ⟨setRow_heap _ _ _ _ _ _ hh, hb.size, fun e => by have := hok.lt e; omega⟩)
theorem ld_disk (hgd : o.guard = none) (x : Operand) (ho : o.op = .load 35 x) {w0 : World} {g : Nat} {ρ0 : Rp} {r : Ref} (hb : Box w0 w g ρ0 35 (dcs r)) (hx : a.eval x = .pointer (some ⟨g, 0, none⟩))
    (h : wpList Tryd.prog ops Q rest (a.put o.dst (.agg (dcs r))) w) : wpList Tryd.prog ops Q (o :: rest) a w :=
  wpList_load_row hgd _ x ho g hx _ (dcs r) (0, 0) _ hb.h Tryd.underlying35 rfl info_rd h
end
/-! a pool whose count is another one -/
def Rp.to (ρ : Rp) (X : Px) : Rp := { ρ with X := X }
theorem RpGo.to {w w' : World} {ρ ρ' : Rp} {X : Px} (h : RpGo w ρ w' ρ') (hd : X.d = ρ'.X.d) (hm : X.m = ρ'.X.m) (hf : X.fr = ρ'.X.fr) : RpGo w ρ w' (ρ'.to X) := by
  refine ⟨⟨h.ok.r, ?_, ?_, ?_, ?_, ?_⟩, h.below, h.own⟩
  · show RTie ρ'.r X.d; rw [hd]; exact h.ok.t
  · show FRow w' ρ'.L X.m X.fr; rw [hm, hf]; exact h.ok.row
  · show X.m ≤ ρ'.lc ∧ _; rw [hm]; exact h.ok.lc
  · show 1 ≤ X.m ∧ X.m ≤ 1024; rw [hm]; exact h.ok.m1
  · show PendOk X.d; rw [hd]; exact h.ok.pd
theorem to_cs {ρ : Rp} {X : Px} (hm : X.m = ρ.X.m) (hh : X.hand = ρ.X.hand) (hl : X.loads = ρ.X.loads) : (ρ.to X).cs = ρ.cs := by
  unfold Rp.cs Rp.to
  simp only [hm, hh, hl]
end Go.Proofs.YtfhnnfheonkneaaDoor

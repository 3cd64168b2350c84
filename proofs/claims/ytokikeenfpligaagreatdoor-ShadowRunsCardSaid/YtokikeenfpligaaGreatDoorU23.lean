/-
  A POOL IN MEMORY: its struct, its frames, their bytes, the map of its sectors, and its disk. Conditions: those that each lemma names.
-/
import Derived.Maps.OwnSet
import Derived.Test.YtokikeenfpligaaGreatDoorU22
namespace Go.Proofs.YtokikeenfpligaaGreatDoor
open Go.RowKit Go.Maps

structure Mp where
  P : Nat
  F : Nat
  M : Nat
  s : St
  X : Px
  a : Nat → Option Addr
  cp : Nat → Nat
  D : DataW Unit
def Mp.has (μ : Mp) (b : Nat) : Prop := b = μ.P ∨ b = μ.F ∨ b = μ.M ∨ μ.s.has b
def Mp.bytes (μ : Mp) (b : Nat) : Prop := ∃ k off, k < μ.X.m ∧ μ.a k = some ⟨b, off, none⟩
def Mp.all (μ : Mp) (b : Nat) : Prop := μ.has b ∨ μ.bytes b

def tx (f : Nat → Int) : ByteArray := strOfNums (rowOf f)
structure Tie (s : St) (d : Dk) : Prop where
  n : d.n = s.n
  cur : ∀ i, i < s.n → d.cur i = tx (s.cur i)
  pend : d.pend = s.pend
  writes : d.writes = s.writes
  left : d.left = s.left
def fv (f : Fr) (a : Option Addr) (c : Nat) : Nat → Value
  | 0 => .int .i64 f.i
  | 1 => .slice a f.t.size c
  | 2 => .bool f.d
  | 3 => .bool f.u
  | _ => .int .i64 (f.h : Int)
structure Head (w : World) (P D F m M hand : Nat) (loads : Int) : Prop where
  c0 : w.cell? ⟨P, 0, none⟩ = some (.pointer (some ⟨D, 0, none⟩))
  c1 : w.cell? ⟨P, 1, none⟩ = some (.slice (some ⟨F, 0, none⟩) m m)
  c2 : w.cell? ⟨P, 2, none⟩ = some (.map (some M))
  c3 : w.cell? ⟨P, 3, none⟩ = some (.int .i64 (hand : Int))
  c4 : w.cell? ⟨P, 4, none⟩ = some (.int .i64 loads)
  fz : ∀ i, w.frozen? ⟨P, i, none⟩ = false
structure Row (w : World) (F m : Nat) (fr : Nat → Fr) (a : Nat → Option Addr) (cp : Nat → Nat) : Prop where
  c : ∀ k, k < m → ∀ j, j < 5 → w.cell? ⟨F, k * 5 + j, none⟩ = some (fv (fr k) (a k) (cp k) j)
  fz : ∀ i, w.frozen? ⟨F, i, none⟩ = false
  lt : F < w.heap.size
structure Byts (B : Nat) (w : World) (μ : Mp) : Prop where
  l : ∀ k, k < μ.X.m → Lies w (μ.a k) (nums (μ.X.fr k).t)
  b : ∀ k, k < μ.X.m → ∀ b off, μ.a k = some ⟨b, off, none⟩ → B ≤ b ∧ b < w.heap.size ∧ ¬ μ.has b
  c : ∀ k, k < μ.X.m → (μ.X.fr k).t.size ≤ μ.cp k
structure Fix (B : Nat) (μ : Mp) : Prop where
  bP : B ≤ μ.P
  bF : B ≤ μ.F
  bM : B ≤ μ.M
  PF : μ.P ≠ μ.F
  PM : μ.P ≠ μ.M
  FM : μ.F ≠ μ.M
  sP : ¬ μ.s.has μ.P
  sF : ¬ μ.s.has μ.F
  sM : ¬ μ.s.has μ.M
structure Core (B N : Nat) (w : World) (μ : Mp) : Prop where
  d : DiskAt B w μ.s
  t : Tie μ.s μ.X.d
  fx : Fix B μ
  hd : Head w μ.P μ.s.D μ.F μ.X.m μ.M μ.X.hand μ.X.loads
  row : Row w μ.F μ.X.m μ.X.fr μ.a μ.cp
  by' : Byts B w μ
  ok : μ.X.Ok N
abbrev Owns (w : World) (M n : Nat) (D : DataW Unit) : Prop := w.ownsMap Tryz.prog 3 (plainElem Tryz.prog 3) M n D
structure MapOk (X : Px) (D : DataW Unit) : Prop where
  tidy : Tidy D
  has : ∀ i : Int, Maps.has D (.int .i64 i) = true ↔ ∃ k, k < X.c ∧ (X.fr k).i = i
  at' : ∀ k, k < X.c → D.atKey (.int .i64 (X.fr k).i) (.lit (.int .i64 0)) = .lit (.int .i64 (k : Int))
  size : Maps.size D = X.c
structure PoolAt (B N : Nat) (w : World) (μ : Mp) : Prop where
  core : Core B N w μ
  mo : Owns w μ.M μ.X.c μ.D
  mp : MapOk μ.X μ.D

/-- from a world and what is in it to another: what is none of these blocks is as it was -/
structure Stp (w : World) (H : Nat → Prop) (w' : World) (H' : Nat → Prop) : Prop where
  os : w'.os = w.os
  tape : w'.tape = w.tape
  output : w'.output = w.output
  size : w.heap.size ≤ w'.heap.size
  block : ∀ k, k < w.heap.size → ¬ H k → w'.heap[k]? = w.heap[k]?
  own : ∀ k, H' k → H k ∨ w.heap.size ≤ k
theorem Stp.of_below {w w' : World} {H : Nat → Prop} (h : Below w.heap.size w w') : Stp w H w' H := ⟨h.os, h.tape, h.output, h.size, fun k hk _ => h.block k hk, fun _ h => .inl h⟩
theorem Stp.refl (w : World) (H : Nat → Prop) : Stp w H w H := .of_below (Below.refl _ _)
theorem Stp.trans {a b c : World} {r s t : Nat → Prop} (h : Stp a r b s) (k : Stp b s c t) : Stp a r c t :=
  ⟨k.os.trans h.os, k.tape.trans h.tape, k.output.trans h.output, Nat.le_trans h.size k.size, fun i hi hn => (k.block i (Nat.lt_of_lt_of_le hi h.size) (fun hs => by rcases h.own i hs with e | e; exact hn e; omega)).trans (h.block i hi hn),
    fun i hi => by
      rcases k.own i hi with e | e
      · exact h.own i e
      · exact .inr (Nat.le_trans h.size e)⟩
theorem Stp.below {B : Nat} {w w' : World} {H H' : Nat → Prop} (h : Stp w H w' H') (hd : ∀ b, H b → B ≤ b) (hB : B ≤ w.heap.size) : Below B w w' :=
  ⟨h.os, h.tape, h.output, h.size, fun k hk => h.block k (by omega) (fun hs => by have := hd k hs; omega)⟩
theorem Stp.write {w w' : World} {H H' : Nat → Prop} (b : Nat) (hb : H b) (os : w'.os = w.os) (tape : w'.tape = w.tape) (output : w'.output = w.output) (size : w.heap.size ≤ w'.heap.size) (h : ∀ k, k < w.heap.size → k ≠ b → w'.heap[k]? = w.heap[k]?) (own : ∀ k, H' k → H k ∨ w.heap.size ≤ k) : Stp w H w' H' :=
  ⟨os, tape, output, size, fun k hk hn => h k hk (fun e => hn (e ▸ hb)), own⟩
theorem Stp.cell {w w' : World} {H H' : Nat → Prop} (h : Stp w H w' H') {g o : Nat} {v : Value} (hc : w.cell? ⟨g, o, none⟩ = some v) (hn : ¬ H g) : w'.cell? ⟨g, o, none⟩ = some v :=
  (cell_of_block (h.block g (World.block_lt_of_cell? w _ hc) hn)).trans hc

theorem Head.same {w w' : World} {P D F m M hand : Nat} {loads : Int} (h : Head w P D F m M hand loads) (hb : w'.heap[P]? = w.heap[P]?) : Head w' P D F m M hand loads := by
  have hc : ∀ o, w'.cell? ⟨P, o, none⟩ = w.cell? ⟨P, o, none⟩ := fun o => World.cell?_of_block hb
  exact ⟨(hc _).trans h.c0, (hc _).trans h.c1, (hc _).trans h.c2, (hc _).trans h.c3, (hc _).trans h.c4, fun i => (World.frozen?_of_block hb).trans (h.fz i)⟩
theorem Row.same {w w' : World} {F m : Nat} {fr : Nat → Fr} {a : Nat → Option Addr} {cp : Nat → Nat} (h : Row w F m fr a cp) (hs : w.heap.size ≤ w'.heap.size) (hb : w'.heap[F]? = w.heap[F]?) : Row w' F m fr a cp :=
  ⟨fun k hk j hj => (World.cell?_of_block hb).trans (h.c k hk j hj), fun i => (World.frozen?_of_block hb).trans (h.fz i), Nat.lt_of_lt_of_le h.lt hs⟩
theorem lies_same {w w' : World} {a : Option Addr} {xs : List Int} (h : Lies w a xs) (hb : ∀ b off, a = some ⟨b, off, none⟩ → w'.heap[b]? = w.heap[b]?) : Lies w' a xs := by
  intro i hi
  obtain ⟨b, off, ha, hc, hq⟩ := h i hi
  exact ⟨b, off, ha, (World.cell?_of_block (hb b off ha)).trans hc, hq⟩
theorem Byts.same {B : Nat} {w w' : World} {μ : Mp} (h : Byts B w μ) (hs : w.heap.size ≤ w'.heap.size) (hb : ∀ b, μ.bytes b → w'.heap[b]? = w.heap[b]?) : Byts B w' μ :=
  ⟨fun k hk => lies_same (h.l k hk) fun b off e => hb b ⟨k, off, hk, e⟩, fun k hk b off e => ⟨(h.b k hk b off e).1, Nat.lt_of_lt_of_le (h.b k hk b off e).2.1 hs, (h.b k hk b off e).2.2⟩, h.c⟩
theorem Core.lt {B N : Nat} {w : World} {μ : Mp} (h : Core B N w μ) (hM : μ.M < w.heap.size) : ∀ b, μ.all b → B ≤ b ∧ b < w.heap.size := by
  intro b hb
  rcases hb with (rfl | rfl | rfl | hs) | ⟨k, off, hk, e⟩
  · exact ⟨h.fx.bP, World.block_lt_of_cell? w _ h.hd.c0⟩
  · exact ⟨h.fx.bF, h.row.lt⟩
  · exact ⟨h.fx.bM, hM⟩
  · exact h.d.lt b hs
  · exact ⟨(h.by'.b k hk b off e).1, (h.by'.b k hk b off e).2.1⟩
theorem PoolAt.lt {B N : Nat} {w : World} {μ : Mp} (h : PoolAt B N w μ) : ∀ b, μ.all b → B ≤ b ∧ b < w.heap.size := h.core.lt h.mo.lt
/-- every block of the pool's, but the map's, is as it was -/
theorem Core.moved {B N : Nat} {w w' : World} {μ : Mp} (h : Core B N w μ) (hs : w.heap.size ≤ w'.heap.size) (hb : ∀ b, μ.all b → b ≠ μ.M → w'.heap[b]? = w.heap[b]?) : Core B N w' μ := by
  have fx := h.fx
  refine ⟨h.d.same hs fun k hk => hb k (.inl (.inr (.inr (.inr hk)))) (fun e => fx.sM (e ▸ hk)), h.t, fx, h.hd.same (hb _ (.inl (.inl rfl)) fx.PM), h.row.same hs (hb _ (.inl (.inr (.inl rfl))) fx.FM), h.by'.same hs fun b hk => hb b (.inr hk) ?_, h.ok⟩
  obtain ⟨k, off, hk, e⟩ := hk
  exact fun q => (h.by'.b k hk b off e).2.2 (.inr (.inr (.inl q)))
theorem owns_same {w w' : World} {M n : Nat} {D : DataW Unit} (h : Owns w M n D) (hb : w'.heap[M]? = w.heap[M]?) : Owns w' M n D := by
  obtain ⟨es, clock, hm, r⟩ := h
  exact ⟨es, clock, hb.trans hm, r⟩
theorem PoolAt.moved {B N : Nat} {w w' : World} {μ : Mp} (h : PoolAt B N w μ) (hs : w.heap.size ≤ w'.heap.size) (hb : ∀ b, μ.all b → w'.heap[b]? = w.heap[b]?) : PoolAt B N w' μ :=
  ⟨h.core.moved hs fun b hk _ => hb b hk, owns_same h.mo (hb _ (.inl (.inr (.inr (.inl rfl))))), h.mp⟩
theorem PoolAt.below {B N : Nat} {w w' : World} {μ : Mp} (h : PoolAt B N w μ) (hb : Below w.heap.size w w') : PoolAt B N w' μ := h.moved hb.size fun b hk => hb.block b (h.lt b hk).2
theorem PoolAt.drew {B N : Nat} {w : World} {μ : Mp} (h : PoolAt B N w μ) : PoolAt B N w.drew μ := h.moved (Nat.le_refl _) fun _ _ => rfl
theorem PoolAt.mono {B N M : Nat} {w : World} {μ : Mp} (h : PoolAt B N w μ) (hN : N ≤ M) : PoolAt B M w μ := ⟨⟨h.core.d, h.core.t, h.core.fx, h.core.hd, h.core.row, h.core.by', h.core.ok.mono hN⟩, h.mo, h.mp⟩

/-- what becomes of a pool -/
def Goes (B N : Nat) (w : World) (μ : Mp) (X : Px) (w' : World) : Prop := ∃ μ', PoolAt B N w' μ' ∧ Stp w μ.all w' μ'.all ∧ μ'.P = μ.P ∧ μ'.F = μ.F ∧ μ'.s.D = μ.s.D ∧ μ'.X = X
theorem Goes.same {B N : Nat} {w w' : World} {μ : Mp} (h : PoolAt B N w μ) (hb : Below w.heap.size w w') : Goes B N w μ μ.X w' := ⟨μ, h.below hb, .of_below hb, rfl, rfl, rfl, rfl⟩

/-! a cell of the pool's struct -/
theorem Core.setP {B N M : Nat} {w : World} {μ : Mp} (h : Core B N w μ) (o : Nat) (v : Value) (X : Px) (hX : X.d = μ.X.d ∧ X.m = μ.X.m ∧ X.fr = μ.X.fr) (ho : X.Ok M) (hh : Head (w.setCell ⟨μ.P, o, none⟩ v) μ.P μ.s.D μ.F μ.X.m μ.M X.hand X.loads) : Core B M (w.setCell ⟨μ.P, o, none⟩ v) { μ with X := X } := by
  have hb : ∀ k, k ≠ μ.P → (w.setCell ⟨μ.P, o, none⟩ v).heap[k]? = w.heap[k]? := fun k hk => Below.heap_setCell _ _ _ _ (by exact hk)
  have hs : w.heap.size ≤ (w.setCell ⟨μ.P, o, none⟩ v).heap.size := by simp
  obtain ⟨e1, e2, e3⟩ := hX
  refine ⟨h.d.same hs fun k hk => hb k (fun e => h.fx.sP (e ▸ hk)), by show Tie μ.s X.d; rw [e1]; exact h.t, ⟨h.fx.bP, h.fx.bF, h.fx.bM, h.fx.PF, h.fx.PM, h.fx.FM, h.fx.sP, h.fx.sF, h.fx.sM⟩, by show Head _ _ _ _ X.m _ _ _; rw [e2]; exact hh, by show Row _ _ X.m X.fr _ _; rw [e2, e3]; exact h.row.same hs (hb _ (fun e => h.fx.PF e.symm)), ?_, ho⟩
  refine ⟨fun k hk => ?_, fun k hk b off e => ?_, fun k hk => ?_⟩
  · have hk' : k < μ.X.m := by have : k < X.m := hk; omega
    show Lies _ (μ.a k) (nums (X.fr k).t)
    rw [e3]
    exact lies_same (h.by'.l k hk') fun b off e => hb b (fun q => (h.by'.b k hk' b off e).2.2 (.inl q))
  · have hk' : k < μ.X.m := by have : k < X.m := hk; omega
    have := h.by'.b k hk' b off e
    exact ⟨this.1, Nat.lt_of_lt_of_le this.2.1 hs, this.2.2⟩
  · have hk' : k < μ.X.m := by have : k < X.m := hk; omega
    show (X.fr k).t.size ≤ μ.cp k
    rw [e3]
    exact h.by'.c k hk'
theorem all_X {μ : Mp} {X : Px} (hm : X.m = μ.X.m) (b : Nat) : ({ μ with X := X } : Mp).all b ↔ μ.all b := by
  unfold Mp.all Mp.has Mp.bytes
  simp only [hm]
theorem stp_setP {w : World} {μ : Mp} {X : Px} (o : Nat) (v : Value) (hm : X.m = μ.X.m) : Stp w μ.all (w.setCell ⟨μ.P, o, none⟩ v) ({ μ with X := X } : Mp).all :=
  Stp.write μ.P (.inl (.inl rfl)) rfl rfl rfl (by simp) (fun k _ hk => Below.heap_setCell _ _ _ _ (by exact hk)) (fun k hk => .inl ((all_X hm k).1 hk))
theorem MapOk.same {X Y : Px} {D : DataW Unit} (h : MapOk X D) (hc : Y.c = X.c) (hf : ∀ k, k < X.c → (Y.fr k).i = (X.fr k).i) : MapOk Y D := by
  refine ⟨h.tidy, fun i => ?_, fun k hk => ?_, by rw [h.size, hc]⟩
  · rw [h.has i, hc]
    constructor
    · rintro ⟨k, hk, e⟩; exact ⟨k, hk, by rw [hf k hk]; exact e⟩
    · rintro ⟨k, hk, e⟩; exact ⟨k, hk, by rw [← hf k hk]; exact e⟩
  · rw [hc] at hk
    rw [hf k hk]
    exact h.at' k hk
theorem PoolAt.turn {B N : Nat} {w : World} {μ : Mp} (h : PoolAt B N w μ) : PoolAt B N (w.setCell ⟨μ.P, 3, none⟩ (.int .i64 (((μ.X.hand + 1) % μ.X.m : Nat) : Int))) { μ with X := μ.X.turn } := by
  have hd := h.core.hd
  refine ⟨h.core.setP 3 _ μ.X.turn ⟨rfl, rfl, rfl⟩ h.core.ok.turn ?_, h.mo.setCell (fun e => h.core.fx.PM e.symm) _, h.mp.same rfl (fun _ _ => rfl)⟩
  have ho : ∀ j, j ≠ 3 → ∀ u, w.cell? ⟨μ.P, j, none⟩ = some u → (w.setCell ⟨μ.P, 3, none⟩ (.int .i64 (((μ.X.hand + 1) % μ.X.m : Nat) : Int))).cell? ⟨μ.P, j, none⟩ = some u := fun j hj u hu => by
    rw [World.cell?_setCell_other _ _ _ _ (by intro q; simp only [Addr.mk.injEq] at q; omega)]; exact hu
  exact ⟨ho 0 (by omega) _ hd.c0, ho 1 (by omega) _ hd.c1, ho 2 (by omega) _ hd.c2, World.cell?_setCell_same _ _ _ hd.c3, ho 4 (by omega) _ hd.c4, fun i => by rw [World.frozen?_setCell]; exact hd.fz i⟩
theorem PoolAt.load {B N : Nat} {w : World} {μ : Mp} (h : PoolAt B N w μ) : PoolAt B (N + 1) (w.setCell ⟨μ.P, 4, none⟩ (.int .i64 (μ.X.loads + 1))) { μ with X := μ.X.load } := by
  have hd := h.core.hd
  refine ⟨h.core.setP 4 _ μ.X.load ⟨rfl, rfl, rfl⟩ h.core.ok.load ?_, h.mo.setCell (fun e => h.core.fx.PM e.symm) _, h.mp.same rfl (fun _ _ => rfl)⟩
  have ho : ∀ j, j ≠ 4 → ∀ u, w.cell? ⟨μ.P, j, none⟩ = some u → (w.setCell ⟨μ.P, 4, none⟩ (.int .i64 (μ.X.loads + 1))).cell? ⟨μ.P, j, none⟩ = some u := fun j hj u hu => by
    rw [World.cell?_setCell_other _ _ _ _ (by intro q; simp only [Addr.mk.injEq] at q; omega)]; exact hu
  exact ⟨ho 0 (by omega) _ hd.c0, ho 1 (by omega) _ hd.c1, ho 2 (by omega) _ hd.c2, ho 3 (by omega) _ hd.c3, World.cell?_setCell_same _ _ _ hd.c4, fun i => by rw [World.frozen?_setCell]; exact hd.fz i⟩

/-! a frame -/
structure OnF (w w' : World) (F k : Nat) (g : Nat → Value) : Prop where
  os : w'.os = w.os
  tape : w'.tape = w.tape
  output : w'.output = w.output
  size : w'.heap.size = w.heap.size
  block : ∀ b, b ≠ F → w'.heap[b]? = w.heap[b]?
  new : ∀ j, j < 5 → w'.cell? ⟨F, k * 5 + j, none⟩ = some (g j)
  old : ∀ o, o < k * 5 ∨ k * 5 + 5 ≤ o → w'.cell? ⟨F, o, none⟩ = w.cell? ⟨F, o, none⟩
  froz : ∀ o, w'.frozen? ⟨F, o, none⟩ = w.frozen? ⟨F, o, none⟩
theorem OnF.refl {w : World} {F k : Nat} {g : Nat → Value} (h : ∀ j, j < 5 → w.cell? ⟨F, k * 5 + j, none⟩ = some (g j)) : OnF w w F k g := ⟨rfl, rfl, rfl, rfl, fun _ _ => rfl, h, fun _ _ => rfl, fun _ => rfl⟩
theorem OnF.set {w w' : World} {F k : Nat} {g : Nat → Value} (h : OnF w w' F k g) (j : Nat) (hj : j < 5) (v : Value) : OnF w (w'.setCell ⟨F, k * 5 + j, none⟩ v) F k (fun i => if i = j then v else g i) := by
  refine ⟨h.os, h.tape, h.output, by rw [← h.size]; simp, fun b hb => (Below.heap_setCell _ _ _ _ (by exact hb)).trans (h.block b hb), fun i hi => ?_, fun o ho => ?_, fun o => by rw [World.frozen?_setCell]; exact h.froz o⟩
  · by_cases e : i = j
    · subst e
      rw [if_pos rfl]
      exact World.cell?_setCell_same _ _ _ (h.new i hi)
    · rw [if_neg e, World.cell?_setCell_other _ _ _ _ (by intro q; simp only [Addr.mk.injEq] at q; omega)]
      exact h.new i hi
  · rw [World.cell?_setCell_other _ _ _ _ (by intro q; simp only [Addr.mk.injEq] at q; omega)]
    exact h.old o ho
theorem OnF.congr {w w' : World} {F k : Nat} {g g' : Nat → Value} (h : OnF w w' F k g) (e : ∀ j, j < 5 → g j = g' j) : OnF w w' F k g' := ⟨h.os, h.tape, h.output, h.size, h.block, fun j hj => by rw [← e j hj]; exact h.new j hj, h.old, h.froz⟩
def updA (a : Nat → Option Addr) (k : Nat) (x : Option Addr) : Nat → Option Addr := fun j => if j = k then x else a j
def updC (a : Nat → Nat) (k : Nat) (x : Nat) : Nat → Nat := fun j => if j = k then x else a j
def Mp.put (μ : Mp) (k : Nat) (f : Fr) (a : Option Addr) (c : Nat) : Mp := { μ with X := μ.X.put k f, a := updA μ.a k a, cp := updC μ.cp k c }
/-- the bytes of a frame's are good to have -/
def Fit (B : Nat) (w : World) (μ : Mp) (t : ByteArray) (a : Option Addr) (c : Nat) : Prop :=
  Lies w a (nums t) ∧ t.size ≤ c ∧ ∀ b off, a = some ⟨b, off, none⟩ → B ≤ b ∧ b < w.heap.size ∧ ¬ μ.has b
theorem Core.fit {B N : Nat} {w : World} {μ : Mp} (h : Core B N w μ) {k : Nat} (hk : k < μ.X.m) : Fit B w μ (μ.X.fr k).t (μ.a k) (μ.cp k) := ⟨h.by'.l k hk, h.by'.c k hk, h.by'.b k hk⟩
theorem Fit.nil (B : Nat) (w : World) (μ : Mp) (c : Nat) : Fit B w μ ⟨#[]⟩ none c := ⟨fun i hi => absurd hi (by simp [nums]), Nat.zero_le _, fun b off e => by cases e⟩
theorem put_bytes {μ : Mp} {k : Nat} {f : Fr} {a : Option Addr} {c b : Nat} (h : (μ.put k f a c).bytes b) : μ.bytes b ∨ ∃ off, a = some ⟨b, off, none⟩ := by
  obtain ⟨j, off, hj, e⟩ := h
  unfold Mp.put updA at e
  simp only at e
  split at e
  · exact .inr ⟨off, e⟩
  · exact .inl ⟨j, off, hj, e⟩
theorem Core.put {B N M : Nat} {w w' : World} {μ : Mp} (h : Core B N w μ) {k : Nat} (f : Fr) (a : Option Addr) (c : Nat) (hF : OnF w w' μ.F k (fv f a c)) (hf : Fit B w μ f.t a c) (ho : (μ.X.put k f).Ok M) : Core B M w' (μ.put k f a c) := by
  have hs : w.heap.size ≤ w'.heap.size := Nat.le_of_eq hF.size.symm
  refine ⟨h.d.same hs fun b hb => hF.block b (fun e => h.fx.sF (e ▸ hb)), h.t, ⟨h.fx.bP, h.fx.bF, h.fx.bM, h.fx.PF, h.fx.PM, h.fx.FM, h.fx.sP, h.fx.sF, h.fx.sM⟩, h.hd.same (hF.block _ h.fx.PF), ⟨fun j hj i hi => ?_, fun i => (hF.froz i).trans (h.row.fz i), Nat.lt_of_lt_of_le h.row.lt hs⟩, ⟨fun j hj => ?_, fun j hj b off e => ?_, fun j hj => ?_⟩, ho⟩
  · show w'.cell? ⟨μ.F, j * 5 + i, none⟩ = some (fv ((μ.X.put k f).fr j) (updA μ.a k a j) (updC μ.cp k c j) i)
    unfold updA updC
    rw [put_fr]
    by_cases e : j = k
    · subst e
      rw [if_pos rfl, if_pos rfl, if_pos rfl]
      exact hF.new i hi
    · rw [if_neg e, if_neg e, if_neg e, hF.old _ (by omega)]
      exact h.row.c j hj i hi
  · show Lies w' (updA μ.a k a j) (nums ((μ.X.put k f).fr j).t)
    unfold updA
    rw [put_fr]
    by_cases e : j = k
    · rw [if_pos e, if_pos e]
      exact lies_same hf.1 fun b off q => hF.block b (fun x => (hf.2.2 b off q).2.2 (.inr (.inl x)))
    · rw [if_neg e, if_neg e]
      exact lies_same (h.by'.l j hj) fun b off q => hF.block b (fun x => (h.by'.b j hj b off q).2.2 (.inr (.inl x)))
  · change updA μ.a k a j = _ at e
    unfold updA at e
    split at e
    · have := hf.2.2 b off e; exact ⟨this.1, by omega, this.2.2⟩
    · have := h.by'.b j hj b off e; exact ⟨this.1, by omega, this.2.2⟩
  · show ((μ.X.put k f).fr j).t.size ≤ updC μ.cp k c j
    unfold updC
    rw [put_fr]
    split
    · exact hf.2.1
    · exact h.by'.c j hj
theorem put_all {μ : Mp} {k : Nat} {f : Fr} {a : Option Addr} {c : Nat} {w0 : World} (hn : ∀ b off, a = some ⟨b, off, none⟩ → μ.all b ∨ w0.heap.size ≤ b) (b : Nat) (h : (μ.put k f a c).all b) : μ.all b ∨ w0.heap.size ≤ b := by
  rcases h with h | h
  · exact .inl (.inl h)
  · rcases put_bytes h with q | ⟨off, q⟩
    · exact .inl (.inr q)
    · exact hn b off q
theorem stp_put {w w' : World} {μ : Mp} {k : Nat} {f : Fr} {a : Option Addr} {c : Nat} {g : Nat → Value} (hF : OnF w w' μ.F k g) (hn : ∀ b off, a = some ⟨b, off, none⟩ → μ.all b ∨ w.heap.size ≤ b) : Stp w μ.all w' (μ.put k f a c).all :=
  Stp.write μ.F (.inl (.inr (.inl rfl))) hF.os hF.tape hF.output (Nat.le_of_eq hF.size.symm) (fun b _ hb => hF.block b hb) (put_all hn)
/-- a frame of the same sector -/
theorem PoolAt.put {B N M : Nat} {w w' : World} {μ : Mp} (h : PoolAt B N w μ) {k : Nat} (f : Fr) (a : Option Addr) (c : Nat) (hF : OnF w w' μ.F k (fv f a c)) (hi : f.i = (μ.X.fr k).i) (hf : Fit B w μ f.t a c) (ho : (μ.X.put k f).Ok M) : PoolAt B M w' (μ.put k f a c) := by
  refine ⟨h.core.put f a c hF hf ho, owns_same h.mo (hF.block _ (fun e => h.core.fx.FM e.symm)), h.mp.same rfl fun j _ => ?_⟩
  show ((μ.X.put k f).fr j).i = _
  rw [put_fr]
  split
  · rename_i e; rw [e, hi]
  · rfl

/-! the disk -/
theorem Core.disk {B N M : Nat} {w w' : World} {μ : Mp} (h : Core B N w μ) {s' : St} {d' : Dk} (hd : DiskAt B w' s') (hs : Step w μ.s w' s') (hD : s'.D = μ.s.D) (ht : Tie s' d') (hM : μ.M < w.heap.size) (ho : (μ.X.disk d').Ok M) : Core B M w' { μ with s := s', X := μ.X.disk d' } := by
  have fx := h.fx
  have lt := h.lt hM
  have hn : ∀ b, b < w.heap.size → ¬ μ.s.has b → ¬ s'.has b := fun b hb hn q => by rcases hs.own b q with e | e; exact hn e; omega
  refine ⟨hd, ht, ⟨fx.bP, fx.bF, fx.bM, fx.PF, fx.PM, fx.FM, hn _ (lt _ (.inl (.inl rfl))).2 fx.sP, hn _ (lt _ (.inl (.inr (.inl rfl)))).2 fx.sF, hn _ hM fx.sM⟩, ?_, h.row.same hs.size (hs.block _ h.row.lt fx.sF), ⟨fun k hk => lies_same (h.by'.l k hk) fun b off e => hs.block b (h.by'.b k hk b off e).2.1 (fun q => (h.by'.b k hk b off e).2.2 (.inr (.inr (.inr q)))), fun k hk b off e => ?_, h.by'.c⟩, ho⟩
  · show Head w' μ.P s'.D μ.F μ.X.m μ.M μ.X.hand μ.X.loads
    rw [hD]
    exact h.hd.same (hs.block _ (lt _ (.inl (.inl rfl))).2 fx.sP)
  · have := h.by'.b k hk b off e
    refine ⟨this.1, Nat.lt_of_lt_of_le this.2.1 hs.size, ?_⟩
    rintro (q | q | q | q)
    · exact this.2.2 (.inl q)
    · exact this.2.2 (.inr (.inl q))
    · exact this.2.2 (.inr (.inr (.inl q)))
    · exact hn b this.2.1 (fun x => this.2.2 (.inr (.inr (.inr x)))) q
theorem PoolAt.disk {B N M : Nat} {w w' : World} {μ : Mp} (h : PoolAt B N w μ) {s' : St} {d' : Dk} (hd : DiskAt B w' s') (hs : Step w μ.s w' s') (hD : s'.D = μ.s.D) (ht : Tie s' d') (ho : (μ.X.disk d').Ok M) : PoolAt B M w' { μ with s := s', X := μ.X.disk d' } :=
  ⟨h.core.disk hd hs hD ht h.mo.lt ho, owns_same h.mo (hs.block _ h.mo.lt h.core.fx.sM), h.mp.same rfl fun _ _ => rfl⟩
theorem stp_disk {w w' : World} {μ : Mp} {s' : St} {d' : Dk} (hs : Step w μ.s w' s') : Stp w μ.all w' ({ μ with s := s', X := μ.X.disk d' } : Mp).all := by
  refine ⟨hs.os, hs.tape, hs.output, hs.size, fun k hk hn => hs.block k hk (fun q => hn (.inl (.inr (.inr (.inr q))))), fun k hk => ?_⟩
  rcases hk with (q | q | q | q) | q
  · exact .inl (.inl (.inl q))
  · exact .inl (.inl (.inr (.inl q)))
  · exact .inl (.inl (.inr (.inr (.inl q))))
  · rcases hs.own k q with e | e
    · exact .inl (.inl (.inr (.inr (.inr e))))
    · exact .inr e
  · exact .inl (.inr q)

/-! the map -/
theorem owns_tight {w : World} {M n : Nat} {D : DataW Unit} (h : Owns w M n D) : Owns w M (Maps.size D) D := by
  obtain ⟨es, clock, hb, F, hs, rfl⟩ := h
  refine ⟨es, clock, hb, F, ?_, rfl⟩
  rw [Maps.size_eq, length_sorted]
  simp
theorem key_ne {i j : Int} (h : i ≠ j) : (Lit.int .i64 i) ≠ (Lit.int .i64 j) := by intro e; injection e with _ e; exact h e
end Go.Proofs.YtokikeenfpligaaGreatDoor

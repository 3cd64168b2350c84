/-
  DERIVED: THE SHELF's CONTRACTS AT THIS DUMP, IN PLAIN WORDS (tools/lay-plain.mjs out of 'YtokikeenfpligaaGreatDoorSk.lean', which tools/lay-shelf.mjs wrote): THE SAME DECLARATIONS UNDER THE SAME NAMES: 'import', 'namespace', 'open', 'def', 'theorem' AND NOTHING ELSE: no command of the shelf's: FOR A HAND-IN. Each laying: the table of numbers ('.._ren') and one theorem, a field a fact of the dump's own or the kernel's comparison; each contract: ONE APPLICATION.
  THE TABLES OF PAGES: the walk of tabled; a copy of a map. Conditions: those that each lemma names.
-/
import Derived.Ground.SlmcProg
import Derived.Ground.GgzProg
import Derived.Ground.SlgmProg
import Derived.Shelf.SlMaps.Clone
import Derived.Shelf.SlIterI.Nil
import Derived.Shelf.SortM.Plain
import Derived.Shelf.SortM.SortNone
import Derived.Test.YtokikeenfpligaaGreatDoorProg
import Derived.Test.YtokikeenfpligaaGreatDoorU32
namespace Go.Proofs
open Go.Shelf
def Tryz.cloneM_ren : Go.Shelf.Ren := ⟨fun | 5 => 77 | 7 => 105 | n => n, fun | 23 => 100 | 25 => 3 | 3 => 3 | 4 => 4 | 20 => 20 | n => n, fun | n => n⟩
theorem Tryz.cloneM : Go.Proofs.SlLaysW.n5 Tryz.prog Tryz.cloneM_ren := {
  mixed := by kernel_rfl
  f5 := ⟨Tryz.f77.name, by decide, Tryz.func77.trans (congrArg some (by kernel_rfl))⟩
  f7 := Tryz.func105.trans (congrArg some (by kernel_rfl))
  t4 := Tryz.underlying4
  a4 := Tryz.isAgg4
  z4 := Tryz.sizeOf4
  v4 := Tryz.zeroValue4
  t20 := Tryz.underlying20
  a20 := Tryz.isAgg20
  z20 := Tryz.sizeOf20
  v20 := Tryz.zeroValue20
  t23 := Tryz.underlying100
  a23 := Tryz.isAgg100
  z23 := Tryz.sizeOf100
  v23 := Tryz.zeroValue100 }
def Tryz.keysA_ren : Go.Shelf.Ren := ⟨fun | 7 => 62 | 10 => 99 | n => n, fun | 23 => 100 | 26 => 3 | 3 => 3 | 28 => 126 | 0 => 0 | 27 => 125 | 33 => 115 | 4 => 4 | n => n, fun | n => n⟩
theorem Tryz.keysA : Go.Proofs.SlLaysZI.n7 Tryz.prog Tryz.keysA_ren := {
  mixed := by kernel_rfl
  f7 := ⟨Tryz.f62.name, by decide, Tryz.func62.trans (congrArg some (by kernel_rfl))⟩
  f10 := ⟨Tryz.f99.name, by decide, Tryz.func99.trans (congrArg some (by kernel_rfl))⟩
  t0 := Tryz.underlying0
  a0 := Tryz.isAgg0
  z0 := Tryz.sizeOf0
  v0 := Tryz.zeroValue0
  t4 := Tryz.underlying4
  a4 := Tryz.isAgg4
  z4 := Tryz.sizeOf4
  v4 := Tryz.zeroValue4
  t23 := Tryz.underlying100
  a23 := Tryz.isAgg100
  z23 := Tryz.sizeOf100
  v23 := Tryz.zeroValue100
  t26 := Tryz.underlying3
  a26 := Tryz.isAgg3
  z26 := Tryz.sizeOf3
  v26 := Tryz.zeroValue3
  t27 := Tryz.underlying125
  a27 := Tryz.isAgg125
  z27 := Tryz.sizeOf125
  v27 := Tryz.zeroValue125
  t28 := Tryz.underlying126
  a28 := Tryz.isAgg126
  z28 := Tryz.sizeOf126
  v28 := Tryz.zeroValue126
  t33 := Tryz.underlying115
  a33 := Tryz.isAgg115
  z33 := Tryz.sizeOf115
  v33 := Tryz.zeroValue115 }
def Tryz.sortedA_ren : Go.Shelf.Ren := ⟨fun | 6 => 61 | 8 => 97 | 9 => 98 | 11 => 120 | 13 => 122 | 12 => 121 | 23 => 140 | 24 => 141 | 14 => 131 | 15 => 132 | 16 => 133 | 17 => 134 | 18 => 135 | 19 => 136 | 20 => 137 | 21 => 138 | 22 => 139 | 25 => 151 | 26 => 152 | 27 => 153 | 28 => 154 | 29 => 155 | 30 => 156 | 31 => 160 | n => n, fun | 26 => 3 | 28 => 126 | 24 => 59 | 0 => 0 | 3 => 3 | 37 => 25 | 48 => 39 | 50 => 40 | 4 => 4 | 40 => 215 | 39 => 214 | 45 => 98 | 5 => 5 | 9 => 9 | 51 => 230 | 55 => 234 | 57 => 241 | 58 => 242 | 33 => 115 | n => n, fun | n => n⟩
theorem Tryz.sortedA : Go.Proofs.SlLaysZI.n6 Tryz.prog Tryz.sortedA_ren := {
  mixed := by kernel_rfl
  f6 := ⟨Tryz.f61.name, by decide, Tryz.func61.trans (congrArg some (by kernel_rfl))⟩
  f8 := ⟨Tryz.f97.name, by decide, Tryz.func97.trans (congrArg some (by kernel_rfl))⟩
  f11 := ⟨Tryz.f120.name, by decide, Tryz.func120.trans (congrArg some (by kernel_rfl))⟩
  t0 := Tryz.underlying0
  a0 := Tryz.isAgg0
  z0 := Tryz.sizeOf0
  v0 := Tryz.zeroValue0
  t24 := Tryz.underlying59
  a24 := Tryz.isAgg59
  z24 := Tryz.sizeOf59
  v24 := Tryz.zeroValue59
  t26 := Tryz.underlying3
  a26 := Tryz.isAgg3
  z26 := Tryz.sizeOf3
  v26 := Tryz.zeroValue3
  t28 := Tryz.underlying126
  a28 := Tryz.isAgg126
  z28 := Tryz.sizeOf126
  v28 := Tryz.zeroValue126
  i26 := by kernel_rfl }
def Tryz.sortA_ren : Go.Shelf.Ren := ⟨fun | 5 => 98 | 8 => 122 | 7 => 121 | 19 => 140 | 20 => 141 | 10 => 131 | 11 => 132 | 12 => 133 | 13 => 134 | 14 => 135 | 15 => 136 | 16 => 137 | 17 => 138 | 18 => 139 | 30 => 151 | 31 => 152 | 32 => 153 | 33 => 154 | 34 => 155 | 35 => 156 | 40 => 160 | n => n, fun | 23 => 59 | 25 => 3 | 3 => 3 | 32 => 25 | 22 => 59 | 0 => 0 | 44 => 39 | 46 => 40 | 4 => 4 | 36 => 215 | 35 => 214 | 41 => 98 | 5 => 5 | 9 => 9 | 53 => 230 | 57 => 234 | 63 => 241 | 64 => 242 | n => n, fun | n => n⟩
theorem Tryz.sortA : Go.Proofs.SlLaysM.n5 Tryz.prog Tryz.sortA_ren := {
  mixed := by kernel_rfl
  f5 := ⟨Tryz.f98.name, by decide, Tryz.func98.trans (congrArg some (by kernel_rfl))⟩
  f7 := ⟨Tryz.f121.name, by decide, Tryz.func121.trans (congrArg some (by kernel_rfl))⟩
  f8 := Tryz.func122.trans (congrArg some (by kernel_rfl))
  f10 := ⟨Tryz.f131.name, by decide, Tryz.func131.trans (congrArg some (by kernel_rfl))⟩
  f11 := ⟨Tryz.f132.name, by decide, Tryz.func132.trans (congrArg some (by kernel_rfl))⟩
  f12 := ⟨Tryz.f133.name, by decide, Tryz.func133.trans (congrArg some (by kernel_rfl))⟩
  f13 := ⟨Tryz.f134.name, by decide, Tryz.func134.trans (congrArg some (by kernel_rfl))⟩
  f14 := ⟨Tryz.f135.name, by decide, Tryz.func135.trans (congrArg some (by kernel_rfl))⟩
  f15 := ⟨Tryz.f136.name, by decide, Tryz.func136.trans (congrArg some (by kernel_rfl))⟩
  f16 := ⟨Tryz.f137.name, by decide, Tryz.func137.trans (congrArg some (by kernel_rfl))⟩
  f17 := ⟨Tryz.f138.name, by decide, Tryz.func138.trans (congrArg some (by kernel_rfl))⟩
  f18 := ⟨Tryz.f139.name, by decide, Tryz.func139.trans (congrArg some (by kernel_rfl))⟩
  f19 := Tryz.func140.trans (congrArg some (by kernel_rfl))
  f20 := Tryz.func141.trans (congrArg some (by kernel_rfl))
  f30 := ⟨Tryz.f151.name, by decide, Tryz.func151.trans (congrArg some (by kernel_rfl))⟩
  f31 := Tryz.func152.trans (congrArg some (by kernel_rfl))
  f32 := Tryz.func153.trans (congrArg some (by kernel_rfl))
  f33 := ⟨Tryz.f154.name, by decide, Tryz.func154.trans (congrArg some (by kernel_rfl))⟩
  f34 := ⟨Tryz.f155.name, by decide, Tryz.func155.trans (congrArg some (by kernel_rfl))⟩
  f35 := ⟨Tryz.f156.name, by decide, Tryz.func156.trans (congrArg some (by kernel_rfl))⟩
  f40 := ⟨Tryz.f160.name, by decide, Tryz.func160.trans (congrArg some (by kernel_rfl))⟩
  t0 := Tryz.underlying0
  a0 := Tryz.isAgg0
  z0 := Tryz.sizeOf0
  v0 := Tryz.zeroValue0
  t3 := Tryz.underlying3
  a3 := Tryz.isAgg3
  z3 := Tryz.sizeOf3
  v3 := Tryz.zeroValue3
  t4 := Tryz.underlying4
  a4 := Tryz.isAgg4
  z4 := Tryz.sizeOf4
  v4 := Tryz.zeroValue4
  t5 := Tryz.underlying5
  a5 := Tryz.isAgg5
  z5 := Tryz.sizeOf5
  v5 := Tryz.zeroValue5
  t9 := Tryz.underlying9
  a9 := Tryz.isAgg9
  z9 := Tryz.sizeOf9
  v9 := Tryz.zeroValue9
  t22 := Tryz.underlying59
  a22 := Tryz.isAgg59
  z22 := Tryz.sizeOf59
  v22 := Tryz.zeroValue59
  t23 := Tryz.underlying59
  a23 := Tryz.isAgg59
  z23 := Tryz.sizeOf59
  v23 := Tryz.zeroValue59
  t25 := Tryz.underlying3
  a25 := Tryz.isAgg3
  z25 := Tryz.sizeOf3
  v25 := Tryz.zeroValue3
  t32 := Tryz.underlying25
  a32 := Tryz.isAgg25
  z32 := Tryz.sizeOf25
  v32 := Tryz.zeroValue25
  t35 := Tryz.underlying214
  a35 := Tryz.isAgg214
  z35 := Tryz.sizeOf214
  v35 := Tryz.zeroValue214
  t36 := Tryz.underlying215
  a36 := Tryz.isAgg215
  z36 := Tryz.sizeOf215
  v36 := Tryz.zeroValue215
  t41 := Tryz.underlying98
  a41 := Tryz.isAgg98
  z41 := Tryz.sizeOf98
  v41 := Tryz.zeroValue98
  t44 := Tryz.underlying39
  a44 := Tryz.isAgg39
  z44 := Tryz.sizeOf39
  v44 := Tryz.zeroValue39
  t46 := Tryz.underlying40
  a46 := Tryz.isAgg40
  z46 := Tryz.sizeOf40
  v46 := Tryz.zeroValue40
  t53 := Tryz.underlying230
  a53 := Tryz.isAgg230
  z53 := Tryz.sizeOf230
  v53 := Tryz.zeroValue230
  t57 := Tryz.underlying234
  a57 := Tryz.isAgg234
  z57 := Tryz.sizeOf234
  v57 := Tryz.zeroValue234
  t63 := Tryz.underlying241
  a63 := Tryz.isAgg241
  z63 := Tryz.sizeOf241
  v63 := Tryz.zeroValue241
  t64 := Tryz.underlying242
  a64 := Tryz.isAgg242
  z64 := Tryz.sizeOf242
  v64 := Tryz.zeroValue242 }
end Go.Proofs
namespace Go.Proofs.YtokikeenfpligaaGreatDoor.Sh
open Go.RowKit Go.Maps

def ClonedM (w : World) (n : Nat) (D : DataW Unit) (e : Ending) (w' : World) : Prop := e = .returned (.map (some w.heap.size)) ∧ Owns w' w.heap.size n D ∧ Below w.heap.size w w'
theorem clone_any (b n : Nat) (D : DataW Unit) (w : World) (hown : Owns w b n D) :
    Calls Tryz.prog 77 #[.map (some b)] w (ClonedM w n D) := by
  have hcon := AnyW.maps_Clone_owns Tryz.cloneM 3 (plainElem Tryz.prog 3) b n D w hown
  change Calls Tryz.prog 77 _ _ _ at hcon
  exact hcon.mono fun e w' ⟨he, h1, _, hB⟩ => ⟨he, h1, hB⟩

/-- tables in memory: B the block of their slices, a block of numbers each behind it -/
structure TabAt (w : World) (B c : Nat) (g : Nat → Nat) : Prop where
  s : ∀ i, i < c → w.cell? ⟨B, i, none⟩ = some (.slice (some ⟨B + 1 + i, 0, none⟩) 123 123)
  r : ∀ i, i < c → ∀ j, j < 123 → w.cell? ⟨B + 1 + i, j, none⟩ = some (.int .i64 (g (i * 123 + j) : Int))
  f : ∀ i, i < c → ∀ j, w.frozen? ⟨B + 1 + i, j, none⟩ = false
  z : B + c < w.heap.size
theorem TabAt.same {w w' : World} {B c : Nat} {g : Nat → Nat} (h : TabAt w B c g) (hb : ∀ k, B ≤ k → k ≤ B + c → w'.heap[k]? = w.heap[k]?) (hs : w.heap.size ≤ w'.heap.size) : TabAt w' B c g :=
  ⟨fun i hi => (World.cell?_of_block (hb B (by omega) (by omega))).trans (h.s i hi), fun i hi j hj => (World.cell?_of_block (hb (B + 1 + i) (by omega) (by omega))).trans (h.r i hi j hj), fun i hi j => (World.frozen?_of_block (hb (B + 1 + i) (by omega) (by omega))).trans (h.f i hi j), by have := h.z; omega⟩
theorem TabAt.below {w w' : World} {B c : Nat} {g : Nat → Nat} (h : TabAt w B c g) (hb : Below w.heap.size w w') : TabAt w' B c g := h.same (fun k _ hk => hb.block k (by have := h.z; omega)) hb.size
set_option maxRecDepth 100000 in
theorem info_si : (Tryz.prog.info? 59).map (fun i => (i.zero, i.size, i.bytes)) = some (some (.slice none 0 0), 1, 24) := by kernel_rfl
set_option maxRecDepth 100000 in
theorem make_si (n : Nat) (hn : n ≤ 1000) (w : World) : (Instr.makeSlice 117 (.int .i64 n) (.int .i64 n)).run Tryz.prog w = .ok (.slice (some ⟨w.heap.size, 0, none⟩) n n) (w.alloc (.cells (Array.replicate n (.slice none 0 0)) 59)) := by
  rw [run_make_row' (P := Tryz.prog) 117 59 (.slice none 0 0) 24 Tryz.underlying117 info_si rfl .i64 .i64 n (by omega) (by omega) w, made_eq]
set_option maxRecDepth 100000 in
theorem make_123 (w : World) : (Instr.makeSlice 59 (.int .i64 123) (.int .i64 123)).run Tryz.prog w = .ok (.slice (some ⟨w.heap.size, 0, none⟩) 123 123) (w.alloc (.cells (Array.replicate 123 (.int .i64 0)) 3)) := by
  have := run_make_row' (P := Tryz.prog) 59 3 (.int .i64 0) 8 Tryz.underlying59 info_i rfl .i64 .i64 123 (by omega) (by omega) w
  rw [made_eq] at this
  exact this
/-- so many tables are made -/
structure MadeT (w wr : World) (B c k : Nat) : Prop where
  s : ∀ i, i < c → wr.cell? ⟨B, i, none⟩ = some (if i < k then .slice (some ⟨B + 1 + i, 0, none⟩) 123 123 else .slice none 0 0)
  fs : ∀ i, wr.frozen? ⟨B, i, none⟩ = false
  r : ∀ i, i < k → ∀ j, j < 123 → wr.cell? ⟨B + 1 + i, j, none⟩ = some (.int .i64 0)
  f : ∀ i, i < k → ∀ j, wr.frozen? ⟨B + 1 + i, j, none⟩ = false
  z : wr.heap.size = B + 1 + k
  b : Below B w wr
theorem MadeT.next {w wr : World} {B c k : Nat} (h : MadeT w wr B c k) (hk : k < c) : MadeT w ((wr.alloc (.cells (Array.replicate 123 (.int .i64 0)) 3)).setCell ⟨B, k, none⟩ (.slice (some ⟨wr.heap.size, 0, none⟩) 123 123)) B c (k + 1) := by
  have hz := h.z
  have hnew := heap_alloc_new wr (.cells (Array.replicate 123 (Value.int .i64 0)) 3)
  have hold : ∀ b, b < wr.heap.size → (wr.alloc (.cells (Array.replicate 123 (Value.int .i64 0)) 3)).heap[b]? = wr.heap[b]? := fun b hb => Go.heap_alloc_old _ _ hb
  have hne : ∀ i, ¬ B + 1 + i = B := fun i => by omega
  refine ⟨fun i hi => ?_, fun i => ?_, fun i hi j hj => ?_, fun i hi j => ?_, by simp; omega, ((h.b.alloc (by omega) _).setCell (by exact Nat.le_refl _) _)⟩
  · have hcur : (wr.alloc (.cells (Array.replicate 123 (Value.int .i64 0)) 3)).cell? ⟨B, i, none⟩ = wr.cell? ⟨B, i, none⟩ := World.cell?_of_block (hold B (by omega))
    by_cases e : i = k
    · subst e
      rw [World.cell?_setCell_same _ _ _ (hcur.trans (h.s i hi)), if_pos (by omega), hz]
    · rw [World.cell?_setCell_other _ _ _ _ (by intro q; simp only [Addr.mk.injEq] at q; omega), hcur, h.s i hi]
      by_cases e2 : i < k
      · rw [if_pos e2, if_pos (by omega)]
      · rw [if_neg e2, if_neg (by omega)]
  · rw [World.frozen?_setCell, World.frozen?_of_block (hold B (by omega))]; exact h.fs i
  · rw [World.cell?_setCell_other _ _ _ _ (by intro q; simp only [Addr.mk.injEq] at q; exact hne i q.1.symm)]
    by_cases e : i = k
    · subst e
      rw [← hz, cell_of_row _ _ _ _ _ _ hnew]
      simp [hj]
    · rw [World.cell?_of_block (hold (B + 1 + i) (by omega))]; exact h.r i (by omega) j hj
  · rw [World.frozen?_setCell]
    by_cases e : i = k
    · subst e
      rw [← hz]; exact frozen_of_row _ _ _ _ _ hnew
    · rw [World.frozen?_of_block (hold (B + 1 + i) (by omega))]; exact h.f i (by omega) j
def lf (f : Nat → Nat) (left : Lit → Bool) (k : Nat) : Nat := if left (lk k) = true then 0 else f k
theorem grown_set (w : World) (g o : Nat) (v : Value) : w.grownBy (w.setCell ⟨g, o, none⟩ v) (some g) :=
  ⟨rfl, rfl, rfl, by rw [World.size_setCell]; exact Nat.le_refl _, fun i _ hne => Below.heap_setCell _ _ _ _ (fun e => hne (by have e2 : i = g := e; rw [e2]))⟩
theorem TabAt.put {w : World} {B c : Nat} {g : Nat → Nat} (h : TabAt w B c g) (k : Nat) (_hk : k / 123 < c) (x : Nat) : TabAt (w.setCell ⟨B + 1 + k / 123, k % 123, none⟩ (.int .i64 (x : Int))) B c (fun j => if j = k then x else g j) := by
  refine ⟨fun i hi => set_ne (h.s i hi) (.inl (by omega)), fun i hi j hj => ?_, fun i hi j => by rw [World.frozen?_setCell]; exact h.f i hi j, by rw [World.size_setCell]; exact h.z⟩
  by_cases e : i * 123 + j = k
  · have e1 : k / 123 = i := by omega
    have e2 : k % 123 = j := by omega
    rw [e1, e2, if_pos e]
    exact World.cell?_setCell_same _ _ _ (h.r i hi j hj)
  · rw [if_neg e]
    exact set_ne (h.r i hi j hj) (by
      by_cases q : B + 1 + i = B + 1 + k / 123
      · right
        intro q2
        omega
      · exact .inl q)
def Tabled (w : World) (f : Nat → Nat) (e : Ending) (w' : World) : Prop := ∃ B c, e = .returned (.slice (some ⟨B, 0, none⟩) c c) ∧ IsTbl f c ∧ TabAt w' B c f ∧ w.heap.size ≤ B ∧ Below w.heap.size w w'
theorem lf_step (f : Nat → Nat) (left : Lit → Bool) (k : Nat) : (fun j => if j = k then f k else lf f left j) = lf f (fun z => left z && !z.sameKey (lk k)) := by
  funext j
  unfold lf
  simp only [same_lk]
  by_cases e : j = k
  · subst e
    simp
  · simp [e]
theorem made_tab {w1 wr w3 : World} {b c : Nat} {f : Nat → Nat} {D : DataW Unit} (h : MadeT w1 wr b c c) (hf : MpF f D) (hg : wr.grownBy w3 none) : TabAt w3 b c (lf f (Maps.has D)) := by
  have hz := h.z
  have hb : ∀ k, k < wr.heap.size → w3.heap[k]? = wr.heap[k]? := fun k hk => hg.block k hk (by simp)
  have h0 : ∀ j, lf f (Maps.has D) j = 0 := fun j => by
    unfold lf
    split
    · rfl
    · rename_i e
      by_cases e0 : f j = 0
      · exact e0
      · exact absurd ((hf.has (j : Int)).2 ⟨j, rfl, e0⟩) e
  refine ⟨fun i hi => ?_, fun i hi j hj => ?_, fun i hi j => ?_, by have := hg.size; omega⟩
  · rw [World.cell?_of_block (hb b (by omega)), h.s i hi, if_pos hi]
  · rw [World.cell?_of_block (hb (b + 1 + i) (by omega)), h.r i hi j hj, h0]; rfl
  · rw [World.frozen?_of_block (hb (b + 1 + i) (by omega))]; exact h.f i hi j
set_option maxRecDepth 100000 in
set_option maxHeartbeats 1000000 in
theorem tabled_any (b n : Nat) (f : Nat → Nat) (D : DataW Unit) (w : World) (hown : Owns w b n D) (hf : MpF f D) :
    Calls Tryz.prog 58 #[.map (some b)] w (Tabled w f) := by
  have HO := Lib.hid hown
  have HF := Lib.hid hf
  clear hown hf
  go_enter Tryz.func58, Tryz.ntmps58
  go_wp2_with fail
  refine (tablesFor_any b n f D _ HO.out HF.out).mono ?_
  rintro e w1 ⟨c, rfl, hc, hb1⟩
  have hc122 := hc.le HF.out
  have HC := Lib.hid hc
  have HB1 := Lib.hid hb1
  have hmk := make_si c (by omega) w1
  have c0 : (0 : Int) ≤ (c : Int) := by omega
  clear hc hb1
  go_wp2
  have HM0 := Lib.hid (show MadeT w1 (w1.alloc (.cells (Array.replicate c (.slice none 0 0)) 59)) w1.heap.size c 0 from
    ⟨fun i hi => by rw [cell_of_row _ _ _ _ _ _ (heap_alloc_new _ _), if_neg (by omega)]; simp [hi], fun i => frozen_of_row _ _ _ _ _ (heap_alloc_new _ _), fun i hi => absurd hi (by omega), fun i hi => absurd hi (by omega), by simp, (Below.refl _ _).alloc (Nat.le_refl _) _⟩)
  generalize w1.alloc (.cells (Array.replicate c (.slice none 0 0)) 59) = w2 at HM0 ⊢
  clear hmk
  go_loopw [12, 4] (fun i _ wr => ∃ k : Nat, k ≤ c ∧ i = .int .i64 k ∧ Hid (MadeT w1 wr w1.heap.size c k)) (fun i _ _ => c - (intOf i).toNat)
  case atStart => exact ⟨0, by omega, rfl, HM0⟩
  case round =>
    obtain ⟨k, hk, rfl, HM⟩ := hrel
    by_cases hlt : k < c
    · have hmk := make_123 wr
      have c1 := HM.out.s k hlt
      have c2 : (wr.alloc (.cells (Array.replicate 123 (Value.int .i64 0)) 3)).cell? ⟨w1.heap.size, k, none⟩ = wr.cell? ⟨w1.heap.size, k, none⟩ := World.cell?_of_block (Go.heap_alloc_old _ _ (show w1.heap.size < wr.heap.size by have := HM.out.z; omega))
      rw [c1] at c2
      have f2 : (wr.alloc (.cells (Array.replicate 123 (Value.int .i64 0)) 3)).frozen? ⟨w1.heap.size, k, none⟩ = false := by rw [World.frozen?_of_block (Go.heap_alloc_old _ _ (show w1.heap.size < wr.heap.size by have := HM.out.z; omega))]; exact HM.out.fs k
      rw [if_neg (Nat.lt_irrefl k)] at c2
      have HN := Lib.hid (HM.out.next hlt)
      have k0 : (0 : Int) ≤ (k : Int) := by omega
      have k1 : (k : Int) < (c : Int) := by omega
      clear c1
      go_wp2
      go_roundw
      case rel => exact ⟨k + 1, by omega, by go_num, HN⟩
      case measure => simp [intOf]; omega
    · obtain rfl : k = c := by omega
      have HOr := Lib.hid (show Owns wr b n D from owns_same HO.out (((HM.out.b.block b (by have := HB1.out.size; have := HO.out.lt; omega))).trans (HB1.out.block b HO.out.lt)))
      go_wp2_with (at_range; refine wpList_range_own _ rfl _ 100 rfl 3 3 klaw Tryz.underlying100 _ b n _ rfl HOr.out ?_; intro w3 hrg0 hg0 hs0)
      go_frame
      have HZ := Lib.hid HM.out.z
      have HB3 := Lib.hid (HM.out.b.grown hg0 (by have := HM.out.z; omega) (fun j hj => by cases hj))
      have HT0 := Lib.hid (made_tab HM.out HF.out hg0)
      have HR0 := Lib.hid hrg0
      have HNE := Lib.hid (show b < w1.heap.size by have := HB1.out.size; have := HO.out.lt; omega)
      clear hrg0 hg0 hs0 HM HM0 hk
      obtain ⟨R, hR⟩ : ∃ R, R = wr.heap.size := ⟨_, rfl⟩
      obtain ⟨B, hB⟩ : ∃ B, B = w1.heap.size := ⟨_, rfl⟩
      rw [← hR] at HR0 HZ ⊢
      rw [← hB] at HB3 HT0 HZ HNE ⊢
      have HBB := Lib.hid hB
      clear hR hB HOr
      go_loopw [5, 6] (fun _ _ wq => ∃ (left : Lit → Bool) (cnt : Nat), Hid (wq.ranges Tryz.prog 3 (plainElem Tryz.prog 3) b R n D left cnt) ∧ Hid (TabAt wq B k (lf f left)) ∧ Hid (Below B w1 wq)) (fun _ _ wq => wq.rangeLeft b R)
      case atStart => exact ⟨_, _, HR0, HT0, HB3⟩
      case round =>
        obtain ⟨left, cnt, HR, HT, HB⟩ := hrel
        go_wp2_with (at_next; refine wpList_next_ranges_ii _ rfl _ rfl 3 3 .i64 .i64 klaw Tryz.underlying3 Tryz.underlying3 b R n _ _ _ rfl HR.out ?_ ?_)
        · intro hc0 hl0
          have he : lf f left = f := by funext j; unfold lf; rw [hl0]; rfl
          have hT := HT.out
          rw [he] at hT
          have HE := Lib.hid (show Tabled w f (.returned (.slice (some ⟨B, 0, none⟩) k k)) wr from ⟨B, k, rfl, HC.out, hT, by rw [HBB.out]; exact HB1.out.size, HB1.out.trans (HB.out.mono (by rw [HBB.out]; exact HB1.out.size))⟩)
          clear he hT
          clear hl0
          go_wp2
          go_ret
          exact HE.out
        · intro x y w4 cnt1 hwx hwy hlx hat hrg1 hlt1 hg1 hs1 hen
          obtain ⟨j, rfl, hj, rfl⟩ := HF.out.key_of hat
          have hjb := HF.out.bnd j hj
          have hjc : j / 123 < k := by have := HC.out.1 j hj; omega
          have HT1 := Lib.hid (show TabAt w4 B k (lf f left) from HT.out.same (fun i hi hi2 => hg1.block i (by have := HT.out.z; omega) (fun e => by have e2 : i = R := Option.some.inj e; have := HZ.out; omega)) hg1.size)
          have cs := HT1.out.s (j / 123) hjc
          have cr := HT1.out.r (j / 123) hjc (j % 123) (Nat.mod_lt _ (by decide))
          have fr := HT1.out.f (j / 123) hjc (j % 123)
          have HT2 := Lib.hid (HT1.out.put j hjc (f j))
          rw [lf_step] at HT2
          have HR2 := Lib.hid (hrg1.kept (grown_set w4 (B + 1 + j / 123) (j % 123) (.int .i64 (f j : Int))) (fun e => by have e2 : b = B + 1 + j / 123 := Option.some.inj e; have := HNE.out; omega) (fun e => by have e2 : R = B + 1 + j / 123 := Option.some.inj e; have := HZ.out; omega))
          have HB2 := Lib.hid ((HB.out.grown hg1 (by rw [HBB.out]; exact HB.out.size) (fun i hi => by have e2 : R = i := Option.some.inj hi; have := HZ.out; omega)).setCell (p := ⟨B + 1 + j / 123, j % 123, none⟩) (by show B ≤ B + 1 + j / 123; omega) (.int .i64 (f j : Int)))
          have HLT := Lib.hid hlt1
          have j0 : (0 : Int) ≤ (j : Int) := by omega
          have j1 : (j : Int) ≤ 15006 := by omega
          have hq : (j : Int) / 123 = ((j / 123 : Nat) : Int) := by omega
          have hr : (j : Int) % 123 = ((j % 123 : Nat) : Int) := by omega
          have hqk : ((j / 123 : Nat) : Int) < (k : Int) := by omega
          have hr1 : ((j % 123 : Nat) : Int) < 123 := by omega
          generalize (lf f left (j / 123 * 123 + j % 123)) = old at cr
          generalize j / 123 = q at hq hqk cs cr fr HT2 HR2 HB2
          generalize j % 123 = r at hr hr1 cr fr HT2 HR2 HB2
          clear hat hrg1 hlt1 hg1 hs1 hwx hwy hlx hj
          go_wp2
          exact ⟨⟨_, cnt1, HR2, HT2, HB2⟩, by rw [HR2.out.left_eq, HR.out.left_eq]; exact HLT.out⟩
end Go.Proofs.YtokikeenfpligaaGreatDoor.Sh

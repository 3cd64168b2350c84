/-
  THE WALK of tile.lay: tiles laid side by side. Conditions: two or three in a row, as many rows.
-/
import Derived.Shelf.RegionOpen
import Derived.RangeFuncCalls
import Derived.Test.YtlejohclijjhnaaGreatDoorL22
namespace Go.Proofs.YtlejohclijjhnaaGreatDoor
open Go.RowKit Go.Shelf Ti

attribute [local go_sem] Oper.semAt_some

/-- in a round all but a deferred call is done as everywhere -/
theorem oper_round {F : Fence} (l : Nat) {n : Nat} {P : Program} {o : Oper} {a : Go.Act} {w : World} {K : Go.Act → World → Prop} {Q : Exit → Go.Act → World → Prop} (hd : ∀ c, o.op ≠ .defer c) (h : o.wpIn F n P a w K Q) : o.wpIn (F.inRound l) n P a w K Q := by
  refine ⟨h.1, ?_⟩
  have h2 := h.2
  rw [Oper.semAt_eq _ _ _ hd] at h2 ⊢
  exact h2
theorem any_round {F : Fence} (l : Nat) {n : Nat} {P : Program} {md : Region.Mode} {ops : Array Oper} {Q : Exit → Go.Act → World → Prop} (hd : ∀ o ∈ ops.toList, ∀ c, o.op ≠ .defer c) : ∀ (fuel : Nat) (listed : Array Bool) (a : Go.Act) (w : World), wpAnyIn F n P md ops Q fuel listed a w → wpAnyIn (F.inRound l) n P md ops Q fuel listed a w
  | 0, _, _, _, h => h
  | fuel + 1, listed, a, w, h => by
    refine ⟨h.1, fun i hi => ?_⟩
    have h2 := h.2 i hi
    unfold wpOpIn at h2 ⊢
    cases ho : ops[i]? with
    | none => simp only [ho] at h2 ⊢; exact any_round l hd fuel _ _ _ h2
    | some o =>
      simp only [ho] at h2 ⊢
      split at h2
      · rename_i hw
        rw [if_pos hw]
        exact Oper.wpIn_mono (fun a w => any_round l hd fuel _ a w) (oper_round l (hd o (Array.mem_toList_iff.2 (Array.mem_of_getElem? ho))) h2)
      · rename_i hw
        rw [if_neg hw]
        exact ⟨h2.1, any_round l hd fuel _ _ _ h2.2⟩
/-- the marks of loops over functions that have ended: each leads to a block of its own, which holds no call -/
def Marks (B : Nat) (w : World) : Nat → List Deferred → Prop
  | _, [] => True
  | U, d :: ds => ∃ D, d = { target := .collected D, args := #[] } ∧ B ≤ D ∧ D < U ∧ w.heap[D]? = some (.deferred (some [])) ∧ Marks B w D ds
theorem Marks.up {B : Nat} {w : World} : ∀ {U V : Nat} {ds : List Deferred}, U ≤ V → Marks B w U ds → Marks B w V ds
  | _, _, [], _, _ => trivial
  | _, _, _ :: _, h, ⟨D, e, h1, h2, h3, h4⟩ => ⟨D, e, h1, by omega, h3, h4⟩
theorem Marks.keep {B : Nat} {w w' : World} : ∀ {U : Nat} {ds : List Deferred}, (∀ k, k < U → ∀ o : Obj, w.heap[k]? = some o → o.isCells = false → w'.heap[k]? = some o) → Marks B w U ds → Marks B w' U ds
  | _, [], _, _ => trivial
  | _, _ :: _, h, ⟨D, e, h1, h2, h3, h4⟩ => ⟨D, e, h1, h2, h D h2 _ h3 rfl, Marks.keep (fun k hk => h k (by omega)) h4⟩
theorem Marks.drew {B : Nat} {w : World} {U : Nat} {ds : List Deferred} (h : Marks B w U ds) : Marks B w.drew U ds := Marks.keep (w := w) (w' := w.drew) (fun _ _ _ q _ => q) h
/-- a function that leaves with marks alone -/
theorem leaves_marks {F : Fence} {n : Nat} {P : Program} {fn : Func} {tmps : Array Value} {R : Ending → World → Prop} {B : Nat} : ∀ (ds : List Deferred) (U : Nat) (w : World), Marks B w U ds → B ≤ w.heap.size →
    (∀ w', Below B w w' → (∀ (k : Nat) (o : Obj), w.heap[k]? = some o → o.isCells = true → w'.heap[k]? = some o) → LeavesIn F n P fn tmps R [] .returning w') → LeavesInM F n P fn tmps R ds .returning w
  | [], _, w, _, _, h => h w (Below.refl _ _) (fun _ _ h _ => h)
  | d :: ds, U, w, ⟨D, e, h1, h2, h3, h4⟩, hB, h => by
    subst e
    refine ⟨by simp, .inl ⟨D, _, rfl, run_takeDeferred h3, ?_⟩⟩
    have hs : (w.putObj D (.deferred none)).heap.size = w.heap.size := by simp
    have hbl : Below B w (w.putObj D (.deferred none)) := (Below.refl B w).grown (grownBy_putObj' w D _) hB (fun k e => by cases e; exact h1)
    refine leaves_marks ds D _ (h4.keep (fun k hk o ho _ => (World.putObj_heap_other (by omega)).trans ho)) (by omega) (fun w' hw' hc => h w' (hbl.trans hw') (fun k o hk ho => hc k o ?_ ho))
    refine (World.putObj_heap_other ?_).trans hk
    intro e
    subst e
    rw [h3] at hk
    cases hk
    cases ho
/-- how the rows of one tile are laid, those that have come -/
def onTo (k i : Nat) (t : T6) (F : Nat → R3) (pre : List (Fin 8)) : Nat → R3 :=
  pre.foldl (fun F j => upd F (i / k * 8 + j.val) (F (i / k * 8 + j.val) ||| (rowB t j.val) <<< (i % k * 8))) F
theorem onTo_snoc (k i : Nat) (t : T6) (F : Nat → R3) (pre : List (Fin 8)) (j : Fin 8) : onTo k i t F (pre ++ [j]) = upd (onTo k i t F pre) (i / k * 8 + j.val) (onTo k i t F pre (i / k * 8 + j.val) ||| (rowB t j.val) <<< (i % k * 8)) := by
  simp [onTo]
theorem onTo_lay {t : Nat → T6} {k i : Nat} {F : Nat → R3} (hk : k = 2 ∨ k = 3) (h : LayAt t k i 0 F) (hi : i < k * k) : ∀ m, m ≤ 8 → LayAt t k i m (onTo k i (t i) F (up8 m))
  | 0, _ => h
  | m + 1, hm => by
    rw [up8_succ, onTo_snoc, f8_val m (by omega)]
    exact (onTo_lay hk h hi m (by omega)).row hk (by omega) hi
/-- what lay has made so far -/
structure Laying (k m : Nat) (F : Nat → R3) (w ws : World) : Prop where
  row : ws.heap[w.heap.size]? = some (.cells (frow F (8 * k)) 68)
  box : Boxed ws (w.heap.size + 1) 177 (.slice (some ⟨w.heap.size, 0, none⟩) (8 * k) (8 * k))
  below : Below w.heap.size w ws
  size : w.heap.size + 2 ≤ ws.heap.size
theorem laying_new (k : Nat) (w : World) : Laying k 0 (fun _ => 0#32) w ((w.alloc (.cells (frow (fun _ => 0#32) (8 * k)) 68)).alloc (.cells #[.slice (some ⟨w.heap.size, 0, none⟩) (8 * k) (8 * k)] 177)) := by
  have k1 := heap_alloc_new w (.cells (frow (fun _ => 0#32) (8 * k)) 68)
  have h1 := alX w (.cells (frow (fun _ => 0#32) (8 * k)) 68)
  have z1 : (w.alloc (.cells (frow (fun _ => 0#32) (8 * k)) 68)).heap.size = w.heap.size + 1 := by simp
  generalize w.alloc (.cells (frow (fun _ => 0#32) (8 * k)) 68) = w1 at *
  have h2 := alX w1 (.cells #[.slice (some ⟨w.heap.size, 0, none⟩) (8 * k) (8 * k)] 177)
  refine ⟨(h2.block _ (by omega)).trans k1, ?_, h1.trans (h2.mono (by omega)), by simp; omega⟩
  rw [← z1]
  exact Boxed.new w1 _ _
/-- what holds between two rounds of the loop over a tile's rows -/
structure LayI (k i : Nat) (t : T6) (F : Nat → R3) (A C U : Nat) (ds : List Deferred) (w : World) (pre : List (Fin 8)) (W : World) : Prop where
  row : W.heap[w.heap.size]? = some (.cells (frow (onTo k i t F pre) (8 * k)) 68)
  box : Boxed W (w.heap.size + 1) 177 (.slice (some ⟨w.heap.size, 0, none⟩) (8 * k) (8 * k))
  ba : Boxed W A 3 (.int .i64 ((i % k * 8 : Nat) : Int))
  bc : Boxed W C 3 (.int .i64 ((i / k * 8 : Nat) : Int))
  below : Below w.heap.size w W
  marks : Marks w.heap.size W U ds
theorem LayI.own {k i : Nat} {t : T6} {F : Nat → R3} {A C U : Nat} {ds : List Deferred} {w : World} {B : Nat} (hU : U ≤ B) (hB : w.heap.size ≤ B) : OwnFrom B (LayI k i t F A C U ds w) :=
  fun s W W' row hs hg hr => ⟨(grownBy_keeps_cells hg (fun r e => (hr r e).2) hs.row rfl).trans hs.row, (grownBy_keeps_cells hg (fun r e => (hr r e).2) hs.box rfl).trans hs.box, (grownBy_keeps_cells hg (fun r e => (hr r e).2) hs.ba rfl).trans hs.ba, (grownBy_keeps_cells hg (fun r e => (hr r e).2) hs.bc rfl).trans hs.bc,
    ownFrom_below (β := List (Fin 8)) (Nat.le_refl _) hB s W W' row hs.below hg hr, hs.marks.keep (fun k hk o ho _ => (hg.block k (Array.getElem?_eq_some_iff.1 ho).1 (fun e => by have := (hr k e.symm).1; omega)).trans ho)⟩
theorem LayI.set {k i : Nat} {t : T6} {F : Nat → R3} {A C U : Nat} {ds : List Deferred} {w : World} {pre : List (Fin 8)} {W : World} (h : LayI k i t F A C U ds w pre W) (hA : w.heap.size < A) (hC : w.heap.size < C) (x : Fin 8) (v : R3) (hv : v = onTo k i t F pre (i / k * 8 + x.val) ||| (rowB t x.val) <<< (i % k * 8)) :
    LayI k i t F A C U ds w (pre ++ [x]) (W.setCell ⟨w.heap.size, i / k * 8 + x.val, none⟩ (.int .u32 (r3 v))) := by
  have o : ∀ b, ¬ b = w.heap.size → (W.setCell ⟨w.heap.size, i / k * 8 + x.val, none⟩ (.int .u32 (r3 v))).heap[b]? = W.heap[b]? := fun b hb => heap_setCell_other _ _ _ _ (by simpa using hb)
  refine ⟨?_, (o _ (by omega)).trans h.box, (o _ (by omega)).trans h.ba, (o _ (by omega)).trans h.bc, h.below.setCell (p := ⟨w.heap.size, i / k * 8 + x.val, none⟩) (Nat.le_refl _) _, h.marks.keep (fun b hb q hq hc => ?_)⟩
  · rw [onTo_snoc, ← hv]
    exact fr_set h.row _
  · by_cases e : b = w.heap.size
    · subst e
      rw [h.row] at hq
      cases hq
      cases hc
    · exact (o b e).trans hq
theorem layI_start {k i : Nat} {F : Nat → R3} {A C : Nat} {ds : List Deferred} {w wr w2 W0 : World} (h : Laying k 0 F w wr) (hm : Marks w.heap.size wr wr.heap.size ds) (hA : Boxed w2 A 3 (.int .i64 ((i % k * 8 : Nat) : Int))) (hC : Boxed w2 C 3 (.int .i64 ((i / k * 8 : Nat) : Int))) (h2 : Below wr.heap.size wr w2) (h0 : Below w2.heap.size w2 W0) (t : T6) :
    LayI k i t F A C wr.heap.size ds w [] W0 := by
  have h3 : Below wr.heap.size wr W0 := h2.trans (h0.mono h2.size)
  exact ⟨(h3.block _ (lt_of_block h.row)).trans h.row, (h3.block _ (lt_of_block h.box)).trans h.box, (h0.block _ (lt_of_block hA)).trans hA, (h0.block _ (lt_of_block hC)).trans hC, h.below.trans (h3.mono h.below.size), hm.keep (fun k hk o ho _ => (h3.block _ hk).trans ho)⟩
theorem ac_lt {a b c d : Nat} (h : a + 2 ≤ b) (h1 : b ≤ c) (h2 : b ≤ d) : a < c ∧ a < d := by omega
theorem marks_cons {B D U : Nat} {W : World} {ds : List Deferred} (hB : B ≤ U) (hU : U ≤ D) (hK : W.heap[D]? = some (.deferred (some []))) (h : Marks B W U ds) : Marks B W W.heap.size ({ target := .collected D, args := #[] } :: ds) :=
  ⟨D, rfl, Nat.le_trans hB hU, (Array.getElem?_eq_some_iff.1 hK).1, hK, h.up hU⟩
theorem LayI.end_ {k i : Nat} {t : Nat → T6} {F : Nat → R3} {A C U D : Nat} {ds : List Deferred} {w W : World} (h : LayI k i (t i) F A C U ds w (up8 8) W) (hk : k = 2 ∨ k = 3) (hi : i < k * k) (hl : LayAt t k i 0 F) (hB : w.heap.size ≤ U) (hU : U ≤ D) (hK : W.heap[D]? = some (.deferred (some []))) :
    Laying k 0 (onTo k i (t i) F (up8 8)) w W ∧ LayAt t k (i + 1) 0 (onTo k i (t i) F (up8 8)) ∧ Marks w.heap.size W W.heap.size ({ target := .collected D, args := #[] } :: ds) :=
  ⟨⟨h.row, h.box, h.below, h.box.lt⟩, (onTo_lay hk hl hi 8 (Nat.le_refl _)).next, marks_cons hB hU hK h.marks⟩
theorem idx_lt {k i y : Nat} (hk : k = 2 ∨ k = 3) (hi : i < k * k) (hy : y < 8) : i / k * 8 + y < 8 * k ∧ i % k * 8 ≤ 16 ∧ i / k * 8 ≤ 16 := by
  rcases hk with rfl | rfl <;> omega
theorem shl_cell (a x : R3) (s : Nat) : bits .or .u32 (r3 a) (r3 x * 2 ^ s % (4294967296 : Int)) = r3 (a ||| x <<< s) := by
  rw [← IntKind.wrap_u32', shl_r3, or_r3]
theorem min_s (s : Nat) (h : s ≤ 16) : min (s : Int).toNat 32 = s := by omega
theorem sum_s (b y : Nat) : ((b : Int) + (y : Int)).toNat = b + y := by omega
theorem meas_s (m i : Nat) (h : i < m) : m - (intOf (.int .i64 ((i : Int) + 1))).toNat < m - (intOf (.int .i64 (i : Int))).toNat := by
  simp [intOf]; omega
theorem wrap_n (n : Nat) (h : n < 100) : IntKind.i64.wrap (n : Int) = (n : Int) := by
  have q : ∀ n < 100, IntKind.i64.wrap ((n : Nat) : Int) = (n : Int) := by decide +kernel
  exact q n h
theorem LayI.fin {k i : Nat} {t : T6} {F : Nat → R3} {A C U : Nat} {ds : List Deferred} {w W : World} {pre : List (Fin 8)} {x : Fin 8} {v a : R3} {n s g : Nat} {X : Int} (h : LayI k i t F A C U ds w (pre ++ [x]) (W.setCell ⟨w.heap.size, i / k * 8 + x.val, none⟩ (.int .u32 (r3 v)))) (hn : i / k * 8 + x.val = n) (hX : X = bits .or .u32 (r3 a) (IntKind.u32.wrap (r3 (rowB t x.val) * 2 ^ s))) (hv : v = a ||| rowB t x.val <<< s) (hg : w.heap.size < g) :
    KeepsOthers W (W.setCell ⟨w.heap.size, n, none⟩ (.int .u32 X)).drew ∧ Stay g W (W.setCell ⟨w.heap.size, n, none⟩ (.int .u32 X)).drew ∧ LayI k i t F A C U ds w (pre ++ [x]) (W.setCell ⟨w.heap.size, n, none⟩ (.int .u32 X)).drew := by
  rw [shl_r3, or_r3, ← hv] at hX
  subst hX hn
  exact ⟨(KeepsOthers.setCell _ _ _).trans (KeepsOthers.drew _), heap_setCell_other W ⟨w.heap.size, i / k * 8 + x.val, none⟩ g _ (by show ¬ g = w.heap.size; omega), ⟨h.row, h.box, h.ba, h.bc, h.below.drew, h.marks.drew⟩⟩
theorem lt_of {a b c : Nat} (h : a < b) (h2 : b < c) : a < c := Nat.lt_trans h h2
theorem stay_t {b : Nat} {A B C : World} (h : Stay b A B) (k : Stay b B C) : Stay b A C := Eq.trans k h
theorem stay_b {b : Nat} {w : World} (hb : b < w.heap.size) (W : World) (l : Nat) (_o o' : Obj) (hl : w.heap.size ≤ l) (_ : W.heap[l]? = some _o) (_ : _o.isCells = false) (_ : _o.isWalk = false) : Stay b W (W.putObj l o') :=
  World.putObj_heap_other (by omega)
theorem m2 (i : Nat) : (i : Int) % 2 * 8 = ((i % 2 * 8 : Nat) : Int) := by omega
theorem d2 (i : Nat) : (i : Int) / 2 * 8 = ((i / 2 * 8 : Nat) : Int) := by omega
theorem m3 (i : Nat) : (i : Int) % 3 * 8 = ((i % 3 * 8 : Nat) : Int) := by omega
theorem d3 (i : Nat) : (i : Int) / 3 * 8 = ((i / 3 * 8 : Nat) : Int) := by omega
theorem boxes_new (w : World) (a b : Value) (ta tb : TypeId) : Boxed ((w.alloc (.cells #[a] ta)).alloc (.cells #[b] tb)).drew w.heap.size ta a ∧ Boxed ((w.alloc (.cells #[a] ta)).alloc (.cells #[b] tb)).drew (w.heap.size + 1) tb b := by
  have h := Boxed.new (w.alloc (.cells #[a] ta)) tb b
  rw [show (w.alloc (.cells #[a] ta)).heap.size = w.heap.size + 1 by simp] at h
  exact ⟨(Boxed.new w ta a).alloc _, h⟩
theorem two_new (w : World) (a b : Obj) : Below w.heap.size w ((w.alloc a).alloc b).drew := ((alX w a).alloc (by simp) b).drew
end Go.Proofs.YtlejohclijjhnaaGreatDoor

/-
  THE WALK of Box. Conditions: the cells lie in memory.
-/

import Derived.Test.YtangbokcdgganaaGreatDoorCj
namespace Go.Proofs.YtangbokcdgganaaGreatDoor
open Go.RowKit Ru Ce

def lo2 (a b : Cel) : Cel := (min a.1 b.1, min a.2 b.2)
def hi2 (a b : Cel) : Cel := (max a.1 b.1, max a.2 b.2)
theorem results_ccb {P : Program} {fn : Func} {p q u : Tmp} {ty : TypeId} (h : fn.results = #[.cell p ty, .cell q ty, .tmp u]) (tmps : Array Value) (w : World) (g g' : Nat) (t t' : TypeId) (cs cs' : Array Value) (fr fr' : Nat × Nat) (d : TypeDesc)
    (hp : tmps.getD p undef = .pointer (some ⟨g, 0, none⟩)) (hq : tmps.getD q undef = .pointer (some ⟨g', 0, none⟩)) (hg : w.heap[g]? = some (.cells cs t fr)) (hg' : w.heap[g']? = some (.cells cs' t' fr'))
    (hu : P.underlying ty = some d) (hd : (match d with | .struct _ | .array _ _ => true | _ => false) = true) (hi : (P.info? ty).map (·.size) = some cs.size) (hi' : (P.info? ty).map (·.size) = some cs'.size) :
    (results fn tmps).run P w = .ok (.tuple #[.agg cs, .agg cs', tmps.getD u undef]) w := by
  have hp' : tmps[p]?.getD undef = .pointer (some ⟨g, 0, none⟩) := by simpa using hp
  have hq' : tmps[q]?.getD undef = .pointer (some ⟨g', 0, none⟩) := by simpa using hq
  simp [results, h, hp', hq', asAddr, run_loadVar_row w g t ty cs fr d hg hu hd hi, run_loadVar_row w g' t' ty cs' fr' d hg' hu hd hi', Sem.run_bind, Result.andThen]
theorem results_cc {P : Program} {fn : Func} {p q : Tmp} {ty : TypeId} (h : fn.results = #[.cell p ty, .cell q ty]) (tmps : Array Value) (w : World) (g g' : Nat) (t t' : TypeId) (cs cs' : Array Value) (fr fr' : Nat × Nat) (d : TypeDesc)
    (hp : tmps.getD p undef = .pointer (some ⟨g, 0, none⟩)) (hq : tmps.getD q undef = .pointer (some ⟨g', 0, none⟩)) (hg : w.heap[g]? = some (.cells cs t fr)) (hg' : w.heap[g']? = some (.cells cs' t' fr'))
    (hu : P.underlying ty = some d) (hd : (match d with | .struct _ | .array _ _ => true | _ => false) = true) (hi : (P.info? ty).map (·.size) = some cs.size) (hi' : (P.info? ty).map (·.size) = some cs'.size) :
    (results fn tmps).run P w = .ok (.tuple #[.agg cs, .agg cs']) w := by
  have hp' : tmps[p]?.getD undef = .pointer (some ⟨g, 0, none⟩) := by simpa using hp
  have hq' : tmps[q]?.getD undef = .pointer (some ⟨g', 0, none⟩) := by simpa using hq
  simp [results, h, hp', hq', asAddr, run_loadVar_row w g t ty cs fr d hg hu hd hi, run_loadVar_row w g' t' ty cs' fr' d hg' hu hd hi', Sem.run_bind, Result.andThen]
theorem box_none (c : Nat) (w : World) : Calls Tryz.prog 30 #[.slice none 0 c] w fun e w' => e = .returned (.tuple #[cv (0, 0), cv (0, 0), .bool false]) ∧ Below w.heap.size w w' := by
  have h1 := heap_alloc_new w (.cells #[.int .i64 0, .int .i64 0] 25)
  have h2 := heap_alloc_new (w.alloc (.cells #[.int .i64 0, .int .i64 0] 25)) (.cells #[.int .i64 0, .int .i64 0] 25)
  have h3 := (Below.heap_alloc (w.alloc (.cells #[.int .i64 0, .int .i64 0] 25)) (.cells #[.int .i64 0, .int .i64 0] 25) w.heap.size (lt_of_block h1)).trans h1
  have HH := Lib.hid (And.intro h2 h3)
  unfold cv
  clear h1 h2 h3
  go_enter Tryz.func30, Tryz.ntmps30
  go_wp2
  exact bodyPost_ret (results_ccb Tryz.results30 _ _ w.heap.size (w.heap.size + 1) 25 25 #[.int .i64 0, .int .i64 0] #[.int .i64 0, .int .i64 0] (0, 0) (0, 0) _ rfl rfl HH.out.2 (by have := HH.out.1; simpa using this) Tryz.underlying25 rfl (by kernel_rfl) (by kernel_rfl)) rfl ⟨rfl, (alX _ _).trans ((alX _ _).mono (by simp))⟩
theorem two_set {w : World} {g : Nat} {a b x y : Value} {T : TypeId} (h : w.heap[g]? = some (.cells #[a, b] T (0, 0))) : ((w.setCell ⟨g, 0, none⟩ x).setCell ⟨g, 1, none⟩ y).heap[g]? = some (.cells #[x, y] T (0, 0)) :=
  heap_setCell_same _ g 1 _ T y (heap_setCell_same w g 0 _ T x h)
theorem two_other {w : World} {g k : Nat} {x y : Value} (h : k ≠ g) : ((w.setCell ⟨g, 0, none⟩ x).setCell ⟨g, 1, none⟩ y).heap[k]? = w.heap[k]? :=
  (heap_setCell_other _ ⟨g, 1, none⟩ k y h).trans (heap_setCell_other w ⟨g, 0, none⟩ k x h)
theorem two_below {w w' : World} {B g : Nat} {x y : Value} (h : Below B w w') (hg : B ≤ g) : Below B w ((w'.setCell ⟨g, 0, none⟩ x).setCell ⟨g, 1, none⟩ y) := (h.setCell (p := ⟨g, 0, none⟩) hg x).setCell (p := ⟨g, 1, none⟩) hg y
theorem two_one (a b : Int) : (#[Value.int .i64 a, Value.int .i64 b] : Array Value).all (·.oneCell') = true := by simp [Value.oneCell']
/-- two results' boxes, the least and the greatest so far -/
structure BB (T : TypeId) (w : World) (g5 g6 : Nat) (wr : World) (lo hi : Cel) : Prop where
  z2 : wr.heap[w.heap.size]? = some (.cells #[.int .i64 0, .int .i64 0] T (0, 0))
  z3 : wr.heap[w.heap.size + 1]? = some (.cells #[.int .i64 0, .int .i64 0] T (0, 0))
  l5 : wr.heap[g5]? = some (.cells #[.int .i64 lo.1, .int .i64 lo.2] T (0, 0))
  h6 : wr.heap[g6]? = some (.cells #[.int .i64 hi.1, .int .i64 hi.2] T (0, 0))
  n5 : w.heap.size + 2 ≤ g5
  n6 : w.heap.size + 2 ≤ g6
  ne : ¬ g5 = g6
  bel : Below w.heap.size w wr
theorem BB.alloc {T : TypeId} {w wr : World} {g5 g6 : Nat} {lo hi : Cel} (h : BB T w g5 g6 wr lo hi) (o : Obj) : BB T w g5 g6 (wr.alloc o) lo hi :=
  ⟨(Below.heap_alloc wr o _ (lt_of_block h.z2)).trans h.z2, (Below.heap_alloc wr o _ (lt_of_block h.z3)).trans h.z3, (Below.heap_alloc wr o _ (lt_of_block h.l5)).trans h.l5, (Below.heap_alloc wr o _ (lt_of_block h.h6)).trans h.h6, h.n5, h.n6, h.ne, h.bel.alloc h.bel.size o⟩
theorem BB.low {T : TypeId} {w wr : World} {g5 g6 : Nat} {lo hi lo' : Cel} (h : BB T w g5 g6 wr lo hi) : BB T w g5 g6 (wr.setRow g5 #[.int .i64 lo'.1, .int .i64 lo'.2]) lo' hi := by
  have a := h.n5
  have b := h.ne
  exact ⟨(setRow_other _ _ _ _ (by omega)).trans h.z2, (setRow_other _ _ _ _ (by omega)).trans h.z3, setRow_heap _ _ _ _ _ _ h.l5, (setRow_other _ _ _ _ (by omega)).trans h.h6, h.n5, h.n6, h.ne, below_setRow h.bel (by omega) _⟩
theorem BB.high {T : TypeId} {w wr : World} {g5 g6 : Nat} {lo hi hi' : Cel} (h : BB T w g5 g6 wr lo hi) : BB T w g5 g6 (wr.setRow g6 #[.int .i64 hi'.1, .int .i64 hi'.2]) lo hi' := by
  have a := h.n6
  have b := h.ne
  exact ⟨(setRow_other _ _ _ _ (by omega)).trans h.z2, (setRow_other _ _ _ _ (by omega)).trans h.z3, (setRow_other _ _ _ _ (by omega)).trans h.l5, setRow_heap _ _ _ _ _ _ h.h6, h.n5, h.n6, h.ne, below_setRow h.bel (by omega) _⟩
theorem BB.start {T : TypeId} {w w2 : World} {p : Cel} (h1 : w2.heap[w.heap.size]? = some (.cells #[.int .i64 0, .int .i64 0] T (0, 0))) (h2 : w2.heap[w.heap.size + 1]? = some (.cells #[.int .i64 0, .int .i64 0] T (0, 0))) (hb : Below w.heap.size w w2) (hs : w2.heap.size = w.heap.size + 2) :
    BB T w w2.heap.size (w2.heap.size + 1) (((w2.alloc (.cells #[.int .i64 p.1, .int .i64 p.2] T)).alloc (.cells #[.int .i64 p.1, .int .i64 p.2] T)).drew) p p ∧ BB T w (w2.heap.size + 1) w2.heap.size (((w2.alloc (.cells #[.int .i64 p.1, .int .i64 p.2] T)).alloc (.cells #[.int .i64 p.1, .int .i64 p.2] T)).drew) p p := by
  have a1 := heap_alloc_new w2 (.cells #[.int .i64 p.1, .int .i64 p.2] T)
  have a2 := heap_alloc_new (w2.alloc (.cells #[.int .i64 p.1, .int .i64 p.2] T)) (.cells #[.int .i64 p.1, .int .i64 p.2] T)
  rw [World.size_alloc] at a2
  have hb2 : Below w2.heap.size w2 (((w2.alloc (.cells #[.int .i64 p.1, .int .i64 p.2] T)).alloc (.cells #[.int .i64 p.1, .int .i64 p.2] T)).drew) := ((alX w2 _).trans ((alX _ _).mono (by simp))).drew
  have a3 : (((w2.alloc (.cells #[.int .i64 p.1, .int .i64 p.2] T)).alloc (.cells #[.int .i64 p.1, .int .i64 p.2] T)).drew).heap[w2.heap.size]? = _ := (Below.heap_alloc (w2.alloc (.cells #[.int .i64 p.1, .int .i64 p.2] T)) (.cells #[.int .i64 p.1, .int .i64 p.2] T) _ (lt_of_block a1)).trans a1
  have z2 := (hb2.block _ (lt_of_block h1)).trans h1
  have z3 := (hb2.block _ (lt_of_block h2)).trans h2
  have bel := hb.trans (hb2.mono hb.size)
  exact ⟨⟨z2, z3, a3, a2, by omega, by omega, by omega, bel⟩, ⟨z2, z3, a2, a3, by omega, by omega, by omega, bel⟩⟩
theorem lo_all (p : Cel) (L : List Cel) : (p :: L).foldl lo2 p = L.foldl lo2 p := by
  show L.foldl lo2 (lo2 p p) = _
  have : lo2 p p = p := by simp [lo2]
  rw [this]
theorem hi_all (p : Cel) (L : List Cel) : (p :: L).foldl hi2 p = L.foldl hi2 p := by
  show L.foldl hi2 (hi2 p p) = _
  have : hi2 p p = p := by simp [hi2]
  rw [this]
theorem fold_next {α : Type} (f : α → Cel → α) (a : α) (L : List Cel) (k : Nat) (h : k < L.length) : (L.take (k + 1)).foldl f a = f ((L.take k).foldl f a) L[k] := by
  rw [List.take_succ_eq_append_getElem h, List.foldl_append]
  rfl
set_option maxRecDepth 100000 in
set_option maxHeartbeats 2000000 in
theorem box_some (b o n c : Nat) (L : List Cel) (p : Cel) (w : World) (ha : Cls w (some ⟨b, o, none⟩) (p :: L)) (hn : (p :: L).length = n) (hm : n ≤ 9223372036854775807) : Calls Tryz.prog 30 #[.slice (some ⟨b, o, none⟩) n c] w fun e w' => e = .returned (.tuple #[cv (L.foldl lo2 p), cv (L.foldl hi2 p), .bool true]) ∧ Below w.heap.size w w' := by
  have HA := Lib.hid ha
  have HL := Lib.hid hn
  have hn0 : 0 < n := by rw [← hn]; simp
  have i0 : ((n : Int) == 0) = false := by simp; omega
  have i1 : (0 : Int) < (n : Int) := by omega
  obtain ⟨b', o', e, c0, c1⟩ := ha 0 (by simp)
  obtain ⟨rfl, rfl⟩ : b = b' ∧ o = o' := by simpa using e
  have h1 := heap_alloc_new w (.cells #[.int .i64 0, .int .i64 0] 25)
  have h2 := heap_alloc_new (w.alloc (.cells #[.int .i64 0, .int .i64 0] 25)) (.cells #[.int .i64 0, .int .i64 0] 25)
  have h3 := (Below.heap_alloc (w.alloc (.cells #[.int .i64 0, .int .i64 0] 25)) (.cells #[.int .i64 0, .int .i64 0] 25) w.heap.size (lt_of_block h1)).trans h1
  have HH := Lib.hid (And.intro h2 h3)
  have HB := Lib.hid (show Below w.heap.size w _ from (alX w (.cells #[.int .i64 0, .int .i64 0] 25)).trans ((alX _ (.cells #[.int .i64 0, .int .i64 0] 25)).mono (by simp)))
  have d0 := (HB.out.cell (p := ⟨b, o + 0 * 2, none⟩) (World.block_lt_of_cell? w _ c0)).trans c0
  have d1 := (HB.out.cell (p := ⟨b, o + 0 * 2 + 1, none⟩) (World.block_lt_of_cell? w _ c1)).trans c1
  have HSZ := Lib.hid (show ((w.alloc (.cells #[.int .i64 0, .int .i64 0] 25)).alloc (.cells #[.int .i64 0, .int .i64 0] 25)).heap.size = w.heap.size + 2 by simp)
  simp only [Nat.zero_mul, Nat.add_zero, List.getElem_cons_zero] at d0 d1
  unfold cv
  clear h1 h2 h3 ha hn e c0 c1
  go_enter Tryz.func30, Tryz.ntmps30
  go_upto_region 3 with (fail)
  generalize (w.alloc (.cells #[.int .i64 0, .int .i64 0] 25)).alloc (.cells #[.int .i64 0, .int .i64 0] 25) = w2 at HH HB HSZ d0 d1 ⊢
  have n1 := World.new_ne w2 _ d0
  have n2 := World.new_ne w2 _ d1
  have KA := Lib.hid (And.intro d0 d1)
  have KD := Lib.hid (show w2.drew.cell? ⟨b, o, none⟩ = some (.int .i64 p.1) ∧ w2.drew.cell? ⟨b, o + 1, none⟩ = some (.int .i64 p.2) from ⟨d0, d1⟩)
  go_region_held3 (fun w' => w'.cell? ⟨b, o, none⟩ = some (.int .i64 p.1) ∧ w'.cell? ⟨b, o + 1, none⟩ = some (.int .i64 p.2)) (first | with_reducible exact KA.out | with_reducible exact KD.out | go_keep) (fail)
  · have HBB := Lib.hid (BB.start (p := p) HH.out.2 (by have := HH.out.1; simpa using this) HB.out HSZ.out).1
    clear n1 n2 KA KD HH HSZ d0 d1
    obtain ⟨g5, hg5⟩ : ∃ g, g = w2.heap.size := ⟨_, rfl⟩
    obtain ⟨g6, hg6⟩ : ∃ g, g = w2.heap.size + 1 := ⟨_, rfl⟩
    rw [← hg6, ← hg5] at HBB ⊢
    generalize ((w2.alloc (.cells #[.int .i64 p.1, .int .i64 p.2] 25)).alloc (.cells #[.int .i64 p.1, .int .i64 p.2] 25)).drew = w5 at HBB ⊢
    clear hg5 hg6 HB
    go_wp2
    go_loopw [22] (fun i wr => ∃ k : Nat, k ≤ n ∧ i = .int .i64 k ∧ Hid (BB 25 w g5 g6 wr (((p :: L).take k).foldl lo2 p) (((p :: L).take k).foldl hi2 p))) (fun i _ => n - (intOf i).toNat)
    case atStart => exact ⟨0, by omega, rfl, HBB⟩
    case round =>
      obtain ⟨k, hk, rfl, HK⟩ := hrel
      clear HBB
      have k0 : (0 : Int) ≤ (k : Int) := by omega
      by_cases hlt : k < n
      · have k1 : (k : Int) < (n : Int) := by omega
        have hkl : k < (p :: L).length := by rw [HL.out]; exact hlt
        obtain ⟨b', o', e, c0, c1⟩ := (HA.out.below HK.out.bel (Nat.le_refl _)) k hkl
        obtain ⟨rfl, rfl⟩ : b = b' ∧ o = o' := by simpa using e
        have HF := Lib.hid (And.intro (fold_next lo2 p (p :: L) k hkl) (fold_next hi2 p (p :: L) k hkl))
        generalize (p :: L)[k] = q at c0 c1 HF
        generalize ((p :: L).take k).foldl lo2 p = lo at HK HF
        generalize ((p :: L).take k).foldl hi2 p = hi at HK HF
        have HK1 := Lib.hid (HK.out.alloc (.cells #[.int .i64 q.1, .int .i64 q.2] 25))
        have hx := heap_alloc_new wr (.cells #[.int .i64 q.1, .int .i64 q.2] 25)
        have HXN := Lib.hid hx
        have HNE := Lib.hid (And.intro (show ¬ wr.heap.size = g5 from fun e => by have := lt_of_block HK.out.l5; omega) (show ¬ wr.heap.size = g6 from fun e => by have := lt_of_block HK.out.h6; omega))
        clear e hx
        go_upto_region 7 with (fail)
        generalize wr.alloc (.cells #[.int .i64 q.1, .int .i64 q.2] 25) = w6 at HK1 HXN ⊢
        have HXN2 := Lib.hid ((setRow_other w6 g5 _ #[.int .i64 (min lo.1 q.1), .int .i64 (min lo.2 q.2)] HNE.out.1).trans HXN.out)
        have HK2 := Lib.hid (show BB 25 w g5 g6 (w6.setRow g5 #[.int .i64 (min lo.1 q.1), .int .i64 (min lo.2 q.2)]) (lo2 lo q) hi from HK1.out.low (lo' := lo2 lo q))
        have HK3 := Lib.hid (show BB 25 w g5 g6 ((w6.setRow g5 #[.int .i64 (min lo.1 q.1), .int .i64 (min lo.2 q.2)]).setRow g6 #[.int .i64 (max hi.1 q.1), .int .i64 (max hi.2 q.2)]) (lo2 lo q) (hi2 hi q) from HK2.out.high (hi' := hi2 hi q))
        have r0 := cell_of_row _ _ 0 _ _ _ HK1.out.l5
        have r1 := cell_of_row _ _ 1 _ _ _ HK1.out.l5
        have r2 := cell_of_row _ _ 0 _ _ _ HXN.out
        have r3 := cell_of_row _ _ 1 _ _ _ HXN.out
        have s0 := cell_of_row _ _ 0 _ _ _ HK2.out.h6
        have s1 := cell_of_row _ _ 1 _ _ _ HK2.out.h6
        have s2 := cell_of_row _ _ 0 _ _ _ HXN2.out
        have s3 := cell_of_row _ _ 1 _ _ _ HXN2.out
        clear c0 c1 HK
        go_wp2_with (first
          | refine wpList_store_row rfl 25 (.tmp 5) (.tmp 36) rfl g5 #[.int .i64 (min lo.1 q.1), .int .i64 (min lo.2 q.2)] rfl rfl 25 _ HK1.out.l5 (by kernel_rfl) rfl (two_one _ _) ?_
          | refine wpList_store_row rfl 25 (.tmp 6) (.tmp 47) rfl g6 #[.int .i64 (max hi.1 q.1), .int .i64 (max hi.2 q.2)] rfl rfl 25 _ HK2.out.h6 (by kernel_rfl) rfl (two_one _ _) ?_)
        go_roundw
        case rel => exact ⟨k + 1, by omega, by go_num, by rw [HF.out.1, HF.out.2]; exact HK3⟩
        case measure => simp [intOf]; omega
      · have hke : k = n := by omega
        have HT := Lib.hid (show (p :: L).take k = p :: L from List.take_of_length_le (by rw [HL.out, hke]; exact Nat.le_refl _))
        rw [HT.out, lo_all, hi_all] at HK
        have k1 : ¬ (k : Int) < (n : Int) := by omega
        have r0 := cell_of_row _ _ 0 _ _ _ HK.out.l5
        have r1 := cell_of_row _ _ 1 _ _ _ HK.out.l5
        have r2 := cell_of_row _ _ 0 _ _ _ HK.out.h6
        have r3 := cell_of_row _ _ 1 _ _ _ HK.out.h6
        have z0 := cell_of_row _ _ 0 _ _ _ HK.out.z2
        have z1 := cell_of_row _ _ 1 _ _ _ HK.out.z2
        have z2 := cell_of_row _ _ 0 _ _ _ HK.out.z3
        have z3 := cell_of_row _ _ 1 _ _ _ HK.out.z3
        have f1 : ¬ w.heap.size = g5 := by have := HK.out.n5; omega
        have f2 : ¬ w.heap.size = g6 := by have := HK.out.n6; omega
        have f3 : ¬ w.heap.size + 1 = g5 := by have := HK.out.n5; omega
        have f4 : ¬ w.heap.size + 1 = g6 := by have := HK.out.n6; omega
        have y0 : wr.frozen? ⟨w.heap.size, 0, none⟩ = false := frozen_of_row _ _ _ _ _ HK.out.z2
        have y1 : wr.frozen? ⟨w.heap.size, 1, none⟩ = false := frozen_of_row _ _ _ _ _ HK.out.z2
        have y2 : wr.frozen? ⟨w.heap.size + 1, 0, none⟩ = false := frozen_of_row _ _ _ _ _ HK.out.z3
        have y3 : wr.frozen? ⟨w.heap.size + 1, 1, none⟩ = false := frozen_of_row _ _ _ _ _ HK.out.z3
        go_upto_region 10 with (fail)
        go_region
        all_goals go_wp2
        all_goals exact bodyPost_ret (results_ccb Tryz.results30 _ _ w.heap.size (w.heap.size + 1) 25 25 #[.int .i64 (L.foldl lo2 p).1, .int .i64 (L.foldl lo2 p).2] #[.int .i64 (L.foldl hi2 p).1, .int .i64 (L.foldl hi2 p).2] (0, 0) (0, 0) _ rfl rfl ((two_other (by omega)).trans (two_set HK.out.z2)) (two_set ((two_other (by omega)).trans HK.out.z3)) Tryz.underlying25 rfl (by kernel_rfl) (by kernel_rfl)) rfl ⟨rfl, (two_below (two_below HK.out.bel (Nat.le_refl _)) (Nat.le_succ _)).drew⟩
  · have HBB := Lib.hid (BB.start (p := p) HH.out.2 (by have := HH.out.1; simpa using this) HB.out HSZ.out).2
    clear n1 n2 KA KD HH HSZ d0 d1
    obtain ⟨g5, hg5⟩ : ∃ g, g = w2.heap.size + 1 := ⟨_, rfl⟩
    obtain ⟨g6, hg6⟩ : ∃ g, g = w2.heap.size := ⟨_, rfl⟩
    rw [← hg5, ← hg6] at HBB ⊢
    generalize ((w2.alloc (.cells #[.int .i64 p.1, .int .i64 p.2] 25)).alloc (.cells #[.int .i64 p.1, .int .i64 p.2] 25)).drew = w5 at HBB ⊢
    clear hg5 hg6 HB
    go_wp2
    go_loopw [22] (fun i wr => ∃ k : Nat, k ≤ n ∧ i = .int .i64 k ∧ Hid (BB 25 w g5 g6 wr (((p :: L).take k).foldl lo2 p) (((p :: L).take k).foldl hi2 p))) (fun i _ => n - (intOf i).toNat)
    case atStart => exact ⟨0, by omega, rfl, HBB⟩
    case round =>
      obtain ⟨k, hk, rfl, HK⟩ := hrel
      clear HBB
      have k0 : (0 : Int) ≤ (k : Int) := by omega
      by_cases hlt : k < n
      · have k1 : (k : Int) < (n : Int) := by omega
        have hkl : k < (p :: L).length := by rw [HL.out]; exact hlt
        obtain ⟨b', o', e, c0, c1⟩ := (HA.out.below HK.out.bel (Nat.le_refl _)) k hkl
        obtain ⟨rfl, rfl⟩ : b = b' ∧ o = o' := by simpa using e
        have HF := Lib.hid (And.intro (fold_next lo2 p (p :: L) k hkl) (fold_next hi2 p (p :: L) k hkl))
        generalize (p :: L)[k] = q at c0 c1 HF
        generalize ((p :: L).take k).foldl lo2 p = lo at HK HF
        generalize ((p :: L).take k).foldl hi2 p = hi at HK HF
        have HK1 := Lib.hid (HK.out.alloc (.cells #[.int .i64 q.1, .int .i64 q.2] 25))
        have hx := heap_alloc_new wr (.cells #[.int .i64 q.1, .int .i64 q.2] 25)
        have HXN := Lib.hid hx
        have HNE := Lib.hid (And.intro (show ¬ wr.heap.size = g5 from fun e => by have := lt_of_block HK.out.l5; omega) (show ¬ wr.heap.size = g6 from fun e => by have := lt_of_block HK.out.h6; omega))
        clear e hx
        go_upto_region 7 with (fail)
        generalize wr.alloc (.cells #[.int .i64 q.1, .int .i64 q.2] 25) = w6 at HK1 HXN ⊢
        have HXN2 := Lib.hid ((setRow_other w6 g5 _ #[.int .i64 (min lo.1 q.1), .int .i64 (min lo.2 q.2)] HNE.out.1).trans HXN.out)
        have HK2 := Lib.hid (show BB 25 w g5 g6 (w6.setRow g5 #[.int .i64 (min lo.1 q.1), .int .i64 (min lo.2 q.2)]) (lo2 lo q) hi from HK1.out.low (lo' := lo2 lo q))
        have HK3 := Lib.hid (show BB 25 w g5 g6 ((w6.setRow g5 #[.int .i64 (min lo.1 q.1), .int .i64 (min lo.2 q.2)]).setRow g6 #[.int .i64 (max hi.1 q.1), .int .i64 (max hi.2 q.2)]) (lo2 lo q) (hi2 hi q) from HK2.out.high (hi' := hi2 hi q))
        have r0 := cell_of_row _ _ 0 _ _ _ HK1.out.l5
        have r1 := cell_of_row _ _ 1 _ _ _ HK1.out.l5
        have r2 := cell_of_row _ _ 0 _ _ _ HXN.out
        have r3 := cell_of_row _ _ 1 _ _ _ HXN.out
        have s0 := cell_of_row _ _ 0 _ _ _ HK2.out.h6
        have s1 := cell_of_row _ _ 1 _ _ _ HK2.out.h6
        have s2 := cell_of_row _ _ 0 _ _ _ HXN2.out
        have s3 := cell_of_row _ _ 1 _ _ _ HXN2.out
        clear c0 c1 HK
        go_wp2_with (first
          | refine wpList_store_row rfl 25 (.tmp 5) (.tmp 36) rfl g5 #[.int .i64 (min lo.1 q.1), .int .i64 (min lo.2 q.2)] rfl rfl 25 _ HK1.out.l5 (by kernel_rfl) rfl (two_one _ _) ?_
          | refine wpList_store_row rfl 25 (.tmp 6) (.tmp 47) rfl g6 #[.int .i64 (max hi.1 q.1), .int .i64 (max hi.2 q.2)] rfl rfl 25 _ HK2.out.h6 (by kernel_rfl) rfl (two_one _ _) ?_)
        go_roundw
        case rel => exact ⟨k + 1, by omega, by go_num, by rw [HF.out.1, HF.out.2]; exact HK3⟩
        case measure => simp [intOf]; omega
      · have hke : k = n := by omega
        have HT := Lib.hid (show (p :: L).take k = p :: L from List.take_of_length_le (by rw [HL.out, hke]; exact Nat.le_refl _))
        rw [HT.out, lo_all, hi_all] at HK
        have k1 : ¬ (k : Int) < (n : Int) := by omega
        have r0 := cell_of_row _ _ 0 _ _ _ HK.out.l5
        have r1 := cell_of_row _ _ 1 _ _ _ HK.out.l5
        have r2 := cell_of_row _ _ 0 _ _ _ HK.out.h6
        have r3 := cell_of_row _ _ 1 _ _ _ HK.out.h6
        have z0 := cell_of_row _ _ 0 _ _ _ HK.out.z2
        have z1 := cell_of_row _ _ 1 _ _ _ HK.out.z2
        have z2 := cell_of_row _ _ 0 _ _ _ HK.out.z3
        have z3 := cell_of_row _ _ 1 _ _ _ HK.out.z3
        have f1 : ¬ w.heap.size = g5 := by have := HK.out.n5; omega
        have f2 : ¬ w.heap.size = g6 := by have := HK.out.n6; omega
        have f3 : ¬ w.heap.size + 1 = g5 := by have := HK.out.n5; omega
        have f4 : ¬ w.heap.size + 1 = g6 := by have := HK.out.n6; omega
        have y0 : wr.frozen? ⟨w.heap.size, 0, none⟩ = false := frozen_of_row _ _ _ _ _ HK.out.z2
        have y1 : wr.frozen? ⟨w.heap.size, 1, none⟩ = false := frozen_of_row _ _ _ _ _ HK.out.z2
        have y2 : wr.frozen? ⟨w.heap.size + 1, 0, none⟩ = false := frozen_of_row _ _ _ _ _ HK.out.z3
        have y3 : wr.frozen? ⟨w.heap.size + 1, 1, none⟩ = false := frozen_of_row _ _ _ _ _ HK.out.z3
        go_upto_region 10 with (fail)
        go_region
        all_goals go_wp2
        all_goals exact bodyPost_ret (results_ccb Tryz.results30 _ _ w.heap.size (w.heap.size + 1) 25 25 #[.int .i64 (L.foldl lo2 p).1, .int .i64 (L.foldl lo2 p).2] #[.int .i64 (L.foldl hi2 p).1, .int .i64 (L.foldl hi2 p).2] (0, 0) (0, 0) _ rfl rfl ((two_other (by omega)).trans (two_set HK.out.z2)) (two_set ((two_other (by omega)).trans HK.out.z3)) Tryz.underlying25 rfl (by kernel_rfl) (by kernel_rfl)) rfl ⟨rfl, (two_below (two_below HK.out.bel (Nat.le_refl _)) (Nat.le_succ _)).drew⟩
end Go.Proofs.YtangbokcdgganaaGreatDoor

/-
  THE WALKS of a store that is none, and of four of which the first is not there; New, Empty where they can't be; Kids. Conditions: those that each names.
-/
import Derived.Test.YtifkhmcdgmnipaaGreatDoorR21
namespace Go.Proofs.YtifkhmcdgmnipaaGreatDoor
open Go.RowKit Ti Qd Go.Maps Go.WideMaps

set_option maxRecDepth 100000 in
set_option maxHeartbeats 2000000 in
theorem joined_first (ad : Option Addr) (e : Int) (ka kb kc kd : Int) (w : World) (hq : ∀ W, Below w.heap.size w W → Calls Tryz.prog 52 #[.pointer ad, .int .i64 ka] W fun e' w' => e' = .returned (.tuple #[zv, .iface 54 (.int .i64 e)]) ∧ Below W.heap.size W w') :
    Calls Tryz.prog 28 #[.pointer ad, .agg #[.int .i64 ka, .int .i64 kb, .int .i64 kc, .int .i64 kd]] w fun e' w' => e' = .returned (.tuple #[zv, .iface 54 (.int .i64 e)]) ∧ Below w.heap.size w w' := by
  have HQ := Lib.hid hq
  have HJ := Lib.hid (jr_start w ka kb kc kd dead dead dead dead)
  clear hq
  unfold zv at *
  go_enter Tryz.func28, Tryz.ntmps28
  go_wp2
  go_loopw [5, 15] (fun v i wr => v = .nilIface ∧ i = .int .i64 0 ∧ Hid (JR w ka kb kc kd dead dead dead dead wr 0)) (fun _ i _ => 4 - (intOf i).toNat)
  case atStart => exact ⟨rfl, rfl, HJ⟩
  case round =>
    clear HJ
    obtain ⟨rfl, rfl, HR⟩ := hrel
    have hx := idx4_0 ka kb kc kd
    go_wp2_with fail
    refine (HQ.out _ HR.out.bel).mono ?_
    rintro e' w1 ⟨rfl, hb⟩
    have HR1 := Lib.hid (HR.out.below (hb.trans ((alX w1 zq).mono hb.size)))
    clear hb HR hx
    go_upto_region 6 with (fail)
    generalize w1.alloc (.cells #[.int .i64 0, .int .i64 0, .int .u64 0, .int .i64 0, .int .i64 0, .int .i64 0, .int .i64 0] 76) = W1 at HR1 ⊢
    obtain ⟨⟨b0, b1, b2, b3, b4, b5, b6⟩, f0, f1, f2, f3, f4, f5, f6⟩ := row7 HR1.out.h1
    go_wp2
    refine post_row_tmp Tryz.results28 (w.heap.size + 1) 76 #[.int .i64 0, .int .i64 0, .int .u64 0, .int .i64 0, .int .i64 0, .int .i64 0, .int .i64 0] (0, 0) _ (.iface 54 (.int .i64 e)) Tryz.underlying76 rfl info_q7 ?_ ?_ (row_set7 HR1.out.h1 _ _ _ _ _ _ _) ?_ ?_
    · rfl
    · rfl
    · rfl
    exact ⟨rfl, below_set7 HR1.out.bel (show w.heap.size ≤ w.heap.size + 1 by omega) _ _ _ _ _ _ _⟩
set_option maxRecDepth 100000 in
theorem node_first (ad : Option Addr) (e : Int) (ka kb kc kd : Int) (w : World) (hq : ∀ W, Below w.heap.size w W → Calls Tryz.prog 52 #[.pointer ad, .int .i64 ka] W fun e' w' => e' = .returned (.tuple #[zv, .iface 54 (.int .i64 e)]) ∧ Below W.heap.size W w') :
    Calls Tryz.prog 12 #[.pointer ad, .agg #[.int .i64 ka, .int .i64 kb, .int .i64 kc, .int .i64 kd]] w fun e' w' => e' = .returned (.tuple #[.int .i64 0, .iface 54 (.int .i64 e)]) ∧ Below w.heap.size w w' := by
  have HJ := Lib.hid (joined_first ad e ka kb kc kd (w.alloc (.cells #[.int .i64 ka, .int .i64 kb, .int .i64 kc, .int .i64 kd] 43)) (fun W hW => hq W ((alX _ _).trans (hW.mono (by simp)))))
  clear hq
  unfold zv at *
  go_enter Tryz.func12, Tryz.ntmps12
  go_wp2_with fail
  refine HJ.out.mono ?_
  rintro e' w1 ⟨rfl, hb⟩
  have HB := Lib.hid (((alX _ _).trans (hb.mono (by simp))).trans ((alX w1 zq).mono (Nat.le_trans (by simp) hb.size)))
  clear hb
  go_wp2
  go_ret2
  exact ⟨rfl, HB.out⟩
theorem node_nil (ka kb kc kd : Int) (w : World) : Calls Tryz.prog 12 #[.pointer none, .agg #[.int .i64 ka, .int .i64 kb, .int .i64 kc, .int .i64 kd]] w fun e' w' => e' = .returned (.tuple #[.int .i64 0, .iface 54 (.int .i64 1)]) ∧ Below w.heap.size w w' :=
  node_first none 1 ka kb kc kd w fun W _ => square_nil ka W
theorem node_none {B : Nat} {w : World} {P : Nat} {L : List Sq} {room : Nat} {H : Nat → Prop} (h : St B w P L room H) (ka kb kc kd : Int) (ho : ¬ Ok L ka) : Calls Tryz.prog 12 #[.pointer (some ⟨P, 0, none⟩), .agg #[.int .i64 ka, .int .i64 kb, .int .i64 kc, .int .i64 kd]] w fun e' w' => e' = .returned (.tuple #[.int .i64 0, .iface 54 (.int .i64 8)]) ∧ Below w.heap.size w w' :=
  node_first _ 8 ka kb kc kd w fun _ hW => square_none (h.below hW (Nat.le_refl _)) ka ho
set_option maxRecDepth 100000 in
theorem leaf_nil (t : Int) (w : World) : Calls Tryz.prog 11 #[.pointer none, .int .u64 t] w fun e' w' => e' = .returned (.tuple #[.int .i64 0, .iface 54 (.int .i64 1)]) ∧ w = w' := by
  go_enter Tryz.func11, Tryz.ntmps11
  go_wp2
  go_ret2
  exact ⟨rfl, rfl⟩
set_option maxRecDepth 100000 in
theorem count_nil (id : Int) (w : World) : Calls Tryz.prog 33 #[.pointer none, .int .i64 id] w fun e' w' => e' = .returned (.tuple #[.int .i64 0, .iface 54 (.int .i64 1)]) ∧ Below w.heap.size w w' := by
  have HQ := Lib.hid (square_nil id w)
  unfold zv at *
  go_enter Tryz.func33, Tryz.ntmps33
  go_wp2_with fail
  refine HQ.out.mono ?_
  rintro e' w1 ⟨rfl, hb⟩
  have HB := Lib.hid (hb.trans ((alX w1 zq).mono hb.size))
  clear hb
  go_wp2
  go_ret2
  exact ⟨rfl, HB.out⟩
set_option maxRecDepth 100000 in
theorem level_nil (id : Int) (w : World) : Calls Tryz.prog 32 #[.pointer none, .int .i64 id] w fun e' w' => e' = .returned (.tuple #[.int .i64 0, .iface 54 (.int .i64 1)]) ∧ Below w.heap.size w w' := by
  have HQ := Lib.hid (square_nil id w)
  unfold zv at *
  go_enter Tryz.func32, Tryz.ntmps32
  go_wp2_with fail
  refine HQ.out.mono ?_
  rintro e' w1 ⟨rfl, hb⟩
  have HB := Lib.hid (hb.trans ((alX w1 zq).mono hb.size))
  clear hb
  go_wp2
  go_ret2
  exact ⟨rfl, HB.out⟩
set_option maxRecDepth 100000 in
theorem tile_nil (id : Int) (w : World) : Calls Tryz.prog 34 #[.pointer none, .int .i64 id] w fun e' w' => e' = .returned (.tuple #[.int .u64 0, .iface 54 (.int .i64 1)]) ∧ Below w.heap.size w w' := by
  have HQ := Lib.hid (square_nil id w)
  unfold zv at *
  go_enter Tryz.func34, Tryz.ntmps34
  go_wp2_with fail
  refine HQ.out.mono ?_
  rintro e' w1 ⟨rfl, hb⟩
  have HB := Lib.hid (hb.trans ((alX w1 zq).mono hb.size))
  clear hb
  go_wp2
  go_ret2
  exact ⟨rfl, HB.out⟩
abbrev z4 : Obj := .cells #[.int .i64 0, .int .i64 0, .int .i64 0, .int .i64 0] 43
set_option maxRecDepth 100000 in
theorem info_4 : (Tryz.prog.info? 43).map (·.size) = some 4 := by kernel_rfl
abbrev set4 (w : World) (g : Nat) (v0 v1 v2 v3 : Value) : World := (((w.setCell ⟨g, 0, none⟩ v0).setCell ⟨g, 1, none⟩ v1).setCell ⟨g, 2, none⟩ v2).setCell ⟨g, 3, none⟩ v3
theorem row_set4 {w : World} {g : Nat} {a0 a1 a2 a3 : Value} {t : TypeId} (h : w.heap[g]? = some (.cells #[a0, a1, a2, a3] t (0, 0))) (v0 v1 v2 v3 : Value) :
    (set4 w g v0 v1 v2 v3).heap[g]? = some (.cells #[v0, v1, v2, v3] t (0, 0)) := by
  have h0 := heap_setCell_same w g 0 _ _ v0 h
  have h1 := heap_setCell_same _ g 1 _ _ v1 h0
  have h2 := heap_setCell_same _ g 2 _ _ v2 h1
  have h3 := heap_setCell_same _ g 3 _ _ v3 h2
  rw [h3]
  rfl
theorem below_set4 {w w' : World} {B g : Nat} (h : Below B w w') (hg : B ≤ g) (v0 v1 v2 v3 : Value) : Below B w (set4 w' g v0 v1 v2 v3) :=
  (((h.setCell (p := ⟨g, 0, none⟩) hg v0).setCell (p := ⟨g, 1, none⟩) hg v1).setCell (p := ⟨g, 2, none⟩) hg v2).setCell (p := ⟨g, 3, none⟩) hg v3
set_option maxRecDepth 100000 in
theorem kids_nil (id : Int) (w : World) : Calls Tryz.prog 35 #[.pointer none, .int .i64 id] w fun e' w' => e' = .returned (.tuple #[.agg #[.int .i64 0, .int .i64 0, .int .i64 0, .int .i64 0], .iface 54 (.int .i64 1)]) ∧ Below w.heap.size w w' := by
  have HQ := Lib.hid (square_nil id (w.alloc z4))
  have HZ := Lib.hid (heap_alloc_new w z4)
  unfold zv at *
  go_enter Tryz.func35, Tryz.ntmps35
  go_wp2_with fail
  refine HQ.out.mono ?_
  rintro e' w1 ⟨rfl, hb⟩
  have HB := Lib.hid ((alX w z4).trans ((hb.trans ((alX w1 zq).mono hb.size)).mono (by simp)))
  have HZ2 := Lib.hid (((hb.trans ((alX w1 zq).mono hb.size)).block _ (lt_of_block HZ.out)).trans HZ.out)
  clear hb
  go_upto_region 2 with (fail)
  generalize w1.alloc (.cells #[.int .i64 0, .int .i64 0, .int .u64 0, .int .i64 0, .int .i64 0, .int .i64 0, .int .i64 0] 76) = W1 at HB HZ2 ⊢
  obtain ⟨b0, b1, b2, b3⟩ := row4 HZ2.out
  have f0 := frozen_of_row _ _ 0 _ _ HZ2.out
  have f1 := frozen_of_row _ _ 1 _ _ HZ2.out
  have f2 := frozen_of_row _ _ 2 _ _ HZ2.out
  have f3 := frozen_of_row _ _ 3 _ _ HZ2.out
  go_wp2
  refine post_row_tmp Tryz.results35 w.heap.size 43 #[.int .i64 0, .int .i64 0, .int .i64 0, .int .i64 0] (0, 0) _ (.iface 54 (.int .i64 1)) Tryz.underlying43 rfl info_4 ?_ ?_ (row_set4 HZ2.out _ _ _ _) ?_ ?_
  · rfl
  · rfl
  · rfl
  exact ⟨rfl, below_set4 HB.out (Nat.le_refl _) _ _ _ _⟩
set_option maxRecDepth 100000 in
/-- the four of a square above a tile -/
theorem kids_ok {B : Nat} {w : World} {P : Nat} {L : List Sq} {room : Nat} {H : Nat → Prop} (h : St B w P L room H) (n : Nat) (id : Int) (hl : Lv L (n + 1) id) (q : Sq) (hq : at' L id = q) :
    Calls Tryz.prog 35 #[.pointer (some ⟨P, 0, none⟩), .int .i64 id] w fun e' w' => e' = .returned (.tuple #[.agg #[.int .i64 q.k0, .int .i64 q.k1, .int .i64 q.k2, .int .i64 q.k3], .nilIface]) ∧ Below w.heap.size w w' := by
  have HQ := Lib.hid (square_is (h.below (alX w z4) (Nat.le_refl _)) id hl.1 hq)
  have e3 : (q.lev == 3) = false := by rw [beq_eq_false_iff_ne, ← hq, hl.2]; omega
  have HZ := Lib.hid (heap_alloc_new w z4)
  clear h hl hq
  unfold qv at *
  go_enter Tryz.func35, Tryz.ntmps35
  go_wp2_with fail
  refine HQ.out.mono ?_
  rintro e' w1 ⟨rfl, hb⟩
  have HB := Lib.hid ((alX w z4).trans ((hb.trans ((alX w1 (bq q)).mono hb.size)).mono (by simp)))
  have HZ2 := Lib.hid (((hb.trans ((alX w1 (bq q)).mono hb.size)).block _ (lt_of_block HZ.out)).trans HZ.out)
  have hg := heap_alloc_new w1 (bq q)
  clear hb
  unfold bq at *
  go_upto_region 2 with (fail)
  have hlt : w.heap.size < w1.heap.size ∨ True := .inr trivial
  generalize w1.alloc (.cells #[.int .i64 q.lev, .int .i64 q.cnt, .int .u64 (rg q.til), .int .i64 q.k0, .int .i64 q.k1, .int .i64 q.k2, .int .i64 q.k3] 76) = W1 at HB HZ2 hg ⊢
  obtain ⟨⟨c0, c1, c2, c3, c4, c5, c6⟩, _, _, _, _, _, _, _⟩ := row7 hg
  obtain ⟨b0, b1, b2, b3⟩ := row4 HZ2.out
  have f0 := frozen_of_row _ _ 0 _ _ HZ2.out
  have f1 := frozen_of_row _ _ 1 _ _ HZ2.out
  have f2 := frozen_of_row _ _ 2 _ _ HZ2.out
  have f3 := frozen_of_row _ _ 3 _ _ HZ2.out
  clear hg hlt
  go_wp2
  refine post_row_tmp Tryz.results35 w.heap.size 43 #[.int .i64 q.k0, .int .i64 q.k1, .int .i64 q.k2, .int .i64 q.k3] (0, 0) _ .nilIface Tryz.underlying43 rfl info_4 ?_ ?_ (row_set4 HZ2.out _ _ _ _) ?_ ?_
  · rfl
  · rfl
  · rfl
  exact ⟨rfl, below_set4 HB.out (Nat.le_refl _) _ _ _ _⟩
set_option maxRecDepth 100000 in
theorem empty_bad (ad : Option Addr) (lv : Int) (h : lv < 3 ∨ 40 < lv) (w : World) : Calls Tryz.prog 15 #[.pointer ad, .int .i64 lv] w fun e' w' => e' = .returned (.tuple #[.int .i64 0, .iface 54 (.int .i64 1)]) ∧ w = w' := by
  by_cases h1 : lv < 3
  · clear h
    go_enter Tryz.func15, Tryz.ntmps15
    go_wp2
    go_ret2
    exact ⟨rfl, rfl⟩
  · have h2 : 40 < lv := by omega
    clear h
    go_enter Tryz.func15, Tryz.ntmps15
    go_wp2
    go_ret2
    exact ⟨rfl, rfl⟩
set_option maxRecDepth 100000 in
theorem empty_nil (w : World) : Calls Tryz.prog 15 #[.pointer none, .int .i64 3] w fun e' w' => e' = .returned (.tuple #[.int .i64 0, .iface 54 (.int .i64 1)]) ∧ w = w' := by
  have HQ := Lib.hid (leaf_nil 0 w)
  go_enter Tryz.func15, Tryz.ntmps15
  go_wp2_with fail
  refine HQ.out.mono ?_
  rintro e' w1 ⟨rfl, rfl⟩
  go_wp2
  go_ret2
  exact ⟨rfl, rfl⟩
set_option maxRecDepth 100000 in
theorem new_bad (room : Int) (h : room < 1 ∨ 65536 < room) (w : World) : Calls Tryz.prog 9 #[.int .i64 room] w fun e' w' => e' = .returned (.tuple #[.pointer none, .iface 54 (.int .i64 1)]) ∧ w = w' := by
  by_cases h1 : room < 1
  · clear h
    go_enter Tryz.func9, Tryz.ntmps9
    go_wp2
    go_ret2
    exact ⟨rfl, rfl⟩
  · have h2 : 65536 < room := by omega
    clear h
    go_enter Tryz.func9, Tryz.ntmps9
    go_wp2
    go_ret2
    exact ⟨rfl, rfl⟩
set_option maxRecDepth 100000 in
theorem about_nil (id x y : Int) (w : World) : Calls Tryz.prog 29 #[.pointer none, .int .i64 id, .int .i64 x, .int .i64 y] w fun e' w' => e' = .returned (.tuple #[zv, .iface 54 (.int .i64 1)]) ∧ Below w.heap.size w w' := by
  have HQ := Lib.hid (square_nil id (w.alloc zq))
  have HZ := Lib.hid (heap_alloc_new w zq)
  unfold zv at *
  go_enter Tryz.func29, Tryz.ntmps29
  go_wp2_with fail
  refine HQ.out.mono ?_
  rintro e' w1 ⟨rfl, hb⟩
  have HB := Lib.hid ((alX w zq).trans ((hb.trans ((alX w1 zq).mono hb.size)).mono (by simp)))
  have HZ2 := Lib.hid (((hb.trans ((alX w1 zq).mono hb.size)).block _ (lt_of_block HZ.out)).trans HZ.out)
  clear hb
  go_upto_region 2 with (fail)
  generalize w1.alloc (.cells #[.int .i64 0, .int .i64 0, .int .u64 0, .int .i64 0, .int .i64 0, .int .i64 0, .int .i64 0] 76) = W1 at HB HZ2 ⊢
  obtain ⟨⟨b0, b1, b2, b3, b4, b5, b6⟩, f0, f1, f2, f3, f4, f5, f6⟩ := row7 HZ2.out
  go_wp2
  refine post_row_tmp Tryz.results29 w.heap.size 76 #[.int .i64 0, .int .i64 0, .int .u64 0, .int .i64 0, .int .i64 0, .int .i64 0, .int .i64 0] (0, 0) _ (.iface 54 (.int .i64 1)) Tryz.underlying76 rfl info_q7 ?_ ?_ (row_set7 HZ2.out _ _ _ _ _ _ _) ?_ ?_
  · rfl
  · rfl
  · rfl
  exact ⟨rfl, below_set7 HB.out (Nat.le_refl _) _ _ _ _ _ _ _⟩
set_option maxRecDepth 100000 in
theorem set_nil (id x y : Int) (c : Bool) (w : World) : Calls Tryz.prog 16 #[.pointer none, .int .i64 id, .int .i64 x, .int .i64 y, .bool c] w fun e' w' => e' = .returned (.tuple #[.int .i64 0, .iface 54 (.int .i64 1)]) ∧ Below w.heap.size w w' := by
  have HQ := Lib.hid (about_nil id x y w)
  unfold zv at *
  go_enter Tryz.func16, Tryz.ntmps16
  go_wp2_with fail
  refine HQ.out.mono ?_
  rintro e' w1 ⟨rfl, hb⟩
  have HB := Lib.hid (hb.trans ((alX w1 zq).mono hb.size))
  clear hb
  go_wp2
  go_ret2
  exact ⟨rfl, HB.out⟩
end Go.Proofs.YtifkhmcdgmnipaaGreatDoor

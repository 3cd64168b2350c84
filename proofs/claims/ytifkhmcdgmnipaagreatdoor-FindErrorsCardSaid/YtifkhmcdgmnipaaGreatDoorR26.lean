/-
  THE WALK of look: what a store tells of a square; and of last, half, plus, minus, corner. Conditions: those that each lemma names.
-/
import Derived.Test.YtifkhmcdgmnipaaGreatDoorR25
namespace Go.Proofs.YtifkhmcdgmnipaaGreatDoor
open Go.RowKit Ti Qd Ce Cl Go.Maps Go.WideMaps

abbrev fq (q : Sq) : Obj := .cells #[.int .i64 q.lev, .int .i64 q.cnt, .int .u64 (rg q.til), .int .i64 q.k0, .int .i64 q.k1, .int .i64 q.k2, .int .i64 q.k3] 51
abbrev fz : Obj := .cells #[.int .i64 0, .int .i64 0, .int .u64 0, .int .i64 0, .int .i64 0, .int .i64 0, .int .i64 0] 51
set_option maxRecDepth 100000 in
theorem info_f7 : (Tryz.prog.info? 51).map (·.size) = some 7 := by kernel_rfl
theorem bd_lev {L : List Sq} {q : Sq} (h : Bd L q) : 3 ≤ q.lev ∧ q.lev ≤ 40 := ⟨h.l0, h.l1⟩
set_option maxRecDepth 100000 in
set_option maxHeartbeats 1000000 in
theorem look_none {B : Nat} {w : World} {P : Nat} {L : List Sq} {room : Nat} {H : Nat → Prop} (h : St B w P L room H) (id : Int) (ho : ¬ Ok L id) :
    Calls Tryz.prog 17 #[.pointer (some ⟨P, 0, none⟩), .int .i64 id] w fun e w' => e = .returned (.tuple #[zv, .iface 54 (.int .i64 8)]) ∧ Below w.heap.size w w' := by
  have HL := Lib.hid (level_none (h.below (alX w fz) (Nat.le_refl _)) id ho)
  have HZ := Lib.hid (heap_alloc_new w fz)
  clear h ho
  unfold zv
  go_enter Tryz.func17, Tryz.ntmps17
  go_wp2_with fail
  refine HL.out.mono ?_
  rintro e w1 ⟨rfl, hb⟩
  have HB := Lib.hid ((alX w fz).trans (hb.mono (by simp)))
  have HZ2 := Lib.hid ((hb.block _ (lt_of_block HZ.out)).trans HZ.out)
  obtain ⟨⟨c0, c1, c2, c3, c4, c5, c6⟩, f0, f1, f2, f3, f4, f5, f6⟩ := row7 HZ2.out
  clear hb
  go_wp2
  refine post_row_tmp Tryz.results17 w.heap.size 51 #[.int .i64 0, .int .i64 0, .int .u64 0, .int .i64 0, .int .i64 0, .int .i64 0, .int .i64 0] (0, 0) _ (.iface 54 (.int .i64 8)) Tryz.underlying51 rfl info_f7 ?_ ?_ (row_set7 HZ2.out _ _ _ _ _ _ _) ?_ ?_
  · rfl
  · rfl
  · rfl
  exact ⟨rfl, below_set7 HB.out (Nat.le_refl _) _ _ _ _ _ _ _⟩
set_option maxRecDepth 100000 in
set_option maxHeartbeats 1000000 in
theorem look_nil (id : Int) (w : World) :
    Calls Tryz.prog 17 #[.pointer none, .int .i64 id] w fun e w' => e = .returned (.tuple #[zv, .iface 54 (.int .i64 1)]) ∧ Below w.heap.size w w' := by
  have HL := Lib.hid (level_nil id (w.alloc fz))
  have HZ := Lib.hid (heap_alloc_new w fz)
  unfold zv
  go_enter Tryz.func17, Tryz.ntmps17
  go_wp2_with fail
  refine HL.out.mono ?_
  rintro e w1 ⟨rfl, hb⟩
  have HB := Lib.hid ((alX w fz).trans (hb.mono (by simp)))
  have HZ2 := Lib.hid ((hb.block _ (lt_of_block HZ.out)).trans HZ.out)
  obtain ⟨⟨c0, c1, c2, c3, c4, c5, c6⟩, f0, f1, f2, f3, f4, f5, f6⟩ := row7 HZ2.out
  clear hb
  go_wp2
  refine post_row_tmp Tryz.results17 w.heap.size 51 #[.int .i64 0, .int .i64 0, .int .u64 0, .int .i64 0, .int .i64 0, .int .i64 0, .int .i64 0] (0, 0) _ (.iface 54 (.int .i64 1)) Tryz.underlying51 rfl info_f7 ?_ ?_ (row_set7 HZ2.out _ _ _ _ _ _ _) ?_ ?_
  · rfl
  · rfl
  · rfl
  exact ⟨rfl, below_set7 HB.out (Nat.le_refl _) _ _ _ _ _ _ _⟩
abbrev set34 (w : World) (g : Nat) (v0 v1 v2 v3 : Value) : World := (((w.setCell ⟨g, 3, none⟩ v0).setCell ⟨g, 4, none⟩ v1).setCell ⟨g, 5, none⟩ v2).setCell ⟨g, 6, none⟩ v3
theorem row_set34 {w : World} {g : Nat} {a0 a1 a2 a3 a4 a5 a6 : Value} {t : TypeId} (h : w.heap[g]? = some (.cells #[a0, a1, a2, a3, a4, a5, a6] t (0, 0))) (v0 v1 v2 v3 : Value) :
    (set34 w g v0 v1 v2 v3).heap[g]? = some (.cells #[a0, a1, a2, v0, v1, v2, v3] t (0, 0)) := by
  have h0 := heap_setCell_same w g 3 _ _ v0 h
  have h1 := heap_setCell_same _ g 4 _ _ v1 h0
  have h2 := heap_setCell_same _ g 5 _ _ v2 h1
  have h3 := heap_setCell_same _ g 6 _ _ v3 h2
  rw [h3]
  rfl
theorem heap_set34 (w : World) (g x : Nat) (h : ¬ x = g) (v0 v1 v2 v3 : Value) : (set34 w g v0 v1 v2 v3).heap[x]? = w.heap[x]? :=
  (Below.heap_setCell _ _ _ _ h).trans ((Below.heap_setCell _ _ _ _ h).trans ((Below.heap_setCell _ _ _ _ h).trans (Below.heap_setCell _ _ _ _ h)))
theorem below_set34 {w w' : World} {B g : Nat} (h : Below B w w') (hg : B ≤ g) (v0 v1 v2 v3 : Value) : Below B w (set34 w' g v0 v1 v2 v3) :=
  (((h.setCell (p := ⟨g, 3, none⟩) hg v0).setCell (p := ⟨g, 4, none⟩) hg v1).setCell (p := ⟨g, 5, none⟩) hg v2).setCell (p := ⟨g, 6, none⟩) hg v3
set_option maxRecDepth 100000 in
set_option maxHeartbeats 1000000 in
theorem look_tile {B : Nat} {w : World} {P : Nat} {L : List Sq} {room : Nat} {H : Nat → Prop} (h : St B w P L room H) (id : Int) (hl : Lv L 0 id) :
    Calls Tryz.prog 17 #[.pointer (some ⟨P, 0, none⟩), .int .i64 id] w fun e w' => e = .returned (.tuple #[qv (at' L id), .nilIface]) ∧ Below w.heap.size w w' := by
  have hq := h.inv.isLeaf hl
  have HS := Lib.hid (h.below (alX w fz) (Nat.le_refl _))
  have HO := Lib.hid hl.1
  have HL := Lib.hid (level_is HS.out id hl.1 3 hl.2)
  have HCt := Lib.hid (fun (W : World) (hs : St B W P L room H) => count_ok hs id hl.1)
  have HT := Lib.hid (fun (W : World) (hs : St B W P L room H) => tile_ok hs id hl (at' L id).til rfl)
  have HZ := Lib.hid (heap_alloc_new w fz)
  have HE := Lib.hid (show #[Value.int .i64 3, .int .i64 (at' L id).cnt, .int .u64 (rg (at' L id).til), .int .i64 0, .int .i64 0, .int .i64 0, .int .i64 0] = #[Value.int .i64 (at' L id).lev, .int .i64 (at' L id).cnt, .int .u64 (rg (at' L id).til), .int .i64 (at' L id).k0, .int .i64 (at' L id).k1, .int .i64 (at' L id).k2, .int .i64 (at' L id).k3] by rw [hq]; rfl)
  clear h hl hq
  unfold qv
  generalize (at' L id).cnt = c at *
  generalize rg (at' L id).til = r at *
  go_enter Tryz.func17, Tryz.ntmps17
  go_wp2_with fail
  refine HL.out.mono ?_
  rintro e w1 ⟨rfl, hb⟩
  have HS1 := Lib.hid (HS.out.below hb (Nat.le_refl _))
  have HB := Lib.hid ((alX w fz).trans (hb.mono (by simp)))
  have HZ2 := Lib.hid ((hb.block _ (lt_of_block HZ.out)).trans HZ.out)
  have HC1 := Lib.hid (HCt.out w1 HS1.out)
  clear hb HL HS HZ
  go_wp2_with fail
  refine HC1.out.mono ?_
  rintro e w2 ⟨rfl, hb⟩
  have HS2 := Lib.hid ((HS1.out.below hb (Nat.le_refl _)).below (alX w2 (.cells #[.int .i64 3, .int .i64 c, .int .u64 0, .int .i64 0, .int .i64 0, .int .i64 0, .int .i64 0] 51)) (Nat.le_refl _))
  have HB2 := Lib.hid ((HB.out.trans (hb.mono HB.out.size)).trans ((alX w2 (.cells #[.int .i64 3, .int .i64 c, .int .u64 0, .int .i64 0, .int .i64 0, .int .i64 0, .int .i64 0] 51)).mono (HB.out.trans (hb.mono HB.out.size)).size))
  have HZ3 := Lib.hid (((alX w2 (.cells #[.int .i64 3, .int .i64 c, .int .u64 0, .int .i64 0, .int .i64 0, .int .i64 0, .int .i64 0] 51)).block _ (Nat.lt_of_lt_of_le (lt_of_block HZ2.out) hb.size)).trans ((hb.block _ (lt_of_block HZ2.out)).trans HZ2.out))
  have HG := Lib.hid (heap_alloc_new w2 (.cells #[.int .i64 3, .int .i64 c, .int .u64 0, .int .i64 0, .int .i64 0, .int .i64 0, .int .i64 0] 51))
  have HT1 := Lib.hid (HT.out _ HS2.out)
  have HN := Lib.hid (show ¬ w.heap.size = w2.heap.size from fun e => by have := lt_of_block HZ2.out; have := hb.size; omega)
  have HGE := Lib.hid (show w.heap.size ≤ w2.heap.size from by have := lt_of_block HZ2.out; have := hb.size; omega)
  clear hb HS1 HC1 HB HZ2 HCt HT
  go_wp2_with fail
  refine HT1.out.mono ?_
  rintro e w3 ⟨rfl, hb⟩
  have HB3 := Lib.hid (HB2.out.trans (hb.mono HB2.out.size))
  have HZ4 := Lib.hid ((hb.block _ (lt_of_block HZ3.out)).trans HZ3.out)
  have HG2 := Lib.hid ((hb.block _ (lt_of_block HG.out)).trans HG.out)
  generalize w2.heap.size = g at *
  have HR := Lib.hid (show (w3.setCell ⟨g, 2, none⟩ (.int .u64 r)).heap[g]? = some (.cells #[.int .i64 3, .int .i64 c, .int .u64 r, .int .i64 0, .int .i64 0, .int .i64 0, .int .i64 0] 51 (0, 0)) from heap_setCell_same _ g 2 _ _ _ HG2.out)
  have HZ5 := Lib.hid (show (w3.setCell ⟨g, 2, none⟩ (.int .u64 r)).heap[w.heap.size]? = some (.cells #[.int .i64 0, .int .i64 0, .int .u64 0, .int .i64 0, .int .i64 0, .int .i64 0, .int .i64 0] 51 (0, 0)) from (Below.heap_setCell _ _ _ _ HN.out).trans HZ4.out)
  have HB5 := Lib.hid (HB3.out.setCell (p := ⟨g, 2, none⟩) (by show w.heap.size ≤ g; exact HGE.out) (.int .u64 r))
  obtain ⟨⟨c0, c1, c2, c3, c4, c5, c6⟩, f0, f1, f2, f3, f4, f5, f6⟩ := row7 HG2.out
  clear hb HZ3 HG HT1 HS2 HB2
  go_upto_region 11 with (fail)
  clear c0 c1 c2 c3 c4 c5 c6 f0 f1 f2 f3 f4 f5 f6
  generalize World.setCell _ _ _ = w5 at HR HZ5 HB5 ⊢
  obtain ⟨⟨c0, c1, c2, c3, c4, c5, c6⟩, f0, f1, f2, f3, f4, f5, f6⟩ := row7 HR.out
  obtain ⟨⟨d0, d1, d2, d3, d4, d5, d6⟩, k0, k1, k2, k3, k4, k5, k6⟩ := row7 HZ5.out
  go_wp2
  refine post_row_tmp Tryz.results17 w.heap.size 51 #[.int .i64 3, .int .i64 c, .int .u64 r, .int .i64 0, .int .i64 0, .int .i64 0, .int .i64 0] (0, 0) _ .nilIface Tryz.underlying51 rfl info_f7 ?_ ?_ (row_set7 HZ5.out _ _ _ _ _ _ _) ?_ ?_
  · rfl
  · rfl
  · rfl
  exact ⟨by rw [HE.out], below_set7 HB5.out (Nat.le_refl _) _ _ _ _ _ _ _⟩
set_option maxRecDepth 100000 in
set_option maxHeartbeats 1000000 in
theorem look_node {B : Nat} {w : World} {P : Nat} {L : List Sq} {room : Nat} {H : Nat → Prop} (h : St B w P L room H) (n : Nat) (id : Int) (hl : Lv L (n + 1) id) :
    Calls Tryz.prog 17 #[.pointer (some ⟨P, 0, none⟩), .int .i64 id] w fun e w' => e = .returned (.tuple #[qv (at' L id), .nilIface]) ∧ Below w.heap.size w w' := by
  have hq := (h.inv.node hl).eq
  have hbd := bd_lev (h.inv.bd hl.1)
  have HS := Lib.hid (h.below (alX w fz) (Nat.le_refl _))
  have HO := Lib.hid hl.1
  have HL := Lib.hid (level_is HS.out id hl.1 _ rfl)
  have HCt := Lib.hid (fun (W : World) (hs : St B W P L room H) => count_ok hs id hl.1)
  have HT := Lib.hid (fun (W : World) (hs : St B W P L room H) => kids_ok hs n id hl (at' L id) rfl)
  have HZ := Lib.hid (heap_alloc_new w fz)
  have HE := Lib.hid (show #[Value.int .i64 (at' L id).lev, .int .i64 (at' L id).cnt, .int .u64 0, .int .i64 (at' L id).k0, .int .i64 (at' L id).k1, .int .i64 (at' L id).k2, .int .i64 (at' L id).k3] = #[Value.int .i64 (at' L id).lev, .int .i64 (at' L id).cnt, .int .u64 (rg (at' L id).til), .int .i64 (at' L id).k0, .int .i64 (at' L id).k1, .int .i64 (at' L id).k2, .int .i64 (at' L id).k3] by rw [show (at' L id).til = 0#64 from by rw [hq]; rfl]; rfl)
  have e3 : ((at' L id).lev == 3) = false := by rw [beq_eq_false_iff_ne, hl.2]; omega
  clear h hl hq
  unfold qv
  generalize hV : #[Value.int .i64 (at' L id).lev, .int .i64 (at' L id).cnt, .int .u64 (rg (at' L id).til), .int .i64 (at' L id).k0, .int .i64 (at' L id).k1, .int .i64 (at' L id).k2, .int .i64 (at' L id).k3] = V at HE ⊢
  generalize (at' L id).lev = lv at *
  generalize (at' L id).cnt = c at *
  generalize (at' L id).k0 = k0 at *
  generalize (at' L id).k1 = k1 at *
  generalize (at' L id).k2 = k2 at *
  generalize (at' L id).k3 = k3 at *
  clear hV
  go_enter Tryz.func17, Tryz.ntmps17
  go_wp2_with fail
  refine HL.out.mono ?_
  rintro e w1 ⟨rfl, hb⟩
  have HS1 := Lib.hid (HS.out.below hb (Nat.le_refl _))
  have HB := Lib.hid ((alX w fz).trans (hb.mono (by simp)))
  have HZ2 := Lib.hid ((hb.block _ (lt_of_block HZ.out)).trans HZ.out)
  have HC1 := Lib.hid (HCt.out w1 HS1.out)
  clear hb HL HS HZ
  go_wp2_with fail
  refine HC1.out.mono ?_
  rintro e w2 ⟨rfl, hb⟩
  have HS2 := Lib.hid ((HS1.out.below hb (Nat.le_refl _)).below (alX w2 (.cells #[.int .i64 lv, .int .i64 c, .int .u64 0, .int .i64 0, .int .i64 0, .int .i64 0, .int .i64 0] 51)) (Nat.le_refl _))
  have HB2 := Lib.hid ((HB.out.trans (hb.mono HB.out.size)).trans ((alX w2 (.cells #[.int .i64 lv, .int .i64 c, .int .u64 0, .int .i64 0, .int .i64 0, .int .i64 0, .int .i64 0] 51)).mono (HB.out.trans (hb.mono HB.out.size)).size))
  have HZ3 := Lib.hid (((alX w2 (.cells #[.int .i64 lv, .int .i64 c, .int .u64 0, .int .i64 0, .int .i64 0, .int .i64 0, .int .i64 0] 51)).block _ (Nat.lt_of_lt_of_le (lt_of_block HZ2.out) hb.size)).trans ((hb.block _ (lt_of_block HZ2.out)).trans HZ2.out))
  have HG := Lib.hid (heap_alloc_new w2 (.cells #[.int .i64 lv, .int .i64 c, .int .u64 0, .int .i64 0, .int .i64 0, .int .i64 0, .int .i64 0] 51))
  have HT1 := Lib.hid (HT.out _ HS2.out)
  have HN := Lib.hid (show ¬ w.heap.size = w2.heap.size from fun e => by have := lt_of_block HZ2.out; have := hb.size; omega)
  have HGE := Lib.hid (show w.heap.size ≤ w2.heap.size from by have := lt_of_block HZ2.out; have := hb.size; omega)
  clear hb HS1 HC1 HB HZ2 HCt HT
  go_wp2_with fail
  refine HT1.out.mono ?_
  rintro e w3 ⟨rfl, hb⟩
  have HB3 := Lib.hid (HB2.out.trans (hb.mono HB2.out.size))
  have HZ4 := Lib.hid ((hb.block _ (lt_of_block HZ3.out)).trans HZ3.out)
  have HG2 := Lib.hid ((hb.block _ (lt_of_block HG.out)).trans HG.out)
  generalize w2.heap.size = g at *
  have HR := Lib.hid (row_set34 HG2.out (.int .i64 k0) (.int .i64 k1) (.int .i64 k2) (.int .i64 k3))
  have HZ5 := Lib.hid ((heap_set34 w3 g w.heap.size HN.out (.int .i64 k0) (.int .i64 k1) (.int .i64 k2) (.int .i64 k3)).trans HZ4.out)
  have HB5 := Lib.hid (below_set34 HB3.out HGE.out (.int .i64 k0) (.int .i64 k1) (.int .i64 k2) (.int .i64 k3))
  obtain ⟨⟨c0, c1, c2, c3, c4, c5, c6⟩, f0, f1, f2, f3, f4, f5, f6⟩ := row7 HG2.out
  clear hb HZ3 HG HT1 HS2 HB2
  go_upto_region 11 with (fail)
  clear c0 c1 c2 c3 c4 c5 c6 f0 f1 f2 f3 f4 f5 f6
  unfold set34 at HR HZ5 HB5
  generalize World.setCell _ _ _ = w5 at HR HZ5 HB5 ⊢
  obtain ⟨⟨c0, c1, c2, c3, c4, c5, c6⟩, f0, f1, f2, f3, f4, f5, f6⟩ := row7 HR.out
  obtain ⟨⟨d0, d1, d2, d3, d4, d5, d6⟩, z0, z1, z2, z3, z4, z5, z6⟩ := row7 HZ5.out
  go_wp2
  refine post_row_tmp Tryz.results17 w.heap.size 51 #[.int .i64 lv, .int .i64 c, .int .u64 0, .int .i64 k0, .int .i64 k1, .int .i64 k2, .int .i64 k3] (0, 0) _ .nilIface Tryz.underlying51 rfl info_f7 ?_ ?_ (row_set7 HZ5.out _ _ _ _ _ _ _) ?_ ?_
  · rfl
  · rfl
  · rfl
  exact ⟨by rw [HE.out], below_set7 HB5.out (Nat.le_refl _) _ _ _ _ _ _ _⟩
/-- whatever square it is -/
theorem look_ok {B : Nat} {w : World} {P : Nat} {L : List Sq} {room : Nat} {H : Nat → Prop} (h : St B w P L room H) (id : Int) (ho : Ok L id) :
    Calls Tryz.prog 17 #[.pointer (some ⟨P, 0, none⟩), .int .i64 id] w fun e w' => e = .returned (.tuple #[qv (at' L id), .nilIface]) ∧ Below w.heap.size w w' := by
  have hbd := bd_lev (h.inv.bd ho)
  obtain ⟨n, hn⟩ : ∃ n : Nat, (at' L id).lev = (n : Int) + 3 := ⟨((at' L id).lev - 3).toNat, by omega⟩
  cases n with
  | zero => exact look_tile h id ⟨ho, by rw [hn]⟩
  | succ n => exact look_node h n id ⟨ho, by rw [hn]⟩
end Go.Proofs.YtifkhmcdgmnipaaGreatDoor

/-
  WHAT A GROWER ANSWERS TO WHAT CAN'T BE. Conditions: those that each lemma names.
-/
import Derived.Test.YtgimphkamjojpaaDoorE42
namespace Go.Proofs.YtgimphkamjojpaaDoor
open Go.RowKit Ti Qd Go.Maps Go.WideMaps Ru

set_option maxRecDepth 100000 in
theorem center_nil (id : Int) (w : World) : Calls Tryd.prog 13 #[.pointer none, .int .i64 id] w fun e w' => e = .returned (.tuple #[.int .i64 0, .iface 56 (.int .i64 1)]) ∧ w = w' := by
  go_enter Tryd.func13, Tryd.ntmps13
  go_wp2
  go_ret2
  exact ⟨rfl, rfl⟩
set_option maxRecDepth 100000 in
theorem growN_nil (id j : Int) (w : World) : Calls Tryd.prog 11 #[.pointer none, .int .i64 id, .int .i64 j] w fun e w' => e = .returned (.tuple #[.int .i64 0, .iface 56 (.int .i64 1)]) ∧ w = w' := by
  go_enter Tryd.func11, Tryd.ntmps11
  go_wp2
  go_ret2
  exact ⟨rfl, rfl⟩
set_option maxRecDepth 100000 in
theorem wide_nil (id : Int) (w : World) : Calls Tryd.prog 17 #[.pointer none, .int .i64 id] w fun e w' => e = .returned (.tuple #[.int .i64 0, .iface 56 (.int .i64 1)]) ∧ w = w' := by
  go_enter Tryd.func17, Tryd.ntmps17
  go_wp2
  go_ret2
  exact ⟨rfl, rfl⟩
set_option maxRecDepth 100000 in
theorem known_nil (w : World) : Calls Tryd.prog 18 #[.pointer none] w fun e w' => e = .returned (.int .i64 0) ∧ w = w' := by
  go_enter Tryd.func18, Tryd.ntmps18
  go_wp2
  go_ret
  exact ⟨rfl, rfl⟩
set_option maxRecDepth 100000 in
theorem known_zero {B : Nat} {w : World} {G P M b l : Nat} {L : List Sq} {room : Nat} {H : Nat → Prop} (h : Gr B w G P M b l (L, fun _ _ => none) room H) :
    Calls Tryd.prog 18 #[.pointer (some ⟨G, 0, none⟩)] w fun e w' => e = .returned (.int .i64 0) ∧ w = w' := by
  have HS := Lib.hid (Gs.start h)
  have c3 := HS.out.rul.2.2
  obtain ⟨D, ks, h1, _, _, _, hk⟩ := HS.out.kn
  have hlen := fun ty => h1.len Tryd.underlying62 ty
  have hks : ks = [] := by
    cases ks with
    | nil => rfl
    | cons a t => exact absurd rfl ((hk a.1 a.2).2 List.mem_cons_self)
  have hz : Maps.size D = 0 := by have := h1.size_le; rw [hks] at this; exact Nat.le_zero.1 this
  rw [hz] at hlen
  clear h h1 hk hks hz
  go_enter Tryd.func18, Tryd.ntmps18
  go_wp2
  go_ret
  exact ⟨rfl, rfl⟩
set_option maxRecDepth 100000 in
theorem gnew_nil (b l : Int) (w : World) : Calls Tryd.prog 8 #[.pointer none, .agg #[.int .u16 b, .int .u16 l]] w fun e w' => e = .returned (.tuple #[.pointer none, .iface 56 (.int .i64 1)]) ∧ Below w.heap.size w w' := by
  go_enter Tryd.func8, Tryd.ntmps8
  go_wp2
  go_ret2
  exact ⟨rfl, alX w _⟩
set_option maxRecDepth 100000 in
theorem gnew_bad (P b l : Nat) (hb : b < 65536) (hl : l < 65536) (hm : mayR b l = false) (w : World) : Calls Tryd.prog 8 #[.pointer (some ⟨P, 0, none⟩), Rv b l] w fun e w' => e = .returned (.tuple #[.pointer none, .iface 56 (.int .i64 11)]) ∧ Below w.heap.size w w' := by
  have HC := Lib.hid (fun w => check_bad b l hb hl hm w)
  unfold Rv at HC ⊢
  have HB := Lib.hid (alX w (.cells #[.int .u16 b, .int .u16 l] 39))
  obtain ⟨c0, c1⟩ := two_cells (heap_alloc_new w (.cells #[.int .u16 b, .int .u16 l] 39))
  clear hb hl hm
  go_enter Tryd.func8, Tryd.ntmps8
  go_wp2_with fail
  refine (HC.out _).mono ?_
  rintro e w1 ⟨rfl, hb⟩
  have HB1 := Lib.hid (HB.out.trans (hb.mono HB.out.size))
  clear hb
  go_wp2
  go_ret2
  exact ⟨rfl, HB1.out⟩
set_option maxRecDepth 100000 in
theorem kids_none {B : Nat} {w : World} {P : Nat} {L : List Sq} {room : Nat} {H : Nat → Prop} (h : St B w P L room H) (id : Int) (ho : ¬ Ok L id) :
    Calls Tryd.prog 28 #[.pointer (some ⟨P, 0, none⟩), .int .i64 id] w fun e' w' => e' = .returned (.tuple #[.agg #[.int .i64 0, .int .i64 0, .int .i64 0, .int .i64 0], .iface 56 (.int .i64 8)]) ∧ Below w.heap.size w w' := by
  have HQ := Lib.hid (square_none (h.below (alX w z4) (Nat.le_refl _)) id ho)
  have HZ := Lib.hid (heap_alloc_new w z4)
  clear h
  unfold zv at *
  go_enter Tryd.func28, Tryd.ntmps28
  go_wp2_with fail
  refine HQ.out.mono ?_
  rintro e' w1 ⟨rfl, hb⟩
  have HB := Lib.hid ((alX w z4).trans ((hb.trans ((alX w1 zq).mono hb.size)).mono (by simp)))
  have HZ2 := Lib.hid (((hb.trans ((alX w1 zq).mono hb.size)).block _ (lt_of_block HZ.out)).trans HZ.out)
  clear hb
  go_upto_region 2 with (fail)
  generalize w1.alloc (.cells #[.int .i64 0, .int .i64 0, .int .u64 0, .int .i64 0, .int .i64 0, .int .i64 0, .int .i64 0] 83) = W1 at HB HZ2 ⊢
  obtain ⟨b0, b1, b2, b3⟩ := row4 HZ2.out
  have f0 := frozen_of_row _ _ 0 _ _ HZ2.out
  have f1 := frozen_of_row _ _ 1 _ _ HZ2.out
  have f2 := frozen_of_row _ _ 2 _ _ HZ2.out
  have f3 := frozen_of_row _ _ 3 _ _ HZ2.out
  go_wp2
  refine post_row_tmp Tryd.results28 w.heap.size 71 #[.int .i64 0, .int .i64 0, .int .i64 0, .int .i64 0] (0, 0) _ (.iface 56 (.int .i64 8)) Tryd.underlying71 rfl info_4 ?_ ?_ (row_set4 HZ2.out _ _ _ _) ?_ ?_
  · rfl
  · rfl
  · rfl
  exact ⟨rfl, below_set4 HB.out (Nat.le_refl _) _ _ _ _⟩
set_option maxRecDepth 100000 in
theorem kids_leaf {B : Nat} {w : World} {P : Nat} {L : List Sq} {room : Nat} {H : Nat → Prop} (h : St B w P L room H) (id : Int) (hl : Lv L 0 id) :
    Calls Tryd.prog 28 #[.pointer (some ⟨P, 0, none⟩), .int .i64 id] w fun e' w' => e' = .returned (.tuple #[.agg #[.int .i64 0, .int .i64 0, .int .i64 0, .int .i64 0], .iface 56 (.int .i64 1)]) ∧ Below w.heap.size w w' := by
  obtain ⟨q, hq⟩ : ∃ q, at' L id = q := ⟨_, rfl⟩
  have HQ := Lib.hid (square_is (h.below (alX w z4) (Nat.le_refl _)) id hl.1 hq)
  have e3 : (q.lev == 3) = true := by rw [beq_iff_eq, ← hq, hl.2]; rfl
  clear hl hq
  have HZ := Lib.hid (heap_alloc_new w z4)
  clear h
  unfold qv at *
  go_enter Tryd.func28, Tryd.ntmps28
  go_wp2_with fail
  refine HQ.out.mono ?_
  rintro e' w1 ⟨rfl, hb⟩
  have HB := Lib.hid ((alX w z4).trans ((hb.trans ((alX w1 (bq q)).mono hb.size)).mono (by simp)))
  have HZ2 := Lib.hid (((hb.trans ((alX w1 (bq q)).mono hb.size)).block _ (lt_of_block HZ.out)).trans HZ.out)
  have hg := heap_alloc_new w1 (bq q)
  clear hb
  unfold bq at *
  go_upto_region 2 with (fail)
  generalize w1.alloc (.cells #[.int .i64 q.lev, .int .i64 q.cnt, .int .u64 (rg q.til), .int .i64 q.k0, .int .i64 q.k1, .int .i64 q.k2, .int .i64 q.k3] 83) = W1 at HB HZ2 hg ⊢
  obtain ⟨⟨c0, c1, c2, c3, c4, c5, c6⟩, _, _, _, _, _, _, _⟩ := row7 hg
  clear hg
  obtain ⟨b0, b1, b2, b3⟩ := row4 HZ2.out
  have f0 := frozen_of_row _ _ 0 _ _ HZ2.out
  have f1 := frozen_of_row _ _ 1 _ _ HZ2.out
  have f2 := frozen_of_row _ _ 2 _ _ HZ2.out
  have f3 := frozen_of_row _ _ 3 _ _ HZ2.out
  go_wp2
  refine post_row_tmp Tryd.results28 w.heap.size 71 #[.int .i64 0, .int .i64 0, .int .i64 0, .int .i64 0] (0, 0) _ (.iface 56 (.int .i64 1)) Tryd.underlying71 rfl info_4 ?_ ?_ (row_set4 HZ2.out _ _ _ _) ?_ ?_
  · rfl
  · rfl
  · rfl
  exact ⟨rfl, below_set4 HB.out (Nat.le_refl _) _ _ _ _⟩
set_option maxRecDepth 100000 in
theorem center_none {B : Nat} {w : World} {G P M b l : Nat} {s : GS} {room : Nat} {H : Nat → Prop} (h : Gr B w G P M b l s room H) (id : Int) (ho : ¬ Ok s.1 id) :
    Calls Tryd.prog 13 #[.pointer (some ⟨G, 0, none⟩), .int .i64 id] w fun e w' => e = .returned (.tuple #[.int .i64 0, .iface 56 (.int .i64 8)]) ∧ Below w.heap.size w w' := by
  have HS := Lib.hid (Gs.start h)
  have hp := HS.out.ptr
  obtain ⟨Hs, hst, _⟩ := HS.out.store
  have HK := Lib.hid (kids_none hst id ho)
  clear h hst HS
  go_enter Tryd.func13, Tryd.ntmps13
  go_wp2_with fail
  refine HK.out.mono ?_
  rintro e w2 ⟨rfl, hb⟩
  have HB := Lib.hid (hb.trans ((alX w2 (.cells #[.int .i64 0, .int .i64 0, .int .i64 0, .int .i64 0] 71)).mono hb.size))
  clear hb hp
  go_wp2
  go_ret2
  exact ⟨rfl, HB.out⟩
set_option maxRecDepth 100000 in
theorem center_leaf {B : Nat} {w : World} {G P M b l : Nat} {s : GS} {room : Nat} {H : Nat → Prop} (h : Gr B w G P M b l s room H) (id : Int) (hl : Lv s.1 0 id) :
    Calls Tryd.prog 13 #[.pointer (some ⟨G, 0, none⟩), .int .i64 id] w fun e w' => e = .returned (.tuple #[.int .i64 0, .iface 56 (.int .i64 1)]) ∧ Below w.heap.size w w' := by
  have HS := Lib.hid (Gs.start h)
  have hp := HS.out.ptr
  obtain ⟨Hs, hst, _⟩ := HS.out.store
  have HK := Lib.hid (kids_leaf hst id hl)
  clear h hst HS
  go_enter Tryd.func13, Tryd.ntmps13
  go_wp2_with fail
  refine HK.out.mono ?_
  rintro e w2 ⟨rfl, hb⟩
  have HB := Lib.hid (hb.trans ((alX w2 (.cells #[.int .i64 0, .int .i64 0, .int .i64 0, .int .i64 0] 71)).mono hb.size))
  clear hb hp
  go_wp2
  go_ret2
  exact ⟨rfl, HB.out⟩
set_option maxRecDepth 100000 in
theorem growN_none {B : Nat} {w : World} {G P M b l : Nat} {s : GS} {room : Nat} {H : Nat → Prop} (h : Gr B w G P M b l s room H) (id j : Int) (ho : ¬ Ok s.1 id) :
    Calls Tryd.prog 11 #[.pointer (some ⟨G, 0, none⟩), .int .i64 id, .int .i64 j] w fun e w' => e = .returned (.tuple #[.int .i64 0, .iface 56 (.int .i64 8)]) ∧ Below w.heap.size w w' := by
  have HS := Lib.hid (Gs.start h)
  have hp := HS.out.ptr
  obtain ⟨Hs, hst, _⟩ := HS.out.store
  have HK := Lib.hid (level_none hst id ho)
  clear h hst HS
  go_enter Tryd.func11, Tryd.ntmps11
  go_wp2_with fail
  refine HK.out.mono ?_
  rintro e w2 ⟨rfl, hb⟩
  have HB := Lib.hid hb
  clear hb hp
  go_wp2
  go_ret2
  exact ⟨rfl, HB.out⟩
set_option maxRecDepth 100000 in
theorem wide_none {B : Nat} {w : World} {G P M b l : Nat} {s : GS} {room : Nat} {H : Nat → Prop} (h : Gr B w G P M b l s room H) (id : Int) (ho : ¬ Ok s.1 id) :
    Calls Tryd.prog 17 #[.pointer (some ⟨G, 0, none⟩), .int .i64 id] w fun e w' => e = .returned (.tuple #[.int .i64 0, .iface 56 (.int .i64 8)]) ∧ Below w.heap.size w w' := by
  have HS := Lib.hid (Gs.start h)
  have hp := HS.out.ptr
  obtain ⟨Hs, hst, _⟩ := HS.out.store
  have HK := Lib.hid (level_none hst id ho)
  clear h hst HS
  go_enter Tryd.func17, Tryd.ntmps17
  go_wp2_with fail
  refine HK.out.mono ?_
  rintro e w2 ⟨rfl, hb⟩
  have HB := Lib.hid hb
  clear hb hp
  go_wp2
  go_ret2
  exact ⟨rfl, HB.out⟩
set_option maxRecDepth 100000 in
theorem growN_leaf {B : Nat} {w : World} {G P M b l : Nat} {s : GS} {room : Nat} {H : Nat → Prop} (h : Gr B w G P M b l s room H) (id j : Int) (hl : Lv s.1 0 id) :
    Calls Tryd.prog 11 #[.pointer (some ⟨G, 0, none⟩), .int .i64 id, .int .i64 j] w fun e w' => e = .returned (.tuple #[.int .i64 0, .iface 56 (.int .i64 1)]) ∧ Below w.heap.size w w' := by
  have HS := Lib.hid (Gs.start h)
  have hp := HS.out.ptr
  obtain ⟨Hs, hst, _⟩ := HS.out.store
  have HK := Lib.hid (level_is hst id hl.1 3 (by rw [hl.2]; rfl))
  clear h hst HS
  go_enter Tryd.func11, Tryd.ntmps11
  go_wp2_with fail
  refine HK.out.mono ?_
  rintro e w2 ⟨rfl, hb⟩
  have HB := Lib.hid hb
  clear hb hp
  go_wp2
  go_ret2
  exact ⟨rfl, HB.out⟩
end Go.Proofs.YtgimphkamjojpaaDoor

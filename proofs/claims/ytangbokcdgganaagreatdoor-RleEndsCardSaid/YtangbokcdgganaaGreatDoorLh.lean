/-
  RLE: lay, a run laid.
-/
import Derived.Test.YtangbokcdgganaaGreatDoorLg
import Derived.Test.YtangbokcdgganaaGreatDoorTill
import Derived.Great.BuildSlice
import Derived.Maps.AppendAt
namespace Go.Proofs.YtangbokcdgganaaGreatDoor
open Go.RowKit Ru Ce
open Go.Lib (indexByte hasPrefix)

theorem cell_al {Y : World} {b o : Nat} {v : Value} (O : Obj) (h : Y.cell? ⟨b, o, none⟩ = some v) : (Y.alloc O).cell? ⟨b, o, none⟩ = some v :=
  ((alX Y O).cell (p := ⟨b, o, none⟩) (World.block_lt_of_cell? Y _ h)).trans h
theorem wp_appI {P : Program} {o : Oper} {a : Act} {w : World} {K : Act → World → Prop} {Q : Exit → Act → World → Prop} (s x : Operand) (t tn : TypeId)
    (ho : o.op = .call { callee := .builtin .append, args := #[s, x], argTypes := #[t, tn] }) (v u : Value) (hs : a.eval s = v) (hx : a.eval x = u) {v' : Value} {w' : World} (hr : (Builtin.append_ #[t, tn] o.type #[v, u]).run P w = .ok v' w') (d : Tmp) (hd : o.dst = some d) (h : K (a.put (some d) v') w') :
    Oper.wp P o a w K Q := by
  rw [← hd] at h
  unfold Oper.wp execOp
  simp only [ho, resolve, invoke, builtin, Sem.run_bind, Sem.run_pure, Result.andThen_ok, List.map_toArray, List.map_cons, List.map_nil, hs, hx, hr]
  exact h
theorem fill_c (x y : Int) : Instr.fill (fun i => some (i * 2, 2)) ((Array.range (1 * 2)).map ((cv (0, 0)).cells[· % (cv (0, 0)).cells.size]!)) [(0, Value.agg #[.int .i64 x, .int .i64 y])] = some #[.int .i64 x, .int .i64 y] := by
  rw [show Array.range (1 * 2) = #[0, 1] from by decide]
  simp [Instr.fill, cv, Value.cells]
theorem wp_newC {o : Oper} {a : Act} {w : World} {K : Act → World → Prop} {Q : Exit → Act → World → Prop} (u : Operand) (ho : o.op = .buildSlice 23 1 #[(0, u)]) (x y : Int) (hu : a.eval u = .agg #[.int .i64 x, .int .i64 y])
    (d : Tmp) (hd : o.dst = some d) (h : K (a.put (some d) (.slice (some ⟨w.heap.size, 0, none⟩) 1 1)) (w.alloc (.cells #[.int .i64 x, .int .i64 y] 25))) : Oper.wp Tryz.prog o a w K Q := by
  rw [← hd] at h
  obtain ⟨i, hi, hz0, hz1, hz2⟩ := info_parts info_a
  refine wp_buildSlice 23 25 1 #[(0, u)] ho #[.int .i64 x, .int .i64 y] i (cv (0, 0)) Tryz.underlying23 hi hz0 (by rw [hz1]; decide) (by rw [hz1]; decide) ?_ h
  rw [hz1]
  simp only [List.map_toArray, List.map_cons, List.map_nil, hu]
  exact fill_c x y
namespace Rl
/-- what lay leaves -/
def LayR (B g : Nat) (w : World) (o : Option (Nat × Nat × List Cel)) (e : Ending) (w' : World) : Prop :=
  Below B w w' ∧ match o with
    | none => e = .returned (.bool false)
    | some (x, y, cs) => e = .returned (.bool true) ∧ ∃ v, Pl B w' g v x y cs
theorem layP_b (x y : Nat) (cs : List Cel) (n : Nat) : layP x y cs n 98 = if x + n ≤ 274877906945 then some (x + n, y, cs) else none := rfl
theorem layP_o (x y : Nat) (cs : List Cel) (n : Nat) : layP x y cs n 111 = if cs.length + n ≤ 4096 then (if x + n ≤ 274877906945 then some (x + n, y, cs ++ rowC x y n) else none) else none := rfl
theorem layP_d (x y : Nat) (cs : List Cel) (n : Nat) : layP x y cs n 36 = if y + n ≤ 274877906944 then some (0, y + n, cs) else none := rfl
set_option maxRecDepth 100000 in
set_option maxHeartbeats 1000000 in
theorem lay_b (B g : Nat) (v : Value) (x y n : Nat) (cs : List Cel) (w : World) (h : Pl B w g v x y cs) (hx : x ≤ 274877906945) (hy : y ≤ 274877906944) (hn : n ≤ 274877906944) :
    Calls Tryz.prog 41 #[.pointer (some ⟨g, 0, none⟩), .int .i64 n, .int .u8 98] w (LayR B g w (layP x y cs n 98)) := by
  have h1 := set3_0 h.blk (.int .i64 ((x + n : Nat) : Int))
  obtain ⟨⟨c0, c1, c2⟩, f0, f1, f2⟩ := row3 h.blk
  obtain ⟨⟨d0, d1, d2⟩, k0, k1, k2⟩ := row3 h1
  have HB := Lib.hid (show Below B w (w.setCell ⟨g, 0, none⟩ (.int .i64 ((x + n : Nat) : Int))) from (Below.refl B w).setCell (p := ⟨g, 0, none⟩) h.le _)
  have HP := Lib.hid (h.set h1 (fun b hb => heap_setCell_other w ⟨g, 0, none⟩ b _ hb))
  rw [layP_b]
  clear h h1
  push_cast at *
  by_cases hq : x + n ≤ 274877906945
  · rw [if_pos hq]
    go_enter Tryz.func41, Tryz.ntmps41
    go_wp2
    go_ret
    exact ⟨HB.out, by show Ending.returned (.bool (decide ((y : Int) ≤ 274877906944))) = _; rw [decide_eq_true (by omega)], v, HP.out⟩
  · rw [if_neg hq]
    go_enter Tryz.func41, Tryz.ntmps41
    go_wp2
    go_ret
    exact ⟨HB.out, rfl⟩
set_option maxRecDepth 100000 in
set_option maxHeartbeats 1000000 in
theorem lay_d (B g : Nat) (v : Value) (x y n : Nat) (cs : List Cel) (w : World) (h : Pl B w g v x y cs) (_hx : x ≤ 274877906945) (hy : y ≤ 274877906944) (hn : n ≤ 274877906944) :
    Calls Tryz.prog 41 #[.pointer (some ⟨g, 0, none⟩), .int .i64 n, .int .u8 36] w (LayR B g w (layP x y cs n 36)) := by
  have h0 := set3_0 h.blk (.int .i64 0)
  have h1 := set3_1 h0 (.int .i64 ((y + n : Nat) : Int))
  obtain ⟨⟨c0, c1, c2⟩, f0, f1, f2⟩ := row3 h.blk
  obtain ⟨⟨b0, b1, b2⟩, a0, a1, a2⟩ := row3 h0
  obtain ⟨⟨d0, d1, d2⟩, k0, k1, k2⟩ := row3 h1
  have HB := Lib.hid (show Below B w ((w.setCell ⟨g, 0, none⟩ (.int .i64 0)).setCell ⟨g, 1, none⟩ (.int .i64 ((y + n : Nat) : Int))) from ((Below.refl B w).setCell (p := ⟨g, 0, none⟩) h.le _).setCell (p := ⟨g, 1, none⟩) h.le _)
  have HP := Lib.hid (h.set h1 (fun b hb => (heap_setCell_other _ ⟨g, 1, none⟩ b _ hb).trans (heap_setCell_other w ⟨g, 0, none⟩ b _ hb)))
  rw [layP_d]
  clear h h1 h0
  push_cast at *
  by_cases hq : y + n ≤ 274877906944
  · rw [if_pos hq]
    go_enter Tryz.func41, Tryz.ntmps41
    go_wp2
    go_ret
    exact ⟨HB.out, by show Ending.returned (.bool (decide (((y : Int) + n) ≤ 274877906944))) = _; rw [decide_eq_true (by omega)], v, HP.out⟩
  · rw [if_neg hq]
    go_enter Tryz.func41, Tryz.ntmps41
    go_wp2
    go_ret
    exact ⟨HB.out, by show Ending.returned (.bool (decide (((y : Int) + n) ≤ 274877906944))) = _; rw [decide_eq_false (by omega)]⟩
set_option maxRecDepth 100000 in
set_option maxHeartbeats 2000000 in
theorem lay_o (B g : Nat) (v : Value) (x y n : Nat) (cs : List Cel) (w : World) (h : Pl B w g v x y cs) (hx : x ≤ 274877906945) (hy : y ≤ 274877906944) (hn : n ≤ 274877906944) (hc : cs.length ≤ 4096) :
    Calls Tryz.prog 41 #[.pointer (some ⟨g, 0, none⟩), .int .i64 n, .int .u8 111] w (LayR B g w (layP x y cs n 111)) := by
  obtain ⟨⟨c0, c1, c2⟩, f0, f1, f2⟩ := row3 h.blk
  rw [layP_o]
  have HP := Lib.hid h
  obtain ⟨ao, cap, rfl, hca⟩ := own_cls h.own
  generalize hm : cs.length = m at *
  by_cases hq : m + n ≤ 4096
  · have hq1 : ¬ (4096 : Int) < (m : Int) + (n : Int) := by omega
    have n0 : (0 : Int) ≤ (n : Int) := by omega
    rw [if_pos hq]
    obtain ⟨r, hr⟩ : ∃ r, (if x + n ≤ 274877906945 then some (x + n, y, cs ++ rowC x y n) else none) = r := ⟨_, rfl⟩
    rw [hr]
    have HR := Lib.hid hr
    clear h hca hr
    go_enter Tryz.func41, Tryz.ntmps41
    go_wp2
    go_loopw [31] (fun i wr => ∃ (k : Nat) (v : Value), k ≤ n ∧ i = .int .i64 k ∧ Hid (Pl B wr g v (((x + k : Nat) : Int)) y (cs ++ rowC x y k)) ∧ Hid (Below B w wr)) (fun i _ => n - (RowKit.intOf i).toNat)
    case atStart => exact ⟨0, _, by omega, rfl, Lib.hid (by rw [show rowC x y 0 = [] from rfl, List.append_nil]; exact HP.out), Lib.hid (Below.refl _ _)⟩
    case round =>
      obtain ⟨k, v, hk, rfl, HQ, HB⟩ := hrel
      have k0 : (0 : Int) ≤ (k : Int) := by omega
      have hlen : (cs ++ rowC x y k).length = m + k := by rw [List.length_append, rowC_len, hm]
      by_cases hlt : k < n
      · have hlt' : (k : Int) < (n : Int) := by omega
        have HD := Lib.hid (show Pl B wr.drew g v (((x + k : Nat) : Int)) y (cs ++ rowC x y k) from HQ.out.other (fun _ _ => rfl))
        obtain ⟨xk, hxk⟩ : ∃ xk : Int, ((x + k : Nat) : Int) = xk := ⟨_, rfl⟩
        rw [hxk] at HQ HD
        obtain ⟨v', w1, hrun, hl, hl01, hf, hp, hb⟩ := HD.out.app (by rw [hlen]; omega) rfl
        obtain ⟨⟨e0, e1, e2⟩, j0, j1, j2⟩ := row3 HQ.out.blk
        have hcx : (wr.alloc (.cells #[.int .i64 xk, .int .i64 y] 25)).cell? ⟨g, 2, none⟩ = some v := cell_al _ e2
        obtain ⟨ao1, cap1, rfl, _⟩ := own_cls HQ.out.own
        obtain ⟨ao2, cap2, hv2, _⟩ := own_cls hp.own
        obtain ⟨q, hqq⟩ : ∃ q, m + k = q := ⟨_, rfl⟩
        rw [show (cs ++ rowC x y k ++ [(xk, (y : Int))]).length = q + 1 by rw [List.length_append, hlen, hqq]; rfl] at hv2
        subst hv2
        rw [hlen, hqq] at e2 hcx hrun hl
        have h4 := set3_0 hp.blk (.int .i64 (xk + 1))
        have HP2 := Lib.hid (hp.set h4 (fun b hb => heap_setCell_other _ ⟨g, 0, none⟩ b _ hb))
        have HB2 := Lib.hid ((HB.out.trans (show Below B wr _ from ⟨hb.os, hb.tape, hb.output, hb.size, hb.block⟩)).setCell (p := ⟨g, 0, none⟩) hp.le (.int .i64 (xk + 1)))
        have HPP := Lib.hid hp
        have HX1 := Lib.hid (show xk + 1 ≤ 274877911042 ∧ 0 ≤ xk by omega)
        have HXK := Lib.hid hxk
        have HM := Lib.hid hm
        clear hp hb h4 hxk hm hlen hqq j0 j1 j2 c0 c1 c2 f0 f1 f2
        go_upto_region 9 with (fail)
        have hS0 := tillS (fun W => W.cell? ⟨g, 2, none⟩ = some (.slice ao1 q cap1) ∧ W.cell? ⟨g, 0, none⟩ = some (.int .i64 xk) ∧ W.cell? ⟨g, 1, none⟩ = some (.int .i64 y)) wr.drew ⟨e2, e0, e1⟩
        have hS1 := tillS (fun W => W.cell? ⟨g, 2, none⟩ = some (.slice ao1 q cap1) ∧ W.cell? ⟨g, 0, none⟩ = some (.int .i64 xk) ∧ W.cell? ⟨g, 1, none⟩ = some (.int .i64 y)) (wr.drew.alloc (.cells #[.int .i64 xk, .int .i64 y] 25)) ⟨hcx, cell_al _ e0, cell_al _ e1⟩
        have hS2 := tillS (fun W => W.cell? ⟨g, 2, none⟩ = some (.slice ao1 q cap1) ∧ W.cell? ⟨g, 0, none⟩ = some (.int .i64 xk) ∧ W.cell? ⟨g, 1, none⟩ = some (.int .i64 y)) w1 ⟨hl, hl01.1, hl01.2⟩
        refine Till.region (s := 13) (S := TillS (fun W => W.cell? ⟨g, 2, none⟩ = some (.slice ao1 q cap1) ∧ W.cell? ⟨g, 0, none⟩ = some (.int .i64 xk) ∧ W.cell? ⟨g, 1, none⟩ = some (.int .i64 y))) (by kernel_rfl) ?_
        simp only [List.size_toArray, List.length_cons, List.length_nil]
        refine Till.move (i := 0) (d := 33) (v := ?_) rfl rfl (by kernel_rfl) (by kernel_rfl) (by kernel_rfl) (by kernel_rfl) (fun _ _ _ h => h) hS0 ?_ (by rfl) (by kernel_rfl) ?_
        rotate_left 1
        · intro w
          go_simp
          try with_reducible rfl
        dsimp only [Act.put]
        simp only [List.setIfInBounds_toArray, List.set_cons_zero, List.set_cons_succ]
        refine Till.move (i := 1) (d := 34) (v := ?_) rfl rfl (by kernel_rfl) (by kernel_rfl) (by kernel_rfl) (by kernel_rfl) (fun _ _ _ h => h) hS0 ?_ (by rfl) (by kernel_rfl) ?_
        rotate_left 1
        · intro w
          go_simp
          try with_reducible rfl
        dsimp only [Act.put]
        simp only [List.setIfInBounds_toArray, List.set_cons_zero, List.set_cons_succ]
        refine Till.move (i := 2) (d := 35) (v := ?_) rfl rfl (by kernel_rfl) (by kernel_rfl) (by kernel_rfl) (by kernel_rfl) (fun _ _ _ h => h) hS0 ?_ (by rfl) (by kernel_rfl) ?_
        rotate_left 1
        · intro w
          go_simp
          try with_reducible rfl
        dsimp only [Act.put]
        simp only [List.setIfInBounds_toArray, List.set_cons_zero, List.set_cons_succ]
        refine Till.move (i := 3) (d := 36) (v := ?_) rfl rfl (by kernel_rfl) (by kernel_rfl) (by kernel_rfl) (by kernel_rfl) (fun _ _ _ h => h) hS0 ?_ (by rfl) (by kernel_rfl) ?_
        rotate_left 1
        · intro w
          go_simp
          try with_reducible rfl
        dsimp only [Act.put]
        simp only [List.setIfInBounds_toArray, List.set_cons_zero, List.set_cons_succ]
        refine Till.load (i := 4) (d := 37) (v := ?_) rfl rfl (by kernel_rfl) (by kernel_rfl) (by kernel_rfl) (by kernel_rfl) (fun _ _ _ h => h) hS0 ?_ (by rfl) ?_
        rotate_left 1
        · intro w' hx
          obtain ⟨z2, z0, z1⟩ := hx rfl
          go_simp
          try with_reducible rfl
        dsimp only [Act.put]
        simp only [List.setIfInBounds_toArray, List.set_cons_zero, List.set_cons_succ]
        refine Till.move (i := 5) (d := 38) (v := ?_) rfl rfl (by kernel_rfl) (by kernel_rfl) (by kernel_rfl) (by kernel_rfl) (fun _ _ _ h => h) hS0 ?_ (by rfl) (by kernel_rfl) ?_
        rotate_left 1
        · intro w
          go_simp
          try with_reducible rfl
        dsimp only [Act.put]
        simp only [List.setIfInBounds_toArray, List.set_cons_zero, List.set_cons_succ]
        refine Till.move (i := 6) (d := 39) (v := ?_) rfl rfl (by kernel_rfl) (by kernel_rfl) (by kernel_rfl) (by kernel_rfl) (fun _ _ _ h => h) hS0 ?_ (by rfl) (by kernel_rfl) ?_
        rotate_left 1
        · intro w
          go_simp
          try with_reducible rfl
        dsimp only [Act.put]
        simp only [List.setIfInBounds_toArray, List.set_cons_zero, List.set_cons_succ]
        refine Till.move (i := 7) (d := 40) (v := ?_) rfl rfl (by kernel_rfl) (by kernel_rfl) (by kernel_rfl) (by kernel_rfl) (fun _ _ _ h => h) hS0 ?_ (by rfl) (by kernel_rfl) ?_
        rotate_left 1
        · intro w
          go_simp
          try with_reducible rfl
        dsimp only [Act.put]
        simp only [List.setIfInBounds_toArray, List.set_cons_zero, List.set_cons_succ]
        refine Till.load (i := 8) (d := 41) (v := ?_) rfl rfl (by kernel_rfl) (by kernel_rfl) (by kernel_rfl) (by kernel_rfl) (fun _ _ _ h => h) hS0 ?_ (by rfl) ?_
        rotate_left 1
        · intro w' hx
          obtain ⟨z2, z0, z1⟩ := hx rfl
          go_simp
          try with_reducible rfl
        dsimp only [Act.put]
        simp only [List.setIfInBounds_toArray, List.set_cons_zero, List.set_cons_succ]
        refine Till.only false (i := 9) rfl (by kernel_rfl) (by rfl) (by kernel_rfl) fun K hK => ?_
        refine wp_newC (.tmp 41) rfl xk y rfl 42 rfl ?_
        refine hK.out _ _ hS1 ?_
        clear hK K
        dsimp only [Act.put]
        simp only [List.setIfInBounds_toArray, List.set_cons_zero, List.set_cons_succ]
        refine Till.only false (i := 10) rfl (by kernel_rfl) (by rfl) (by kernel_rfl) fun K hK => ?_
        refine wp_appI (.tmp 37) (.tmp 42) 23 23 rfl _ _ rfl rfl hrun 43 rfl ?_
        refine hK.out _ _ hS2 ?_
        clear hK K
        dsimp only [Act.put]
        simp only [List.setIfInBounds_toArray, List.set_cons_zero, List.set_cons_succ]
        refine Till.move (i := 11) (d := 44) (v := ?_) rfl rfl (by kernel_rfl) (by kernel_rfl) (by kernel_rfl) (by kernel_rfl) (fun _ _ _ h => h) hS2 ?_ (by rfl) (by kernel_rfl) ?_
        rotate_left 1
        · intro w
          go_simp
          try with_reducible rfl
        dsimp only [Act.put]
        simp only [List.setIfInBounds_toArray, List.set_cons_zero, List.set_cons_succ]
        refine Till.move (i := 12) (d := 45) (v := ?_) rfl rfl (by kernel_rfl) (by kernel_rfl) (by kernel_rfl) (by kernel_rfl) (fun _ _ _ h => h) hS2 ?_ (by rfl) (by kernel_rfl) ?_
        rotate_left 1
        · intro w
          go_simp
          try with_reducible rfl
        dsimp only [Act.put]
        simp only [List.setIfInBounds_toArray, List.set_cons_zero, List.set_cons_succ]
        refine Till.only true (i := 13) rfl (by kernel_rfl) (by rfl) (by kernel_rfl) fun K hK => ?_
        go_simp
        refine hK.out _ _ (tillS_true _ _) ?_
        clear hK K
        refine Till.done (by kernel_rfl) ?_ _
        obtain ⟨⟨p0, p1, p2⟩, q0, q1, q2⟩ := row3 HPP.out.blk
        have hx1 := HX1.out.1
        have hx2 := HX1.out.2
        go_wp2
        go_roundw
        case rel => exact ⟨k + 1, _, by omega, by go_num, Lib.hid (by
          show Pl B _ g _ (((x + (k + 1) : Nat) : Int)) y (cs ++ (rowC x y k ++ [(((x + k : Nat) : Int), (y : Int))]))
          rw [show ((x + (k + 1) : Nat) : Int) = xk + 1 by have := HXK.out; omega, HXK.out, ← List.append_assoc]
          exact HP2.out), HB2⟩
        case measure => simp [RowKit.intOf]; omega
      · obtain rfl : k = n := by omega
        obtain ⟨⟨e0, e1, e2⟩, j0, j1, j2⟩ := row3 HQ.out.blk
        push_cast at e0
        by_cases hq2 : x + k ≤ 274877906945
        · have hr : r = some (x + k, y, cs ++ rowC x y k) := by rw [← HR.out, if_pos hq2]
          subst hr
          go_wp2
          go_ret
          exact ⟨HB.out, by show Ending.returned (.bool (decide ((y : Int) ≤ 274877906944))) = _; rw [decide_eq_true (by omega)], v, HQ.out⟩
        · have hr : r = none := by rw [← HR.out, if_neg hq2]
          subst hr
          go_wp2
          go_ret
          exact ⟨HB.out, rfl⟩
  · have hq1 : (4096 : Int) < (m : Int) + (n : Int) := by omega
    rw [if_neg hq]
    clear h hca
    go_enter Tryz.func41, Tryz.ntmps41
    go_wp2
    go_ret
    exact ⟨Below.refl _ _, rfl⟩
theorem lay_any (B g : Nat) (v : Value) (x y n : Nat) (cs : List Cel) (c : UInt8) (hc : isTag c = true) (w : World) (h : Pl B w g v x y cs) (hx : x ≤ 274877906945) (hy : y ≤ 274877906944) (hn : n ≤ 274877906944) (hl : cs.length ≤ 4096) :
    Calls Tryz.prog 41 #[.pointer (some ⟨g, 0, none⟩), .int .i64 n, .int .u8 (c.toNat : Nat)] w (LayR B g w (layP x y cs n c)) := by
  unfold isTag at hc
  simp only [Bool.or_eq_true, beq_iff_eq] at hc
  rcases hc with (rfl | rfl) | rfl
  · exact lay_b B g v x y n cs w h hx hy hn
  · exact lay_o B g v x y n cs w h hx hy hn hl
  · exact lay_d B g v x y n cs w h hx hy hn
end Rl
end Go.Proofs.YtangbokcdgganaaGreatDoor

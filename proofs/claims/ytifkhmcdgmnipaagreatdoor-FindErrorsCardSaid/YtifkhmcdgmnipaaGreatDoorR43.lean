/-
  THE WALK of count. Conditions: the counter lies in memory.
-/
import Derived.Test.YtifkhmcdgmnipaaGreatDoorR42
namespace Go.Proofs.YtifkhmcdgmnipaaGreatDoor
open Go.RowKit Ti Qd Ce Cl Go.Maps Go.WideMaps

set_option maxRecDepth 100000 in
theorem eql_c (x y : Cel) (w : World) : (binOp .eql 30 (.agg #[.int .i64 x.1, .int .i64 x.2]) (.agg #[.int .i64 y.1, .int .i64 y.2])).run Tryz.prog w = .ok (.bool (decide (x = y))) w := by
  have u3 := Tryz.underlying3
  have a3 := Tryz.isAgg3
  have z3 := Tryz.sizeOf3
  have hS : Tryz.prog.underlying 30 = some (.struct (Tryz.prog.fieldsOf 30)) := by kernel_rfl
  have hp : Tryz.prog.stoodInHeld 30 = false := by kernel_rfl
  rw [run_eql_struct, show (10000 : Nat) = 9999 + 1 from rfl, run_equalIn_agg w 9999 30 _ _ hS hp]
  simp only [Program.fieldsOf, Tryz.underlying30]
  go_simp
  obtain ⟨x1, x2⟩ := x
  obtain ⟨y1, y2⟩ := y
  by_cases h1 : x1 = y1 <;> by_cases h2 : x2 = y2 <;> simp [h1, h2]
theorem fkeep {X w' : World} (hb : Below (X.alloc fz).heap.size (X.alloc fz) w') : w'.heap[X.heap.size]? = some fz := row_keep (heap_alloc_new X fz) hb (Nat.le_refl _)
theorem fkeepd {X w' : World} (hb : Below (X.alloc fz).drew.heap.size (X.alloc fz).drew w') : w'.heap[X.heap.size]? = some fz := row_keep (show (X.alloc fz).drew.heap[X.heap.size]? = some fz from heap_alloc_new X fz) hb (Nat.le_refl _)
/-- count, from where the square was asked for -/
structure CqS (L : List Sq) (n : Nat) (w0 : World) (C P M : Nat) (q : Sq) (id : Int) (lo hi : Cel) (g6 : Nat) (w : World) : Prop where
  b : Below w0.heap.size w0 w
  rC : w.heap[C]? = some (.cells #[.pointer (some ⟨P, 0, none⟩), .map (some M)] 63)
  r3 : w.heap[w0.heap.size]? = some (pb id lo hi)
  r6 : w.heap[g6]? = some (fq q)
  o6 : w0.heap.size < g6
  oC : C < w0.heap.size
theorem CqS.step {L : List Sq} {n : Nat} {w0 w w' : World} {C P M : Nat} {q : Sq} {id : Int} {lo hi : Cel} {g6 : Nat} (h : CqS L n w0 C P M q id lo hi g6 w) (hb : Below w.heap.size w w') : CqS L n w0 C P M q id lo hi g6 w' :=
  ⟨bstep h.b hb, row_keep h.rC hb (Nat.le_refl _), row_keep h.r3 hb (Nat.le_refl _), row_keep h.r6 hb (Nat.le_refl _), h.o6, h.oC⟩
theorem CqS.lo {L : List Sq} {n : Nat} {w0 w : World} {C P M : Nat} {q : Sq} {id : Int} {lo hi : Cel} {g6 : Nat} (h : CqS L n w0 C P M q id lo hi g6 w) (lo' : Cel) : CqS L n w0 C P M q id lo' hi g6 ((w.setCell ⟨w0.heap.size, 1, none⟩ (.int .i64 lo'.1)).setCell ⟨w0.heap.size, 2, none⟩ (.int .i64 lo'.2)) := by
  have o6 := h.o6
  have oC := h.oC
  have hne : ∀ k, ¬ k = w0.heap.size → ((w.setCell ⟨w0.heap.size, 1, none⟩ (.int .i64 lo'.1)).setCell ⟨w0.heap.size, 2, none⟩ (.int .i64 lo'.2)).heap[k]? = w.heap[k]? := fun k hk => (Below.heap_setCell _ _ _ _ hk).trans (Below.heap_setCell _ _ _ _ hk)
  have h1 := heap_setCell_same w w0.heap.size 1 _ _ (.int .i64 lo'.1) h.r3
  have h2 := heap_setCell_same _ w0.heap.size 2 _ _ (.int .i64 lo'.2) h1
  exact ⟨(h.b.setCell (p := ⟨w0.heap.size, 1, none⟩) (Nat.le_refl _) _).setCell (p := ⟨w0.heap.size, 2, none⟩) (Nat.le_refl _) _, (hne C (by omega)).trans h.rC, h2, (hne g6 (by omega)).trans h.r6, o6, oC⟩
theorem CqS.hi {L : List Sq} {n : Nat} {w0 w : World} {C P M : Nat} {q : Sq} {id : Int} {lo hi : Cel} {g6 : Nat} (h : CqS L n w0 C P M q id lo hi g6 w) (hi' : Cel) : CqS L n w0 C P M q id lo hi' g6 ((w.setCell ⟨w0.heap.size, 3, none⟩ (.int .i64 hi'.1)).setCell ⟨w0.heap.size, 4, none⟩ (.int .i64 hi'.2)) := by
  have o6 := h.o6
  have oC := h.oC
  have hne : ∀ k, ¬ k = w0.heap.size → ((w.setCell ⟨w0.heap.size, 3, none⟩ (.int .i64 hi'.1)).setCell ⟨w0.heap.size, 4, none⟩ (.int .i64 hi'.2)).heap[k]? = w.heap[k]? := fun k hk => (Below.heap_setCell _ _ _ _ hk).trans (Below.heap_setCell _ _ _ _ hk)
  have h1 := heap_setCell_same w w0.heap.size 3 _ _ (.int .i64 hi'.1) h.r3
  have h2 := heap_setCell_same _ w0.heap.size 4 _ _ (.int .i64 hi'.2) h1
  exact ⟨(h.b.setCell (p := ⟨w0.heap.size, 3, none⟩) (Nat.le_refl _) _).setCell (p := ⟨w0.heap.size, 4, none⟩) (Nat.le_refl _) _, (hne C (by omega)).trans h.rC, h2, (hne g6 (by omega)).trans h.r6, o6, oC⟩
set_option maxRecDepth 100000 in
set_option maxHeartbeats 1000000 in
theorem cnt_part {B P : Nat} {L : List Sq} {room : Nat} {H : Nat → Prop} {C M : Nat} {E : Cnr} {w : World} (n : Nat) (hn : n ≤ 37) (hct : Ct B P L room H C M E w) (id : Int) (hl : Lv L n id) (lo hi : Cel) (ha : AskM E n lo hi)
    (hcd : ∀ (lo hi : Cel) (W : World), Ct B P L room H C M E W → KeyM E n lo hi → InW n lo hi → Calls Tryz.prog 46 #[.pointer (some ⟨C, 0, none⟩), qv (at' L id), pv (id, lo, hi)] W fun e w' => e = .returned (.tuple #[.int .i64 (inV L n id lo hi), .nilIface]) ∧ Cg L E M W w') :
    Calls Tryz.prog 24 #[.pointer (some ⟨C, 0, none⟩), pv (id, lo, hi)] w fun e w' => e = .returned (.tuple #[.int .i64 (inV L n id lo hi), .nilIface]) ∧ Cg L E M w w' := by
  have h3 := heap_alloc_new w (pb id lo hi)
  have HC := Lib.hid hct
  have HA := Lib.hid (And.intro ha (And.intro hl hn))
  have HCD := Lib.hid hcd
  have HL := Lib.hid (fun (W : World) (hb : Below w.heap.size w W) => look_ok (hct.st.below hb (Nat.le_refl _)) id hl.1)
  have HW := Lib.hid (And.intro (alX w (pb id lo hi)) (And.intro (row_keep hct.row (alX w (pb id lo hi)) (Nat.le_refl _)) h3))
  have HCUT := Lib.hid (inV_cut hct.st.inv hl lo hi)
  have HWH := Lib.hid (fun (lo hi : Cel) => inV_whole hct.st.inv hl (lo := lo) (h := hi))
  have HLA := Lib.hid (fun (W : World) => last_ok n (at' L id) hl.2 hn W)
  have HSM := Lib.hid hct.st.small
  have HLC := Lib.hid (lt_of_block hct.row)
  clear h3 hct ha hl hcd
  unfold qv pv at *
  simp only at *
  generalize at' L id = q at *
  go_enter Tryz.func24, Tryz.ntmps24
  go_upto_region 1 with (fail)
  generalize World.alloc _ _ = W at HW ⊢
  go_cut [6, 7] (fun v6 v7 wx => ∃ g6, v6 = .pointer (some ⟨g6, 0, none⟩) ∧ v7 = .nilIface ∧ Hid (CqS L n w C P M q id lo hi g6 wx))
  case first =>
    have HB0 : Below W.heap.size W W.drew := (Below.refl _ _).drew
    have HB00 : Below W.heap.size W W := Below.refl _ _
    have HB01 : Below W.heap.size W (W.alloc fz) := alX _ _
    have HB02 : Below W.heap.size W (W.alloc fz).drew := HB01.drew
    have HB03 : Below W.heap.size W (W.drew.alloc fz) := bstep HB0 (alX _ _)
    have HSS := Lib.hid (fun (W' : World) (hb : Below W.heap.size W W') => And.intro (show W'.cell? ⟨C, 0, none⟩ = some (.pointer (some ⟨P, 0, none⟩)) from cell_of_row W' C 0 _ _ _ (row_keep HW.out.2.1 hb (Nat.le_refl _))) (show W'.cell? ⟨w.heap.size, 0, none⟩ = some (.int .i64 id) from cell_of_row W' w.heap.size 0 _ _ _ (row_keep HW.out.2.2 hb (Nat.le_refl _))))
    have HLT := Lib.hid (And.intro (lt_of_block HW.out.2.1) (lt_of_block HW.out.2.2))
    have HS2 := Lib.hid (fun (W' : World) (hb : Below W.heap.size W W') (g : Nat) (hg : W.heap.size ≤ g) (v0 v1 v2 v3 v4 v5 v6 : Value) => HSS.out (set7 W' g v0 v1 v2 v3 v4 v5 v6) (below_set7 hb hg v0 v1 v2 v3 v4 v5 v6))
    unfold set7 at HS2
    have HL1 := Lib.hid (fun (W' : World) (hb : Below W.heap.size W W') => HL.out W' (HW.out.1.trans (hb.mono HW.out.1.size)))
    go_region_held3 (fun w' => w'.cell? ⟨C, 0, none⟩ = some (.pointer (some ⟨P, 0, none⟩)) ∧ w'.cell? ⟨w.heap.size, 0, none⟩ = some (.int .i64 id)) (first | with_reducible exact HSS.out _ (by assumption) | with_reducible exact HS2.out _ (by assumption) _ (by first | exact Nat.le_refl _ | exact (show Below W.heap.size W _ by assumption).size) _ _ _ _ _ _ _ | with_reducible exact HSS.out _ (bstep (W0 := W) (by assumption) (alX _ _))) ((go_at_call 17; refine (HL1.out _ (by assumption)).mono ?_; rintro e w4 ⟨rfl, hb⟩; have hb1 := bstep (W0 := W) (by assumption) hb; have hb1a := bstep (W0 := W) hb1 (alX w4 fz); have hb1d := hb1a.drew; (first | (have hzr := fkeep hb; obtain ⟨⟨z0, z1, z2, z3, z4, z5, z6⟩, y0, y1, y2, y3, y4, y5, y6⟩ := row7 hzr) | (have hzr := fkeepd hb; obtain ⟨⟨z0, z1, z2, z3, z4, z5, z6⟩, y0, y1, y2, y3, y4, y5, y6⟩ := row7 hzr) | skip); clear hb))
    all_goals go_wp2
    all_goals go_meet
    · exact ⟨_, rfl, rfl, Lib.hid ⟨HW.out.1.trans ((bstep (W0 := W) hb1 (alX w4 (fq q))).mono HW.out.1.size), row_keep HW.out.2.1 (bstep (W0 := W) hb1 (alX w4 (fq q))) (Nat.le_refl _), row_keep HW.out.2.2 (bstep (W0 := W) hb1 (alX w4 (fq q))) (Nat.le_refl _), heap_alloc_new w4 (fq q), Nat.lt_of_lt_of_le HLT.out.2 hb1.size, HLC.out⟩⟩
    · have hb7 := below_set7 hb1 (Nat.le_refl W.heap.size) (.int .i64 q.lev) (.int .i64 q.cnt) (.int .u64 (rg q.til)) (.int .i64 q.k0) (.int .i64 q.k1) (.int .i64 q.k2) (.int .i64 q.k3)
      exact ⟨_, rfl, rfl, Lib.hid ⟨HW.out.1.trans (hb7.mono HW.out.1.size), row_keep HW.out.2.1 hb7 (Nat.le_refl _), row_keep HW.out.2.2 hb7 (Nat.le_refl _), row_set7 hzr _ _ _ _ _ _ _, HLT.out.2, HLC.out⟩⟩
  case rest =>
    obtain ⟨g6, rfl, rfl, HS⟩ := hcut
    clear HW HL
    obtain ⟨p0, p1, p2, p3, p4⟩ := row_p5 HS.out.r3
    obtain ⟨f0, f1, f2, f3, f4⟩ := row_p5f HS.out.r3
    have HS5 := Lib.hid (HS.out.lo (clo lo))
    unfold clo at HS5
    simp only at HS5
    go_upto_region 5 with (fail)
    clear p0 p1 p2 p3 p4 f0 f1 f2 f3 f4 HS
    generalize World.setCell _ _ _ = W5 at HS5 ⊢
    go_cut [] (fun wx => Hid (CqS L n w C P M q id (clo lo) (chi n hi) g6 wx))
    case first =>
      obtain ⟨hx, hy⟩ := hi
      have HF34 := Lib.hid (fun (W' : World) (hb : Below W5.heap.size W5 W') => (row_p5f (HS5.out.step hb).r3).2.2.2)
      have HSA := Lib.hid (fun (W' : World) (hb : Below W5.heap.size W5 W') => And.intro (row7 (HS5.out.step hb).r6).1 (row_p5 (HS5.out.step hb).r3).2.2.2)
      have HB0 : Below W5.heap.size W5 W5.drew := (Below.refl _ _).drew
      have HEND := Lib.hid (fun (W' : World) (hb : Below W5.heap.size W5 W') => (HS5.out.step hb).hi (chi n (hx, hy)))
      unfold chi at HEND
      simp only at HEND HSA
      have HL2 := HLA
      generalize hm : 2 ^ (n + 3) = m at HEND HL2
      have HMQ := Lib.hid hm
      clear hm
      have hS0 := tillS (fun w' => (w'.cell? ⟨g6, 0, none⟩ = some (.int .i64 q.lev) ∧ w'.cell? ⟨g6, 1, none⟩ = some (.int .i64 q.cnt) ∧ w'.cell? ⟨g6, 2, none⟩ = some (.int .u64 (rg q.til)) ∧ w'.cell? ⟨g6, 3, none⟩ = some (.int .i64 q.k0) ∧ w'.cell? ⟨g6, 4, none⟩ = some (.int .i64 q.k1) ∧ w'.cell? ⟨g6, 5, none⟩ = some (.int .i64 q.k2) ∧ w'.cell? ⟨g6, 6, none⟩ = some (.int .i64 q.k3)) ∧ w'.cell? ⟨w.heap.size, 3, none⟩ = some (.int .i64 hx) ∧ w'.cell? ⟨w.heap.size, 4, none⟩ = some (.int .i64 hy)) _ (HSA.out _ HB0)
      refine Till.region (s := 14) (S := TillS (fun w' => (w'.cell? ⟨g6, 0, none⟩ = some (.int .i64 q.lev) ∧ w'.cell? ⟨g6, 1, none⟩ = some (.int .i64 q.cnt) ∧ w'.cell? ⟨g6, 2, none⟩ = some (.int .u64 (rg q.til)) ∧ w'.cell? ⟨g6, 3, none⟩ = some (.int .i64 q.k0) ∧ w'.cell? ⟨g6, 4, none⟩ = some (.int .i64 q.k1) ∧ w'.cell? ⟨g6, 5, none⟩ = some (.int .i64 q.k2) ∧ w'.cell? ⟨g6, 6, none⟩ = some (.int .i64 q.k3)) ∧ w'.cell? ⟨w.heap.size, 3, none⟩ = some (.int .i64 hx) ∧ w'.cell? ⟨w.heap.size, 4, none⟩ = some (.int .i64 hy))) (by kernel_rfl) ?_
      simp only [List.size_toArray, List.length_cons, List.length_nil]
      refine Till.move (i := 0) (d := 34) (v := ?_) rfl rfl (by kernel_rfl) (by kernel_rfl) (by kernel_rfl) (by kernel_rfl) (fun _ _ _ h => h) hS0 ?_ (by rfl) (by kernel_rfl) ?_
      rotate_left 1
      · intro w
        go_simp
        try with_reducible rfl
      dsimp only [Act.put]
      simp only [List.setIfInBounds_toArray, List.set_cons_zero, List.set_cons_succ]
      refine Till.move (i := 1) (d := 35) (v := ?_) rfl rfl (by kernel_rfl) (by kernel_rfl) (by kernel_rfl) (by kernel_rfl) (fun _ _ _ h => h) hS0 ?_ (by rfl) (by kernel_rfl) ?_
      rotate_left 1
      · intro w
        go_simp
        try with_reducible rfl
      dsimp only [Act.put]
      simp only [List.setIfInBounds_toArray, List.set_cons_zero, List.set_cons_succ]
      refine Till.load (i := 2) (d := 36) (v := ?_) rfl rfl (by kernel_rfl) (by kernel_rfl) (by kernel_rfl) (by kernel_rfl) (fun _ _ _ h => h) hS0 ?_ (by rfl) ?_
      rotate_left 1
      · intro w' hx
        obtain ⟨⟨q0, q1, q2, q3, q4, q5, q6⟩, x3, x4⟩ := hx rfl
        go_simp
        try with_reducible rfl
      dsimp only [Act.put]
      simp only [List.setIfInBounds_toArray, List.set_cons_zero, List.set_cons_succ]
      refine Till.load (i := 3) (d := 37) (v := ?_) rfl rfl (by kernel_rfl) (by kernel_rfl) (by kernel_rfl) (by kernel_rfl) (fun _ _ _ h => h) hS0 ?_ (by rfl) ?_
      rotate_left 1
      · intro w' hx
        obtain ⟨⟨q0, q1, q2, q3, q4, q5, q6⟩, x3, x4⟩ := hx rfl
        go_simp
        try with_reducible rfl
      dsimp only [Act.put]
      simp only [List.setIfInBounds_toArray, List.set_cons_zero, List.set_cons_succ]
      refine Till.move (i := 6) (d := 40) (v := ?_) rfl rfl (by kernel_rfl) (by kernel_rfl) (by kernel_rfl) (by kernel_rfl) (fun _ _ _ h => h) hS0 ?_ (by rfl) (by kernel_rfl) ?_
      rotate_left 1
      · intro w
        go_simp
        try with_reducible rfl
      dsimp only [Act.put]
      simp only [List.setIfInBounds_toArray, List.set_cons_zero, List.set_cons_succ]
      refine Till.move (i := 7) (d := 41) (v := ?_) rfl rfl (by kernel_rfl) (by kernel_rfl) (by kernel_rfl) (by kernel_rfl) (fun _ _ _ h => h) hS0 ?_ (by rfl) (by kernel_rfl) ?_
      rotate_left 1
      · intro w
        go_simp
        try with_reducible rfl
      dsimp only [Act.put]
      simp only [List.setIfInBounds_toArray, List.set_cons_zero, List.set_cons_succ]
      refine Till.load (i := 8) (d := 42) (v := ?_) rfl rfl (by kernel_rfl) (by kernel_rfl) (by kernel_rfl) (by kernel_rfl) (fun _ _ _ h => h) hS0 ?_ (by rfl) ?_
      rotate_left 1
      · intro w' hx
        obtain ⟨⟨q0, q1, q2, q3, q4, q5, q6⟩, x3, x4⟩ := hx rfl
        go_simp
        try with_reducible rfl
      dsimp only [Act.put]
      simp only [List.setIfInBounds_toArray, List.set_cons_zero, List.set_cons_succ]
      refine Till.load (i := 9) (d := 43) (v := ?_) rfl rfl (by kernel_rfl) (by kernel_rfl) (by kernel_rfl) (by kernel_rfl) (fun _ _ _ h => h) hS0 ?_ (by rfl) ?_
      rotate_left 1
      · intro w' hx
        obtain ⟨⟨q0, q1, q2, q3, q4, q5, q6⟩, x3, x4⟩ := hx rfl
        go_simp
        try with_reducible rfl
      dsimp only [Act.put]
      simp only [List.setIfInBounds_toArray, List.set_cons_zero, List.set_cons_succ]
      refine Till.only false (i := 4) rfl (by kernel_rfl) (by rfl) (by kernel_rfl) fun K hK => ?_
      go_simp
      refine (HL2.out _).mono ?_
      rintro e w4 ⟨rfl, hb⟩
      have hb4 := bstep (W0 := W5) HB0 hb
      clear hb
      have hSw4 := tillS (fun w' => (w'.cell? ⟨g6, 0, none⟩ = some (.int .i64 q.lev) ∧ w'.cell? ⟨g6, 1, none⟩ = some (.int .i64 q.cnt) ∧ w'.cell? ⟨g6, 2, none⟩ = some (.int .u64 (rg q.til)) ∧ w'.cell? ⟨g6, 3, none⟩ = some (.int .i64 q.k0) ∧ w'.cell? ⟨g6, 4, none⟩ = some (.int .i64 q.k1) ∧ w'.cell? ⟨g6, 5, none⟩ = some (.int .i64 q.k2) ∧ w'.cell? ⟨g6, 6, none⟩ = some (.int .i64 q.k3)) ∧ w'.cell? ⟨w.heap.size, 3, none⟩ = some (.int .i64 hx) ∧ w'.cell? ⟨w.heap.size, 4, none⟩ = some (.int .i64 hy)) _ (HSA.out _ hb4)
      refine hK.out _ _ hSw4 ?_
      clear hK K
      try dsimp only [Act.put]
      try simp only [List.setIfInBounds_toArray, List.set_cons_zero, List.set_cons_succ]
      refine Till.move (i := 5) (d := 39) (v := ?_) rfl rfl (by kernel_rfl) (by kernel_rfl) (by kernel_rfl) (by kernel_rfl) (fun _ _ _ h => h) hSw4 ?_ (by rfl) (by kernel_rfl) ?_
      rotate_left 1
      · intro w
        go_simp
        try with_reducible rfl
      dsimp only [Act.put]
      simp only [List.setIfInBounds_toArray, List.set_cons_zero, List.set_cons_succ]
      refine Till.only false (i := 10) rfl (by kernel_rfl) (by rfl) (by kernel_rfl) fun K hK => ?_
      go_simp
      refine (HL2.out _).mono ?_
      rintro e w6 ⟨rfl, hb⟩
      have hb6 := bstep (W0 := W5) hb4 hb
      clear hb
      have hSw6 := tillS (fun w' => (w'.cell? ⟨g6, 0, none⟩ = some (.int .i64 q.lev) ∧ w'.cell? ⟨g6, 1, none⟩ = some (.int .i64 q.cnt) ∧ w'.cell? ⟨g6, 2, none⟩ = some (.int .u64 (rg q.til)) ∧ w'.cell? ⟨g6, 3, none⟩ = some (.int .i64 q.k0) ∧ w'.cell? ⟨g6, 4, none⟩ = some (.int .i64 q.k1) ∧ w'.cell? ⟨g6, 5, none⟩ = some (.int .i64 q.k2) ∧ w'.cell? ⟨g6, 6, none⟩ = some (.int .i64 q.k3)) ∧ w'.cell? ⟨w.heap.size, 3, none⟩ = some (.int .i64 hx) ∧ w'.cell? ⟨w.heap.size, 4, none⟩ = some (.int .i64 hy)) _ (HSA.out _ hb6)
      refine hK.out _ _ hSw6 ?_
      clear hK K
      try dsimp only [Act.put]
      try simp only [List.setIfInBounds_toArray, List.set_cons_zero, List.set_cons_succ]
      refine Till.move (i := 11) (d := 45) (v := ?_) rfl rfl (by kernel_rfl) (by kernel_rfl) (by kernel_rfl) (by kernel_rfl) (fun _ _ _ h => h) hSw6 ?_ (by rfl) (by kernel_rfl) ?_
      rotate_left 1
      · intro w
        go_simp
        try with_reducible rfl
      dsimp only [Act.put]
      simp only [List.setIfInBounds_toArray, List.set_cons_zero, List.set_cons_succ]
      refine Till.move (i := 12) (d := 46) (v := ?_) rfl rfl (by kernel_rfl) (by kernel_rfl) (by kernel_rfl) (by kernel_rfl) (fun _ _ _ h => h) hSw6 ?_ (by rfl) (by kernel_rfl) ?_
      rotate_left 1
      · intro w
        go_simp
        try with_reducible rfl
      dsimp only [Act.put]
      simp only [List.setIfInBounds_toArray, List.set_cons_zero, List.set_cons_succ]
      refine Till.move (i := 13) (d := 47) (v := ?_) rfl rfl (by kernel_rfl) (by kernel_rfl) (by kernel_rfl) (by kernel_rfl) (fun _ _ _ h => h) hSw6 ?_ (by rfl) (by kernel_rfl) ?_
      rotate_left 1
      · intro w
        go_simp
        try with_reducible rfl
      dsimp only [Act.put]
      simp only [List.setIfInBounds_toArray, List.set_cons_zero, List.set_cons_succ]
      obtain ⟨y3, y4⟩ := HF34.out _ hb6
      obtain ⟨_, x3, x4⟩ := HSA.out _ hb6
      refine Till.only true (i := 14) rfl (by kernel_rfl) (by rfl) (by kernel_rfl) fun K hK => ?_
      go_simp
      refine hK.out _ _ (tillS_true _ _) ?_
      clear hK K
      refine Till.done (by kernel_rfl) ?_ _
      go_wp2
      go_meet
      have hz := HEND.out _ hb6
      have hm := HMQ.out
      subst hm
      exact Lib.hid hz
    case rest =>
      have HS6 := hcut
      clear hcut HS5
      have HKE := Lib.hid HA.out.1.cut
      have HRG := Lib.hid (show 0 ≤ (clo lo).1 ∧ 0 ≤ (clo lo).2 ∧ (chi n hi).1 ≤ ((2 ^ (n + 3) : Nat) : Int) - 1 ∧ (chi n hi).2 ≤ ((2 ^ (n + 3) : Nat) : Int) - 1 from by unfold clo chi; simp only; omega)
      generalize clo lo = lo2 at *
      generalize chi n hi = hi2 at *
      have HEND := Lib.hid (fun (W' : World) (hb : Below w.heap.size w W') => HC.out.below hb)
      obtain ⟨p0, p1, p2, p3, p4⟩ := row_p5 HS6.out.r3
      by_cases h1 : hi2.1 < lo2.1
      · have HV := Lib.hid (HCUT.out.symm.trans (inV_none (L := L) (n := n) (id := id) (.inl h1)))
        go_wp2
        go_ret2
        exact ⟨by rw [HV.out]; rfl, HEND.out _ HS6.out.b⟩
      · by_cases h2 : hi2.2 < lo2.2
        · have HV := Lib.hid (HCUT.out.symm.trans (inV_none (L := L) (n := n) (id := id) (.inr h2)))
          go_wp2
          go_ret2
          exact ⟨by rw [HV.out]; rfl, HEND.out _ HS6.out.b⟩
        · have HKY := Lib.hid (show KeyM E n lo2 hi2 from by
            rcases HKE.out with k | k | k
            · exact k
            · exact absurd k h1
            · exact absurd k h2)
          have HIW := Lib.hid (show InW n lo2 hi2 from by
            obtain ⟨r1, r2, r3, r4⟩ := HRG.out
            exact ⟨⟨r1, by omega⟩, ⟨r2, by omega⟩, ⟨by omega, by omega⟩, ⟨by omega, by omega⟩⟩)
          go_upto_region 8 with (fail)
          clear p0 p1 p2 p3 p4
          obtain ⟨lx, ly⟩ := lo2
          obtain ⟨hx, hy⟩ := hi2
          simp only at h1 h2
          have HN := Lib.hid (And.intro h1 h2)
          clear h1 h2
          go_cut [77] (fun v wx => v = .bool (decide ((lx, ly) = ((0 : Int), (0 : Int)) ∧ (hx, hy) = (((2 ^ (n + 3) : Nat) : Int) - 1, ((2 ^ (n + 3) : Nat) : Int) - 1))) ∧ Hid (CqS L n w C P M q id (lx, ly) (hx, hy) g6 wx))
          case first =>
            have HSA := Lib.hid (fun (W' : World) (hb : Below wc.heap.size wc W') => And.intro (row7 (HS6.out.step hb).r6).1 (row_p5 (HS6.out.step hb).r3))
            have HB0 : Below wc.heap.size wc wc.drew := (Below.refl _ _).drew
            have HB00 : Below wc.heap.size wc wc := Below.refl _ _
            have HEN := Lib.hid (fun (W' : World) (hb : Below wc.heap.size wc W') => HS6.out.step hb)
            have HL2 := HLA
            have q1 := eql_c (lx, ly) (0, 0)
            have q2 := eql_c (hx, hy) (((2 ^ (n + 3) : Nat) : Int) - 1, ((2 ^ (n + 3) : Nat) : Int) - 1)
            simp only at q1 q2 HSA
            by_cases g1 : (lx, ly) = ((0 : Int), (0 : Int))
            · rw [decide_eq_true g1] at q1
              by_cases g2 : (hx, hy) = (((2 ^ (n + 3) : Nat) : Int) - 1, ((2 ^ (n + 3) : Nat) : Int) - 1)
              · rw [decide_eq_true g2] at q2
                have HD := Lib.hid (decide_eq_true (And.intro g1 g2))
                clear g1 g2
                generalize 2 ^ (n + 3) = m at HL2 q2
                go_region_held3 (fun w' => (w'.cell? ⟨g6, 0, none⟩ = some (.int .i64 q.lev) ∧ w'.cell? ⟨g6, 1, none⟩ = some (.int .i64 q.cnt) ∧ w'.cell? ⟨g6, 2, none⟩ = some (.int .u64 (rg q.til)) ∧ w'.cell? ⟨g6, 3, none⟩ = some (.int .i64 q.k0) ∧ w'.cell? ⟨g6, 4, none⟩ = some (.int .i64 q.k1) ∧ w'.cell? ⟨g6, 5, none⟩ = some (.int .i64 q.k2) ∧ w'.cell? ⟨g6, 6, none⟩ = some (.int .i64 q.k3)) ∧ (w'.cell? ⟨w.heap.size, 0, none⟩ = some (.int .i64 id) ∧ w'.cell? ⟨w.heap.size, 1, none⟩ = some (.int .i64 lx) ∧ w'.cell? ⟨w.heap.size, 2, none⟩ = some (.int .i64 ly) ∧ w'.cell? ⟨w.heap.size, 3, none⟩ = some (.int .i64 hx) ∧ w'.cell? ⟨w.heap.size, 4, none⟩ = some (.int .i64 hy))) (with_reducible exact HSA.out _ (by assumption)) ((go_at_call 23; refine (HL2.out _).mono ?_; rintro e w4 ⟨rfl, hb⟩; have hb1 := bstep (W0 := wc) (by assumption) hb; clear hb))
                all_goals go_wp2
                all_goals go_meet
                all_goals exact ⟨by rw [HD.out], Lib.hid (HEN.out _ (by assumption))⟩
              · rw [decide_eq_false g2] at q2
                have HD := Lib.hid (show decide ((lx, ly) = ((0 : Int), (0 : Int)) ∧ (hx, hy) = (((2 ^ (n + 3) : Nat) : Int) - 1, ((2 ^ (n + 3) : Nat) : Int) - 1)) = false from decide_eq_false (fun e => g2 e.2))
                clear g1 g2
                generalize 2 ^ (n + 3) = m at HL2 q2
                go_region_held3 (fun w' => (w'.cell? ⟨g6, 0, none⟩ = some (.int .i64 q.lev) ∧ w'.cell? ⟨g6, 1, none⟩ = some (.int .i64 q.cnt) ∧ w'.cell? ⟨g6, 2, none⟩ = some (.int .u64 (rg q.til)) ∧ w'.cell? ⟨g6, 3, none⟩ = some (.int .i64 q.k0) ∧ w'.cell? ⟨g6, 4, none⟩ = some (.int .i64 q.k1) ∧ w'.cell? ⟨g6, 5, none⟩ = some (.int .i64 q.k2) ∧ w'.cell? ⟨g6, 6, none⟩ = some (.int .i64 q.k3)) ∧ (w'.cell? ⟨w.heap.size, 0, none⟩ = some (.int .i64 id) ∧ w'.cell? ⟨w.heap.size, 1, none⟩ = some (.int .i64 lx) ∧ w'.cell? ⟨w.heap.size, 2, none⟩ = some (.int .i64 ly) ∧ w'.cell? ⟨w.heap.size, 3, none⟩ = some (.int .i64 hx) ∧ w'.cell? ⟨w.heap.size, 4, none⟩ = some (.int .i64 hy))) (with_reducible exact HSA.out _ (by assumption)) ((go_at_call 23; refine (HL2.out _).mono ?_; rintro e w4 ⟨rfl, hb⟩; have hb1 := bstep (W0 := wc) (by assumption) hb; clear hb))
                all_goals go_wp2
                all_goals go_meet
                all_goals exact ⟨by rw [HD.out], Lib.hid (HEN.out _ (by assumption))⟩
            · rw [decide_eq_false g1] at q1
              have HD := Lib.hid (show decide ((lx, ly) = ((0 : Int), (0 : Int)) ∧ (hx, hy) = (((2 ^ (n + 3) : Nat) : Int) - 1, ((2 ^ (n + 3) : Nat) : Int) - 1)) = false from decide_eq_false (fun e => g1 e.1))
              clear g1 q2
              generalize 2 ^ (n + 3) = m at HL2
              have hS0 := HSA.out _ HB0
              refine Till.region (s := 13) (S := fun _ w' => (w'.cell? ⟨g6, 0, none⟩ = some (.int .i64 q.lev) ∧ w'.cell? ⟨g6, 1, none⟩ = some (.int .i64 q.cnt) ∧ w'.cell? ⟨g6, 2, none⟩ = some (.int .u64 (rg q.til)) ∧ w'.cell? ⟨g6, 3, none⟩ = some (.int .i64 q.k0) ∧ w'.cell? ⟨g6, 4, none⟩ = some (.int .i64 q.k1) ∧ w'.cell? ⟨g6, 5, none⟩ = some (.int .i64 q.k2) ∧ w'.cell? ⟨g6, 6, none⟩ = some (.int .i64 q.k3)) ∧ (w'.cell? ⟨w.heap.size, 0, none⟩ = some (.int .i64 id) ∧ w'.cell? ⟨w.heap.size, 1, none⟩ = some (.int .i64 lx) ∧ w'.cell? ⟨w.heap.size, 2, none⟩ = some (.int .i64 ly) ∧ w'.cell? ⟨w.heap.size, 3, none⟩ = some (.int .i64 hx) ∧ w'.cell? ⟨w.heap.size, 4, none⟩ = some (.int .i64 hy))) (by kernel_rfl) ?_
              simp only [List.size_toArray, List.length_cons, List.length_nil]
              refine Till.move (i := 0) (d := 64) (v := ?_) rfl rfl (by kernel_rfl) (by kernel_rfl) (by kernel_rfl) (by kernel_rfl) (fun _ _ _ h => h) hS0 ?_ (by rfl) (by kernel_rfl) ?_
              rotate_left 1
              · intro w
                go_simp
                try with_reducible rfl
              dsimp only [Act.put]
              simp only [List.setIfInBounds_toArray, List.set_cons_zero, List.set_cons_succ]
              refine Till.read (i := 1) (d := 65) (v := ?_) (G := fun w' => (w'.cell? ⟨g6, 0, none⟩ = some (.int .i64 q.lev) ∧ w'.cell? ⟨g6, 1, none⟩ = some (.int .i64 q.cnt) ∧ w'.cell? ⟨g6, 2, none⟩ = some (.int .u64 (rg q.til)) ∧ w'.cell? ⟨g6, 3, none⟩ = some (.int .i64 q.k0) ∧ w'.cell? ⟨g6, 4, none⟩ = some (.int .i64 q.k1) ∧ w'.cell? ⟨g6, 5, none⟩ = some (.int .i64 q.k2) ∧ w'.cell? ⟨g6, 6, none⟩ = some (.int .i64 q.k3)) ∧ (w'.cell? ⟨w.heap.size, 0, none⟩ = some (.int .i64 id) ∧ w'.cell? ⟨w.heap.size, 1, none⟩ = some (.int .i64 lx) ∧ w'.cell? ⟨w.heap.size, 2, none⟩ = some (.int .i64 ly) ∧ w'.cell? ⟨w.heap.size, 3, none⟩ = some (.int .i64 hx) ∧ w'.cell? ⟨w.heap.size, 4, none⟩ = some (.int .i64 hy))) (fun _ _ h => h) rfl rfl (by kernel_rfl) (by kernel_rfl) (by kernel_rfl) (by kernel_rfl) (fun _ _ _ h => h) hS0 ?_ (by rfl) (by kernel_rfl) ?_
              rotate_left 1
              · intro w' hx
                obtain ⟨⟨z0, z1, z2, z3, z4, z5, z6⟩, x0, x1, x2, x3, x4⟩ := hx
                go_simp
                try with_reducible rfl
              dsimp only [Act.put]
              simp only [List.setIfInBounds_toArray, List.set_cons_zero, List.set_cons_succ]
              refine Till.move (i := 2) (d := 66) (v := ?_) rfl rfl (by kernel_rfl) (by kernel_rfl) (by kernel_rfl) (by kernel_rfl) (fun _ _ _ h => h) hS0 ?_ (by rfl) (by kernel_rfl) ?_
              rotate_left 1
              · intro w
                go_simp
                try with_reducible rfl
              dsimp only [Act.put]
              simp only [List.setIfInBounds_toArray, List.set_cons_zero, List.set_cons_succ]
              refine Till.move (i := 3) (d := 67) (v := ?_) rfl rfl (by kernel_rfl) (by kernel_rfl) (by kernel_rfl) (by kernel_rfl) (fun _ _ _ h => h) hS0 ?_ (by rfl) (by kernel_rfl) ?_
              rotate_left 1
              · intro w
                go_simp
                try with_reducible rfl
              dsimp only [Act.put]
              simp only [List.setIfInBounds_toArray, List.set_cons_zero, List.set_cons_succ]
              refine Till.move (i := 4) (d := 68) (v := ?_) rfl rfl (by kernel_rfl) (by kernel_rfl) (by kernel_rfl) (by kernel_rfl) (fun _ _ _ h => h) hS0 ?_ (by rfl) (by kernel_rfl) ?_
              rotate_left 1
              · intro w
                go_simp
                try with_reducible rfl
              dsimp only [Act.put]
              simp only [List.setIfInBounds_toArray, List.set_cons_zero, List.set_cons_succ]
              refine Till.skip (i := 5) (d := 69) rfl rfl (by kernel_rfl) (by kernel_rfl) (by kernel_rfl) (by kernel_rfl) (fun _ _ _ h => h) hS0 (by rfl) (by kernel_rfl) ?_
              dsimp only [Act.put]
              simp only [List.setIfInBounds_toArray, List.set_cons_zero, List.set_cons_succ]
              refine Till.skip (i := 6) (d := 70) rfl rfl (by kernel_rfl) (by kernel_rfl) (by kernel_rfl) (by kernel_rfl) (fun _ _ _ h => h) hS0 (by rfl) (by kernel_rfl) ?_
              dsimp only [Act.put]
              simp only [List.setIfInBounds_toArray, List.set_cons_zero, List.set_cons_succ]
              refine Till.skip (i := 7) (d := 71) rfl rfl (by kernel_rfl) (by kernel_rfl) (by kernel_rfl) (by kernel_rfl) (fun _ _ _ h => h) hS0 (by rfl) (by kernel_rfl) ?_
              dsimp only [Act.put]
              simp only [List.setIfInBounds_toArray, List.set_cons_zero, List.set_cons_succ]
              refine Till.skip (i := 8) (d := 72) rfl rfl (by kernel_rfl) (by kernel_rfl) (by kernel_rfl) (by kernel_rfl) (fun _ _ _ h => h) hS0 (by rfl) (by kernel_rfl) ?_
              dsimp only [Act.put]
              simp only [List.setIfInBounds_toArray, List.set_cons_zero, List.set_cons_succ]
              refine Till.skip (i := 9) (d := 73) rfl rfl (by kernel_rfl) (by kernel_rfl) (by kernel_rfl) (by kernel_rfl) (fun _ _ _ h => h) hS0 (by rfl) (by kernel_rfl) ?_
              dsimp only [Act.put]
              simp only [List.setIfInBounds_toArray, List.set_cons_zero, List.set_cons_succ]
              refine Till.skip (i := 10) (d := 74) rfl rfl (by kernel_rfl) (by kernel_rfl) (by kernel_rfl) (by kernel_rfl) (fun _ _ _ h => h) hS0 (by rfl) (by kernel_rfl) ?_
              dsimp only [Act.put]
              simp only [List.setIfInBounds_toArray, List.set_cons_zero, List.set_cons_succ]
              refine Till.skip (i := 11) (d := 75) rfl rfl (by kernel_rfl) (by kernel_rfl) (by kernel_rfl) (by kernel_rfl) (fun _ _ _ h => h) hS0 (by rfl) (by kernel_rfl) ?_
              dsimp only [Act.put]
              simp only [List.setIfInBounds_toArray, List.set_cons_zero, List.set_cons_succ]
              refine Till.skip (i := 12) (d := 76) rfl rfl (by kernel_rfl) (by kernel_rfl) (by kernel_rfl) (by kernel_rfl) (fun _ _ _ h => h) hS0 (by rfl) (by kernel_rfl) ?_
              dsimp only [Act.put]
              simp only [List.setIfInBounds_toArray, List.set_cons_zero, List.set_cons_succ]
              refine Till.only true (i := 13) rfl (by kernel_rfl) (by rfl) (by kernel_rfl) fun K hK => ?_
              go_simp
              refine hK.out _ _ hS0 ?_
              clear hK K
              refine Till.done (by kernel_rfl) ?_ _
              go_wp2
              go_meet
              exact ⟨by rw [HD.out], Lib.hid (HEN.out _ HB0)⟩
          case rest =>
            obtain ⟨rfl, HS7⟩ := hcut
            clear HS6
            have HI5 := Lib.hid (show I5 (id, (lx, ly), (hx, hy)) from by
              have h40 := two40 HA.out.2.2
              have ho := HA.out.2.1.1
              have hL := HSM.out
              obtain ⟨a, b, c, d⟩ := HIW.out
              unfold Ok at ho
              simp only at a b c d
              constructor <;> (unfold I1; simp only; omega))
            have HVL := Lib.hid (show vl L (id, (lx, ly), (hx, hy)) = inV L n id lo hi from by
              rw [← HCUT.out]
              unfold vl
              simp only
              rw [lvN_is HA.out.2.1])
            by_cases hwh : (lx, ly) = ((0 : Int), (0 : Int)) ∧ (hx, hy) = (((2 ^ (n + 3) : Nat) : Int) - 1, ((2 ^ (n + 3) : Nat) : Int) - 1)
            · have hd := decide_eq_true hwh
              have HV := Lib.hid (HCUT.out.symm.trans (HWH.out _ _ hwh.1 hwh.2))
              obtain ⟨⟨_, q1, _, _, _, _, _⟩, _⟩ := row7 HS7.out.r6
              clear hwh
              generalize decide ((lx, ly) = ((0 : Int), (0 : Int)) ∧ (hx, hy) = (((2 ^ (n + 3) : Nat) : Int) - 1, ((2 ^ (n + 3) : Nat) : Int) - 1)) = dd at *
              subst hd
              go_wp2
              go_ret2
              exact ⟨by rw [HV.out]; rfl, HEND.out _ HS7.out.b⟩
            · have hd := decide_eq_false hwh
              clear hwh
              generalize decide ((lx, ly) = ((0 : Int), (0 : Int)) ∧ (hx, hy) = (((2 ^ (n + 3) : Nat) : Int) - 1, ((2 ^ (n + 3) : Nat) : Int) - 1)) = dd at *
              subst hd
              obtain ⟨c, b, hcb, hlk⟩ := part_look (HEND.out _ HS7.out.b).k HI5.out
              have l0 := hlk wc.drew rfl
              have HCB := Lib.hid hcb
              have C1 := cell_of_row wc C 1 _ _ _ HS7.out.rC
              simp only [List.getElem?_toArray, List.getElem?_cons_succ, List.getElem?_cons_zero] at C1
              obtain ⟨x0, x1, x2, x3, x4⟩ := row_p5 HS7.out.r3
              have HB7 := Lib.hid (HS7.out.step ((Below.refl _ _).drew : Below wc.heap.size wc wc.drew))
              unfold pv at l0
              simp only at l0 x0 x1 x2 x3 x4
              clear hcb hlk
              go_upto_region 10 with (fail)
              go_region
              clear l0 C1 x0 x1 x2 x3 x4
              cases b
              · have HCT := Lib.hid (HC.out.go (HEND.out _ HB7.out.b))
                have HCD1 := Lib.hid (HCD.out (lx, ly) (hx, hy) wc.drew HCT.out HKY.out HIW.out)
                have HV2 := Lib.hid (show vl L (id, (lx, ly), (hx, hy)) = inV L n id (lx, ly) (hx, hy) from by
                  unfold vl
                  simp only
                  rw [lvN_is HA.out.2.1])
                have HI1 := Lib.hid (show I1 (inV L n id (lx, ly) (hx, hy)) from by
                  have := inV_le L n id (lx, ly) (hx, hy)
                  unfold I1
                  unfold big at this
                  omega)
                have HKO := Lib.hid (show KeyOk L E (id, (lx, ly), (hx, hy)) from ⟨HA.out.2.1.1, by simp only; rw [lvN_is HA.out.2.1]; exact HKY.out⟩)
                obtain ⟨⟨q0, q1, q2, q3, q4, q5, q6⟩, _⟩ := row7 HB7.out.r6
                obtain ⟨x0, x1, x2, x3, x4⟩ := row_p5 HB7.out.r3
                have hcut2 := HCUT.out
                simp only at x0 x1 x2 x3 x4
                rw [← hcut2] at HVL
                have HC2 := Lib.hid hcut2
                clear hcut2 HCUT
                generalize hxx : inV L n id (lx, ly) (hx, hy) = x at *
                go_upto_region 13 with (fail)
                go_wp2_with fail
                refine HCD1.out.mono ?_
                rintro e w7 ⟨rfl, hg⟩
                have HG7 := Lib.hid ((HEND.out _ HB7.out.b).trans hg)
                have HR7 := Lib.hid (And.intro (HCT.out.go hg).row (hg.row HB7.out.r3 (by have := HC.out.kn.lt; omega)))
                clear hg q0 q1 q2 q3 q4 q5 q6 x0 x1 x2 x3 x4 HCD1
                obtain ⟨w8, l0, hk8, hg8⟩ := part_note (w := w7.drew) (HG7.out.k.moved rfl) HSM.out HKO.out HI5.out (by rw [HV2.out]; exact HI1.out)
                rw [HV2.out] at l0
                have HG8 := Lib.hid (show Cg L E M w w8 from HG7.out.trans ⟨⟨hg8.os, hg8.tape, hg8.output, hg8.size, fun k hk hn => hg8.block k hk (fun e => hn (Option.some.inj e)), fun k hk => .inl hk⟩, hk8⟩)
                have C1 := cell_of_row w7 C 1 _ _ _ HR7.out.1
                simp only [List.getElem?_toArray, List.getElem?_cons_succ, List.getElem?_cons_zero] at C1
                obtain ⟨x0, x1, x2, x3, x4⟩ := row_p5 HR7.out.2
                unfold pv at l0
                simp only at l0 x0 x1 x2 x3 x4
                clear hk8 hg8
                go_upto_region 16 with (fail)
                go_region
                go_wp2
                go_ret2
                exact ⟨by rw [← HC2.out]; rfl, HG8.out⟩
              · have HE := Lib.hid ((HCB.out rfl).trans HVL.out)
                go_wp2
                go_ret2
                exact ⟨by rw [← HE.out]; rfl, HEND.out _ HB7.out.b⟩
end Go.Proofs.YtifkhmcdgmnipaaGreatDoor

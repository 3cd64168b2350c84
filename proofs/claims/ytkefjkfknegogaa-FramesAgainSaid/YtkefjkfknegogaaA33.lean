/-
  WALK of next, of a part among the nine. Conditions: the store lies in memory, the frame is one that can be.
-/
import Derived.Test.YtkefjkfknegogaaA32
namespace Go.Proofs.Ytkefjkfknegogaa.Fm
open Go.RowKit Ti Qd Go.Maps Go.WideMaps Ru

abbrev z16C : Array Value := #[.int .i64 0, .int .i64 0, .int .i64 0, .int .i64 0, .int .i64 0, .int .i64 0, .int .i64 0, .int .i64 0, .int .i64 0, .int .i64 0, .int .i64 0, .int .i64 0, .int .i64 0, .int .i64 0, .int .i64 0, .int .i64 0]
set_option maxRecDepth 100000 in
set_option maxHeartbeats 4000000 in
theorem next_go_f {B : Nat} {w : World} {P : Nat} {L : List Sq} {room : Nat} {Hs : Nat → Prop} {G : Nat} (hst : St B w P L room Hs) (hc : w.cell? ⟨G, 0, none⟩ = some (.pointer (some ⟨P, 0, none⟩))) (f : Fr) (h : Value) (lev : Int) (ho : Ok L f.id) (hlev : (at' L f.id).lev = lev) (l0 : 0 ≤ lev) (l1 : lev ≤ 40) (n : Nat) (hl : Lv L (n + 2) f.id) (k : Nat) (k9 : k < 9) (he : f.st = (k : Int)) (hf : f.j = lev - 2) (hn : ¬ lev = 4) (j0 : 0 ≤ f.j) (j1 : f.j ≤ 100) :
    Calls Try.prog 29 #[.pointer (some ⟨G, 0, none⟩), fv f h] w fun e w' => e = .returned (.tuple #[pv (sxt L f.id (at4 4 k)) (sxt L f.id (at4 4 k + 1)) (sxt L f.id (at4 4 k + 4)) (sxt L f.id (at4 4 k + 4 + 1)) (f.j - 1) false, .bool true, .nilIface]) ∧ Below w.heap.size w w' := by
  have HS : Hid (Bw w [(w.heap.size + 1, po 0 0 0 0 0 false), (w.heap.size, fo f h)] ((w.alloc (fo f h)).alloc (po 0 0 0 0 0 false))) := Lib.hid (((bw_start w).alloc t0_fpt (fo f h) rfl).alloc t0_fpt (po 0 0 0 0 0 false) (n := w.heap.size + 1) (by simp))
  have HST := Lib.hid hst
  have HC := Lib.hid hc
  have HO := Lib.hid ho
  have HLE := Lib.hid hlev
  have hd : (f.st == parts lev) = false := by
    rw [he, parts, if_neg hn, beq_eq_false_iff_ne]
    omega
  have hfar : (f.j == lev - 2) = true := by rw [hf]; simp
  have HLV2 := Lib.hid hl
  have hge : decide (9 ≤ f.st) = false := decide_eq_false (by omega)
  have HE := Lib.hid he
  have s0 : 0 ≤ f.st := by omega
  have s1 : f.st ≤ 13 := by omega
  clear he hl hf hn
  generalize hx0 : sxt L f.id (at4 4 k) = x0
  generalize hx1 : sxt L f.id (at4 4 k + 1) = x1
  generalize hx2 : sxt L f.id (at4 4 k + 4) = x2
  generalize hx3 : sxt L f.id (at4 4 k + 4 + 1) = x3
  have HX := Lib.hid (And.intro hx0 (And.intro hx1 (And.intro hx2 hx3)))
  clear hx0 hx1 hx2 hx3
  obtain ⟨id, j, st, got⟩ := f
  simp only at *
  clear hst hc ho hlev
  go_enter Try.func29, Try.ntmps29
  go_upto_region 1 with (fail)
  generalize World.alloc _ _ = W at HS ⊢
  have HD := Lib.hid (HS.out.drew t0_fpt)
  have KD := Lib.hid (And.intro (cell_bel HC.out HD.out.bel) (row4 HD.out.b1).1)
  have HLV := Lib.hid (level_is (HST.out.bel HD.out.bel) id HO.out lev HLE.out)
  go_region_held3 (fun w' => w'.cell? ⟨G, 0, none⟩ = some (.pointer (some ⟨P, 0, none⟩)) ∧ w'.cell? ⟨w.heap.size, 0, none⟩ = some (.int .i64 id)) (first | with_reducible exact KD.out | with_reducible exact ks)
    (first
      | (go_at_call 10; with_reducible refine HLV.out.mono ?_; rintro e w1 ⟨rfl, hb⟩; have HS1 := Lib.hid (HD.out.below t0_fpt hb); have ks := And.intro (cell_bel KD.out.1 hb) (cell_bel KD.out.2 hb); clear hb))
  clear ks KD HLV HD HS
  go_upto_region 2 with (fail)
  obtain ⟨a0, a1, a2, a3⟩ := row4 HS1.out.b1
  go_quiet ((go_at_call 41; exact Calls.quiet_of_same ((partsOf_f _ _).mono fun _ _ ⟨h, e⟩ => ⟨h, e.symm⟩)))
  clear a0 a1 a2 a3
  have HS2 := Lib.hid (HS1.out.below t0_fpt (Below.drewN' (Below.refl _ _) nq))
  clear HS1
  generalize w1.drewN nq = W1 at HS2 ⊢
  obtain ⟨a0, a1, a2, a3⟩ := row4 HS2.out.b1
  clear hd
  go_upto_region 5 with (fail)
  have HS3 := Lib.hid (HS2.out.alloc t0_fpt (po 0 0 0 0 j false) rfl)
  clear HS2 a0 a1 a2 a3
  generalize hg9 : W1.heap.size = g9 at *
  clear hg9
  generalize World.alloc _ _ = W2 at HS3 ⊢
  obtain ⟨a0, a1, a2, a3⟩ := row4 HS3.out.b2
  go_quiet ((go_at_call 28; exact Calls.quiet_of_same ((farthest_f _ l0 (by omega) _).mono fun _ _ ⟨h, e⟩ => ⟨h, e.symm⟩)))
  have HS4 := Lib.hid (HS3.out.below t0_fpt (Below.drewN' (Below.refl _ _) nq))
  clear HS3 a0 a1 a2 a3
  generalize W2.drewN nq = W3 at HS4 ⊢
  obtain ⟨a0, a1, a2, a3⟩ := row4 HS4.out.b2
  obtain ⟨⟨p0, p1, p2, p3, p4, p5⟩, z0, z1, z2, z3, z4, z5⟩ := row6 HS4.out.b0
  go_upto_region 11 with (fail)
  have HS5 := Lib.hid (HS4.out.set t0_fpt (i := 4) (v := .int .i64 (j - 1)) (o' := po 0 0 0 0 (j - 1) false) (heap_setCell_same _ _ _ _ _ _ HS4.out.b0))
  clear HS4 a0 a1 a2 a3 p0 p1 p2 p3 p4 p5 z0 z1 z2 z3 z4 z5
  generalize World.setCell _ _ _ = W4 at HS5 ⊢
  obtain ⟨a0, a1, a2, a3⟩ := row4 HS5.out.b2
  have h16 := sixteen_f (HST.out.bel HS5.out.bel) (cell_bel HC.out HS5.out.bel) id n HLV2.out
  generalize hsx : sxt L id = S at *
  have HSX := Lib.hid hsx
  clear hsx
  have HF := Lib.hid h16
  clear h16
  go_wp2_with fail
  refine HF.out.mono ?_
  rintro e w5 ⟨rfl, hb⟩
  have HS6 := Lib.hid (HS5.out.below t0_fpt hb)
  clear hb HS5 HF a0 a1 a2 a3
  have hinf := info_16 S
  have hone := ir_one S 16
  have HA := Lib.hid (And.intro hone hinf)
  have HIR := Lib.hid (fun i (h : i < 16) => ir_get S 16 i h)
  have HSZ := Lib.hid (ir_size S 16)
  generalize ir S 16 = V at *
  clear hinf hone
  have HS7 := Lib.hid ((HS6.out.alloc t0_fpt z16 rfl).put t0_fpt (w' := (w5.alloc z16).setRow w5.heap.size V) (o' := .cells V 119) (fun x hx => setRow_other _ _ _ _ hx) (setRow_heap _ _ _ _ _ _ (heap_alloc_new w5 z16)) rfl rfl rfl (by simp))
  clear HS6
  have HSV : z16C.size = V.size := by rw [HSZ.out]; rfl
  go_upto_region 14 with (refine wpList_store_row rfl 119 (.tmp 11) (.tmp 62) rfl w5.heap.size V rfl rfl 119 z16C (heap_alloc_new w5 z16) HA.out.2 HSV HA.out.1 ?_)
  clear HSV
  generalize hg11 : w5.heap.size = g11 at *
  clear hg11
  generalize World.setRow _ _ _ = W6 at HS7 ⊢
  have HD7 := Lib.hid (HS7.out.drew t0_fpt)
  have hcell : ∀ i, i < 16 → W6.drew.cell? ⟨g11, 0 + i, none⟩ = some (.int .i64 (S i)) := fun i hi => by
    rw [Nat.zero_add, cell_of_row _ _ _ _ _ _ HD7.out.b0]
    exact HIR.out i hi
  have hF := four_4 g11 0 k 16 16 k9 (by omega) (by omega) (by omega) S W6.drew hcell
  rw [HX.out.1, HX.out.2.1, HX.out.2.2.1, HX.out.2.2.2, ← HE.out] at hF
  have HF := Lib.hid hF
  clear hF hcell
  obtain ⟨_, _, a2, _⟩ := row4 HS7.out.b3
  clear HS7
  go_region_with (first | (go_at_call 42; with_reducible refine HF.out.mono ?_; rintro e w7 ⟨rfl, hb⟩; have HS8 := Lib.hid (HD7.out.below t0_fpt hb); clear hb; obtain ⟨⟨p0, p1, p2, p3, p4, p5⟩, z0, z1, z2, z3, z4, z5⟩ := row6 HS8.out.b1))
  clear p0 p1 p2 p3 p4 p5 z0 z1 z2 z3 z4 z5 a2
  have HS8b := Lib.hid (HS8.out.tail.sub (by' := [(g9, po 0 0 0 0 (j - 1) false), (w.heap.size + 1, po 0 0 0 0 0 false)]) (by simp) (by have := HS8.out.tail.nd; simp at this ⊢; exact this.1))
  have HS9 := Lib.hid ((HS8b.out.put t0_fpt (o' := po x0 x1 x2 x3 (j - 1) false) (w' := set4 w7 g9 (.int .i64 x0) (.int .i64 x1) (.int .i64 x2) (.int .i64 x3)) (fun x hx => set4_other w7 _ _ _ _ hx) (row6_set4 HS8b.out.b0 _ _ _ _) rfl rfl rfl (by simp)).set t0_fpt (i := 5) (v := .bool false) (o' := po x0 x1 x2 x3 (j - 1) false) (heap_setCell_same _ _ _ _ _ _ (row6_set4 HS8b.out.b0 _ _ _ _)))
  unfold set4 at HS9
  clear HS8 HS8b HF HD7
  generalize World.setCell _ _ _ = W8 at HS9 ⊢
  obtain ⟨⟨p0, p1, p2, p3, p4, p5⟩, _⟩ := row6 HS9.out.b0
  obtain ⟨_, z0, z1, z2, z3, z4, z5⟩ := row6 HS9.out.b1
  go_wp2
  refine post_row_tmp2 Try.results29 (w.heap.size + 1) 100 #[.int .i64 x0, .int .i64 x1, .int .i64 x2, .int .i64 x3, .int .i64 (j - 1), .bool false] (0, 0) _ (.bool true) .nilIface Try.underlying100 rfl info_p6 ?_ ?_ ?_ (row_set6 HS9.out.b1 _ _ _ _ _ _) ?_ ?_
  · rfl
  · rfl
  · rfl
  · rfl
  exact ⟨rfl, below_set6 HS9.out.bel (by omega) _ _ _ _ _ _⟩
set_option maxRecDepth 100000 in
set_option maxHeartbeats 4000000 in
theorem next_still_f {B : Nat} {w : World} {P : Nat} {L : List Sq} {room : Nat} {Hs : Nat → Prop} {G : Nat} (hst : St B w P L room Hs) (hc : w.cell? ⟨G, 0, none⟩ = some (.pointer (some ⟨P, 0, none⟩))) (f : Fr) (h : Value) (lev : Int) (ho : Ok L f.id) (hlev : (at' L f.id).lev = lev) (l0 : 0 ≤ lev) (l1 : lev ≤ 40) (n : Nat) (hl : Lv L (n + 2) f.id) (k : Nat) (k9 : k < 9) (he : f.st = (k : Int)) (hf : ¬ f.j = lev - 2) (hn : ¬ lev = 4) (j0 : 0 ≤ f.j) (j1 : f.j ≤ 100) :
    Calls Try.prog 29 #[.pointer (some ⟨G, 0, none⟩), fv f h] w fun e w' => e = .returned (.tuple #[pv (sxt L f.id (at4 4 k)) (sxt L f.id (at4 4 k + 1)) (sxt L f.id (at4 4 k + 4)) (sxt L f.id (at4 4 k + 4 + 1)) f.j true, .bool true, .nilIface]) ∧ Below w.heap.size w w' := by
  have HS : Hid (Bw w [(w.heap.size + 1, po 0 0 0 0 0 false), (w.heap.size, fo f h)] ((w.alloc (fo f h)).alloc (po 0 0 0 0 0 false))) := Lib.hid (((bw_start w).alloc t0_fpt (fo f h) rfl).alloc t0_fpt (po 0 0 0 0 0 false) (n := w.heap.size + 1) (by simp))
  have HST := Lib.hid hst
  have HC := Lib.hid hc
  have HO := Lib.hid ho
  have HLE := Lib.hid hlev
  have hd : (f.st == parts lev) = false := by
    rw [he, parts, if_neg hn, beq_eq_false_iff_ne]
    omega
  have hfar : (f.j == lev - 2) = false := by rw [beq_eq_false_iff_ne]; exact hf
  have HLV2 := Lib.hid hl
  have hge : decide (9 ≤ f.st) = false := decide_eq_false (by omega)
  have HE := Lib.hid he
  have s0 : 0 ≤ f.st := by omega
  have s1 : f.st ≤ 13 := by omega
  clear he hl hf hn
  generalize hx0 : sxt L f.id (at4 4 k) = x0
  generalize hx1 : sxt L f.id (at4 4 k + 1) = x1
  generalize hx2 : sxt L f.id (at4 4 k + 4) = x2
  generalize hx3 : sxt L f.id (at4 4 k + 4 + 1) = x3
  have HX := Lib.hid (And.intro hx0 (And.intro hx1 (And.intro hx2 hx3)))
  clear hx0 hx1 hx2 hx3
  obtain ⟨id, j, st, got⟩ := f
  simp only at *
  clear hst hc ho hlev
  go_enter Try.func29, Try.ntmps29
  go_upto_region 1 with (fail)
  generalize World.alloc _ _ = W at HS ⊢
  have HD := Lib.hid (HS.out.drew t0_fpt)
  have KD := Lib.hid (And.intro (cell_bel HC.out HD.out.bel) (row4 HD.out.b1).1)
  have HLV := Lib.hid (level_is (HST.out.bel HD.out.bel) id HO.out lev HLE.out)
  go_region_held3 (fun w' => w'.cell? ⟨G, 0, none⟩ = some (.pointer (some ⟨P, 0, none⟩)) ∧ w'.cell? ⟨w.heap.size, 0, none⟩ = some (.int .i64 id)) (first | with_reducible exact KD.out | with_reducible exact ks)
    (first
      | (go_at_call 10; with_reducible refine HLV.out.mono ?_; rintro e w1 ⟨rfl, hb⟩; have HS1 := Lib.hid (HD.out.below t0_fpt hb); have ks := And.intro (cell_bel KD.out.1 hb) (cell_bel KD.out.2 hb); clear hb))
  clear ks KD HLV HD HS
  go_upto_region 2 with (fail)
  obtain ⟨a0, a1, a2, a3⟩ := row4 HS1.out.b1
  go_quiet ((go_at_call 41; exact Calls.quiet_of_same ((partsOf_f _ _).mono fun _ _ ⟨h, e⟩ => ⟨h, e.symm⟩)))
  clear a0 a1 a2 a3
  have HS2 := Lib.hid (HS1.out.below t0_fpt (Below.drewN' (Below.refl _ _) nq))
  clear HS1
  generalize w1.drewN nq = W1 at HS2 ⊢
  obtain ⟨a0, a1, a2, a3⟩ := row4 HS2.out.b1
  clear hd
  go_upto_region 5 with (fail)
  have HS3 := Lib.hid (HS2.out.alloc t0_fpt (po 0 0 0 0 j false) rfl)
  clear HS2 a0 a1 a2 a3
  generalize hg9 : W1.heap.size = g9 at *
  clear hg9
  generalize World.alloc _ _ = W2 at HS3 ⊢
  obtain ⟨a0, a1, a2, a3⟩ := row4 HS3.out.b2
  go_quiet ((go_at_call 28; exact Calls.quiet_of_same ((farthest_f _ l0 (by omega) _).mono fun _ _ ⟨h, e⟩ => ⟨h, e.symm⟩)))
  have HS4 := Lib.hid (HS3.out.below t0_fpt (Below.drewN' (Below.refl _ _) nq))
  clear HS3 a0 a1 a2 a3
  generalize W2.drewN nq = W3 at HS4 ⊢
  obtain ⟨a0, a1, a2, a3⟩ := row4 HS4.out.b2
  obtain ⟨⟨p0, p1, p2, p3, p4, p5⟩, z0, z1, z2, z3, z4, z5⟩ := row6 HS4.out.b0
  go_upto_region 11 with (fail)
  have HS5 := Lib.hid HS4.out
  clear HS4 a0 a1 a2 a3 p0 p1 p2 p3 p4 p5 z0 z1 z2 z3 z4 z5
  generalize W3 = W4 at HS5 ⊢
  obtain ⟨a0, a1, a2, a3⟩ := row4 HS5.out.b2
  have h16 := sixteen_f (HST.out.bel HS5.out.bel) (cell_bel HC.out HS5.out.bel) id n HLV2.out
  generalize hsx : sxt L id = S at *
  have HSX := Lib.hid hsx
  clear hsx
  have HF := Lib.hid h16
  clear h16
  go_wp2_with fail
  refine HF.out.mono ?_
  rintro e w5 ⟨rfl, hb⟩
  have HS6 := Lib.hid (HS5.out.below t0_fpt hb)
  clear hb HS5 HF a0 a1 a2 a3
  have hinf := info_16 S
  have hone := ir_one S 16
  have HA := Lib.hid (And.intro hone hinf)
  have HIR := Lib.hid (fun i (h : i < 16) => ir_get S 16 i h)
  have HSZ := Lib.hid (ir_size S 16)
  generalize ir S 16 = V at *
  clear hinf hone
  have HS7 := Lib.hid ((HS6.out.alloc t0_fpt z16 rfl).put t0_fpt (w' := (w5.alloc z16).setRow w5.heap.size V) (o' := .cells V 119) (fun x hx => setRow_other _ _ _ _ hx) (setRow_heap _ _ _ _ _ _ (heap_alloc_new w5 z16)) rfl rfl rfl (by simp))
  clear HS6
  have HSV : z16C.size = V.size := by rw [HSZ.out]; rfl
  go_upto_region 14 with (refine wpList_store_row rfl 119 (.tmp 11) (.tmp 62) rfl w5.heap.size V rfl rfl 119 z16C (heap_alloc_new w5 z16) HA.out.2 HSV HA.out.1 ?_)
  clear HSV
  generalize hg11 : w5.heap.size = g11 at *
  clear hg11
  generalize World.setRow _ _ _ = W6 at HS7 ⊢
  have HD7 := Lib.hid (HS7.out.drew t0_fpt)
  have hcell : ∀ i, i < 16 → W6.drew.cell? ⟨g11, 0 + i, none⟩ = some (.int .i64 (S i)) := fun i hi => by
    rw [Nat.zero_add, cell_of_row _ _ _ _ _ _ HD7.out.b0]
    exact HIR.out i hi
  have hF := four_4 g11 0 k 16 16 k9 (by omega) (by omega) (by omega) S W6.drew hcell
  rw [HX.out.1, HX.out.2.1, HX.out.2.2.1, HX.out.2.2.2, ← HE.out] at hF
  have HF := Lib.hid hF
  clear hF hcell
  obtain ⟨_, _, a2, _⟩ := row4 HS7.out.b3
  clear HS7
  go_region_with (first | (go_at_call 42; with_reducible refine HF.out.mono ?_; rintro e w7 ⟨rfl, hb⟩; have HS8 := Lib.hid (HD7.out.below t0_fpt hb); clear hb; obtain ⟨⟨p0, p1, p2, p3, p4, p5⟩, z0, z1, z2, z3, z4, z5⟩ := row6 HS8.out.b1))
  clear p0 p1 p2 p3 p4 p5 z0 z1 z2 z3 z4 z5 a2
  have HS8b := Lib.hid (HS8.out.tail.sub (by' := [(g9, po 0 0 0 0 j false), (w.heap.size + 1, po 0 0 0 0 0 false)]) (by simp) (by have := HS8.out.tail.nd; simp at this ⊢; exact this.1))
  have HS9 := Lib.hid ((HS8b.out.put t0_fpt (o' := po x0 x1 x2 x3 j false) (w' := set4 w7 g9 (.int .i64 x0) (.int .i64 x1) (.int .i64 x2) (.int .i64 x3)) (fun x hx => set4_other w7 _ _ _ _ hx) (row6_set4 HS8b.out.b0 _ _ _ _) rfl rfl rfl (by simp)).set t0_fpt (i := 5) (v := .bool true) (o' := po x0 x1 x2 x3 j true) (heap_setCell_same _ _ _ _ _ _ (row6_set4 HS8b.out.b0 _ _ _ _)))
  unfold set4 at HS9
  clear HS8 HS8b HF HD7
  generalize World.setCell _ _ _ = W8 at HS9 ⊢
  obtain ⟨⟨p0, p1, p2, p3, p4, p5⟩, _⟩ := row6 HS9.out.b0
  obtain ⟨_, z0, z1, z2, z3, z4, z5⟩ := row6 HS9.out.b1
  go_wp2
  refine post_row_tmp2 Try.results29 (w.heap.size + 1) 100 #[.int .i64 x0, .int .i64 x1, .int .i64 x2, .int .i64 x3, .int .i64 j, .bool true] (0, 0) _ (.bool true) .nilIface Try.underlying100 rfl info_p6 ?_ ?_ ?_ (row_set6 HS9.out.b1 _ _ _ _ _ _) ?_ ?_
  · rfl
  · rfl
  · rfl
  · rfl
  exact ⟨rfl, below_set6 HS9.out.bel (by omega) _ _ _ _ _ _⟩
end Go.Proofs.Ytkefjkfknegogaa.Fm

/-
  WALK of next, of a part among the nine. Conditions: the store lies in memory, the frame is one that can be.
  WHAT BECOMES OF A MACHINE IN MEMORY: a frame more, a frame less, a part more; and the WALK of take. Conditions: the machine lies in memory.
-/
import Derived.Test.YtlejohclijjhnaaGreatDoorL30
namespace Go.Proofs.YtlejohclijjhnaaGreatDoor.Fm
open Go.RowKit Ti Qd Go.Maps Go.WideMaps Ru

abbrev z16C : Array Value := #[.int .i64 0, .int .i64 0, .int .i64 0, .int .i64 0, .int .i64 0, .int .i64 0, .int .i64 0, .int .i64 0, .int .i64 0, .int .i64 0, .int .i64 0, .int .i64 0, .int .i64 0, .int .i64 0, .int .i64 0, .int .i64 0]
set_option maxRecDepth 100000 in
set_option maxHeartbeats 4000000 in
theorem next_go_f {B : Nat} {w : World} {P : Nat} {L : List Sq} {room : Nat} {Hs : Nat → Prop} {G : Nat} (hst : St B w P L room Hs) (hc : w.cell? ⟨G, 0, none⟩ = some (.pointer (some ⟨P, 0, none⟩))) (f : Fr) (h : Value) (lev : Int) (ho : Ok L f.id) (hlev : (at' L f.id).lev = lev) (l0 : 0 ≤ lev) (l1 : lev ≤ 40) (n : Nat) (hl : Lv L (n + 2) f.id) (k : Nat) (k9 : k < 9) (he : f.st = (k : Int)) (hf : f.j = lev - 2) (hn : ¬ lev = 4) (j0 : 0 ≤ f.j) (j1 : f.j ≤ 100) :
    Calls Tryz.prog 34 #[.pointer (some ⟨G, 0, none⟩), fv f h] w fun e w' => e = .returned (.tuple #[pv (sxt L f.id (at4 4 k)) (sxt L f.id (at4 4 k + 1)) (sxt L f.id (at4 4 k + 4)) (sxt L f.id (at4 4 k + 4 + 1)) (f.j - 1) false, .bool true, .nilIface]) ∧ Below w.heap.size w w' := by
  have HS : Hid (Bw w [(w.heap.size + 1, po 0 0 0 0 0 false), (w.heap.size, fo f h)] ((w.alloc (fo f h)).alloc (po 0 0 0 0 0 false))) := Lib.hid (((bw_start w).alloc t0_fpt (fo f h) rfl).alloc t0_fpt (po 0 0 0 0 0 false) (n := w.heap.size + 1) (by simp))
  have HST := Lib.hid hst
  have HC := Lib.hid hc
  have HO := Lib.hid ho
  have HLE := Lib.hid hlev
  have hd : (f.st == parts lev) = false := by
    rw [he, parts, if_neg hn, beq_eq_false_iff_ne]
    omega
  have hfar : (f.j == lev - 2) = true := by rw [hf]; simp
  have HLV2 := Lib.hid hl
  have hge : decide (9 ≤ f.st) = false := decide_eq_false (by omega)
  have HE := Lib.hid he
  have s0 : 0 ≤ f.st := by omega
  have s1 : f.st ≤ 13 := by omega
  clear he hl hf hn
  generalize hx0 : sxt L f.id (at4 4 k) = x0
  generalize hx1 : sxt L f.id (at4 4 k + 1) = x1
  generalize hx2 : sxt L f.id (at4 4 k + 4) = x2
  generalize hx3 : sxt L f.id (at4 4 k + 4 + 1) = x3
  have HX := Lib.hid (And.intro hx0 (And.intro hx1 (And.intro hx2 hx3)))
  clear hx0 hx1 hx2 hx3
  obtain ⟨id, j, st, got⟩ := f
  simp only at *
  clear hst hc ho hlev
  go_enter Tryz.func34, Tryz.ntmps34
  go_upto_region 1 with (fail)
  generalize World.alloc _ _ = W at HS ⊢
  have HD := Lib.hid (HS.out.drew t0_fpt)
  have KD := Lib.hid (And.intro (cell_bel HC.out HD.out.bel) (row4 HD.out.b1).1)
  have HLV := Lib.hid (level_is (HST.out.bel HD.out.bel) id HO.out lev HLE.out)
  go_region_held3 (fun w' => w'.cell? ⟨G, 0, none⟩ = some (.pointer (some ⟨P, 0, none⟩)) ∧ w'.cell? ⟨w.heap.size, 0, none⟩ = some (.int .i64 id)) (first | with_reducible exact KD.out | with_reducible exact ks)
    (first
      | (go_at_call 21; with_reducible refine HLV.out.mono ?_; rintro e w1 ⟨rfl, hb⟩; have HS1 := Lib.hid (HD.out.below t0_fpt hb); have ks := And.intro (cell_bel KD.out.1 hb) (cell_bel KD.out.2 hb); clear hb))
  clear ks KD HLV HD HS
  go_upto_region 2 with (fail)
  obtain ⟨a0, a1, a2, a3⟩ := row4 HS1.out.b1
  go_quiet ((go_at_call 52; exact Calls.quiet_of_same ((partsOf_f _ _).mono fun _ _ ⟨h, e⟩ => ⟨h, e.symm⟩)))
  clear a0 a1 a2 a3
  have HS2 := Lib.hid (HS1.out.below t0_fpt (Below.drewN' (Below.refl _ _) nq))
  clear HS1
  generalize w1.drewN nq = W1 at HS2 ⊢
  obtain ⟨a0, a1, a2, a3⟩ := row4 HS2.out.b1
  clear hd
  go_upto_region 5 with (fail)
  have HS3 := Lib.hid (HS2.out.alloc t0_fpt (po 0 0 0 0 j false) rfl)
  clear HS2 a0 a1 a2 a3
  generalize hg9 : W1.heap.size = g9 at *
  clear hg9
  generalize World.alloc _ _ = W2 at HS3 ⊢
  obtain ⟨a0, a1, a2, a3⟩ := row4 HS3.out.b2
  go_quiet ((go_at_call 33; exact Calls.quiet_of_same ((farthest_f _ l0 (by omega) _).mono fun _ _ ⟨h, e⟩ => ⟨h, e.symm⟩)))
  have HS4 := Lib.hid (HS3.out.below t0_fpt (Below.drewN' (Below.refl _ _) nq))
  clear HS3 a0 a1 a2 a3
  generalize W2.drewN nq = W3 at HS4 ⊢
  obtain ⟨a0, a1, a2, a3⟩ := row4 HS4.out.b2
  obtain ⟨⟨p0, p1, p2, p3, p4, p5⟩, z0, z1, z2, z3, z4, z5⟩ := row6 HS4.out.b0
  go_upto_region 11 with (fail)
  have HS5 := Lib.hid (HS4.out.set t0_fpt (i := 4) (v := .int .i64 (j - 1)) (o' := po 0 0 0 0 (j - 1) false) (heap_setCell_same _ _ _ _ _ _ HS4.out.b0))
  clear HS4 a0 a1 a2 a3 p0 p1 p2 p3 p4 p5 z0 z1 z2 z3 z4 z5
  generalize World.setCell _ _ _ = W4 at HS5 ⊢
  obtain ⟨a0, a1, a2, a3⟩ := row4 HS5.out.b2
  have h16 := sixteen_f (HST.out.bel HS5.out.bel) (cell_bel HC.out HS5.out.bel) id n HLV2.out
  generalize hsx : sxt L id = S at *
  have HSX := Lib.hid hsx
  clear hsx
  have HF := Lib.hid h16
  clear h16
  go_wp2_with fail
  refine HF.out.mono ?_
  rintro e w5 ⟨rfl, hb⟩
  have HS6 := Lib.hid (HS5.out.below t0_fpt hb)
  clear hb HS5 HF a0 a1 a2 a3
  have hinf := info_16 S
  have hone := ir_one S 16
  have HA := Lib.hid (And.intro hone hinf)
  have HIR := Lib.hid (fun i (h : i < 16) => ir_get S 16 i h)
  have HSZ := Lib.hid (ir_size S 16)
  generalize ir S 16 = V at *
  clear hinf hone
  have HS7 := Lib.hid ((HS6.out.alloc t0_fpt z16 rfl).put t0_fpt (w' := (w5.alloc z16).setRow w5.heap.size V) (o' := .cells V 139) (fun x hx => setRow_other _ _ _ _ hx) (setRow_heap _ _ _ _ _ _ (heap_alloc_new w5 z16)) rfl rfl rfl (by simp))
  clear HS6
  have HSV : z16C.size = V.size := by rw [HSZ.out]; rfl
  go_upto_region 14 with (refine wpList_store_row rfl 139 (.tmp 11) (.tmp 62) rfl w5.heap.size V rfl rfl 139 z16C (heap_alloc_new w5 z16) HA.out.2 HSV HA.out.1 ?_)
  clear HSV
  generalize hg11 : w5.heap.size = g11 at *
  clear hg11
  generalize World.setRow _ _ _ = W6 at HS7 ⊢
  have HD7 := Lib.hid (HS7.out.drew t0_fpt)
  have hcell : ∀ i, i < 16 → W6.drew.cell? ⟨g11, 0 + i, none⟩ = some (.int .i64 (S i)) := fun i hi => by
    rw [Nat.zero_add, cell_of_row _ _ _ _ _ _ HD7.out.b0]
    exact HIR.out i hi
  have hF := four_4 g11 0 k 16 16 k9 (by omega) (by omega) (by omega) S W6.drew hcell
  rw [HX.out.1, HX.out.2.1, HX.out.2.2.1, HX.out.2.2.2, ← HE.out] at hF
  have HF := Lib.hid hF
  clear hF hcell
  obtain ⟨_, _, a2, _⟩ := row4 HS7.out.b3
  clear HS7
  go_region_with (first | (go_at_call 53; with_reducible refine HF.out.mono ?_; rintro e w7 ⟨rfl, hb⟩; have HS8 := Lib.hid (HD7.out.below t0_fpt hb); clear hb; obtain ⟨⟨p0, p1, p2, p3, p4, p5⟩, z0, z1, z2, z3, z4, z5⟩ := row6 HS8.out.b1))
  clear p0 p1 p2 p3 p4 p5 z0 z1 z2 z3 z4 z5 a2
  have HS8b := Lib.hid (HS8.out.tail.sub (by' := [(g9, po 0 0 0 0 (j - 1) false), (w.heap.size + 1, po 0 0 0 0 0 false)]) (by simp) (by have := HS8.out.tail.nd; simp at this ⊢; exact this.1))
  have HS9 := Lib.hid ((HS8b.out.put t0_fpt (o' := po x0 x1 x2 x3 (j - 1) false) (w' := set4 w7 g9 (.int .i64 x0) (.int .i64 x1) (.int .i64 x2) (.int .i64 x3)) (fun x hx => set4_other w7 _ _ _ _ hx) (row6_set4 HS8b.out.b0 _ _ _ _) rfl rfl rfl (by simp)).set t0_fpt (i := 5) (v := .bool false) (o' := po x0 x1 x2 x3 (j - 1) false) (heap_setCell_same _ _ _ _ _ _ (row6_set4 HS8b.out.b0 _ _ _ _)))
  unfold set4 at HS9
  clear HS8 HS8b HF HD7
  generalize World.setCell _ _ _ = W8 at HS9 ⊢
  obtain ⟨⟨p0, p1, p2, p3, p4, p5⟩, _⟩ := row6 HS9.out.b0
  obtain ⟨_, z0, z1, z2, z3, z4, z5⟩ := row6 HS9.out.b1
  go_wp2
  refine post_row_tmp2 Tryz.results34 (w.heap.size + 1) 106 #[.int .i64 x0, .int .i64 x1, .int .i64 x2, .int .i64 x3, .int .i64 (j - 1), .bool false] (0, 0) _ (.bool true) .nilIface Tryz.underlying106 rfl info_p6 ?_ ?_ ?_ (row_set6 HS9.out.b1 _ _ _ _ _ _) ?_ ?_
  · rfl
  · rfl
  · rfl
  · rfl
  exact ⟨rfl, below_set6 HS9.out.bel (by omega) _ _ _ _ _ _⟩
set_option maxRecDepth 100000 in
set_option maxHeartbeats 4000000 in
theorem next_still_f {B : Nat} {w : World} {P : Nat} {L : List Sq} {room : Nat} {Hs : Nat → Prop} {G : Nat} (hst : St B w P L room Hs) (hc : w.cell? ⟨G, 0, none⟩ = some (.pointer (some ⟨P, 0, none⟩))) (f : Fr) (h : Value) (lev : Int) (ho : Ok L f.id) (hlev : (at' L f.id).lev = lev) (l0 : 0 ≤ lev) (l1 : lev ≤ 40) (n : Nat) (hl : Lv L (n + 2) f.id) (k : Nat) (k9 : k < 9) (he : f.st = (k : Int)) (hf : ¬ f.j = lev - 2) (hn : ¬ lev = 4) (j0 : 0 ≤ f.j) (j1 : f.j ≤ 100) :
    Calls Tryz.prog 34 #[.pointer (some ⟨G, 0, none⟩), fv f h] w fun e w' => e = .returned (.tuple #[pv (sxt L f.id (at4 4 k)) (sxt L f.id (at4 4 k + 1)) (sxt L f.id (at4 4 k + 4)) (sxt L f.id (at4 4 k + 4 + 1)) f.j true, .bool true, .nilIface]) ∧ Below w.heap.size w w' := by
  have HS : Hid (Bw w [(w.heap.size + 1, po 0 0 0 0 0 false), (w.heap.size, fo f h)] ((w.alloc (fo f h)).alloc (po 0 0 0 0 0 false))) := Lib.hid (((bw_start w).alloc t0_fpt (fo f h) rfl).alloc t0_fpt (po 0 0 0 0 0 false) (n := w.heap.size + 1) (by simp))
  have HST := Lib.hid hst
  have HC := Lib.hid hc
  have HO := Lib.hid ho
  have HLE := Lib.hid hlev
  have hd : (f.st == parts lev) = false := by
    rw [he, parts, if_neg hn, beq_eq_false_iff_ne]
    omega
  have hfar : (f.j == lev - 2) = false := by rw [beq_eq_false_iff_ne]; exact hf
  have HLV2 := Lib.hid hl
  have hge : decide (9 ≤ f.st) = false := decide_eq_false (by omega)
  have HE := Lib.hid he
  have s0 : 0 ≤ f.st := by omega
  have s1 : f.st ≤ 13 := by omega
  clear he hl hf hn
  generalize hx0 : sxt L f.id (at4 4 k) = x0
  generalize hx1 : sxt L f.id (at4 4 k + 1) = x1
  generalize hx2 : sxt L f.id (at4 4 k + 4) = x2
  generalize hx3 : sxt L f.id (at4 4 k + 4 + 1) = x3
  have HX := Lib.hid (And.intro hx0 (And.intro hx1 (And.intro hx2 hx3)))
  clear hx0 hx1 hx2 hx3
  obtain ⟨id, j, st, got⟩ := f
  simp only at *
  clear hst hc ho hlev
  go_enter Tryz.func34, Tryz.ntmps34
  go_upto_region 1 with (fail)
  generalize World.alloc _ _ = W at HS ⊢
  have HD := Lib.hid (HS.out.drew t0_fpt)
  have KD := Lib.hid (And.intro (cell_bel HC.out HD.out.bel) (row4 HD.out.b1).1)
  have HLV := Lib.hid (level_is (HST.out.bel HD.out.bel) id HO.out lev HLE.out)
  go_region_held3 (fun w' => w'.cell? ⟨G, 0, none⟩ = some (.pointer (some ⟨P, 0, none⟩)) ∧ w'.cell? ⟨w.heap.size, 0, none⟩ = some (.int .i64 id)) (first | with_reducible exact KD.out | with_reducible exact ks)
    (first
      | (go_at_call 21; with_reducible refine HLV.out.mono ?_; rintro e w1 ⟨rfl, hb⟩; have HS1 := Lib.hid (HD.out.below t0_fpt hb); have ks := And.intro (cell_bel KD.out.1 hb) (cell_bel KD.out.2 hb); clear hb))
  clear ks KD HLV HD HS
  go_upto_region 2 with (fail)
  obtain ⟨a0, a1, a2, a3⟩ := row4 HS1.out.b1
  go_quiet ((go_at_call 52; exact Calls.quiet_of_same ((partsOf_f _ _).mono fun _ _ ⟨h, e⟩ => ⟨h, e.symm⟩)))
  clear a0 a1 a2 a3
  have HS2 := Lib.hid (HS1.out.below t0_fpt (Below.drewN' (Below.refl _ _) nq))
  clear HS1
  generalize w1.drewN nq = W1 at HS2 ⊢
  obtain ⟨a0, a1, a2, a3⟩ := row4 HS2.out.b1
  clear hd
  go_upto_region 5 with (fail)
  have HS3 := Lib.hid (HS2.out.alloc t0_fpt (po 0 0 0 0 j false) rfl)
  clear HS2 a0 a1 a2 a3
  generalize hg9 : W1.heap.size = g9 at *
  clear hg9
  generalize World.alloc _ _ = W2 at HS3 ⊢
  obtain ⟨a0, a1, a2, a3⟩ := row4 HS3.out.b2
  go_quiet ((go_at_call 33; exact Calls.quiet_of_same ((farthest_f _ l0 (by omega) _).mono fun _ _ ⟨h, e⟩ => ⟨h, e.symm⟩)))
  have HS4 := Lib.hid (HS3.out.below t0_fpt (Below.drewN' (Below.refl _ _) nq))
  clear HS3 a0 a1 a2 a3
  generalize W2.drewN nq = W3 at HS4 ⊢
  obtain ⟨a0, a1, a2, a3⟩ := row4 HS4.out.b2
  obtain ⟨⟨p0, p1, p2, p3, p4, p5⟩, z0, z1, z2, z3, z4, z5⟩ := row6 HS4.out.b0
  go_upto_region 11 with (fail)
  have HS5 := Lib.hid HS4.out
  clear HS4 a0 a1 a2 a3 p0 p1 p2 p3 p4 p5 z0 z1 z2 z3 z4 z5
  generalize W3 = W4 at HS5 ⊢
  obtain ⟨a0, a1, a2, a3⟩ := row4 HS5.out.b2
  have h16 := sixteen_f (HST.out.bel HS5.out.bel) (cell_bel HC.out HS5.out.bel) id n HLV2.out
  generalize hsx : sxt L id = S at *
  have HSX := Lib.hid hsx
  clear hsx
  have HF := Lib.hid h16
  clear h16
  go_wp2_with fail
  refine HF.out.mono ?_
  rintro e w5 ⟨rfl, hb⟩
  have HS6 := Lib.hid (HS5.out.below t0_fpt hb)
  clear hb HS5 HF a0 a1 a2 a3
  have hinf := info_16 S
  have hone := ir_one S 16
  have HA := Lib.hid (And.intro hone hinf)
  have HIR := Lib.hid (fun i (h : i < 16) => ir_get S 16 i h)
  have HSZ := Lib.hid (ir_size S 16)
  generalize ir S 16 = V at *
  clear hinf hone
  have HS7 := Lib.hid ((HS6.out.alloc t0_fpt z16 rfl).put t0_fpt (w' := (w5.alloc z16).setRow w5.heap.size V) (o' := .cells V 139) (fun x hx => setRow_other _ _ _ _ hx) (setRow_heap _ _ _ _ _ _ (heap_alloc_new w5 z16)) rfl rfl rfl (by simp))
  clear HS6
  have HSV : z16C.size = V.size := by rw [HSZ.out]; rfl
  go_upto_region 14 with (refine wpList_store_row rfl 139 (.tmp 11) (.tmp 62) rfl w5.heap.size V rfl rfl 139 z16C (heap_alloc_new w5 z16) HA.out.2 HSV HA.out.1 ?_)
  clear HSV
  generalize hg11 : w5.heap.size = g11 at *
  clear hg11
  generalize World.setRow _ _ _ = W6 at HS7 ⊢
  have HD7 := Lib.hid (HS7.out.drew t0_fpt)
  have hcell : ∀ i, i < 16 → W6.drew.cell? ⟨g11, 0 + i, none⟩ = some (.int .i64 (S i)) := fun i hi => by
    rw [Nat.zero_add, cell_of_row _ _ _ _ _ _ HD7.out.b0]
    exact HIR.out i hi
  have hF := four_4 g11 0 k 16 16 k9 (by omega) (by omega) (by omega) S W6.drew hcell
  rw [HX.out.1, HX.out.2.1, HX.out.2.2.1, HX.out.2.2.2, ← HE.out] at hF
  have HF := Lib.hid hF
  clear hF hcell
  obtain ⟨_, _, a2, _⟩ := row4 HS7.out.b3
  clear HS7
  go_region_with (first | (go_at_call 53; with_reducible refine HF.out.mono ?_; rintro e w7 ⟨rfl, hb⟩; have HS8 := Lib.hid (HD7.out.below t0_fpt hb); clear hb; obtain ⟨⟨p0, p1, p2, p3, p4, p5⟩, z0, z1, z2, z3, z4, z5⟩ := row6 HS8.out.b1))
  clear p0 p1 p2 p3 p4 p5 z0 z1 z2 z3 z4 z5 a2
  have HS8b := Lib.hid (HS8.out.tail.sub (by' := [(g9, po 0 0 0 0 j false), (w.heap.size + 1, po 0 0 0 0 0 false)]) (by simp) (by have := HS8.out.tail.nd; simp at this ⊢; exact this.1))
  have HS9 := Lib.hid ((HS8b.out.put t0_fpt (o' := po x0 x1 x2 x3 j false) (w' := set4 w7 g9 (.int .i64 x0) (.int .i64 x1) (.int .i64 x2) (.int .i64 x3)) (fun x hx => set4_other w7 _ _ _ _ hx) (row6_set4 HS8b.out.b0 _ _ _ _) rfl rfl rfl (by simp)).set t0_fpt (i := 5) (v := .bool true) (o' := po x0 x1 x2 x3 j true) (heap_setCell_same _ _ _ _ _ _ (row6_set4 HS8b.out.b0 _ _ _ _)))
  unfold set4 at HS9
  clear HS8 HS8b HF HD7
  generalize World.setCell _ _ _ = W8 at HS9 ⊢
  obtain ⟨⟨p0, p1, p2, p3, p4, p5⟩, _⟩ := row6 HS9.out.b0
  obtain ⟨_, z0, z1, z2, z3, z4, z5⟩ := row6 HS9.out.b1
  go_wp2
  refine post_row_tmp2 Tryz.results34 (w.heap.size + 1) 106 #[.int .i64 x0, .int .i64 x1, .int .i64 x2, .int .i64 x3, .int .i64 j, .bool true] (0, 0) _ (.bool true) .nilIface Tryz.underlying106 rfl info_p6 ?_ ?_ ?_ (row_set6 HS9.out.b1 _ _ _ _ _ _) ?_ ?_
  · rfl
  · rfl
  · rfl
  · rfl
  exact ⟨rfl, below_set6 HS9.out.bel (by omega) _ _ _ _ _ _⟩
end Go.Proofs.YtlejohclijjhnaaGreatDoor.Fm
namespace Go.Proofs.YtlejohclijjhnaaGreatDoor.Fm
open Go.RowKit Ti Qd Go.Maps Go.WideMaps Ru

theorem nd_split {A x C : List Nat} (h : (A ++ (x ++ C)).Nodup) : A.Nodup ∧ x.Nodup ∧ C.Nodup ∧ (∀ a ∈ A, a ∉ x) ∧ (∀ a ∈ A, a ∉ C) ∧ ∀ a ∈ x, a ∉ C := by
  rw [List.nodup_append, List.nodup_append] at h
  obtain ⟨h1, ⟨h2, h3, h4⟩, h5⟩ := h
  exact ⟨h1, h2, h3, fun a ha hx => h5 a ha a (List.mem_append_left _ hx) rfl, fun a ha hx => h5 a ha a (List.mem_append_right _ hx) rfl, fun a ha hx => h4 a ha a hx rfl⟩
theorem nd_join {A x C : List Nat} (h1 : A.Nodup) (h2 : x.Nodup) (h3 : C.Nodup) (h4 : ∀ a ∈ A, a ∉ x) (h5 : ∀ a ∈ A, a ∉ C) (h6 : ∀ a ∈ x, a ∉ C) : (A ++ (x ++ C)).Nodup := by
  rw [List.nodup_append, List.nodup_append]
  refine ⟨h1, ⟨h2, h3, fun a ha c hc e => h6 a ha (e ▸ hc)⟩, fun a ha c hc e => ?_⟩
  subst e
  rcases List.mem_append.1 hc with q | q
  · exact h4 a ha q
  · exact h5 a ha q
theorem nd_new {A x x' C : List Nat} (h : (A ++ (x ++ C)).Nodup) (hx : x' = x ∨ ∃ n, x' = [n] ∧ n ∉ A ∧ n ∉ C) : (A ++ (x' ++ C)).Nodup := by
  rcases hx with rfl | ⟨n, rfl, h1, h2⟩
  · exact h
  · obtain ⟨a1, a2, a3, a4, a5, a6⟩ := nd_split h
    exact nd_join a1 (List.nodup_cons.2 ⟨by simp, List.nodup_nil⟩) a3 (fun a ha hn => by rw [List.mem_singleton] at hn; exact h1 (hn ▸ ha)) a5 (fun a ha hn => by rw [List.mem_singleton] at ha; exact h2 (ha ▸ hn))
theorem ownU_snoc (us : List FH) (y : FH) : ownU (us ++ [y]) = ownU us ++ ownV y.2 := by unfold ownU; simp
theorem ownL_top (G M : Nat) (uv : Value) (us : List FH) (y : FH) (gr : Option (Nat × Nat)) : ownL G M uv (us ++ [y]) gr = (G :: M :: (ownV uv ++ ownU us)) ++ (ownV y.2 ++ grL gr) := by
  unfold ownL
  rw [ownU_snoc]
  simp
theorem ownL_uv (G M : Nat) (uv : Value) (us : List FH) (gr : Option (Nat × Nat)) : ownL G M uv us gr = [G, M] ++ (ownV uv ++ (ownU us ++ grL gr)) := rfl
theorem ownV_or {v v' : Value} {A C : List Nat} {n : Nat} (h : v'.ownBlock = v.ownBlock ∨ ∃ x, v'.ownBlock = some x ∧ n ≤ x) (hA : ∀ x ∈ A, x < n) (hC : ∀ x ∈ C, x < n) : ownV v' = ownV v ∨ ∃ n, ownV v' = [n] ∧ n ∉ A ∧ n ∉ C := by
  unfold ownV
  rcases h with e | ⟨x, e, hx⟩
  · exact .inl (by rw [e])
  · exact .inr ⟨x, by rw [e]; rfl, fun q => by have := hA x q; omega, fun q => by have := hC x q; omega⟩
theorem fls_snoc (us : List FH) (y : FH) : fls (us ++ [y]) = fls us ++ fcs y := by
  rw [fls_app]
  show fls us ++ (fcs y ++ []) = _
  rw [List.append_nil]
theorem fls_set (us : List FH) (f : Fr) (h : Value) (j : Nat) (u : Value) (y : FH) (e : (fcs (f, h)).set j u = fcs y) : (fls (us ++ [(f, h)])).set (us.length * 4 + j) u = fls (us ++ [y]) := by
  rw [fls_snoc, fls_snoc, List.set_append_right _ _ (by rw [fls_len]; omega), fls_len, Nat.add_sub_cancel_left, e]
section
variable {B : Nat} {w w' w2 : World} {P b l G M : Nat} {uv : Value} {us : List FH} {gr : Option (Nat × Nat)} {K : Kn} {out : Int}
/-- where the last frame lies -/
theorem Mach.top {f : Fr} {h : Value} (k : Mach B w P b l G M uv (us ++ [(f, h)]) gr K out) : ∃ bu cap, uv = .slice (some ⟨bu, 0, none⟩) (us.length + 1) cap ∧ us.length + 1 ≤ cap ∧ cap ≤ 9223372036854775807 ∧ (∀ j, j < 4 → w.cell? ⟨bu, us.length * 4 + j, none⟩ = (fcs (f, h))[j]?) ∧ (∀ i, w.frozen? ⟨bu, i, none⟩ = false) ∧ ¬ G = bu ∧ h.ownBlock ≠ some bu := by
  have hr := k.row
  have hl : (us ++ [(f, h)]).length = us.length + 1 := by simp
  unfold OwnF at hr
  rw [hl] at hr
  rcases hr.2 with ⟨_, h0⟩ | ⟨bu, cap, cur, rfl, hb, hg, hc, hm, _⟩
  · omega
  · have hnd := k.nd
    rw [ownL_top] at hnd
    obtain ⟨a1, a2, a3, a4, a5, a6⟩ := nd_split hnd
    refine ⟨bu, cap, rfl, hc, hm, fun j hj => ?_, hr.frozenAt, fun e => ?_, fun e => ?_⟩
    · rw [hr.cellAt _ (by omega), fls_at _ us.length (by simp) j hj]
      simp
    · subst e
      rw [List.nodup_cons] at a1
      exact a1.1 (List.mem_cons_of_mem _ (List.mem_append_left _ (by simp [mem_ownV, Value.ownBlock])))
    · exact a4 bu (by simp [mem_ownV, Value.ownBlock]) (by simp [mem_ownV, e])
/-- the last frame's count goes up -/
theorem Mach.count {f f' : Fr} {h : Value} {bu cap : Nat} (k : Mach B w P b l G M (.slice (some ⟨bu, 0, none⟩) (us.length + 1) cap) (us ++ [(f, h)]) gr K out) (j : Nat) (u : Value) (e : (fcs (f, h)).set j u = fcs (f', h)) (eg : f'.got = f.got) :
    Mach B (w.setCell ⟨bu, us.length * 4 + j, none⟩ u) P b l G M (.slice (some ⟨bu, 0, none⟩) (us.length + 1) cap) (us ++ [(f', h)]) gr K out := by
  have hr := k.row
  have hl : (us ++ [(f, h)]).length = us.length + 1 := by simp
  have hl' : (us ++ [(f', h)]).length = us.length + 1 := by simp
  unfold OwnF at hr
  rw [hl] at hr
  have hs := (hr.stored (us.length * 4 + j) u).1
  rw [fls_set us f h j u (f', h) e] at hs
  have hnd := k.nd
  have ne : ∀ x, ¬ x = bu → (w.setCell ⟨bu, us.length * 4 + j, none⟩ u).heap[x]? = w.heap[x]? := fun x hx => Go.RowKit.Below.heap_setCell _ _ _ _ hx
  have nG : ¬ G = bu := by
    obtain ⟨_, _, hq, _, _, _, _, h1, _⟩ := k.top
    injection hq with hq
    injection hq with hq
    injection hq with hq
    rw [hq]
    exact h1
  have cG := fun i => World.cell?_of_block (w := w) (w' := w.setCell ⟨bu, us.length * 4 + j, none⟩ u) (a := ⟨G, i, none⟩) (ne G nG)
  have fG := fun i => World.frozen?_of_block (w := w) (w' := w.setCell ⟨bu, us.length * 4 + j, none⟩ u) (a := ⟨G, i, none⟩) (ne G nG)
  rw [ownL_uv] at hnd
  obtain ⟨a1, a2, a3, a4, a5, a6⟩ := nd_split hnd
  have hbu : bu ∈ ownV (.slice (some ⟨bu, 0, none⟩) (us.length + 1) cap) := by simp [mem_ownV, Value.ownBlock]
  have nM : ¬ M = bu := fun q => a4 M (by simp) (q ▸ hbu)
  have nR : ∀ x, x ∈ ownU (us ++ [(f, h)]) ++ grL gr → ¬ x = bu := fun x hx q => a6 bu hbu (q ▸ hx)
  refine ⟨(cG 0).trans k.c0, (cG 1).trans k.c1, (cG 2).trans k.c2, (cG 3).trans k.c3, (cG 4).trans k.c4, (cG 5).trans k.c5, (cG 6).trans k.c6, (cG 7).trans k.c7, (cG 9).trans k.c9, fun i => (fG i).trans (k.fz i), k.kn.moved (ne M nM), by unfold OwnF; rw [hl']; exact hs, fun y hy => ?_, fun y hy => ?_, ?_, k.bG, k.bM, fun y hy he => ?_⟩
  · have hy2 : ∃ y' ∈ us ++ [(f, h)], y'.2 = y.2 ∧ y'.1.got = y.1.got := by
      rcases List.mem_append.1 hy with hy | hy
      · exact ⟨y, List.mem_append_left _ hy, rfl, rfl⟩
      · rw [List.mem_singleton] at hy
        subst hy
        exact ⟨(f, h), by simp, rfl, eg.symm⟩
    obtain ⟨y', m1, m2, m3⟩ := hy2
    have := k.got y' m1
    rw [m2, m3] at this
    exact own_moved this fun x hx => ne x (nR x (List.mem_append_left _ (by unfold ownU; rw [List.mem_flatMap]; exact ⟨y', m1, mem_ownV.2 (by rw [m2]; exact hx)⟩)))
  · obtain ⟨g1, g2⟩ := k.gw y hy
    subst hy
    exact ⟨g1.moved (ne _ (nR _ (List.mem_append_right _ (by simp [grL])))) (ne _ (nR _ (List.mem_append_right _ (by simp [grL])))), g2⟩
  · have hnd := k.nd
    rw [ownL_top] at hnd ⊢
    exact hnd
  · rcases List.mem_append.1 hy with hy | hy
    · exact k.gn y (List.mem_append_left _ hy) he
    · rw [List.mem_singleton] at hy
      subst hy
      exact k.gn (f, h) (by simp) (eg ▸ he)
/-- the last frame has one part more -/
theorem Mach.more {f : Fr} {h h' : Value} {bu cap : Nat} {got' : List Int} (k : Mach B w P b l G M (.slice (some ⟨bu, 0, none⟩) (us.length + 1) cap) (us ++ [(f, h)]) gr K out)
    (hg : w.grownBy w2 h.ownBlock) (ho : OwnI w2 B h' got') (hat : h'.ownBlock = h.ownBlock ∨ ∃ x, h'.ownBlock = some x ∧ w.heap.size ≤ x) (hne : got' ≠ []) :
    Mach B (w2.setCell ⟨bu, us.length * 4 + 3, none⟩ h') P b l G M (.slice (some ⟨bu, 0, none⟩) (us.length + 1) cap) (us ++ [(⟨f.id, f.j, f.st, got'⟩, h')]) gr K out := by
  have hl : (us ++ [(f, h)]).length = us.length + 1 := by simp
  have hl' : (us ++ [((⟨f.id, f.j, f.st, got'⟩ : Fr), h')]).length = us.length + 1 := by simp
  obtain ⟨_, _, hq, _, _, _, _, nG, nh⟩ := k.top
  injection hq with hq
  injection hq with hq
  injection hq with hq
  subst hq
  have hnd := k.nd
  rw [ownL_top] at hnd
  obtain ⟨a1, a2, a3, a4, a5, a6⟩ := nd_split hnd
  have lt := fun {x} (hx : x ∈ ownL G M (.slice (some ⟨bu, 0, none⟩) (us.length + 1) cap) (us ++ [(f, h)]) gr) => (k.lt hx).2
  have lA : ∀ x, x ∈ G :: M :: (ownV (.slice (some ⟨bu, 0, none⟩) (us.length + 1) cap) ++ ownU us) → x < w.heap.size := fun x hx => lt (by rw [ownL_top]; exact List.mem_append_left _ hx)
  have lC : ∀ x, x ∈ grL gr → x < w.heap.size := fun x hx => lt (by rw [ownL_top]; exact List.mem_append_right _ (List.mem_append_right _ hx))
  -- what is neither the row nor the part's own is as it was
  have ne : ∀ x, x < w.heap.size → ¬ x = bu → ¬ h.ownBlock = some x → (w2.setCell ⟨bu, us.length * 4 + 3, none⟩ h').heap[x]? = w.heap[x]? := fun x hx h1 h2 =>
    (Go.RowKit.Below.heap_setCell _ _ _ _ h1).trans (hg.block x hx (fun e => h2 e.symm))
  have nA : ∀ x, x ∈ G :: M :: (ownV (.slice (some ⟨bu, 0, none⟩) (us.length + 1) cap) ++ ownU us) → ¬ h.ownBlock = some x := fun x hx e => a4 x hx (mem_ownV.2 e)
  have nC : ∀ x, x ∈ grL gr → ¬ h.ownBlock = some x := fun x hx e => a6 x (mem_ownV.2 e) hx
  have hbu : bu ∈ G :: M :: (ownV (.slice (some ⟨bu, 0, none⟩) (us.length + 1) cap) ++ ownU us) := by simp [mem_ownV, Value.ownBlock]
  have nd2 := k.nd
  rw [ownL_uv] at nd2
  obtain ⟨b1, b2, b3, b4, b5, b6⟩ := nd_split nd2
  have hbv : bu ∈ ownV (.slice (some ⟨bu, 0, none⟩) (us.length + 1) cap) := by simp [mem_ownV, Value.ownBlock]
  have nM : ¬ M = bu := fun q => b4 M (by simp) (q ▸ hbv)
  have nR : ∀ x, x ∈ ownU (us ++ [(f, h)]) ++ grL gr → ¬ x = bu := fun x hx q => b6 bu hbv (q ▸ hx)
  have gG := ne G (lA G (by simp)) nG (nA G (by simp))
  have gM := ne M (lA M (by simp)) nM (nA M (by simp))
  have cG := fun i => World.cell?_of_block (w := w) (w' := w2.setCell ⟨bu, us.length * 4 + 3, none⟩ h') (a := ⟨G, i, none⟩) gG
  have fG := fun i => World.frozen?_of_block (w := w) (w' := w2.setCell ⟨bu, us.length * 4 + 3, none⟩ h') (a := ⟨G, i, none⟩) gG
  have hr := k.row
  unfold OwnF at hr
  rw [hl] at hr
  have hr2 := own_moved hr (w' := w2) fun x hx => by
    have : bu = x := by simpa [Value.ownBlock] using hx
    subst this
    exact hg.block bu (lA bu hbu) (fun e => nh e.symm)
  have hs := (hr2.stored (us.length * 4 + 3) h').1
  rw [fls_set us f h 3 h' (⟨f.id, f.j, f.st, got'⟩, h') rfl] at hs
  have nh' : ¬ h'.ownBlock = some bu := by
    rcases hat with e | ⟨x, e, hx⟩
    · rw [e]; exact nh
    · rw [e]
      intro q
      injection q with q
      have := lA bu hbu
      omega
  refine ⟨(cG 0).trans k.c0, (cG 1).trans k.c1, (cG 2).trans k.c2, (cG 3).trans k.c3, (cG 4).trans k.c4, (cG 5).trans k.c5, (cG 6).trans k.c6, (cG 7).trans k.c7, (cG 9).trans k.c9, fun i => (fG i).trans (k.fz i), k.kn.moved gM, by unfold OwnF; rw [hl']; exact hs, fun y hy => ?_, fun y hy => ?_, ?_, k.bG, k.bM, fun y hy he => ?_⟩
  · rcases List.mem_append.1 hy with hy | hy
    · refine own_moved (k.got y (List.mem_append_left _ hy)) fun x hx => ?_
      have m : x ∈ ownU us := by unfold ownU; rw [List.mem_flatMap]; exact ⟨y, hy, mem_ownV.2 hx⟩
      have m2 : x ∈ G :: M :: (ownV (.slice (some ⟨bu, 0, none⟩) (us.length + 1) cap) ++ ownU us) := List.mem_cons_of_mem _ (List.mem_cons_of_mem _ (List.mem_append_right _ m))
      exact ne x (lA x m2) (nR x (List.mem_append_left _ (by rw [ownU_snoc]; exact List.mem_append_left _ m))) (nA x m2)
    · rw [List.mem_singleton] at hy
      subst hy
      exact own_moved ho fun x hx => Go.RowKit.Below.heap_setCell _ _ _ _ (fun e => nh' (by rw [hx, e]))
  · obtain ⟨g1, g2⟩ := k.gw y hy
    subst hy
    exact ⟨g1.moved (ne _ (lC _ (by simp [grL])) (nR _ (List.mem_append_right _ (by simp [grL]))) (nC _ (by simp [grL]))) (ne _ (lC _ (by simp [grL])) (nR _ (List.mem_append_right _ (by simp [grL]))) (nC _ (by simp [grL]))), g2⟩
  · rw [ownL_top]
    exact nd_new hnd (ownV_or hat lA lC)
  · rcases List.mem_append.1 hy with hy | hy
    · exact k.gn y (List.mem_append_left _ hy) he
    · rw [List.mem_singleton] at hy
      subst hy
      exact absurd he hne
end
/-- what becomes of a machine becomes of it with its store -/
theorem Mc.change {B P room b l G M : Nat} {s s' : MS} {w w' : World} {uv uv' : Value} {us us' : List FH} {gr gr' : Option (Nat × Nat)} {Hs : Nat → Prop} (h1 : St B w P s.L room Hs) (h4 : ∀ x ∈ ownL G M uv us gr, ¬ Hs x)
    (k : Mach B w' P b l G M uv' us' gr' s'.K s'.out) (hL : s'.L = s.L) (hU : us'.map Prod.fst = s'.U.reverse) (eo : w'.os = w.os) (et : w'.tape = w.tape) (eu : w'.output = w.output) (es : w.heap.size ≤ w'.heap.size)
    (hb : ∀ x, x < w.heap.size → x ∉ ownL G M uv us gr → w'.heap[x]? = w.heap[x]?) (hw : ∀ x ∈ ownL G M uv' us' gr', x ∈ ownL G M uv us gr ∨ w.heap.size ≤ x) :
    Goz (Mc B P room b l G M s') w (fun x => x ∈ ownL G M uv us gr ∨ Hs x) w' := by
  refine ⟨_, ⟨uv', us', gr', Hs, ?_, k, hU, fun x hx hs => ?_, rfl⟩, ⟨eo, et, eu, es, fun x hx hn => hb x hx fun e => hn (.inl e), fun x hx => ?_⟩⟩
  · rw [hL]
    exact h1.moved fun x hx => hb x (h1.lt x hx).2 fun e => h4 x e hx
  · rcases hw x hx with q | q
    · exact h4 x q hs
    · have := (h1.lt x hs).2
      omega
  · rcases hx with hx | hx
    · rcases hw x hx with q | q
      · exact .inl (.inl q)
      · exact .inr q
    · exact .inl (.inr hx)
theorem us_top {us : List FH} {f : Fr} {r : List Fr} (h : us.map Prod.fst = (f :: r).reverse) : ∃ us0 hv, us = us0 ++ [(f, hv)] ∧ us0.map Prod.fst = r.reverse := by
  rw [List.reverse_cons] at h
  obtain ⟨a, c, e, h1, h2⟩ := List.map_eq_append_iff.1 h
  match c, h2 with
  | [y], h2 =>
    obtain ⟨f', hv⟩ := y
    have : f' = f := by simpa using h2
    subst this
    exact ⟨a, hv, e, h1⟩
end Go.Proofs.YtlejohclijjhnaaGreatDoor.Fm

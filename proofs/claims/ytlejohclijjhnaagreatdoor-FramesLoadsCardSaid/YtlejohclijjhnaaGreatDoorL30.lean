/-
  WALK of next: the part that a frame asks for next, and whether there is one. Conditions: the store lies in memory, the frame is one that can be.
-/
import Derived.Test.YtlejohclijjhnaaGreatDoorL29
namespace Go.Proofs.YtlejohclijjhnaaGreatDoor.Fm
open Go.RowKit Ti Qd Go.Maps Go.WideMaps Ru

theorem post_row_tmp2 {P : Program} {fn : Func} {R : Ending → World → Prop} {a : Act} {w : World} {p q r : Tmp} {ty : TypeId} (h : fn.results = #[.cell p ty, .tmp q, .tmp r]) (g : Nat) (t : TypeId) (cs : Array Value) (fr : Nat × Nat) (d : TypeDesc) (v u : Value)
    (hu : P.underlying ty = some d) (hd : (match d with | .struct _ | .array _ _ => true | _ => false) = true) (hi : (P.info? ty).map (·.size) = some cs.size)
    (hp : a.tmps.getD p undef = .pointer (some ⟨g, 0, none⟩)) (hv : a.tmps.getD q undef = v) (hv2 : a.tmps.getD r undef = u) (hg : w.heap[g]? = some (.cells cs t fr)) (hdf : a.defers = []) (hR : R (.returned (.tuple #[.agg cs, v, u])) w) : bodyPost P fn R .ret a w := by
  refine bodyPost_ret ?_ hdf hR
  have hp' : a.tmps[p]?.getD undef = .pointer (some ⟨g, 0, none⟩) := by simpa using hp
  have hv' : a.tmps[q]?.getD undef = v := by simpa using hv
  have hv2' : a.tmps[r]?.getD undef = u := by simpa using hv2
  simp [results, h, hp', hv', hv2', asAddr, run_loadVar_row w g t ty cs fr d hg hu hd hi]
set_option maxRecDepth 100000 in
theorem info_p6 : (Tryz.prog.info? 106).map (·.size) = some 6 := by kernel_rfl
abbrev pv (a b c d j : Int) (s : Bool) : Value := .agg #[.int .i64 a, .int .i64 b, .int .i64 c, .int .i64 d, .int .i64 j, .bool s]
abbrev po (a b c d j : Int) (s : Bool) : Obj := .cells #[.int .i64 a, .int .i64 b, .int .i64 c, .int .i64 d, .int .i64 j, .bool s] 106
abbrev fo (f : Fr) (h : Value) : Obj := .cells #[.int .i64 f.id, .int .i64 f.j, .int .i64 f.st, h] 47
abbrev set6 (w : World) (g : Nat) (v0 v1 v2 v3 v4 v5 : Value) : World := (((((w.setCell ⟨g, 0, none⟩ v0).setCell ⟨g, 1, none⟩ v1).setCell ⟨g, 2, none⟩ v2).setCell ⟨g, 3, none⟩ v3).setCell ⟨g, 4, none⟩ v4).setCell ⟨g, 5, none⟩ v5
theorem row_set6 {w : World} {g : Nat} {a0 a1 a2 a3 a4 a5 : Value} {t : TypeId} (h : w.heap[g]? = some (.cells #[a0, a1, a2, a3, a4, a5] t (0, 0))) (v0 v1 v2 v3 v4 v5 : Value) :
    (set6 w g v0 v1 v2 v3 v4 v5).heap[g]? = some (.cells #[v0, v1, v2, v3, v4, v5] t (0, 0)) := by
  have h0 := heap_setCell_same w g 0 _ _ v0 h
  have h1 := heap_setCell_same _ g 1 _ _ v1 h0
  have h2 := heap_setCell_same _ g 2 _ _ v2 h1
  have h3 := heap_setCell_same _ g 3 _ _ v3 h2
  have h4 := heap_setCell_same _ g 4 _ _ v4 h3
  have h5 := heap_setCell_same _ g 5 _ _ v5 h4
  rw [h5]
  rfl
theorem below_set6 {w w' : World} {B g : Nat} (h : Below B w w') (hg : B ≤ g) (v0 v1 v2 v3 v4 v5 : Value) : Below B w (set6 w' g v0 v1 v2 v3 v4 v5) :=
  (((((h.setCell (p := ⟨g, 0, none⟩) hg v0).setCell (p := ⟨g, 1, none⟩) hg v1).setCell (p := ⟨g, 2, none⟩) hg v2).setCell (p := ⟨g, 3, none⟩) hg v3).setCell (p := ⟨g, 4, none⟩) hg v4).setCell (p := ⟨g, 5, none⟩) hg v5
theorem row6 {w : World} {g : Nat} {v0 v1 v2 v3 v4 v5 : Value} {t : TypeId} (h : w.heap[g]? = some (.cells #[v0, v1, v2, v3, v4, v5] t (0, 0))) :
    (w.cell? ⟨g, 0, none⟩ = some v0 ∧ w.cell? ⟨g, 1, none⟩ = some v1 ∧ w.cell? ⟨g, 2, none⟩ = some v2 ∧ w.cell? ⟨g, 3, none⟩ = some v3 ∧ w.cell? ⟨g, 4, none⟩ = some v4 ∧ w.cell? ⟨g, 5, none⟩ = some v5) ∧ w.frozen? ⟨g, 0, none⟩ = false ∧ w.frozen? ⟨g, 1, none⟩ = false ∧ w.frozen? ⟨g, 2, none⟩ = false ∧ w.frozen? ⟨g, 3, none⟩ = false ∧ w.frozen? ⟨g, 4, none⟩ = false ∧ w.frozen? ⟨g, 5, none⟩ = false := by
  refine ⟨⟨?_, ?_, ?_, ?_, ?_, ?_⟩, ?_, ?_, ?_, ?_, ?_, ?_⟩ <;> simp [World.cell?, World.frozen?, h]
/-- what came of the parts, as a slice -/
def LiesI (w : World) (h : Value) (l : List Int) : Prop := ∃ ao cap, h = .slice ao l.length cap ∧ l.length ≤ cap ∧ cap ≤ 9223372036854775807 ∧ ∀ i (hi : i < l.length), ∃ b off, ao = some ⟨b, off, none⟩ ∧ w.cell? ⟨b, off + i, none⟩ = some (.int .i64 l[i])
theorem LiesI.bel {w w' : World} {h : Value} {l : List Int} (k : LiesI w h l) (hb : Below w.heap.size w w') : LiesI w' h l := by
  obtain ⟨ao, cap, h1, h2, h3, h4⟩ := k
  refine ⟨ao, cap, h1, h2, h3, fun i hi => ?_⟩
  obtain ⟨b, off, e, c⟩ := h4 i hi
  exact ⟨b, off, e, cell_bel c hb⟩
theorem LiesI.some {w : World} {h : Value} {l : List Int} (k : LiesI w h l) (h0 : 0 < l.length) : ∃ b off cap, h = .slice (some ⟨b, off, none⟩) l.length cap ∧ l.length ≤ cap ∧ cap ≤ 9223372036854775807 ∧ ∀ i, i < l.length → w.cell? ⟨b, off + i, none⟩ = Option.some (.int .i64 (gv l i)) := by
  obtain ⟨ao, cap, h1, h2, h3, h4⟩ := k
  obtain ⟨b, off, e, _⟩ := h4 0 h0
  subst e
  refine ⟨b, off, cap, h1, h2, h3, fun i hi => ?_⟩
  obtain ⟨b', off', e', c⟩ := h4 i hi
  injection e' with e'
  injection e' with e1 e2
  subst e1 e2
  rw [gv_at hi]
  exact c
theorem set4_other (w : World) {g : Nat} (v0 v1 v2 v3 : Value) {x : Nat} (h : ¬ x = g) : (set4 w g v0 v1 v2 v3).heap[x]? = w.heap[x]? :=
  (Go.RowKit.Below.heap_setCell _ ⟨g, 3, none⟩ _ _ h).trans ((Go.RowKit.Below.heap_setCell _ ⟨g, 2, none⟩ _ _ h).trans ((Go.RowKit.Below.heap_setCell _ ⟨g, 1, none⟩ _ _ h).trans (Go.RowKit.Below.heap_setCell _ ⟨g, 0, none⟩ _ _ h)))
theorem row6_set4 {w : World} {g : Nat} {a0 a1 a2 a3 a4 a5 : Value} {t : TypeId} (h : w.heap[g]? = some (.cells #[a0, a1, a2, a3, a4, a5] t (0, 0))) (v0 v1 v2 v3 : Value) :
    (set4 w g v0 v1 v2 v3).heap[g]? = some (.cells #[v0, v1, v2, v3, a4, a5] t (0, 0)) := by
  have h0 := heap_setCell_same w g 0 _ _ v0 h
  have h1 := heap_setCell_same _ g 1 _ _ v1 h0
  have h2 := heap_setCell_same _ g 2 _ _ v2 h1
  have h3 := heap_setCell_same _ g 3 _ _ v3 h2
  rw [h3]
  rfl
set_option maxRecDepth 100000 in
set_option maxHeartbeats 4000000 in
theorem next_none_f {B : Nat} {w : World} {P : Nat} {L : List Sq} {room : Nat} {Hs : Nat → Prop} {G : Nat} (hst : St B w P L room Hs) (hc : w.cell? ⟨G, 0, none⟩ = some (.pointer (some ⟨P, 0, none⟩))) (f : Fr) (h : Value) (lev : Int) (ho : Ok L f.id) (hlev : (at' L f.id).lev = lev) (he : f.st = parts lev) :
    Calls Tryz.prog 34 #[.pointer (some ⟨G, 0, none⟩), fv f h] w fun e w' => e = .returned (.tuple #[pv 0 0 0 0 0 false, .bool false, .nilIface]) ∧ Below w.heap.size w w' := by
  have HS : Hid (Bw w [(w.heap.size + 1, po 0 0 0 0 0 false), (w.heap.size, fo f h)] ((w.alloc (fo f h)).alloc (po 0 0 0 0 0 false))) := Lib.hid (((bw_start w).alloc t0_fpt (fo f h) rfl).alloc t0_fpt (po 0 0 0 0 0 false) (n := w.heap.size + 1) (by simp))
  have HST := Lib.hid hst
  have HC := Lib.hid hc
  have HO := Lib.hid ho
  have HLE := Lib.hid hlev
  have hd : (f.st == parts lev) = true := by rw [he]; simp
  clear he
  obtain ⟨id, j, st, got⟩ := f
  simp only at *
  clear hst hc ho hlev
  go_enter Tryz.func34, Tryz.ntmps34
  go_upto_region 1 with (fail)
  generalize World.alloc _ _ = W at HS ⊢
  have HD := Lib.hid (HS.out.drew t0_fpt)
  have KD := Lib.hid (And.intro (cell_bel HC.out HD.out.bel) (row4 HD.out.b1).1)
  have HLV := Lib.hid (level_is (HST.out.bel HD.out.bel) id HO.out lev HLE.out)
  go_region_held3 (fun w' => w'.cell? ⟨G, 0, none⟩ = some (.pointer (some ⟨P, 0, none⟩)) ∧ w'.cell? ⟨w.heap.size, 0, none⟩ = some (.int .i64 id)) (first | with_reducible exact KD.out | with_reducible exact ks)
    (first
      | (go_at_call 21; with_reducible refine HLV.out.mono ?_; rintro e w1 ⟨rfl, hb⟩; have HS1 := Lib.hid (HD.out.below t0_fpt hb); have ks := And.intro (cell_bel KD.out.1 hb) (cell_bel KD.out.2 hb); clear hb))
  clear ks KD HLV HD HS
  go_upto_region 2 with (fail)
  obtain ⟨a0, a1, a2, a3⟩ := row4 HS1.out.b1
  go_quiet ((go_at_call 52; exact Calls.quiet_of_same ((partsOf_f _ _).mono fun _ _ ⟨h, e⟩ => ⟨h, e.symm⟩)))
  have HS2 := Lib.hid (HS1.out.below t0_fpt (Below.drewN' (Below.refl _ _) nq))
  clear HS1 a0 a1 a2 a3
  generalize w1.drewN nq = W1 at HS2 ⊢
  obtain ⟨⟨b0, b1, b2, b3, b4, b5⟩, f0, f1, f2, f3, f4, f5⟩ := row6 HS2.out.b0
  go_wp2
  refine post_row_tmp2 Tryz.results34 (w.heap.size + 1) 106 #[.int .i64 0, .int .i64 0, .int .i64 0, .int .i64 0, .int .i64 0, .bool false] (0, 0) _ (.bool false) .nilIface Tryz.underlying106 rfl info_p6 ?_ ?_ ?_ (row_set6 HS2.out.b0 _ _ _ _ _ _) ?_ ?_
  · rfl
  · rfl
  · rfl
  · rfl
  exact ⟨rfl, below_set6 HS2.out.bel (by omega) _ _ _ _ _ _⟩
set_option maxRecDepth 100000 in
set_option maxHeartbeats 4000000 in
theorem next_far_f {B : Nat} {w : World} {P : Nat} {L : List Sq} {room : Nat} {Hs : Nat → Prop} {G : Nat} (hst : St B w P L room Hs) (hc : w.cell? ⟨G, 0, none⟩ = some (.pointer (some ⟨P, 0, none⟩))) (f : Fr) (h : Value) (lev : Int) (ho : Ok L f.id) (hlev : (at' L f.id).lev = lev) (l0 : 0 ≤ lev) (l1 : lev ≤ 40) (l : List Int) (hl : LiesI w h l) (k : Nat) (hk : l.length = k + 9) (k4 : k < 4) (he : f.st = (k : Int) + 9) (hf : f.j = lev - 2) (j0 : 0 ≤ f.j) (j1 : f.j ≤ 100) :
    Calls Tryz.prog 34 #[.pointer (some ⟨G, 0, none⟩), fv f h] w fun e w' => e = .returned (.tuple #[pv (gv l (at4 3 k)) (gv l (at4 3 k + 1)) (gv l (at4 3 k + 3)) (gv l (at4 3 k + 3 + 1)) (f.j - 1) false, .bool true, .nilIface]) ∧ Below w.heap.size w w' := by
  have HS : Hid (Bw w [(w.heap.size + 1, po 0 0 0 0 0 false), (w.heap.size, fo f h)] ((w.alloc (fo f h)).alloc (po 0 0 0 0 0 false))) := Lib.hid (((bw_start w).alloc t0_fpt (fo f h) rfl).alloc t0_fpt (po 0 0 0 0 0 false) (n := w.heap.size + 1) (by simp))
  have HST := Lib.hid hst
  have HC := Lib.hid hc
  have HO := Lib.hid ho
  have HLE := Lib.hid hlev
  have hd : (f.st == parts lev) = false := by
    rw [he, parts]
    split <;> (rw [beq_eq_false_iff_ne]; omega)
  have hfar : (f.j == lev - 2) = true := by rw [hf]; simp
  have HE := Lib.hid he
  have HLI := Lib.hid hl
  have HK := Lib.hid hk
  have hge : decide (9 ≤ f.st) = true := decide_eq_true (by omega)
  have s0 : 0 ≤ f.st := by omega
  have s1 : f.st ≤ 13 := by omega
  clear he hl hk hf
  generalize hx0 : gv l (at4 3 k) = x0
  generalize hx1 : gv l (at4 3 k + 1) = x1
  generalize hx2 : gv l (at4 3 k + 3) = x2
  generalize hx3 : gv l (at4 3 k + 3 + 1) = x3
  have HX := Lib.hid (And.intro hx0 (And.intro hx1 (And.intro hx2 hx3)))
  clear hx0 hx1 hx2 hx3
  obtain ⟨id, j, st, got⟩ := f
  simp only at *
  clear hst hc ho hlev
  go_enter Tryz.func34, Tryz.ntmps34
  go_upto_region 1 with (fail)
  generalize World.alloc _ _ = W at HS ⊢
  have HD := Lib.hid (HS.out.drew t0_fpt)
  have KD := Lib.hid (And.intro (cell_bel HC.out HD.out.bel) (row4 HD.out.b1).1)
  have HLV := Lib.hid (level_is (HST.out.bel HD.out.bel) id HO.out lev HLE.out)
  go_region_held3 (fun w' => w'.cell? ⟨G, 0, none⟩ = some (.pointer (some ⟨P, 0, none⟩)) ∧ w'.cell? ⟨w.heap.size, 0, none⟩ = some (.int .i64 id)) (first | with_reducible exact KD.out | with_reducible exact ks)
    (first
      | (go_at_call 21; with_reducible refine HLV.out.mono ?_; rintro e w1 ⟨rfl, hb⟩; have HS1 := Lib.hid (HD.out.below t0_fpt hb); have ks := And.intro (cell_bel KD.out.1 hb) (cell_bel KD.out.2 hb); clear hb))
  clear ks KD HLV HD HS
  go_upto_region 2 with (fail)
  obtain ⟨a0, a1, a2, a3⟩ := row4 HS1.out.b1
  go_quiet ((go_at_call 52; exact Calls.quiet_of_same ((partsOf_f _ _).mono fun _ _ ⟨h, e⟩ => ⟨h, e.symm⟩)))
  clear a0 a1 a2 a3
  have HS2 := Lib.hid (HS1.out.below t0_fpt (Below.drewN' (Below.refl _ _) nq))
  clear HS1
  generalize w1.drewN nq = W1 at HS2 ⊢
  obtain ⟨a0, a1, a2, a3⟩ := row4 HS2.out.b1
  clear hd
  go_upto_region 5 with (fail)
  have HS3 := Lib.hid (HS2.out.alloc t0_fpt (po 0 0 0 0 j false) rfl)
  clear HS2 a0 a1 a2 a3
  generalize hg9 : W1.heap.size = g9 at *
  clear hg9
  generalize World.alloc _ _ = W2 at HS3 ⊢
  obtain ⟨a0, a1, a2, a3⟩ := row4 HS3.out.b2
  go_quiet ((go_at_call 33; exact Calls.quiet_of_same ((farthest_f _ l0 (by omega) _).mono fun _ _ ⟨h, e⟩ => ⟨h, e.symm⟩)))
  have HS4 := Lib.hid (HS3.out.below t0_fpt (Below.drewN' (Below.refl _ _) nq))
  clear HS3 a0 a1 a2 a3
  generalize W2.drewN nq = W3 at HS4 ⊢
  obtain ⟨a0, a1, a2, a3⟩ := row4 HS4.out.b2
  obtain ⟨⟨p0, p1, p2, p3, p4, p5⟩, z0, z1, z2, z3, z4, z5⟩ := row6 HS4.out.b0
  go_upto_region 9 with (fail)
  have HS5 := Lib.hid (HS4.out.set t0_fpt (i := 4) (v := .int .i64 (j - 1)) (o' := po 0 0 0 0 (j - 1) false) (heap_setCell_same _ _ _ _ _ _ HS4.out.b0))
  clear HS4 a0 a1 a2 a3 p0 p1 p2 p3 p4 p5 z0 z1 z2 z3 z4 z5
  generalize World.setCell _ _ _ = W4 at HS5 ⊢
  obtain ⟨a0, a1, a2, a3⟩ := row4 HS5.out.b2
  obtain ⟨b, off, cap, rfl, c1, c2, c3⟩ := (HLI.out.bel HS5.out.bel).some (by have := HK.out; omega)
  have hF := four_3 b off k l.length cap k4 (by have := HK.out; omega) c1 c2 (gv l) W4 c3
  rw [HX.out.1, HX.out.2.1, HX.out.2.2.1, HX.out.2.2.2] at hF
  have HF := Lib.hid hF
  clear hF
  have HSK := Lib.hid (show st - 9 = (k : Int) by have := HE.out; omega)
  clear c1 c2 c3
  go_wp2_with fail
  rw [HSK.out]
  refine HF.out.mono ?_
  rintro e w5 ⟨rfl, hb⟩
  have HS6 := Lib.hid (HS5.out.below t0_fpt hb)
  clear hb HS5 HF a0 a1 a2 a3
  obtain ⟨⟨p0, p1, p2, p3, p4, p5⟩, z0, z1, z2, z3, z4, z5⟩ := row6 HS6.out.b0
  go_upto_region 10 with (fail)
  have HS7 := Lib.hid (HS6.out.put t0_fpt (o' := po x0 x1 x2 x3 (j - 1) false) (w' := set4 w5 g9 (.int .i64 x0) (.int .i64 x1) (.int .i64 x2) (.int .i64 x3)) (fun x hx => set4_other w5 _ _ _ _ hx) (row6_set4 HS6.out.b0 _ _ _ _) rfl rfl rfl (by simp))
  unfold set4 at HS7
  clear HS6 p0 p1 p2 p3 p4 p5 z0 z1 z2 z3 z4 z5
  generalize World.setCell _ _ _ = W6 at HS7 ⊢
  obtain ⟨⟨p0, p1, p2, p3, p4, p5⟩, _⟩ := row6 HS7.out.b0
  obtain ⟨_, z0, z1, z2, z3, z4, z5⟩ := row6 HS7.out.b1
  go_wp2
  refine post_row_tmp2 Tryz.results34 (w.heap.size + 1) 106 #[.int .i64 x0, .int .i64 x1, .int .i64 x2, .int .i64 x3, .int .i64 (j - 1), .bool false] (0, 0) _ (.bool true) .nilIface Tryz.underlying106 rfl info_p6 ?_ ?_ ?_ (row_set6 HS7.out.b1 _ _ _ _ _ _) ?_ ?_
  · rfl
  · rfl
  · rfl
  · rfl
  exact ⟨rfl, below_set6 HS7.out.bel (by omega) _ _ _ _ _ _⟩
set_option maxRecDepth 100000 in
set_option maxHeartbeats 4000000 in
theorem next_near_f {B : Nat} {w : World} {P : Nat} {L : List Sq} {room : Nat} {Hs : Nat → Prop} {G : Nat} (hst : St B w P L room Hs) (hc : w.cell? ⟨G, 0, none⟩ = some (.pointer (some ⟨P, 0, none⟩))) (f : Fr) (h : Value) (lev : Int) (ho : Ok L f.id) (hlev : (at' L f.id).lev = lev) (l0 : 0 ≤ lev) (l1 : lev ≤ 40) (l : List Int) (hl : LiesI w h l) (k : Nat) (hk : l.length = k + 9) (k4 : k < 4) (he : f.st = (k : Int) + 9) (hf : ¬ f.j = lev - 2) (j0 : 0 ≤ f.j) (j1 : f.j ≤ 100) :
    Calls Tryz.prog 34 #[.pointer (some ⟨G, 0, none⟩), fv f h] w fun e w' => e = .returned (.tuple #[pv (gv l (at4 3 k)) (gv l (at4 3 k + 1)) (gv l (at4 3 k + 3)) (gv l (at4 3 k + 3 + 1)) f.j false, .bool true, .nilIface]) ∧ Below w.heap.size w w' := by
  have HS : Hid (Bw w [(w.heap.size + 1, po 0 0 0 0 0 false), (w.heap.size, fo f h)] ((w.alloc (fo f h)).alloc (po 0 0 0 0 0 false))) := Lib.hid (((bw_start w).alloc t0_fpt (fo f h) rfl).alloc t0_fpt (po 0 0 0 0 0 false) (n := w.heap.size + 1) (by simp))
  have HST := Lib.hid hst
  have HC := Lib.hid hc
  have HO := Lib.hid ho
  have HLE := Lib.hid hlev
  have hd : (f.st == parts lev) = false := by
    rw [he, parts]
    split <;> (rw [beq_eq_false_iff_ne]; omega)
  have hfar : (f.j == lev - 2) = false := by rw [beq_eq_false_iff_ne]; exact hf
  have HE := Lib.hid he
  have HLI := Lib.hid hl
  have HK := Lib.hid hk
  have hge : decide (9 ≤ f.st) = true := decide_eq_true (by omega)
  have s0 : 0 ≤ f.st := by omega
  have s1 : f.st ≤ 13 := by omega
  clear he hl hk hf
  generalize hx0 : gv l (at4 3 k) = x0
  generalize hx1 : gv l (at4 3 k + 1) = x1
  generalize hx2 : gv l (at4 3 k + 3) = x2
  generalize hx3 : gv l (at4 3 k + 3 + 1) = x3
  have HX := Lib.hid (And.intro hx0 (And.intro hx1 (And.intro hx2 hx3)))
  clear hx0 hx1 hx2 hx3
  obtain ⟨id, j, st, got⟩ := f
  simp only at *
  clear hst hc ho hlev
  go_enter Tryz.func34, Tryz.ntmps34
  go_upto_region 1 with (fail)
  generalize World.alloc _ _ = W at HS ⊢
  have HD := Lib.hid (HS.out.drew t0_fpt)
  have KD := Lib.hid (And.intro (cell_bel HC.out HD.out.bel) (row4 HD.out.b1).1)
  have HLV := Lib.hid (level_is (HST.out.bel HD.out.bel) id HO.out lev HLE.out)
  go_region_held3 (fun w' => w'.cell? ⟨G, 0, none⟩ = some (.pointer (some ⟨P, 0, none⟩)) ∧ w'.cell? ⟨w.heap.size, 0, none⟩ = some (.int .i64 id)) (first | with_reducible exact KD.out | with_reducible exact ks)
    (first
      | (go_at_call 21; with_reducible refine HLV.out.mono ?_; rintro e w1 ⟨rfl, hb⟩; have HS1 := Lib.hid (HD.out.below t0_fpt hb); have ks := And.intro (cell_bel KD.out.1 hb) (cell_bel KD.out.2 hb); clear hb))
  clear ks KD HLV HD HS
  go_upto_region 2 with (fail)
  obtain ⟨a0, a1, a2, a3⟩ := row4 HS1.out.b1
  go_quiet ((go_at_call 52; exact Calls.quiet_of_same ((partsOf_f _ _).mono fun _ _ ⟨h, e⟩ => ⟨h, e.symm⟩)))
  clear a0 a1 a2 a3
  have HS2 := Lib.hid (HS1.out.below t0_fpt (Below.drewN' (Below.refl _ _) nq))
  clear HS1
  generalize w1.drewN nq = W1 at HS2 ⊢
  obtain ⟨a0, a1, a2, a3⟩ := row4 HS2.out.b1
  clear hd
  go_upto_region 5 with (fail)
  have HS3 := Lib.hid (HS2.out.alloc t0_fpt (po 0 0 0 0 j false) rfl)
  clear HS2 a0 a1 a2 a3
  generalize hg9 : W1.heap.size = g9 at *
  clear hg9
  generalize World.alloc _ _ = W2 at HS3 ⊢
  obtain ⟨a0, a1, a2, a3⟩ := row4 HS3.out.b2
  go_quiet ((go_at_call 33; exact Calls.quiet_of_same ((farthest_f _ l0 (by omega) _).mono fun _ _ ⟨h, e⟩ => ⟨h, e.symm⟩)))
  have HS4 := Lib.hid (HS3.out.below t0_fpt (Below.drewN' (Below.refl _ _) nq))
  clear HS3 a0 a1 a2 a3
  generalize W2.drewN nq = W3 at HS4 ⊢
  obtain ⟨a0, a1, a2, a3⟩ := row4 HS4.out.b2
  obtain ⟨⟨p0, p1, p2, p3, p4, p5⟩, z0, z1, z2, z3, z4, z5⟩ := row6 HS4.out.b0
  go_upto_region 9 with (fail)
  have HS5 := Lib.hid HS4.out
  clear HS4 a0 a1 a2 a3 p0 p1 p2 p3 p4 p5 z0 z1 z2 z3 z4 z5
  generalize W3 = W4 at HS5 ⊢
  obtain ⟨a0, a1, a2, a3⟩ := row4 HS5.out.b2
  obtain ⟨b, off, cap, rfl, c1, c2, c3⟩ := (HLI.out.bel HS5.out.bel).some (by have := HK.out; omega)
  have hF := four_3 b off k l.length cap k4 (by have := HK.out; omega) c1 c2 (gv l) W4 c3
  rw [HX.out.1, HX.out.2.1, HX.out.2.2.1, HX.out.2.2.2] at hF
  have HF := Lib.hid hF
  clear hF
  have HSK := Lib.hid (show st - 9 = (k : Int) by have := HE.out; omega)
  clear c1 c2 c3
  go_wp2_with fail
  rw [HSK.out]
  refine HF.out.mono ?_
  rintro e w5 ⟨rfl, hb⟩
  have HS6 := Lib.hid (HS5.out.below t0_fpt hb)
  clear hb HS5 HF a0 a1 a2 a3
  obtain ⟨⟨p0, p1, p2, p3, p4, p5⟩, z0, z1, z2, z3, z4, z5⟩ := row6 HS6.out.b0
  go_upto_region 10 with (fail)
  have HS7 := Lib.hid (HS6.out.put t0_fpt (o' := po x0 x1 x2 x3 j false) (w' := set4 w5 g9 (.int .i64 x0) (.int .i64 x1) (.int .i64 x2) (.int .i64 x3)) (fun x hx => set4_other w5 _ _ _ _ hx) (row6_set4 HS6.out.b0 _ _ _ _) rfl rfl rfl (by simp))
  unfold set4 at HS7
  clear HS6 p0 p1 p2 p3 p4 p5 z0 z1 z2 z3 z4 z5
  generalize World.setCell _ _ _ = W6 at HS7 ⊢
  obtain ⟨⟨p0, p1, p2, p3, p4, p5⟩, _⟩ := row6 HS7.out.b0
  obtain ⟨_, z0, z1, z2, z3, z4, z5⟩ := row6 HS7.out.b1
  go_wp2
  refine post_row_tmp2 Tryz.results34 (w.heap.size + 1) 106 #[.int .i64 x0, .int .i64 x1, .int .i64 x2, .int .i64 x3, .int .i64 j, .bool false] (0, 0) _ (.bool true) .nilIface Tryz.underlying106 rfl info_p6 ?_ ?_ ?_ (row_set6 HS7.out.b1 _ _ _ _ _ _) ?_ ?_
  · rfl
  · rfl
  · rfl
  · rfl
  exact ⟨rfl, below_set6 HS7.out.bel (by omega) _ _ _ _ _ _⟩
end Go.Proofs.YtlejohclijjhnaaGreatDoor.Fm

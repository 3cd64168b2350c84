/-
  THE WALK of Box. Conditions: the store lies in memory, the library's table and the near sides as the texts lay them.
-/
import Derived.Test.YtifkhmcdgmnipaaGreatDoorR37
namespace Go.Proofs.YtifkhmcdgmnipaaGreatDoor.Qd
open Ti Ce
/-- the corners of cells -/
structure BoxIs (l : List Cel) (lo hi : Cel) : Prop where
  all : ∀ c ∈ l, lo.1 ≤ c.1 ∧ lo.2 ≤ c.2 ∧ c.1 ≤ hi.1 ∧ c.2 ≤ hi.2
  l1 : ∃ c ∈ l, c.1 = lo.1
  l2 : ∃ c ∈ l, c.2 = lo.2
  h1 : ∃ c ∈ l, c.1 = hi.1
  h2 : ∃ c ∈ l, c.2 = hi.2
theorem box_mn {L : List Sq} {n : Nat} {id : Int} {f : Nat → Int} (h : ∀ i, i < 4 → Mn L n [id] i (f i)) : BoxIs (lst L n id) (f 0, f 1) (((2 ^ (n + 3) : Nat) : Int) - 1 - f 2, ((2 ^ (n + 3) : Nat) : Int) - 1 - f 3) := by
  obtain ⟨⟨i0, k0, c0, m0, e0⟩, a0⟩ := h 0 (by omega)
  obtain ⟨⟨i1, k1, c1, m1, e1⟩, a1⟩ := h 1 (by omega)
  obtain ⟨⟨i2, k2, c2, m2, e2⟩, a2⟩ := h 2 (by omega)
  obtain ⟨⟨i3, k3, c3, m3, e3⟩, a3⟩ := h 3 (by omega)
  rw [List.mem_singleton] at k0 k1 k2 k3
  subst k0 k1 k2 k3
  have d0 : ∀ c, dst 0 n c = c.1 := fun c => rfl
  have d1 : ∀ c, dst 1 n c = c.2 := fun c => rfl
  have d2 : ∀ c, dst 2 n c = ((2 ^ (n + 3) : Nat) : Int) - 1 - c.1 := fun c => rfl
  have d3 : ∀ c, dst 3 n c = ((2 ^ (n + 3) : Nat) : Int) - 1 - c.2 := fun c => rfl
  rw [d0] at e0
  rw [d1] at e1
  rw [d2] at e2
  rw [d3] at e3
  refine ⟨fun c hc => ?_, ⟨c0, m0, e0⟩, ⟨c1, m1, e1⟩, ⟨c2, m2, ?_⟩, ⟨c3, m3, ?_⟩⟩
  · have b0 := a0 _ (List.mem_singleton_self _) c hc
    have b1 := a1 _ (List.mem_singleton_self _) c hc
    have b2 := a2 _ (List.mem_singleton_self _) c hc
    have b3 := a3 _ (List.mem_singleton_self _) c hc
    rw [d0] at b0
    rw [d1] at b1
    rw [d2] at b2
    rw [d3] at b3
    simp only
    omega
  · simp only
    omega
  · simp only
    omega
end Go.Proofs.YtifkhmcdgmnipaaGreatDoor.Qd
namespace Go.Proofs.YtifkhmcdgmnipaaGreatDoor
open Go.RowKit Ti Qd Ce Cl Go.Maps Go.WideMaps

theorem results_cctt {P : Program} {fn : Func} {p q r u : Tmp} {ty : TypeId} (h : fn.results = #[.cell p ty, .cell q ty, .tmp r, .tmp u]) (tmps : Array Value) (w : World) (g g' : Nat) (t t' : TypeId) (cs cs' : Array Value) (fr fr' : Nat × Nat) (d : TypeDesc) (v v' : Value)
    (hp : tmps.getD p undef = .pointer (some ⟨g, 0, none⟩)) (hq : tmps.getD q undef = .pointer (some ⟨g', 0, none⟩)) (hv : tmps.getD r undef = v) (hv' : tmps.getD u undef = v') (hg : w.heap[g]? = some (.cells cs t fr)) (hg' : w.heap[g']? = some (.cells cs' t' fr'))
    (hu : P.underlying ty = some d) (hd : (match d with | .struct _ | .array _ _ => true | _ => false) = true) (hi : (P.info? ty).map (·.size) = some cs.size) (hi' : (P.info? ty).map (·.size) = some cs'.size) :
    (results fn tmps).run P w = .ok (.tuple #[.agg cs, .agg cs', v, v']) w := by
  have hp' : tmps[p]?.getD undef = .pointer (some ⟨g, 0, none⟩) := by simpa using hp
  have hq' : tmps[q]?.getD undef = .pointer (some ⟨g', 0, none⟩) := by simpa using hq
  have hv1 : tmps[r]?.getD undef = v := by simpa using hv
  have hv2 : tmps[u]?.getD undef = v' := by simpa using hv'
  simp [results, h, hp', hq', hv1, hv2, asAddr, run_loadVar_row w g t ty cs fr d hg hu hd hi, run_loadVar_row w g' t' ty cs' fr' d hg' hu hd hi']
theorem post_cctt {P : Program} {fn : Func} {R : Ending → World → Prop} {a : Act} {w : World} {p q r u : Tmp} {ty : TypeId} (h : fn.results = #[.cell p ty, .cell q ty, .tmp r, .tmp u]) (g g' : Nat) (t t' : TypeId) (cs cs' : Array Value) (fr fr' : Nat × Nat) (d : TypeDesc) (v v' : Value)
    (hu : P.underlying ty = some d) (hd : (match d with | .struct _ | .array _ _ => true | _ => false) = true) (hi : (P.info? ty).map (·.size) = some cs.size) (hi' : (P.info? ty).map (·.size) = some cs'.size)
    (hp : a.tmps.getD p undef = .pointer (some ⟨g, 0, none⟩)) (hq : a.tmps.getD q undef = .pointer (some ⟨g', 0, none⟩)) (hv : a.tmps.getD r undef = v) (hv' : a.tmps.getD u undef = v') (hg : w.heap[g]? = some (.cells cs t fr)) (hg' : w.heap[g']? = some (.cells cs' t' fr')) (hdf : a.defers = []) (hR : R (.returned (.tuple #[.agg cs, .agg cs', v, v'])) w) : bodyPost P fn R .ret a w :=
  bodyPost_ret (results_cctt h a.tmps w g g' t t' cs cs' fr fr' d v v' hp hq hv hv' hg hg' hu hd hi hi') hdf hR
/-- the boxes -/
structure BxS (w0 : World) (q : Sq) (f : Nat → Int) (g8 g10 : Nat) (w : World) : Prop where
  r4 : w.heap[w0.heap.size]? = some za
  r5 : w.heap[w0.heap.size + 1]? = some za
  r8 : w.heap[g8]? = some (fq q)
  r10 : w.heap[g10]? = some (.cells #[.int .i64 (f 0), .int .i64 (f 1), .int .i64 (f 2), .int .i64 (f 3)] 43)
  below : Below w0.heap.size w0 w
  o8 : w0.heap.size + 1 < g8
  o10 : g8 < g10
theorem BxS.step {w0 w w' : World} {q : Sq} {f : Nat → Int} {g8 g10 : Nat} (h : BxS w0 q f g8 g10 w) (hb : Below w.heap.size w w') : BxS w0 q f g8 g10 w' :=
  ⟨row_keep h.r4 hb (Nat.le_refl _), row_keep h.r5 hb (Nat.le_refl _), row_keep h.r8 hb (Nat.le_refl _), row_keep h.r10 hb (Nat.le_refl _), bstep h.below hb, h.o8, h.o10⟩
theorem row_put4 {w : World} {g : Nat} {f : Nat → Int} {T : TypeId} (h : w.heap[g]? = some (.cells #[.int .i64 (f 0), .int .i64 (f 1), .int .i64 (f 2), .int .i64 (f 3)] T (0, 0))) {k : Nat} (hk : k < 4) (d : Int) :
    (w.setCell ⟨g, k, none⟩ (.int .i64 d)).heap[g]? = some (.cells #[.int .i64 (if 0 = k then d else f 0), .int .i64 (if 1 = k then d else f 1), .int .i64 (if 2 = k then d else f 2), .int .i64 (if 3 = k then d else f 3)] T (0, 0)) := by
  have h4 : k = 0 ∨ k = 1 ∨ k = 2 ∨ k = 3 := by omega
  rcases h4 with rfl | rfl | rfl | rfl <;> (rw [heap_setCell_same w g _ _ _ (.int .i64 d) h]; rfl)
theorem cell_4 {w : World} {g : Nat} {f : Nat → Int} {T : TypeId} (h : w.heap[g]? = some (.cells #[.int .i64 (f 0), .int .i64 (f 1), .int .i64 (f 2), .int .i64 (f 3)] T (0, 0))) {k : Nat} (hk : k < 4) : w.cell? ⟨g, k, none⟩ = some (.int .i64 (f k)) ∧ w.frozen? ⟨g, k, none⟩ = false := by
  have h4 : k = 0 ∨ k = 1 ∨ k = 2 ∨ k = 3 := by omega
  refine ⟨?_, frozen_of_row w g k _ _ h⟩
  rcases h4 with rfl | rfl | rfl | rfl <;> (rw [cell_of_row w g _ _ _ _ h]; rfl)
theorem BxS.put {w0 w : World} {q : Sq} {f : Nat → Int} {g8 g10 : Nat} (h : BxS w0 q f g8 g10 w) {k : Nat} (hk : k < 4) (d : Int) : BxS w0 q (fun i => if i = k then d else f i) g8 g10 (w.setCell ⟨g10, k, none⟩ (.int .i64 d)) := by
  have o8 := h.o8
  have o10 := h.o10
  exact ⟨(Below.heap_setCell _ _ _ _ (show ¬ w0.heap.size = g10 by omega)).trans h.r4, (Below.heap_setCell _ _ _ _ (show ¬ w0.heap.size + 1 = g10 by omega)).trans h.r5, (Below.heap_setCell _ _ _ _ (show ¬ g8 = g10 by omega)).trans h.r8, row_put4 h.r10 hk d, h.below.setCell (p := ⟨g10, k, none⟩) (show w0.heap.size ≤ g10 by omega) _, o8, o10⟩
set_option maxRecDepth 100000 in
set_option maxHeartbeats 2000000 in
theorem box_none {B P : Nat} {L : List Sq} {room : Nat} {H : Nat → Prop} {w : World} (hs : St B w P L room H) (id : Int) (ho : Ok L id) (hc : (at' L id).cnt = 0) :
    Calls Tryz.prog 7 #[.pointer (some ⟨P, 0, none⟩), .int .i64 id] w fun e w' => e = .returned (.tuple #[cv (0, 0), cv (0, 0), .bool false, .nilIface]) ∧ Below w.heap.size w w' := by
  have hb0 : Below w.heap.size w ((w.alloc za).alloc za) := (alX w _).trans ((alX _ _).mono (by simp))
  have HL := Lib.hid (look_ok (hs.below hb0 (Nat.le_refl _)) id ho)
  have h5 := heap_alloc_new (w.alloc za) za
  rw [World.size_alloc] at h5
  have HR := Lib.hid (And.intro (row_keep (heap_alloc_new w za) (alX (w.alloc za) za) (Nat.le_refl _)) (And.intro h5 hb0))
  clear hs ho hb0 h5
  unfold qv cv at *
  generalize at' L id = q at *
  obtain ⟨lev, cnt, til, k0, k1, k2, k3⟩ := q
  simp only at *
  subst hc
  go_enter Tryz.func7, Tryz.ntmps7
  go_wp2_with fail
  refine HL.out.mono ?_
  rintro e w1 ⟨rfl, hb⟩
  have hb2 := hb.trans ((alX w1 (fq ⟨lev, 0, til, k0, k1, k2, k3⟩)).mono hb.size)
  have HR2 := Lib.hid (And.intro (row_keep HR.out.1 hb2 (Nat.le_refl _)) (And.intro (row_keep HR.out.2.1 hb2 (Nat.le_refl _)) (bstep HR.out.2.2 (hb2.mono (Nat.le_refl _)))))
  clear hb hb2 HL HR
  unfold fq at HR2
  go_upto_region 3 with (fail)
  generalize World.alloc _ _ = W at HR2 ⊢
  obtain ⟨c0, c1, f0, f1⟩ := row_cl HR2.out.1
  obtain ⟨d0, d1, k0', k1'⟩ := row_cl HR2.out.2.1
  go_wp2
  refine post_cctt Tryz.results7 w.heap.size (w.heap.size + 1) 30 30 #[.int .i64 0, .int .i64 0] #[.int .i64 0, .int .i64 0] (0, 0) (0, 0) _ (.bool false) .nilIface Tryz.underlying30 rfl info_a2 info_a2 rfl rfl rfl rfl ?_ ?_ rfl ?_
  · exact ((Below.heap_setCell _ _ _ _ (show ¬ w.heap.size = w.heap.size + 1 by omega)).trans (Below.heap_setCell _ _ _ _ (show ¬ w.heap.size = w.heap.size + 1 by omega))).trans (row_set2 HR2.out.1 _ _)
  · exact row_set2 (((Below.heap_setCell _ _ _ _ (show ¬ w.heap.size + 1 = w.heap.size by omega)).trans (Below.heap_setCell _ _ _ _ (show ¬ w.heap.size + 1 = w.heap.size by omega))).trans HR2.out.2.1) _ _
  · exact ⟨rfl, (((HR2.out.2.2.setCell (p := ⟨w.heap.size, 0, none⟩) (Nat.le_refl _) _).setCell (p := ⟨w.heap.size, 1, none⟩) (Nat.le_refl _) _).setCell (p := ⟨w.heap.size + 1, 0, none⟩) (Nat.le_succ _) _).setCell (p := ⟨w.heap.size + 1, 1, none⟩) (Nat.le_succ _) _⟩
theorem zkeep {X w' : World} (hb : Below (X.alloc za).heap.size (X.alloc za) w') : w'.heap[X.heap.size]? = some za := row_keep (heap_alloc_new X za) hb (Nat.le_refl _)
theorem zkeepd {X w' : World} (hb : Below (X.alloc za).drew.heap.size (X.alloc za).drew w') : w'.heap[X.heap.size]? = some za := row_keep (show (X.alloc za).drew.heap[X.heap.size]? = some za from heap_alloc_new X za) hb (Nat.le_refl _)
theorem zkeep2 {W w' : World} {g : Nat} (h : W.heap[g]? = some za) (hb : Below W.heap.size W w') : w'.heap[g]? = some za := row_keep h hb (Nat.le_refl _)
theorem zkeep3 {W w' : World} {g : Nat} {o : Obj} (h : W.heap[g]? = some za) (hb : Below (W.alloc o).heap.size (W.alloc o) w') : w'.heap[g]? = some za := row_keep (row_keep h (alX W o) (Nat.le_refl _)) hb (Nat.le_refl _)
set_option maxRecDepth 100000 in
set_option maxHeartbeats 4000000 in
theorem box_some {B P : Nat} {L : List Sq} {room : Nat} {H : Nat → Prop} {w : World} (hs : St B w P L room H) (hT : TabZ w) (hZ : NearZ w) (n : Nat) (hn : n ≤ 37) (id : Int) (hl : Lv L n id) (hc : 0 < (at' L id).cnt) :
    Calls Tryz.prog 7 #[.pointer (some ⟨P, 0, none⟩), .int .i64 id] w fun e w' => ∃ lo hi, e = .returned (.tuple #[cv lo, cv hi, .bool true, .nilIface]) ∧ BoxIs (lst L n id) lo hi ∧ Below w.heap.size w w' := by
  have hb0 : Below w.heap.size w ((w.alloc za).alloc za) := (alX w _).trans ((alX _ _).mono (by simp))
  have HL := Lib.hid (look_ok (hs.below hb0 (Nat.le_refl _)) id hl.1)
  have h5 := heap_alloc_new (w.alloc za) za
  rw [World.size_alloc] at h5
  have HR := Lib.hid (And.intro (row_keep (heap_alloc_new w za) (alX (w.alloc za) za) (Nat.le_refl _)) (And.intro h5 (And.intro hb0 (lt_of_block h5))))
  have HFA := Lib.hid (fun (W : World) (hb : Below w.heap.size w W) (s : Nat) (hs4 : s < 4) => freeAt_ok (hs.below hb (Nat.le_refl _)) (hT.below hb) (hZ.below hb) n hn id hl hc s hs4)
  have HLA := Lib.hid (fun (W : World) => last_ok n (at' L id) hl.2 hn W)
  have HBM := Lib.hid (fun (f : Nat → Int) => box_mn (L := L) (n := n) (id := id) (f := f))
  have HIN := Lib.hid (fun (f : Nat → Int) (h : ∀ i, i < 4 → Mn L n [id] i (f i)) (i : Nat) (hi4 : i < 4) => (show 0 ≤ f i ∧ f i < ((2 ^ (n + 3) : Nat) : Int) from by
    obtain ⟨⟨k, hk, c, hcm, e⟩, _⟩ := h i hi4
    rw [List.mem_singleton] at hk
    subst hk
    rw [← e]
    exact dst_in hs.inv hl hcm))
  have H40 := Lib.hid (two40 hn)
  have hcg : ((at' L id).cnt == 0) = false := by rw [beq_eq_false_iff_ne]; omega
  clear hs hl hb0 h5 hT hZ hc
  unfold qv cv at *
  generalize at' L id = q at *
  go_enter Tryz.func7, Tryz.ntmps7
  go_wp2_with fail
  refine HL.out.mono ?_
  rintro e w1 ⟨rfl, hb⟩
  have hb2 := hb.trans ((alX w1 (fq q)).mono hb.size)
  have hsz := hb.size
  have hw1 : (w1.alloc (fq q)).heap.size = w1.heap.size + 1 := by simp
  have h10 := heap_alloc_new (w1.alloc (fq q)) z4
  rw [hw1] at h10
  have HX := Lib.hid (BxS.mk (w0 := w) (q := q) (f := fun _ => 0) (g8 := w1.heap.size) (g10 := w1.heap.size + 1) (w := (w1.alloc (fq q)).alloc z4) (row_keep (row_keep HR.out.1 hb2 (Nat.le_refl _)) (alX _ _) (Nat.le_refl _)) (row_keep (row_keep HR.out.2.1 hb2 (Nat.le_refl _)) (alX _ _) (Nat.le_refl _)) (row_keep (heap_alloc_new w1 (fq q)) (alX _ _) (Nat.le_refl _)) h10 ((HR.out.2.2.1.trans (hb2.mono HR.out.2.2.1.size)).trans ((alX _ _).mono (Nat.le_trans HR.out.2.2.1.size hb2.size))) (by have := HR.out.2.2.2; omega) (by omega))
  clear hb hb2 HL HR hsz hw1 h10
  unfold fq at HX
  go_upto_region 5 with (fail)
  generalize World.alloc _ _ = W at HX ⊢
  generalize w1.heap.size + 1 = g10 at HX ⊢
  generalize w1.heap.size = g8 at HX ⊢
  go_wp2_with fail
  go_loopw [30] (fun i wr => ∃ k : Nat, k ≤ 4 ∧ i = .int .i64 (k : Int) ∧ Hid (∃ f, BxS w q f g8 g10 wr ∧ ∀ i, i < k → Mn L n [id] i (f i))) (fun i _ => 4 - (intOf i).toNat)
  case atStart => exact ⟨0, by omega, rfl, Lib.hid ⟨_, HX.out, fun i hi => absurd hi (Nat.not_lt_zero i)⟩⟩
  case round =>
    clear HX
    obtain ⟨k, hk, rfl, HR⟩ := hrel
    have k0 : (0 : Int) ≤ (k : Int) := by omega
    by_cases hlt : k < 4
    · have k1 : (k : Int) < 4 := by omega
      obtain ⟨f, hbx, hmn⟩ := HR.out
      have HA := Lib.hid (HFA.out wr hbx.below k hlt)
      have HBX := Lib.hid (And.intro hbx (And.intro hmn hlt))
      clear hbx hmn hlt HR
      go_wp2_with fail
      refine HA.out.mono ?_
      rintro e w2 ⟨d, rfl, hd, hb⟩
      have HB2 := Lib.hid (HBX.out.1.step hb)
      obtain ⟨c10, f10⟩ := cell_4 HB2.out.r10 HBX.out.2.2
      have HN := Lib.hid (show ∃ f', BxS w q f' g8 g10 (w2.setCell ⟨g10, k, none⟩ (.int .i64 d)) ∧ ∀ i, i < k + 1 → Mn L n [id] i (f' i) from ⟨_, HB2.out.put HBX.out.2.2 d, fun i hi => by
        by_cases e : i = k
        · rw [if_pos e, e]
          exact hd
        · rw [if_neg e]
          exact HBX.out.2.1 i (by omega)⟩)
      clear hd hb HA
      generalize f k = fk at *
      go_wp2
      go_roundw
      case rel => exact ⟨k + 1, by have := HBX.out.2.2; omega, by go_num, HN⟩
      case measure => have := HBX.out.2.2; simp [intOf]; omega
    · obtain rfl : k = 4 := by omega
      obtain ⟨f, hbx, hmn⟩ := HR.out
      have HBX := Lib.hid hbx
      have HM := Lib.hid (And.intro (HBM.out f hmn) (HIN.out f hmn))
      have hp := Nat.two_pow_pos (n + 3)
      obtain ⟨c0, _⟩ := cell_4 hbx.r10 (k := 0) (by omega)
      obtain ⟨c1, _⟩ := cell_4 hbx.r10 (k := 1) (by omega)
      clear hbx hmn HR HBM HIN
      generalize 2 ^ (n + 3) = m at *
      go_upto_region 13 with (fail)
      clear c0 c1
      have HBY := Lib.hid (HBX.out.step (alX wr (.cells #[.int .i64 (f 0), .int .i64 (f 1)] 30)))
      have HLO := Lib.hid (heap_alloc_new wr (.cells #[.int .i64 (f 0), .int .i64 (f 1)] 30))
      have HG12 := Lib.hid (show w.heap.size + 1 < wr.heap.size from by have := lt_of_block HBX.out.r10; have := HBX.out.o8; have := HBX.out.o10; omega)
      generalize World.alloc _ _ = w3 at HBY HLO ⊢
      generalize wr.heap.size = g12 at HLO HG12 ⊢
      have b2 := HM.out.2 2 (by omega)
      have b3 := HM.out.2 3 (by omega)
      have h40 := H40.out
      have e2 : IntKind.i64.wrap ((m : Int) - 1 - f 2) = (m : Int) - 1 - f 2 := IntWalk.i64_in _ (by omega)
      have e3 : IntKind.i64.wrap ((m : Int) - 1 - f 3) = (m : Int) - 1 - f 3 := IntWalk.i64_in _ (by omega)
      clear b2 b3 h40
      have HSS := Lib.hid (fun (W' : World) (hb : Below w3.heap.size w3 W') => And.intro (row7 (HBY.out.step hb).r8).1 (And.intro (cell_4 (HBY.out.step hb).r10 (k := 2) (by omega)).1 (cell_4 (HBY.out.step hb).r10 (k := 3) (by omega)).1))
      have HL3 := Lib.hid (And.intro (lt_of_block HBY.out.r8) (lt_of_block HBY.out.r10))
      have HS2 := Lib.hid (fun (W' : World) (hb : Below w3.heap.size w3 W') (g : Nat) (hg : w3.heap.size ≤ g) (a b : Value) => (show (((W'.setCell ⟨g, 0, none⟩ a).setCell ⟨g, 1, none⟩ b).cell? ⟨g8, 0, none⟩ = some (.int .i64 q.lev) ∧ ((W'.setCell ⟨g, 0, none⟩ a).setCell ⟨g, 1, none⟩ b).cell? ⟨g8, 1, none⟩ = some (.int .i64 q.cnt) ∧ ((W'.setCell ⟨g, 0, none⟩ a).setCell ⟨g, 1, none⟩ b).cell? ⟨g8, 2, none⟩ = some (.int .u64 (rg q.til)) ∧ ((W'.setCell ⟨g, 0, none⟩ a).setCell ⟨g, 1, none⟩ b).cell? ⟨g8, 3, none⟩ = some (.int .i64 q.k0) ∧ ((W'.setCell ⟨g, 0, none⟩ a).setCell ⟨g, 1, none⟩ b).cell? ⟨g8, 4, none⟩ = some (.int .i64 q.k1) ∧ ((W'.setCell ⟨g, 0, none⟩ a).setCell ⟨g, 1, none⟩ b).cell? ⟨g8, 5, none⟩ = some (.int .i64 q.k2) ∧ ((W'.setCell ⟨g, 0, none⟩ a).setCell ⟨g, 1, none⟩ b).cell? ⟨g8, 6, none⟩ = some (.int .i64 q.k3)) ∧ ((W'.setCell ⟨g, 0, none⟩ a).setCell ⟨g, 1, none⟩ b).cell? ⟨g10, 2, none⟩ = some (.int .i64 (f 2)) ∧ ((W'.setCell ⟨g, 0, none⟩ a).setCell ⟨g, 1, none⟩ b).cell? ⟨g10, 3, none⟩ = some (.int .i64 (f 3)) from by
        have n8 : ¬ g8 = g := by have := HL3.out.1; omega
        have n10 : ¬ g10 = g := by have := HL3.out.2; omega
        have r8 := ((Below.heap_setCell (W'.setCell ⟨g, 0, none⟩ a) ⟨g, 1, none⟩ b g8 n8).trans (Below.heap_setCell W' ⟨g, 0, none⟩ a g8 n8)).trans (HBY.out.step hb).r8
        have r10 := ((Below.heap_setCell (W'.setCell ⟨g, 0, none⟩ a) ⟨g, 1, none⟩ b g10 n10).trans (Below.heap_setCell W' ⟨g, 0, none⟩ a g10 n10)).trans (HBY.out.step hb).r10
        exact ⟨(row7 r8).1, (cell_4 r10 (k := 2) (by omega)).1, (cell_4 r10 (k := 3) (by omega)).1⟩))
      have HB0 : Below w3.heap.size w3 w3.drew := (Below.refl _ _).drew
      have HB00 : Below w3.heap.size w3 w3 := Below.refl _ _
      have HB01 : Below w3.heap.size w3 (w3.alloc za) := alX _ _
      have HB02 : Below w3.heap.size w3 (w3.alloc za).drew := HB01.drew
      have HB03 : Below w3.heap.size w3 (w3.drew.alloc za) := bstep HB0 (alX _ _)
      go_region_held3 (fun w' => (w'.cell? ⟨g8, 0, none⟩ = some (.int .i64 q.lev) ∧ w'.cell? ⟨g8, 1, none⟩ = some (.int .i64 q.cnt) ∧ w'.cell? ⟨g8, 2, none⟩ = some (.int .u64 (rg q.til)) ∧ w'.cell? ⟨g8, 3, none⟩ = some (.int .i64 q.k0) ∧ w'.cell? ⟨g8, 4, none⟩ = some (.int .i64 q.k1) ∧ w'.cell? ⟨g8, 5, none⟩ = some (.int .i64 q.k2) ∧ w'.cell? ⟨g8, 6, none⟩ = some (.int .i64 q.k3)) ∧ w'.cell? ⟨g10, 2, none⟩ = some (.int .i64 (f 2)) ∧ w'.cell? ⟨g10, 3, none⟩ = some (.int .i64 (f 3))) (first | with_reducible exact HSS.out _ (by assumption) | with_reducible exact HSS.out _ (bstep (W0 := w3) (by assumption) (alX _ _)) | with_reducible exact HS2.out _ (by assumption) _ (by first | exact Nat.le_refl _ | exact (show Below w3.heap.size w3 _ by assumption).size) _ _) ((go_at_call 23; refine (HLA.out _).mono ?_; rintro e w4 ⟨rfl, hb⟩; have hb1 := bstep (W0 := w3) (by assumption) hb; have hb1a := bstep (W0 := w3) hb1 (alX w4 za); have hb1d := hb1a.drew; (first | (have hzr := zkeep hb; obtain ⟨z0, z1, y0, y1⟩ := row_cl hzr) | (have hzr := zkeepd hb; obtain ⟨z0, z1, y0, y1⟩ := row_cl hzr) | (have hzr := zkeep2 (by assumption) hb; obtain ⟨z0, z1, y0, y1⟩ := row_cl hzr) | skip); clear hb))
      · rename_i hHeld
        clear hHeld
        have HX5 := Lib.hid (And.intro (bstep (W0 := w3) hb1 (alX w4 (.cells #[.int .i64 ((m : Int) - 1 - f 2), .int .i64 ((m : Int) - 1 - f 3)] 30))) (And.intro (heap_alloc_new w4 (.cells #[.int .i64 ((m : Int) - 1 - f 2), .int .i64 ((m : Int) - 1 - f 3)] 30)) hb1.size))
        generalize World.alloc _ _ = W5 at HX5 ⊢
        generalize w4.heap.size = g13 at HX5 ⊢
        clear hb1 hb1a hb1d HB0 HB00 HB01 HB02 HB03
        obtain ⟨l0, l1, _, _⟩ := row_cl (row_keep HLO.out HX5.out.1 (Nat.le_refl _))
        obtain ⟨h0, h1, _, _⟩ := row_cl HX5.out.2.1
        obtain ⟨p0, p1, fp0, fp1⟩ := row_cl (HBY.out.step HX5.out.1).r4
        obtain ⟨s0, s1, fs0, fs1⟩ := row_cl (HBY.out.step HX5.out.1).r5
        have HBZ := Lib.hid (HBY.out.step HX5.out.1)
        have n13 : ¬ g13 = w.heap.size := by have := HX5.out.2.2; have := HG12.out; have := lt_of_block HLO.out; omega
        have n14 : ¬ g13 = w.heap.size + 1 := by have := HX5.out.2.2; have := HG12.out; have := lt_of_block HLO.out; omega
        have n15 : ¬ g12 = w.heap.size := by have := HG12.out; omega
        have n16 : ¬ g12 = w.heap.size + 1 := by have := HG12.out; omega
        have n17 : ¬ w.heap.size + 1 = w.heap.size := by omega
        go_upto_region 14 with (fail)
        go_region
        all_goals go_wp2
        all_goals
          refine post_cctt Tryz.results7 w.heap.size (w.heap.size + 1) 30 30 #[.int .i64 (f 0), .int .i64 (f 1)] #[.int .i64 ((m : Int) - 1 - f 2), .int .i64 ((m : Int) - 1 - f 3)] (0, 0) (0, 0) _ (.bool true) .nilIface Tryz.underlying30 rfl info_a2 info_a2 rfl rfl rfl rfl ?_ ?_ rfl ?_
          · exact ((Below.heap_setCell _ _ _ _ (show ¬ w.heap.size = w.heap.size + 1 by omega)).trans (Below.heap_setCell _ _ _ _ (show ¬ w.heap.size = w.heap.size + 1 by omega))).trans (row_set2 HBZ.out.r4 _ _)
          · exact row_set2 (((Below.heap_setCell _ _ _ _ (show ¬ w.heap.size + 1 = w.heap.size by omega)).trans (Below.heap_setCell _ _ _ _ (show ¬ w.heap.size + 1 = w.heap.size by omega))).trans HBZ.out.r5) _ _
          · exact ⟨(f 0, f 1), ((m : Int) - 1 - f 2, (m : Int) - 1 - f 3), rfl, HM.out.1, ((((HBZ.out.below.setCell (p := ⟨w.heap.size, 0, none⟩) (Nat.le_refl _) _).setCell (p := ⟨w.heap.size, 1, none⟩) (Nat.le_refl _) _).setCell (p := ⟨w.heap.size + 1, 0, none⟩) (Nat.le_succ _) _).setCell (p := ⟨w.heap.size + 1, 1, none⟩) (Nat.le_succ _) _).drew⟩
      · rename_i wo hb1o _ _ hHeld
        clear hHeld
        have HX5 := Lib.hid (And.intro ((hb1.setCell (p := ⟨wo.heap.size, 0, none⟩) hb1o.size (.int .i64 ((m : Int) - 1 - f 2))).setCell (p := ⟨wo.heap.size, 1, none⟩) hb1o.size (.int .i64 ((m : Int) - 1 - f 3))) (And.intro (row_set2 hzr (.int .i64 ((m : Int) - 1 - f 2)) (.int .i64 ((m : Int) - 1 - f 3))) hb1o.size))
        generalize World.setCell _ _ _ = W5 at HX5 ⊢
        generalize wo.heap.size = g13 at HX5 ⊢
        clear hb1 hb1a hb1d HB0 HB00 HB01 HB02 HB03 hzr
        obtain ⟨l0, l1, _, _⟩ := row_cl (row_keep HLO.out HX5.out.1 (Nat.le_refl _))
        obtain ⟨h0, h1, _, _⟩ := row_cl HX5.out.2.1
        obtain ⟨p0, p1, fp0, fp1⟩ := row_cl (HBY.out.step HX5.out.1).r4
        obtain ⟨s0, s1, fs0, fs1⟩ := row_cl (HBY.out.step HX5.out.1).r5
        have HBZ := Lib.hid (HBY.out.step HX5.out.1)
        have n13 : ¬ g13 = w.heap.size := by have := HX5.out.2.2; have := HG12.out; have := lt_of_block HLO.out; omega
        have n14 : ¬ g13 = w.heap.size + 1 := by have := HX5.out.2.2; have := HG12.out; have := lt_of_block HLO.out; omega
        have n15 : ¬ g12 = w.heap.size := by have := HG12.out; omega
        have n16 : ¬ g12 = w.heap.size + 1 := by have := HG12.out; omega
        have n17 : ¬ w.heap.size + 1 = w.heap.size := by omega
        go_upto_region 14 with (fail)
        go_region
        all_goals go_wp2
        all_goals
          refine post_cctt Tryz.results7 w.heap.size (w.heap.size + 1) 30 30 #[.int .i64 (f 0), .int .i64 (f 1)] #[.int .i64 ((m : Int) - 1 - f 2), .int .i64 ((m : Int) - 1 - f 3)] (0, 0) (0, 0) _ (.bool true) .nilIface Tryz.underlying30 rfl info_a2 info_a2 rfl rfl rfl rfl ?_ ?_ rfl ?_
          · exact ((Below.heap_setCell _ _ _ _ (show ¬ w.heap.size = w.heap.size + 1 by omega)).trans (Below.heap_setCell _ _ _ _ (show ¬ w.heap.size = w.heap.size + 1 by omega))).trans (row_set2 HBZ.out.r4 _ _)
          · exact row_set2 (((Below.heap_setCell _ _ _ _ (show ¬ w.heap.size + 1 = w.heap.size by omega)).trans (Below.heap_setCell _ _ _ _ (show ¬ w.heap.size + 1 = w.heap.size by omega))).trans HBZ.out.r5) _ _
          · exact ⟨(f 0, f 1), ((m : Int) - 1 - f 2, (m : Int) - 1 - f 3), rfl, HM.out.1, ((((HBZ.out.below.setCell (p := ⟨w.heap.size, 0, none⟩) (Nat.le_refl _) _).setCell (p := ⟨w.heap.size, 1, none⟩) (Nat.le_refl _) _).setCell (p := ⟨w.heap.size + 1, 0, none⟩) (Nat.le_succ _) _).setCell (p := ⟨w.heap.size + 1, 1, none⟩) (Nat.le_succ _) _).drew⟩
      · rename_i hHeld
        clear hHeld
        have HX5 := Lib.hid (And.intro ((hb1.setCell (p := ⟨w3.heap.size, 0, none⟩) (Nat.le_refl _) (.int .i64 ((m : Int) - 1 - f 2))).setCell (p := ⟨w3.heap.size, 1, none⟩) (Nat.le_refl _) (.int .i64 ((m : Int) - 1 - f 3))) (And.intro (row_set2 hzr (.int .i64 ((m : Int) - 1 - f 2)) (.int .i64 ((m : Int) - 1 - f 3))) (Nat.le_refl w3.heap.size)))
        generalize World.setCell _ _ _ = W5 at HX5 ⊢
        clear hb1 hb1a hb1d HB0 HB00 HB01 HB02 HB03 hzr
        obtain ⟨l0, l1, _, _⟩ := row_cl (row_keep HLO.out HX5.out.1 (Nat.le_refl _))
        obtain ⟨h0, h1, _, _⟩ := row_cl HX5.out.2.1
        obtain ⟨p0, p1, fp0, fp1⟩ := row_cl (HBY.out.step HX5.out.1).r4
        obtain ⟨s0, s1, fs0, fs1⟩ := row_cl (HBY.out.step HX5.out.1).r5
        have HBZ := Lib.hid (HBY.out.step HX5.out.1)
        have n13 : ¬ w3.heap.size = w.heap.size := by have := HX5.out.2.2; have := HG12.out; have := lt_of_block HLO.out; omega
        have n14 : ¬ w3.heap.size = w.heap.size + 1 := by have := HX5.out.2.2; have := HG12.out; have := lt_of_block HLO.out; omega
        have n15 : ¬ g12 = w.heap.size := by have := HG12.out; omega
        have n16 : ¬ g12 = w.heap.size + 1 := by have := HG12.out; omega
        have n17 : ¬ w.heap.size + 1 = w.heap.size := by omega
        go_upto_region 14 with (fail)
        go_region
        all_goals go_wp2
        all_goals
          refine post_cctt Tryz.results7 w.heap.size (w.heap.size + 1) 30 30 #[.int .i64 (f 0), .int .i64 (f 1)] #[.int .i64 ((m : Int) - 1 - f 2), .int .i64 ((m : Int) - 1 - f 3)] (0, 0) (0, 0) _ (.bool true) .nilIface Tryz.underlying30 rfl info_a2 info_a2 rfl rfl rfl rfl ?_ ?_ rfl ?_
          · exact ((Below.heap_setCell _ _ _ _ (show ¬ w.heap.size = w.heap.size + 1 by omega)).trans (Below.heap_setCell _ _ _ _ (show ¬ w.heap.size = w.heap.size + 1 by omega))).trans (row_set2 HBZ.out.r4 _ _)
          · exact row_set2 (((Below.heap_setCell _ _ _ _ (show ¬ w.heap.size + 1 = w.heap.size by omega)).trans (Below.heap_setCell _ _ _ _ (show ¬ w.heap.size + 1 = w.heap.size by omega))).trans HBZ.out.r5) _ _
          · exact ⟨(f 0, f 1), ((m : Int) - 1 - f 2, (m : Int) - 1 - f 3), rfl, HM.out.1, ((((HBZ.out.below.setCell (p := ⟨w.heap.size, 0, none⟩) (Nat.le_refl _) _).setCell (p := ⟨w.heap.size, 1, none⟩) (Nat.le_refl _) _).setCell (p := ⟨w.heap.size + 1, 0, none⟩) (Nat.le_succ _) _).setCell (p := ⟨w.heap.size + 1, 1, none⟩) (Nat.le_succ _) _).drew⟩
end Go.Proofs.YtifkhmcdgmnipaaGreatDoor

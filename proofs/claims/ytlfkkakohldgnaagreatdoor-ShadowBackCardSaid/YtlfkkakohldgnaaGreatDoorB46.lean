/-
  TAKEN UP AGAIN: the walk of restore. Conditions: those that each lemma names.
  OPENED: the walk of Open. Conditions: those that each lemma names.
  HOW MANY SECTORS ARE FREE, plainly; a shadow over a disk that another one has; one opened again. Conditions: those that each lemma names.
-/
import Derived.BigRegion
import Derived.Test.YtlfkkakohldgnaaGreatDoorB45
namespace Go.Proofs.YtlfkkakohldgnaaGreatDoor.Sh
open Go.RowKit Go.Maps

theorem ep_wrap {ep : Nat} (he : ep < 4611686018427387904) : wrap64 (ep : Int) = (ep : Int) ∧ IntKind.i64.wrap (ep : Int) = (ep : Int) := ⟨IntWalk.wrap64_in _ ⟨by omega, by omega⟩, IntWalk.i64_in _ ⟨by omega, by omega⟩⟩
def pkB (P K b : Nat) : Prop := b = P ∨ b = K
/-- at the head of restore's loops: the root's box, the tables' sectors, and the map filled below x -/
structure RsRel (w wr : World) (P p K G g : Nat) (ta : Option Addr) (tc k0 ep : Nat) (tb : List Nat) (rv : Value) (f : Nat → Nat) (x : Nat) : Prop where
  st : Stp w (pkB P K) wr (pkB P K)
  hd : Hd8 wr P p K G none (.slice ta k0 tc) 0 (ep : Int) false
  bx : Box wr g 82 0 (ep : Int) 4 rv
  ti : Ints wr ta (zl tb)
  tn : ∀ b o, ta = some ⟨b, o, none⟩ → w.heap.size ≤ b ∧ b < wr.heap.size
  mp : ∃ nK D, Owns wr K nK D ∧ MpF (fT f x) D ∧ nK ≤ x
theorem RsRel.below {w wr w' : World} {P p K G g : Nat} {ta : Option Addr} {tc k0 ep : Nat} {tb : List Nat} {rv : Value} {f : Nat → Nat} {x : Nat} (h : RsRel w wr P p K G g ta tc k0 ep tb rv f x) (hb : Below wr.heap.size wr w') : RsRel w w' P p K G g ta tc k0 ep tb rv f x := by
  obtain ⟨nK, D, m1, m2, m3⟩ := h.mp
  exact ⟨h.st.trans (.of_below hb), h.hd.same (hb.block _ (World.block_lt_of_cell? wr _ h.hd.c0)), h.bx.same (hb.block _ h.bx.lt), ints_same h.ti (fun b o e => hb.block b (h.tn b o e).2), fun b o e => ⟨(h.tn b o e).1, Nat.lt_of_lt_of_le (h.tn b o e).2 hb.size⟩, nK, D, owns_same m1 (hb.block _ m1.lt), m2, m3⟩
theorem RsRel.turn {w wr w' : World} {P p K G g : Nat} {ta : Option Addr} {tc k0 ep : Nat} {tb : List Nat} {rv : Value} {f : Nat → Nat} {x : Nat} (h : RsRel w wr P p K G g ta tc k0 ep tb rv f x) (ht : wr.mapTurned w' K) (hPK : P ≠ K) (hK : K < w.heap.size) (hg : w.heap.size ≤ g) (y : Nat) (mp : ∃ nK D, Owns w' K nK D ∧ MpF (fT f y) D ∧ nK ≤ y) : RsRel w w' P p K G g ta tc k0 ep tb rv f y := by
  have hw := turned_wrt ht
  refine ⟨h.st.trans (Stp.wide hw.stp (fun b q => .inr q) (fun b q => .inl q)), h.hd.same (hw.block _ hPK), h.bx.same (hw.block _ (fun q => by have : g = K := q; omega)), ints_same h.ti (fun b o e => hw.block b (fun q => by have e1 : b = K := q; have := (h.tn b o e).1; omega)), fun b o e => ⟨(h.tn b o e).1, by rw [hw.size]; exact (h.tn b o e).2⟩, mp⟩
theorem RsRel.same {w wr : World} {P p K G g : Nat} {ta : Option Addr} {tc k0 ep : Nat} {tb : List Nat} {rv : Value} {f : Nat → Nat} {x : Nat} (h : RsRel w wr P p K G g ta tc k0 ep tb rv f x) (h0 : f x = 0) : RsRel w wr P p K G g ta tc k0 ep tb rv f (x + 1) := by
  obtain ⟨nK, D, m1, m2, m3⟩ := h.mp
  exact ⟨h.st, h.hd, h.bx, h.ti, h.tn, nK, D, m1, by rw [fT_same h0]; exact m2, by omega⟩
/-- a table's page, wherever restore's loops are -/
theorem tabs_at {w wr : World} {P K base : Nat} {H : Nat → Prop} {v : Value} {e : Nat} {f : Nat → Nat} {k : Nat} (h : TabsR w base H v e f k) (s : Stp w (pkB P K) wr (pkB P K)) (hP : P < base) (hK : K < base) (i : Nat) (hi : i < k) :
    ∃ bv cap ra rc, v = .slice (some ⟨bv, 0, none⟩) k cap ∧ k ≤ cap ∧ base ≤ bv ∧ bv < wr.heap.size ∧ Box0 wr bv (i * 5) 84 (i : Int) (e : Int) 4 (.slice ra 123 rc) ∧ Safe wr (pkB P K) (.slice ra 123 rc) 123 ((tbl f i).map rec4) := by
  obtain ⟨bv, cap, ra, rc, e1, e2, e3, bx, sf⟩ := tabs_page h i hi
  have hlt : bv < w.heap.size := World.block_lt_of_cell? w _ bx.f0
  have hb : wr.heap[bv]? = w.heap[bv]? := s.block bv hlt (fun q => by rcases q with q | q <;> omega)
  refine ⟨bv, cap, ra, rc, e1, e2, e3, Nat.lt_of_lt_of_le hlt s.size, ⟨(World.cell?_of_block hb).trans bx.f0, (World.cell?_of_block hb).trans bx.f1, (World.cell?_of_block hb).trans bx.f2, (World.cell?_of_block hb).trans bx.f3, (World.cell?_of_block hb).trans bx.f4⟩, ?_⟩
  exact sf.mono (fun j hj hn => s.block j hj (fun q => hn (.inr (.inr (by rcases q with q | q <;> omega))))) s.size (fun j _ q => .inr (.inr (by rcases q with q | q <;> omega)))
theorem safe_recs {w : World} {S : Nat → Prop} {ra : Option Addr} {n cap : Nat} {rs : List (List Int)} (h : Safe w S (.slice ra n cap) n rs) : Sm.Recs w ra rs := by
  obtain ⟨B, hB⟩ := h.now
  obtain ⟨a, c, e, hr, _⟩ := hB.recs
  obtain ⟨rfl, _⟩ : ra = a ∧ cap = c := by simpa using e
  exact hr
theorem Safe.below {w w' : World} {S : Nat → Prop} {v : Value} {n : Nat} {rs : List (List Int)} (h : Safe w S v n rs) (hb : Below w.heap.size w w') (hS : ∀ k, k < w.heap.size → S k → S k) : Safe w' S v n rs := h.mono (fun k hk _ => hb.block k hk) hb.size hS
theorem keyM (k j : Nat) (h : k * 123 + j < 15006) : keyOf Tryz.prog 3 (.int .i64 ((k : Int) * 123 + (j : Int))) = some (.int .i64 ((k * 123 + j : Nat) : Int)) := by
  have := keyN (k * 123 + j) h
  rw [show ((k * 123 + j : Nat) : Int) = (k : Int) * 123 + (j : Int) by omega] at this ⊢
  exact this
def RestE (w : World) (P p K G T n ep k0 : Nat) (tb : List Nat) (f : Nat → Nat) (e : Ending) (w' : World) : Prop :=
  e = .returned (.bool true) ∧ ∃ V ta tc nK DK S, Hd8 w' P p K G (some V) (.slice ta k0 tc) 0 (ep : Int) false ∧ Owns w' K nK DK ∧ MpF f DK ∧ nK ≤ 15006 ∧ Owns w' V nK DK ∧ Ints w' ta (zl tb) ∧ (∀ b o, ta = some ⟨b, o, none⟩ → w.heap.size ≤ b ∧ b < w'.heap.size ∧ b ≠ V) ∧ w.heap.size ≤ V ∧ SpAt w' G T S ∧ Tk n tb f S ∧ Stp w (fun b => b = P ∨ b = K ∨ b = G ∨ b = T) w' (fun b => b = P ∨ b = K ∨ b = G ∨ b = T)
set_option maxRecDepth 100000 in
set_option maxHeartbeats 4000000 in
theorem restore_any {w : World} {p n : Nat} {H : Nat → Prop} (P K G T : Nat) (S0 : Spc) (hd : Hd8 w P p K G none (.slice none 0 0) 0 0 false) (km : Owns w K 0 (.map [])) (sp : SpAt w G T S0) (hsn : S0.n = n) (ne : P ≠ K ∧ P ≠ G ∧ P ≠ T ∧ K ≠ G ∧ K ≠ T) (base : Nat) (hlo : P < base ∧ K < base ∧ G < base ∧ T < base)
    (ep : Nat) (he : ep < 4611686018427387904) (ra : Option Addr) (k0 cap : Nat) (tb : List Nat) (hk : tb.length = k0) (hr : Sm.Recs w ra (tb.map rec4)) (h122 : k0 ≤ 122) (h16 : ∀ x ∈ tb, x ≤ 16384) (f : Nat → Nat) (v : Option Addr) (vc : Nat) (tr : TabsR w base H (.slice v k0 vc) ep f k0) (it : IsTbl f k0) (sk : Secs n tb f) (hn : n ≤ 16384) :
    Calls Tryz.prog 49 #[.pointer (some ⟨P, 0, none⟩), .agg #[.int .u8 82, .int .u32 0, .int .u64 (ep : Int), .int .i64 4, .slice ra k0 cap], .slice v k0 vc] w (RestE w P p K G T n ep k0 tb f) := by
  have HB := Lib.hid (Sm.alX w (.cells #[.int .u8 82, .int .u32 0, .int .u64 (ep : Int), .int .i64 4, .slice ra k0 cap] 47))
  have HD := Lib.hid (hd.same (HB.out.block P (World.block_lt_of_cell? w _ hd.c0)))
  have HR := Lib.hid (hr.below HB.out)
  have HX := Lib.hid (box_new w 82 0 (ep : Int) 4 (.slice ra k0 cap))
  have HK := Lib.hid hk
  have H16 := Lib.hid h16
  have HTR := Lib.hid tr
  have hPw : P < w.heap.size := World.block_lt_of_cell? w _ hd.c0
  have HIN := Lib.hid (And.intro km sp)
  have HIT := Lib.hid it
  have HSK := Lib.hid sk
  have HSN := Lib.hid hsn
  have hfv : ∀ k, f k ≤ 16384 := fun k => by
    by_cases e : f k = 0
    · omega
    · have := (sk.fl k e).2; omega
  have hfb : ∀ k, f k ≠ 0 → k < 15006 := fun k e => by have := it.1 k e; omega
  have HFV := Lib.hid hfv
  have HFB := Lib.hid hfb
  clear hd hr hk h16 tr km sp it sk hsn hfv hfb
  have z1 : ¬ (9223372036854775807 : Int) < (ep : Int) := by omega
  have z2 : ¬ (122 : Int) < (k0 : Int) := by omega
  have x0 := HX.out.f0
  have x1 := HX.out.f1
  have x2 := HX.out.f2
  have x3 := HX.out.f3
  have x4 := HX.out.f4
  have c3 := HD.out.c3
  have c5 := HD.out.c5
  have f3 := HD.out.fz 3
  have f5 := HD.out.fz 5
  go_enter Tryz.func49, Tryz.ntmps49
  go_upto_region 3 with (fail)
  generalize hw0 : w.alloc (.cells #[.int .u8 82, .int .u32 0, .int .u64 (ep : Int), .int .i64 4, .slice ra k0 cap] 47) = w0 at HB HD HR HX x0 x1 x2 x3 x4 c3 c5 f3 f5 ⊢
  have HRd := Lib.hid (show Sm.Recs w0.drew ra (tb.map rec4) from HR.out)
  have HDd := Lib.hid (show Hd8 w0.drew P p K G none (.slice none 0 0) 0 0 false from HD.out.same rfl)
  have HXd := Lib.hid (show Box w0.drew w.heap.size 82 0 (ep : Int) 4 (.slice ra k0 cap) from HX.out.same rfl)
  have n0 : w.heap.size ≠ P := by omega
  obtain ⟨hw1, hw2⟩ := ep_wrap he
  have HPL := Lib.hid (show P < w0.heap.size from HD.out.c0 |> World.block_lt_of_cell? w0 _)
  have HGL := Lib.hid (show w.heap.size < w0.heap.size from HX.out.lt)
  clear HX HR
  generalize hgw : w.heap.size = g at x0 x1 x2 x3 x4 n0 HXd HGL ⊢
  have HGW := Lib.hid hgw
  clear hgw
  go_cut [] (fun wx => ∃ ta tc w2, Hid (Hd8 wx P p K G none (.slice ta k0 tc) 0 (ep : Int) false) ∧ Hid (Ints w2 ta (zl tb)) ∧ Hid (∀ b o, ta = some ⟨b, o, none⟩ → w0.heap.size ≤ b ∧ b < w2.heap.size) ∧ Hid (Below w0.heap.size w0 w2) ∧ Hid (Wrt (isB P) w2 wx))
  case first =>
    go_region_with (go_at_call 90; refine (told_any 82 0 (ep : Int) 4 ra k0 cap tb w0.drew HK.out HRd.out H16.out (by omega)).mono ?_; intro e' w2 hlo; obtain ⟨ta, tc, rfl, hxi, _, hb2, hao⟩ := low_blk hlo; rw [HK.out]; have HX2 := Lib.hid hxi; have HA2 := Lib.hid hao; have HB2 := Lib.hid (show Below w0.heap.size w0 w2 from (drew_below w0).trans hb2); have HD2 := Lib.hid (HDd.out.same (hb2.block P HPL.out)); have y2 := (HXd.out.same (hb2.block g HGL.out)).f2; have d3 := HD2.out.c3; have d5 := HD2.out.c5; have g3 := HD2.out.fz 3; have g5 := HD2.out.fz 5; clear hlo hxi hb2 hao)
    all_goals go_wp2
    all_goals go_meet
    all_goals exact ⟨_, _, w2, Lib.hid ((HD2.out.set5 _).set3 _), HX2, HA2, HB2, Lib.hid (((Wrt.refl (isB P) w2).set (show isB P P from rfl) 5 _).set (show isB P P from rfl) 3 _)⟩
  obtain ⟨ta, tc, w2, HD6, HX6, HA6, HB6, HW6⟩ := hcut
  have hKw : K < w.heap.size := HIN.out.1.lt
  have HR6 := Lib.hid (show RsRel w wc P p K G g ta tc k0 ep tb (.slice ra k0 cap) f (0 * 123) from by
    have hs0 := HB.out.size
    have hP := HPL.out
    refine ⟨((Stp.of_below (H := pkB P K) HB.out).trans (.of_below HB6.out)).trans (Stp.wide HW6.out.stp (fun b q => .inl q) (fun b q => .inl q)), HD6.out, HXd.out.same ((HW6.out.block g n0).trans (HB6.out.block g HGL.out)), ints_same HX6.out (fun b o e => HW6.out.block b (fun q => by have e1 : b = P := q; have := (HA6.out b o e).1; omega)), fun b o e => ⟨by have := (HA6.out b o e).1; omega, by rw [HW6.out.size]; exact (HA6.out b o e).2⟩, 0, .map [], owns_same HIN.out.1 ((HW6.out.block K (fun q => ne.1 q.symm)).trans ((HB6.out.block K (by omega)).trans (HB.out.block K hKw))), by rw [Nat.zero_mul, fT_zero]; exact mpf_none, Nat.le_refl _⟩)
  clear HD6 HX6 HA6 HB6 HW6
  go_wp2_with fail
  go_loopw [37, 7, 8, 9, 10, 66, 67, 68] (fun i _ _ _ _ _ _ _ wr => ∃ k : Nat, k ≤ k0 ∧ i = .int .i64 k ∧ Hid (RsRel w wr P p K G g ta tc k0 ep tb (.slice ra k0 cap) f (k * 123))) (fun i _ _ _ _ _ _ _ _ => k0 - (intOf i).toNat)
  case atStart => exact ⟨0, by omega, rfl, HR6⟩
  case round =>
    obtain ⟨k, hk, rfl, HR⟩ := hrel
    by_cases hlt : k < k0
    · obtain ⟨bv, vcap, rb, rc, hv, hvc, hbv, hbl, hbx, hsf⟩ := tabs_at HTR.out HR.out.st hlo.1 hlo.2.1 k hlt
      obtain ⟨rfl, rfl⟩ : v = some ⟨bv, 0, none⟩ ∧ vc = vcap := by simpa using hv
      have f0 := hbx.f0
      have f1 := hbx.f1
      have f2 := hbx.f2
      have f3 := hbx.f3
      have f4 := hbx.f4
      have HSF := Lib.hid hsf
      clear hv hbx hsf
      have j0 : (0 : Int) ≤ (k : Int) := by omega
      have j1 : (k : Int) < (k0 : Int) := by omega
      have j2 : (k : Int) ≤ 122 := by omega
      go_upto_region 7 with (fail)
      have hx4 := box_new wr 84 (k : Int) (ep : Int) 4 (.slice rb 123 rc)
      have hb4 := Sm.alX wr (.cells #[.int .u8 84, .int .u32 (k : Int), .int .u64 (ep : Int), .int .i64 4, .slice rb 123 rc] 47)
      have HR4 := Lib.hid (HR.out.below hb4)
      have HSF4 := Lib.hid (HSF.out.below hb4 (fun _ _ q => q))
      have HX4 := Lib.hid hx4
      clear f0 f1 f2 f3 f4 hb4 hx4 HSF
      generalize wr.alloc _ = w4 at HR4 HSF4 HX4 ⊢
      generalize wr.heap.size = g2 at HX4 ⊢
      have x0 := HX4.out.f0
      have x1 := HX4.out.f1
      have x2 := HX4.out.f2
      have x3 := HX4.out.f3
      have x4 := HX4.out.f4
      have y2 := HR4.out.bx.f2
      go_upto_region 9 with (go_at_call 74; refine (isList_any _ _ _ _ _ _ _ _ _).mono ?_; rintro e w5 ⟨he, hb⟩; obtain rfl : e = .returned (.bool true) := he; have HR5 := Lib.hid (HR4.out.below hb); have HSF5 := Lib.hid (HSF4.out.below hb (fun _ _ q => q)); have HX5 := Lib.hid (HX4.out.same (hb.block _ HX4.out.lt)); clear hb; have z0 := HX5.out.f0; have z1 := HX5.out.f1; have z2 := HX5.out.f2; have z3 := HX5.out.f3; have z4 := HX5.out.f4; have y2' := HR5.out.bx.f2)
      clear x0 x1 x2 x3 x4 y2 y2'
      go_wp2_with fail
      refine (told_any 84 (k : Int) (ep : Int) 4 rb 123 rc (tbl f k) _ (tbl_len f k) (safe_recs HSF5.out) (fun x hx => by unfold tbl at hx; obtain ⟨j, _, rfl⟩ := List.mem_map.1 hx; exact HFV.out _) (by decide)).mono ?_
      intro e' w6 hlo6
      obtain ⟨ao, ac, rfl, hxi, _, hb6, hao⟩ := low_blk hlo6
      rw [tbl_len]
      have HR6 := Lib.hid (show RsRel w w6 P p K G g ta tc k0 ep tb (.slice ra k0 cap) f (k * 123 + 0) from HR5.out.below hb6)
      have HX6 := Lib.hid hxi
      have HA6 := Lib.hid (show ∀ b o, ao = some ⟨b, o, none⟩ → b ≠ K from fun b o e q => by have := (hao b o e).1; have := HR5.out.st.size; omega)
      clear hlo6 hxi hb6 hao z0 z1 z2 z3 z4
      have HE0 := Lib.hid (show k * 123 + 123 = (k + 1) * 123 by omega)
      go_wp2
      go_loopw [68, 9, 10] (fun i _ _ wq => ∃ j : Nat, j ≤ 123 ∧ i = .int .i64 j ∧ Hid (RsRel w wq P p K G g ta tc k0 ep tb (.slice ra k0 cap) f (k * 123 + j)) ∧ Hid (Ints wq ao (zl (tbl f k)))) (fun i _ _ _ => 123 - (intOf i).toNat)
      case atStart => exact ⟨0, by omega, rfl, HR6, HX6⟩
      case round =>
        obtain ⟨j, hj, rfl, HRJ, HXJ⟩ := hrel
        have i0 : (0 : Int) ≤ (j : Int) := by omega
        by_cases hlj : j < 123
        · have i1 : (j : Int) < 123 := by omega
          obtain ⟨b, off, rfl, hc⟩ := HXJ.out j (by rw [zl_len, tbl_len]; exact hlj)
          rw [show (zl (tbl f k))[j]'(by rw [zl_len, tbl_len]; exact hlj) = ((f (k * 123 + j) : Nat) : Int) by simp [zl, tbl]] at hc
          have d1 := HRJ.out.hd.c1
          have HK2 := Lib.hid (keyM k j (by omega))
          have HVW := Lib.hid (HFV.out (k * 123 + j))
          by_cases h0 : f (k * 123 + j) = 0
          · have HRN := Lib.hid (HRJ.out.same h0)
            rw [h0] at hc
            clear h0
            go_wp2
            go_roundw
            case rel => exact ⟨j + 1, by omega, by go_num, HRN, HXJ⟩
            case measure => simp [intOf]; omega
          · obtain ⟨nK, D, hown, hmf, hnk⟩ := HRJ.out.mp
            have HMP := Lib.hid hown
            have HMF := Lib.hid hmf
            have HNK := Lib.hid hnk
            have H0 := Lib.hid h0
            have hz : ((f (k * 123 + j) : Nat) : Int) ≠ 0 := by omega
            have hz2 : ((((f (k * 123 + j) : Nat) : Int)) == 0) = false := by simpa using h0
            generalize hfx : f (k * 123 + j) = s at hc HVW H0 hz hz2
            have HFX := Lib.hid hfx
            clear hown hmf hnk h0 hfx
            go_wp2_with (at_mapUpdate; refine wpList_mapUpdate_in _ rfl _ _ _ 100 rfl 3 3 klaw Tryz.underlying100 _ K nK D rfl HMP.out (by have := HNK.out; unfold maxLen; omega) _ _ _ rfl rfl HK2.out _ [] (plainElem_int Tryz.underlying3 (WalkArith.wf_i64 (n := (s : Int)) (by have := HVW.out; omega))) ?_; intro w7 hown7 hturn7; have HT7 := Lib.hid hturn7; have HO7 := Lib.hid hown7; clear hown7 hturn7)
            go_roundw
            case rel =>
              have hbn : k * 123 + j < 15006 := by omega
              refine ⟨j + 1, by omega, by go_num, Lib.hid (HRJ.out.turn HT7.out ne.1 hKw (by have := HGW.out; omega) (k * 123 + (j + 1)) ⟨nK + 1, _, HO7.out, ?_, by have := HNK.out; omega⟩), Lib.hid (ints_same HXJ.out (fun b' o' e => (turned_wrt HT7.out).block b' (fun q => HA6.out b' o' e q)))⟩
              have hfill := mpf_fill HMF.out hbn (by rw [HFX.out]; exact H0.out) (by rw [HFX.out]; exact HVW.out)
              rw [HFX.out] at hfill
              exact hfill
            case measure => simp [intOf]; omega
        · obtain rfl : j = 123 := by omega
          rw [HE0.out] at HRJ
          go_wp2
          go_roundw
          case rel => exact ⟨k + 1, by omega, by go_num, HRJ⟩
          case measure => simp [intOf]; omega
    · obtain rfl : k = k0 := by omega
      obtain ⟨nK, DK, hown, hmf, hnk⟩ := HR.out.mp
      rw [fT_all HIT.out] at hmf
      have HSP := Lib.hid (HIN.out.2.same (HR.out.st.block G HIN.out.2.ltG (fun q => by rcases q with q | q; exact ne.2.1 q.symm; exact ne.2.2.2.1 q.symm)) (HR.out.st.block T HIN.out.2.ltT (fun q => by rcases q with q | q; exact ne.2.2.1 q.symm; exact ne.2.2.2.2 q.symm)))
      have hwP := HPL.out
      have hww := HR.out.st.size
      have hGw := HIN.out.2.ltG
      have hTw := HIN.out.2.ltT
      have HSE := Lib.hid (settle_any wr P p K G T n nK DK ta k tc none 0 (ep : Int) false tb f S0 HR.out.hd HK.out HR.out.ti (fun b o e => by have := (HR.out.tn b o e).1; omega) hown hmf HSP.out HSN.out HSK.out ne (by omega))
      have HMK := Lib.hid hown
      have HMF := Lib.hid hmf
      have HNK := Lib.hid hnk
      clear hown hmf hnk
      go_wp2_with (first | (go_at_call 38; refine HSE.out.mono ?_; rintro e w6 ⟨rfl, S, hse⟩; have HSS := Lib.hid hse; clear hse; have d1 := HSS.out.hd.c1) | (go_at_call 91; refine (tablesFor_any K nK f DK w6 (owns_same HMK.out (HSS.out.st.block K HMK.out.lt (fun q => by rcases q with q | q | q; exact ne.1 q.symm; exact ne.2.2.2.1 q; exact ne.2.2.2.2 q))) HMF.out).mono ?_; rintro e w7 ⟨c, rfl, hc, hb7⟩; obtain rfl := HIT.out.one hc; have HB7 := Lib.hid hb7; clear hb7 hc))
      go_ret
      have hb7 := HB7.out
      have l6 := HSS.out.st.size
      have hKw6 : w6.heap[K]? = wr.heap[K]? := HSS.out.st.block K HMK.out.lt (fun q => by rcases q with q | q | q; exact ne.1 q.symm; exact ne.2.2.2.1 q; exact ne.2.2.2.2 q)
      have htn := HR.out.tn
      have hti6 : Ints w6 ta (zl tb) := ints_same HR.out.ti (fun b o e => HSS.out.st.block b (htn b o e).2 (fun q => by have := (htn b o e).1; rcases q with q | q | q <;> omega))
      refine ⟨rfl, wr.heap.size, ta, tc, nK, DK, S, HSS.out.hd.same (hb7.block _ (World.block_lt_of_cell? w6 _ HSS.out.hd.c0)), (owns_same (owns_same HMK.out hKw6) (hb7.block _ (Nat.lt_of_lt_of_le HMK.out.lt l6))), HMF.out, by have := HNK.out; omega, owns_same HSS.out.vm (hb7.block _ HSS.out.vm.lt), ints_same hti6 (fun b o e => hb7.block b (Nat.lt_of_lt_of_le (htn b o e).2 l6)), fun b o e => ⟨(htn b o e).1, by have := (htn b o e).2; have := hb7.size; omega, by have := (htn b o e).2; omega⟩, hww, HSS.out.sp.below hb7, HSS.out.tk, ?_⟩
      exact ((Stp.wide HR.out.st (fun b q => by rcases q with q | q; exact .inl q; exact .inr (.inl q)) (fun b q => .inl q)).trans (Stp.wide HSS.out.st (fun b q => by rcases q with q | q | q; exact .inl q; exact .inr (.inr (.inl q)); exact .inr (.inr (.inr q))) (fun b q => .inl q))).trans (.of_below hb7)
end Go.Proofs.YtlfkkakohldgnaaGreatDoor.Sh
namespace Go.Proofs.YtlfkkakohldgnaaGreatDoor.Sh
open Go.RowKit Go.Maps

/-- what a disk must have, so that it is opened: a root that counts, and its tables -/
structure OpenOk (n : Nat) (ct : Nat → ByteArray) (root ep : Nat) (tb : List Nat) (kp : Nat → Nat) : Prop where
  st : ∃ st : Nat → Option (Nat × List Nat), (∀ r, r < 2 → Rt ct r (st r)) ∧ best st 2 = some (root, ep, tb)
  r2 : root < 2
  e1 : ep < 4611686018427387904
  sk : Secs n tb kp
  it : IsTbl kp tb.length
  b : ∀ k, kp k ≠ 0 → k < 15006
  tt : ∀ i (h : i < tb.length), ct tb[i] = bt (pg4 84 (i : Int) (ep : Int) (tbl kp i))
theorem OpenOk.l122 {n : Nat} {ct : Nat → ByteArray} {root ep : Nat} {tb : List Nat} {kp : Nat → Nat} (h : OpenOk n ct root ep tb kp) : tb.length ≤ 122 := by
  rcases h.it.2 with e | ⟨k, hk, e⟩
  · omega
  · have := h.b k hk; omega
theorem Inv.openOk {σ : Sd} {Q : Nat → Prop} {pk pn : Nat → Sm.Pg} (h : Inv σ Q pk pn) (hb : ∀ k, σ.kp k ≠ 0 → k < 15006) {ct : Nat → ByteArray} (hct : ∀ q, q < 2 ∨ q ∈ σ.tb → ct q = σ.ct q) : OpenOk σ.n ct σ.root σ.ep σ.tb σ.kp := by
  obtain ⟨st, s1, s2, s3⟩ := h.st
  exact ⟨⟨st, fun r hr => rt_ne (s1 r hr) (hct r (.inl hr)), s3⟩, h.r2, h.e1, h.sk, h.it, hb, fun i hi => by rw [hct _ (.inr (List.getElem_mem hi))]; exact h.tt i hi⟩
def Newest5 (W : World) (N : Nat) (w : World) (p D : Nat) (ct : Nat → ByteArray) (Q : Nat → Prop) (n m : Nat) (H : Nat → Prop) (root ep : Nat) (tb : List Nat) (e : Ending) (w' : World) : Prop :=
  ∃ ra cap H1 B C, e = .returned (.tuple #[.agg #[.int .u8 82, .int .u32 0, .int .u64 (ep : Int), .int .i64 4, .slice ra tb.length cap], .int .i64 (root : Int), .bool true]) ∧ OwnIn B C w' (.slice ra tb.length cap) tb.length (tb.map rec4) ∧ w.heap.size < B ∧ C ≤ w'.heap.size ∧ (∀ k, H1 k → k < B ∨ C ≤ k) ∧ PS W N w' p D ct Q n m H1 ∧ Stp w H w' H1
theorem newest5 {W w : World} {N p D n m : Nat} {ct : Nat → ByteArray} {Q H : Nat → Prop} (P : Nat) (h : PS W N w p D ct Q n m H) (c0 : w.cell? ⟨P, 0, none⟩ = some (.pointer (some ⟨p, 0, none⟩))) (hPH : ¬ H P) (h2 : 2 ≤ n) {root ep : Nat} {tb : List Nat} {kp : Nat → Nat} (ho : OpenOk n ct root ep tb kp) (hN : N + 6 < 2305843009213693952) :
    Calls Tryz.prog 35 #[.pointer (some ⟨P, 0, none⟩)] w (Newest5 W (N + 4) w p D ct Q n m H root ep tb) := by
  obtain ⟨st, s1, s2⟩ := ho.st
  refine (newest_any P h c0 hPH h2 st s1 hN).mono ?_
  rintro e w' ⟨ra, cap, H1, B, C, rfl, hr, hB, hC, hdj, hps, hst⟩
  have hl : (bpg (some (root, ep, tb))).recs.length = tb.length := by simp [bpg, pg4]
  rw [s2] at hr ⊢
  rw [hl] at hr ⊢
  exact ⟨ra, cap, H1, B, C, rfl, hr, hB, hC, hdj, hps, hst⟩
theorem ownRecs_at {B : Nat} {w : World} {ra : Option Addr} {n cap : Nat} {rs : List (List Int)} (h : Sm.OwnRecs B w (.slice ra n cap) n rs) : Sm.Recs w ra rs := by
  obtain ⟨a, c, e, hr, _⟩ := h.recs
  obtain ⟨rfl, _⟩ : ra = a ∧ cap = c := by simpa using e
  exact hr
theorem tabs_slice {w : World} {base : Nat} {H : Nat → Prop} {v : Value} {e : Nat} {f : Nat → Nat} {k : Nat} (h : TabsR w base H v e f k) : ∃ va vc, v = .slice va k vc := by
  obtain ⟨g, h1, _⟩ := h
  exact Sm.own_slice h1
def OpenE (W : World) (N : Nat) (w : World) (D n m : Nat) (Hd : Nat → Prop) (ct : Nat → ByteArray) (root ep : Nat) (tb : List Nat) (kp : Nat → Nat) (e : Ending) (w' : World) : Prop :=
  ∃ σ : Sd, e = .returned (.tuple #[.pointer (some ⟨σ.P, 0, none⟩), .nilIface]) ∧ Sh W N w' σ (fun _ => True) ∧ (σ.D = D ∧ σ.n = n ∧ σ.m = m ∧ σ.tb = tb ∧ σ.kp = kp ∧ σ.nw = kp ∧ σ.root = root ∧ σ.ep = ep ∧ σ.fl = false ∧ σ.ct = ct) ∧ Tk n tb kp σ.S ∧ Stp w Hd w' σ.all ∧ w.heap.size ≤ σ.P
set_option maxRecDepth 100000 in
set_option maxHeartbeats 4000000 in
theorem open_any {W w : World} {D n N : Nat} {ct : Nat → ByteArray} {Hd : Nat → Prop} (m : Nat) (h : DkS W w D n ct N Hd) (hHd : ∀ k, Hd k → k < w.heap.size) (h4 : 4 ≤ n) (hn : n ≤ 16384) (h1 : 1 ≤ m) (h2 : m ≤ 1024) {root ep : Nat} {tb : List Nat} {kp : Nat → Nat} (ho : OpenOk n ct root ep tb kp) (hN : N + 10000 < 2305843009213693952) :
    Calls Tryz.prog 17 #[.pointer (some ⟨D, 0, none⟩), .int .i64 (m : Int)] w (OpenE W (N + 20000) w D n m Hd ct root ep tb kp) := by
  have HD := Lib.hid h
  have HHD := Lib.hid hHd
  have HO := Lib.hid ho
  have h122 := ho.l122
  have he := ho.e1
  have HWW := Lib.hid (show W.heap.size ≤ w.heap.size by obtain ⟨d, hd, _⟩ := h; exact hd.b.size)
  clear h hHd ho
  go_enter Tryz.func17, Tryz.ntmps17
  go_wp2_with fail
  refine (on_any m HD.out HHD.out h4 hn h1 h2).mono ?_
  rintro e w1 ⟨P, p, K, G, T, H, rfl, hon⟩
  have HON := Lib.hid hon
  clear hon
  go_wp2_with fail
  refine (newest5 P HON.out.ps HON.out.hd.c0 HON.out.nh.1 (by omega) HO.out (by omega)).mono ?_
  rintro e w2 ⟨ra, cap, H2, B, C, rfl, hr, hB, hC, hdj, hps, hst⟩
  obtain ⟨k0, hk0⟩ : ∃ k0, k0 = tb.length := ⟨_, rfl⟩
  rw [← hk0] at hr h122 ⊢
  have HK0 := Lib.hid hk0
  clear hk0
  have hba := Sm.alX w2 (.cells #[.int .u8 82, .int .u32 0, .int .u64 (ep : Int), .int .i64 4, .slice ra k0 cap] 47)
  have HP2 := Lib.hid (hps.below hba)
  have HT2 := Lib.hid (hst.trans (.of_below (H := H2) hba))
  have HX2 := Lib.hid (box_new w2 82 0 (ep : Int) 4 (.slice ra k0 cap))
  have HR2 := Lib.hid (hr.step fun k _ hk => hba.block k (by omega))
  have HBC := Lib.hid (And.intro hB (And.intro hC hdj))
  have HGH := Lib.hid (show ¬ H2 w2.heap.size from fun q => by have := (hps.lt _ q).2; omega)
  have HGL := Lib.hid (show w1.heap.size ≤ w2.heap.size from hst.size)
  clear hps hst hr hB hC hdj hba
  go_upto_region 7 with (fail)
  have HL3 := Lib.hid (show w2.heap.size < (w2.alloc (.cells #[.int .u8 82, .int .u32 0, .int .u64 (ep : Int), .int .i64 4, .slice ra k0 cap] 47)).heap.size by simp)
  have HC0 := Lib.hid (HT2.out.cell HON.out.hd.c0 HON.out.nh.1)
  have HPH := Lib.hid (nh_stp HT2.out (World.block_lt_of_cell? w1 _ HON.out.hd.c0) HON.out.nh.1)
  generalize w2.alloc _ = w3 at HP2 HT2 HX2 HR2 HL3 HC0 ⊢
  generalize w2.heap.size = g at HX2 HGH HGL HL3 HBC HR2 ⊢
  have x0 := HX2.out.f0
  have x1 := HX2.out.f1
  have x2 := HX2.out.f2
  have x3 := HX2.out.f3
  have x4 := HX2.out.f4
  go_wp2_with fail
  refine (tablesOf_any P HP2.out HC0.out HPH.out 82 0 (ep : Int) 4 ra k0 cap tb HK0.out.symm (ownRecs_at HR2.out.now) h122 (fun x hx => (HO.out.sk.tl x hx).2) hn ep he kp HO.out.tt (by omega)).mono ?_
  rintro e w4 ⟨v, H4, base, rfl, hps, hst, hba, htr⟩
  have HP4 := Lib.hid hps
  have HT4 := Lib.hid hst
  have HBA := Lib.hid hba
  have HTR := Lib.hid htr
  have HX4 := Lib.hid (HX2.out.same (hst.block g HL3.out HGH.out))
  have HR4 := Lib.hid (HR2.out.step fun j a b => hst.block j (by have := HBC.out.2.1; have := HL3.out; omega) (fun q => by have := HBC.out.2.2 j q; omega))
  have HTT := Lib.hid (HT2.out.trans hst)
  clear hps hst hba htr x0 x1 x2 x3 x4
  have x0 := HX4.out.f0
  have x1 := HX4.out.f1
  have x2 := HX4.out.f2
  have x3 := HX4.out.f3
  have x4 := HX4.out.f4
  obtain ⟨va, vc, rfl⟩ := tabs_slice HTR.out
  have hPl : P < w1.heap.size := World.block_lt_of_cell? w1 _ HON.out.hd.c0
  have hKl := HON.out.km.lt
  have hGl := HON.out.sp.ltG
  have hTl := HON.out.sp.ltT
  obtain ⟨nh1, nh2, nh3, nh4⟩ := HON.out.nh
  have hd4 := HON.out.hd.same (HTT.out.block P hPl nh1)
  have km4 := owns_same HON.out.km (HTT.out.block K hKl nh2)
  have sp4 := HON.out.sp.same (HTT.out.block G hGl nh3) (HTT.out.block T hTl nh4)
  have hbl : P < base ∧ K < base ∧ G < base ∧ T < base := by have := HBA.out; have := HGL.out; have := HL3.out; omega
  have HRS := Lib.hid (restore_any (n := n) P K G T (Spc.clear n) hd4 km4 sp4 rfl HON.out.ne base hbl ep he ra k0 cap tb HK0.out.symm (ownRecs_at HR4.out.now) h122 (fun x hx => by have := (HO.out.sk.tl x hx).2; omega) kp va vc HTR.out (by rw [HK0.out]; exact HO.out.it) HO.out.sk hn)
  clear hd4 km4 sp4 hbl hPl hKl hGl hTl nh1 nh2 nh3 nh4
  go_upto_region 12 with (go_at_call 49; refine HRS.out.mono ?_; rintro e w5 ⟨rfl, V, ta, tc, nK, DK, S, hd5, km5, kf5, hnk, vm5, ti5, hta, hV, sp5, tk5, st5⟩; have HD5 := Lib.hid hd5; have H5 := Lib.hid (And.intro km5 (And.intro kf5 (And.intro hnk (And.intro vm5 (And.intro ti5 (And.intro hta (And.intro hV (And.intro sp5 (And.intro tk5 st5))))))))); clear hd5 km5 kf5 hnk vm5 ti5 hta hV sp5 tk5 st5)
  clear x0 x1 x2 x3 x4
  have c4 := HD5.out.c4
  have f4 := HD5.out.fz 4
  go_wp2
  go_ret2
  obtain ⟨km5, kf5, hnk, vm5, ti5, hta, hV, sp5, tk5, st5⟩ := H5.out
  obtain rfl : k0 = tb.length := HK0.out
  have hso := (on_stp HON.out).trans HTT.out
  obtain ⟨lo1, lo2, lo3, lo4⟩ := HON.out.lo
  obtain ⟨ne1, ne2, ne3, ne4, ne5⟩ := HON.out.ne
  obtain ⟨nh1, nh2, nh3, nh4⟩ := HON.out.nh
  have hPl : P < w1.heap.size := World.block_lt_of_cell? w1 _ HON.out.hd.c0
  have hKl := HON.out.km.lt
  have hGl := HON.out.sp.ltG
  have hTl := HON.out.sp.ltT
  have l14 := HTT.out.size
  have lw1 := HON.out.b.size
  have l45 := st5.size
  have hWw := HWW.out
  have q1 := nh_stp HTT.out hPl nh1
  have q2 := nh_stp HTT.out hKl nh2
  have q3 := nh_stp HTT.out hGl nh3
  have q4 := nh_stp HTT.out hTl nh4
  have hlt4 := fun b (q : H4 b) => (HP4.out.lt b q).2
  have hVl := vm5.lt
  have hps5 : PS W (N + 20000) w5 p D ct (fun _ => True) n m H4 := (HP4.out.mono (M := N + 20000) (by omega)).stp st5 (fun b hb q => by rcases q with q | q | q | q; exact q1 (q ▸ hb); exact q2 (q ▸ hb); exact q3 (q ▸ hb); exact q4 (q ▸ hb)) (fun b q => by rcases q with q | q | q | q <;> omega)
  have hw6 : Wrt (isB P) w5 (w5.setCell ⟨P, 4, none⟩ (.int .i64 (root : Int))) := (Wrt.refl (isB P) w5).set (show isB P P from rfl) 4 _
  have hps6 := hps5.other q1 (by omega) 4 (.int .i64 (root : Int))
  have hd6 := HD5.out.set4 (root : Int)
  generalize w5.setCell ⟨P, 4, none⟩ (.int .i64 (root : Int)) = w6 at hw6 hps6 hd6
  have s6 := hw6.size
  have hVP : V ≠ P ∧ V ≠ K ∧ V ≠ G ∧ V ≠ T := by omega
  have hnV : ¬ H4 V := fun q => by have := hlt4 V q; omega
  refine ⟨{ P := P, p := p, D := D, K := K, V := V, G := G, T := T, n := n, m := m, nK := nK, nV := nK, DK := DK, DV := DK, ta := ta, tc := tc, tb := tb, kp := kp, nw := kp, root := root, ep := ep, fl := false, S := S, ct := ct, H := H4 }, rfl, ⟨hd6, owns_same km5 (hw6.block K (fun q => ne1 q.symm)), kf5, owns_same vm5 (hw6.block V hVP.1), kf5, ints_same ti5 (fun b o e => hw6.block b (fun q => by have e1 : b = P := q; have := (hta b o e).1; omega)), sp5.same (hw6.block G (fun q => ne2 q.symm)) (hw6.block T (fun q => ne3 q.symm)), hps6, ⟨HON.out.ne, hVP, ⟨q1, q2, q3, q4, hnV⟩, by simp only; omega, fun b o e => ?_⟩, ⟨by simp only; omega, by simp only; omega⟩⟩, ⟨rfl, rfl, rfl, rfl, rfl, rfl, rfl, rfl, rfl, rfl⟩, tk5, ?_, lo1⟩
  · obtain ⟨a1, a2, a3⟩ := hta b o e
    exact ⟨by simp only; omega, by simp only; omega, by simp only; omega, by simp only; omega, a3, fun q => by have := hlt4 b q; omega, by omega, by omega⟩
  · refine ⟨hw6.os.trans (st5.os.trans hso.os), hw6.tape.trans (st5.tape.trans hso.tape), hw6.output.trans (st5.output.trans hso.output), by omega, fun k hk hn => ?_, fun k q => ?_⟩
    · exact (hw6.block k (fun q => by have e1 : k = P := q; omega)).trans ((st5.block k (by omega) (fun q => by rcases q with q | q | q | q <;> omega)).trans (hso.block k hk hn))
    · rcases q with q | q | q | q | q | q
      · right; have e1 : k = P := q; omega
      · right; have e1 : k = K := q; omega
      · right; have e1 : k = V := q; omega
      · right; have e1 : k = G := q; omega
      · right; have e1 : k = T := q; omega
      · exact hso.own k q
end Go.Proofs.YtlfkkakohldgnaaGreatDoor.Sh
namespace Go.Proofs.YtlfkkakohldgnaaGreatDoor.Sh
open Go.RowKit Go.Maps

theorem cnt_split (t : Nat → Bool) : ∀ m, cntF t m + ((List.range m).filter fun i => t i).length = m
  | 0 => rfl
  | m + 1 => by
    have ih := cnt_split t m
    rw [List.range_succ, List.filter_append, List.length_append]
    unfold cntF
    cases h : t m
    · simp [h]; omega
    · simp [h]; omega
theorem nodup_len {α : Type _} {a b : List α} (ha : a.Nodup) (hb : b.Nodup) (h : ∀ x, x ∈ a ↔ x ∈ b) : a.length = b.length :=
  ((List.perm_ext_iff_of_nodup ha hb).2 h).length_eq
theorem cnt_list {t : Nat → Bool} {n : Nat} {L : List Nat} (hL : L.Nodup) (hn : ∀ i ∈ L, i < n) (ht : ∀ i, i < n → (t i = true ↔ i ∈ L)) : cntF t n + L.length = n := by
  have h := cnt_split t n
  have e : ((List.range n).filter fun i => t i).length = L.length := by
    refine nodup_len (List.nodup_range.filter _) hL fun x => ?_
    rw [List.mem_filter, List.mem_range]
    exact ⟨fun q => (ht x q.1).1 q.2, fun q => ⟨hn x q, (ht x (hn x q)).2 q⟩⟩
  omega
theorem kl_nd (f : Nat → Nat) : (kl f).Nodup := List.nodup_range.filter _
theorem kl_len {f : Nat → Nat} (hb : ∀ k, f k ≠ 0 → k < 15006) {l : List Nat} (hl : l.Nodup) (h : ∀ k, k ∈ l ↔ f k ≠ 0) : (kl f).length = l.length :=
  nodup_len (kl_nd f) hl fun k => (kl_mem hb k).trans (h k).symm
/-- the pages that were written since all was kept -/
def lateL (kp nw : Nat → Nat) : List Nat := (kl nw).filter fun k => decide (nw k ≠ kp k)
theorem free_eq {σ : Sd} {Q : Nat → Prop} {pk pn : Nat → Sm.Pg} (h : Inv σ Q pk pn) (o : σ.S.Ok) (bk : ∀ k, σ.kp k ≠ 0 → k < 15006) (bn : ∀ k, σ.nw k ≠ 0 → k < 15006) :
    σ.S.free + 2 + σ.tb.length + (kl σ.kp).length + (lateL σ.kp σ.nw).length = σ.n := by
  have mk := kl_mem bk
  have mn := kl_mem bn
  have ml : ∀ k, k ∈ lateL σ.kp σ.nw ↔ σ.nw k ≠ 0 ∧ σ.nw k ≠ σ.kp k := fun k => by
    unfold lateL
    rw [List.mem_filter, mn, decide_eq_true_eq]
  have key := cnt_list (t := σ.S.t) (n := σ.n) (L := [0, 1] ++ (σ.tb ++ ((kl σ.kp).map σ.kp ++ (lateL σ.kp σ.nw).map σ.nw))) ?_ ?_ ?_
  · rw [o.cnt, h.sn]
    simp only [List.length_append, List.length_map, List.length_cons, List.length_nil] at key
    omega
  · have n1 : ((kl σ.kp).map σ.kp).Nodup := by
      refine List.pairwise_map.2 ((kl_nd σ.kp).imp_of_mem ?_)
      intro a b ha _ hab e
      exact hab (h.sk.inj a b ((mk a).1 ha) e)
    have n2 : ((lateL σ.kp σ.nw).map σ.nw).Nodup := by
      refine List.pairwise_map.2 (((kl_nd σ.nw).filter _).imp_of_mem ?_)
      intro a b ha _ hab e
      exact hab (h.sw.inj a b ((ml a).1 ha).1 e)
    refine List.nodup_append.2 ⟨by decide, List.nodup_append.2 ⟨h.sk.nd, List.nodup_append.2 ⟨n1, n2, ?_⟩, ?_⟩, ?_⟩
    · intro a ha b hb e
      obtain ⟨j, hj, rfl⟩ := List.mem_map.1 ha
      obtain ⟨k, hk, rfl⟩ := List.mem_map.1 hb
      obtain ⟨q1, q2⟩ := (ml k).1 hk
      have := h.one k j q1 e.symm
      subst this
      exact q2 e.symm
    · intro a ha b hb e
      subst e
      rcases List.mem_append.1 hb with hb | hb
      · obtain ⟨j, hj, e⟩ := List.mem_map.1 hb
        exact h.sk.dj j ((mk j).1 hj) (e ▸ ha)
      · obtain ⟨j, hj, e⟩ := List.mem_map.1 hb
        exact h.sw.dj j ((ml j).1 hj).1 (e ▸ ha)
    · intro a ha b hb e
      subst e
      have ha2 : a < 2 := by
        rcases List.mem_cons.1 ha with q | q
        · omega
        · have := List.mem_singleton.1 q; omega
      rcases List.mem_append.1 hb with hb | hb
      · have := (h.sk.tl a hb).1; omega
      · rcases List.mem_append.1 hb with hb | hb
        · obtain ⟨j, hj, e⟩ := List.mem_map.1 hb
          have := (h.sk.fl j ((mk j).1 hj)).1; omega
        · obtain ⟨j, hj, e⟩ := List.mem_map.1 hb
          have := (h.sw.fl j ((ml j).1 hj).1).1; omega
  · intro i hi
    have := h.n4
    rcases List.mem_append.1 hi with hi | hi
    · rcases List.mem_cons.1 hi with q | q
      · omega
      · have := List.mem_singleton.1 q; omega
    · rcases List.mem_append.1 hi with hi | hi
      · exact (h.sk.tl i hi).2
      · rcases List.mem_append.1 hi with hi | hi
        · obtain ⟨j, hj, e⟩ := List.mem_map.1 hi
          have := (h.sk.fl j ((mk j).1 hj)).2; omega
        · obtain ⟨j, hj, e⟩ := List.mem_map.1 hi
          have := (h.sw.fl j ((ml j).1 hj).1).2; omega
  · intro i _
    rw [h.tk i]
    simp only [List.mem_append, List.mem_map, List.mem_cons, List.not_mem_nil, or_false]
    constructor
    · rintro (q | q | ⟨k, q1, q2⟩ | ⟨k, q1, q2⟩)
      · exact .inl (by omega)
      · exact .inr (.inl q)
      · exact .inr (.inr (.inl ⟨k, (mk k).2 q2, q1⟩))
      · by_cases e : σ.nw k = σ.kp k
        · exact .inr (.inr (.inl ⟨k, (mk k).2 (by rw [← e]; exact q2), by rw [← e]; exact q1⟩))
        · exact .inr (.inr (.inr ⟨k, (ml k).2 ⟨q2, e⟩, q1⟩))
    · rintro (q | q | ⟨k, q1, q2⟩ | ⟨k, q1, q2⟩)
      · exact .inl (by omega)
      · exact .inr (.inl q)
      · exact .inr (.inr (.inl ⟨k, q2, (mk k).1 q1⟩))
      · exact .inr (.inr (.inr ⟨k, q2, ((ml k).1 q1).1⟩))
theorem lateL_same (f : Nat → Nat) : lateL f f = [] := by
  unfold lateL
  rw [List.filter_eq_nil_iff]
  intro a _
  simp
/-- the disk of one, whatever of it is sure -/
theorem PS.disk' {W w : World} {N p D n m : Nat} {ct : Nat → ByteArray} {Q H : Nat → Prop} (h : PS W N w p D ct Q n m H) : ∃ ct' H', DkS W w D n ct' N H' ∧ (∀ q, q < n → Q q → ct' q = ct q) ∧ ∀ b, H' b → H b := by
  obtain ⟨X, h1, h2, h3, h4, h5, h6⟩ := h
  have ok := h1.ok
  obtain ⟨μ, k1, rfl, rfl, rfl, rfl, k6⟩ := h1
  exact ⟨μ.X.d.cur, μ.s.has, ⟨μ.X.d, ⟨μ.s, k1.core.d, k1.core.t, rfl, rfl, k6⟩, h4, h2.left, ok.w0, ok.wN, fun q _ => rfl⟩, fun q hq hQ => h6 q (by omega) hQ, fun b hb => .inl (.inr (.inr (.inr hb)))⟩
/-- another pool over the same disk has read it: the first one is as it was -/
theorem PS.again {W w : World} {N p D n m : Nat} {ct : Nat → ByteArray} {H : Nat → Prop} (h : PS W N w p D ct (fun _ => True) n m H) :
    ∃ Hd, DkS W w D n ct N Hd ∧ (∀ b, Hd b → H b) ∧ ∀ {w1 : World} {M p2 m2 : Nat} {H2 : Nat → Prop}, PS W M w1 p2 D ct (fun _ => True) n m2 H2 → Stp w Hd w1 H2 → N ≤ M →
      ∃ H', PS W M w1 p D ct (fun _ => True) n m H' ∧ Stp w H w1 H' := by
  obtain ⟨X, h1, h2, h3, h4, h5, h6⟩ := h
  have ok := h1.ok
  obtain ⟨μ, k1, rfl, rfl, rfl, rfl, k6⟩ := h1
  refine ⟨μ.s.has, ⟨μ.X.d, ⟨μ.s, k1.core.d, k1.core.t, rfl, rfl, k6⟩, h4, h2.left, ok.w0, ok.wN, fun q hq => h6 q (by omega) trivial⟩, fun b hb => .inl (.inr (.inr (.inr hb))), ?_⟩
  intro w1 M p2 m2 H2 hp hs hNM
  obtain ⟨Y, g1, g2, g3, g4, g5, g6⟩ := hp
  have ok2 := g1.ok
  obtain ⟨ν, l1, rfl, l3, rfl, rfl, l6⟩ := g1
  have hc := k1.core
  have hl := l1.core
  have own2 : ∀ b, ν.s.has b → μ.s.has b ∨ w.heap.size ≤ b := fun b hb => hs.own b (.inl (.inr (.inr (.inr hb))))
  have lP : μ.P < w.heap.size := World.block_lt_of_cell? w _ hc.hd.c0
  have lF := hc.row.lt
  have lM := k1.mo.lt
  have nb : ∀ b, b < w.heap.size → ¬ μ.s.has b → ¬ ν.s.has b := fun b hb hn q => by rcases own2 b q with e | e; exact hn e; omega
  have blk : ∀ b, b < w.heap.size → ¬ μ.s.has b → w1.heap[b]? = w.heap[b]? := fun b hb hn => hs.block b hb hn
  have hcur : ∀ q, q < n → ν.X.d.cur q = ct q := fun q hq => g6 q (by omega) trivial
  have hbase : ∀ k, k < μ.X.m → ∀ b off, μ.a k = some ⟨b, off, none⟩ → ¬ μ.s.has b := fun k hk b off e q => (hc.by'.b k hk b off e).2.2 (.inr (.inr (.inr q)))
  refine ⟨Mp.all { μ with s := ν.s, X := { μ.X with d := ν.X.d } }, ⟨{ μ.X with d := ν.X.d }, ⟨{ μ with s := ν.s, X := { μ.X with d := ν.X.d } }, ⟨⟨hl.d, hl.t, ⟨hc.fx.bP, hc.fx.bF, hc.fx.bM, hc.fx.PF, hc.fx.PM, hc.fx.FM, nb _ lP hc.fx.sP, nb _ lF hc.fx.sF, nb _ lM hc.fx.sM⟩, ?_, hc.row.same hs.size (blk _ lF hc.fx.sF), ?_, ?_⟩, owns_same k1.mo (blk _ lM hc.fx.sM), ⟨k1.mp.tidy, k1.mp.has, k1.mp.at', k1.mp.size⟩⟩, rfl, l3, rfl, rfl, l6⟩, ?_, h3, g4, h5, fun q hq _ => hcur q (by have hq' : q < ν.X.d.n := hq; omega)⟩, ?_⟩
  · show Head w1 μ.P ν.s.D μ.F μ.X.m μ.M μ.X.hand μ.X.loads
    rw [l3]
    exact hc.hd.same (blk _ lP hc.fx.sP)
  · refine ⟨fun k hk => lies_same (hc.by'.l k hk) fun b off e => blk b (hc.by'.b k hk b off e).2.1 (hbase k hk b off e), fun k hk b off e => ⟨(hc.by'.b k hk b off e).1, Nat.lt_of_lt_of_le (hc.by'.b k hk b off e).2.1 hs.size, fun q => ?_⟩, hc.by'.c⟩
    have hb := (hc.by'.b k hk b off e)
    rcases q with q | q | q | q
    · exact hb.2.2 (.inl q)
    · exact hb.2.2 (.inr (.inl q))
    · exact hb.2.2 (.inr (.inr (.inl q)))
    · exact nb b hb.2.1 (hbase k hk b off e) q
  · have hn : ν.X.d.n = μ.X.d.n := g4.trans h4.symm
    exact ⟨ok.m0, ok.m1, ok.cm, ok.hm, by show ν.X.d.n ≤ 16384; rw [hn]; exact ok.n1, fun k hk => by show _ ∧ _ < (ν.X.d.n : Int); rw [hn]; exact ok.sec k hk, ok.inj, ok.emp, ok.siz, fun k => Nat.le_trans (ok.hN k) hNM, ok2.w0, ok2.wN, ok.l0, by have := ok.lN; show μ.X.loads ≤ _; omega⟩
  · refine ⟨h2.t, h2.z, h2.g, fun k hk hd => ?_, fun q hq _ => hcur q (by have hq' : q < ν.X.d.n := hq; omega), g2.left⟩
    have hsec : 0 ≤ (μ.X.fr k).i ∧ (μ.X.fr k).i < (μ.X.d.n : Int) := ok.sec k hk
    simp only at hd ⊢
    show ν.X.d.cur _ = _
    rw [hcur _ (by have := h4; omega)]
    exact (h2.t k hk).symm
  · refine ⟨hs.os, hs.tape, hs.output, hs.size, fun k hk hn => hs.block k hk (fun q => hn (.inl (.inr (.inr (.inr q))))), fun k q => ?_⟩
    rcases q with (q | q | q | q) | q
    · exact .inl (.inl (.inl q))
    · exact .inl (.inl (.inr (.inl q)))
    · exact .inl (.inl (.inr (.inr (.inl q))))
    · rcases own2 k q with e | e
      · exact .inl (.inl (.inr (.inr (.inr e))))
      · exact .inr e
    · exact .inl (.inr q)
end Go.Proofs.YtlfkkakohldgnaaGreatDoor.Sh

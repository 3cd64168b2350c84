/-
  ALL KEPT: the walk of Commit. Conditions: those that each lemma names.
  ALL LET GO: the walk of Abort. Conditions: those that each lemma names.
-/
import Derived.BigRegion
import Derived.Test.YtokikeenfpligaaGreatDoorU39
namespace Go.Proofs.YtokikeenfpligaaGreatDoor.Sh
open Go.RowKit Go.Maps

theorem Hd8.set1 {w : World} {P p K G : Nat} {vo : Option Nat} {tv : Value} {root ep : Int} {fl : Bool} (h : Hd8 w P p K G vo tv root ep fl) (V : Nat) : Hd8 (w.setCell ⟨P, 1, none⟩ (.map (some V))) P p V G vo tv root ep fl :=
  ⟨set_ne h.c0 (.inr (by decide)), World.cell?_setCell_same _ _ _ h.c1, set_ne h.c2 (.inr (by decide)), set_ne h.c3 (.inr (by decide)), set_ne h.c4 (.inr (by decide)), set_ne h.c5 (.inr (by decide)), set_ne h.c6 (.inr (by decide)), set_ne h.c7 (.inr (by decide)), fun i => by rw [World.frozen?_setCell]; exact h.fz i⟩
theorem Hd8.set3 {w : World} {P p K G : Nat} {vo : Option Nat} {tv : Value} {root ep : Int} {fl : Bool} (h : Hd8 w P p K G vo tv root ep fl) (v : Value) : Hd8 (w.setCell ⟨P, 3, none⟩ v) P p K G vo v root ep fl :=
  ⟨set_ne h.c0 (.inr (by decide)), set_ne h.c1 (.inr (by decide)), set_ne h.c2 (.inr (by decide)), World.cell?_setCell_same _ _ _ h.c3, set_ne h.c4 (.inr (by decide)), set_ne h.c5 (.inr (by decide)), set_ne h.c6 (.inr (by decide)), set_ne h.c7 (.inr (by decide)), fun i => by rw [World.frozen?_setCell]; exact h.fz i⟩
theorem Hd8.set4 {w : World} {P p K G : Nat} {vo : Option Nat} {tv : Value} {root ep : Int} {fl : Bool} (h : Hd8 w P p K G vo tv root ep fl) (x : Int) : Hd8 (w.setCell ⟨P, 4, none⟩ (.int .i64 x)) P p K G vo tv x ep fl :=
  ⟨set_ne h.c0 (.inr (by decide)), set_ne h.c1 (.inr (by decide)), set_ne h.c2 (.inr (by decide)), set_ne h.c3 (.inr (by decide)), World.cell?_setCell_same _ _ _ h.c4, set_ne h.c5 (.inr (by decide)), set_ne h.c6 (.inr (by decide)), set_ne h.c7 (.inr (by decide)), fun i => by rw [World.frozen?_setCell]; exact h.fz i⟩
theorem Hd8.set5 {w : World} {P p K G : Nat} {vo : Option Nat} {tv : Value} {root ep : Int} {fl : Bool} (h : Hd8 w P p K G vo tv root ep fl) (x : Int) : Hd8 (w.setCell ⟨P, 5, none⟩ (.int .i64 x)) P p K G vo tv root x fl :=
  ⟨set_ne h.c0 (.inr (by decide)), set_ne h.c1 (.inr (by decide)), set_ne h.c2 (.inr (by decide)), set_ne h.c3 (.inr (by decide)), set_ne h.c4 (.inr (by decide)), World.cell?_setCell_same _ _ _ h.c5, set_ne h.c6 (.inr (by decide)), set_ne h.c7 (.inr (by decide)), fun i => by rw [World.frozen?_setCell]; exact h.fz i⟩
theorem low_blk {w : World} {l : List Nat} {e : Ending} {w' : World} (h : LowAt w l e w') : ∃ ao cap, e = .returned (.slice ao l.length cap) ∧ Ints w' ao (zl l) ∧ l.length ≤ cap ∧ Below w.heap.size w w' ∧ ∀ b o, ao = some ⟨b, o, none⟩ → w.heap.size ≤ b ∧ b < w'.heap.size := by
  obtain ⟨ao, cap, he, hx, hc, hb, ho⟩ := h
  refine ⟨ao, cap, he, hx, hc, hb, fun b o e => ?_⟩
  subst e
  exact ho.lt b rfl
/-- no room -/
theorem commit_full {W w : World} {N : Nat} {σ : Sd} {Q : Nat → Prop} {pk pn : Nat → Sm.Pg} (h : Sh W N w σ Q) (hi : Inv σ Q pk pn) (hno : ∀ c, IsTbl σ.nw c → σ.S.free < c) :
    Calls Tryz.prog 21 #[.pointer (some ⟨σ.P, 0, none⟩)] w (ErrS w 5) := by
  have HH := Lib.hid h
  have HNO := Lib.hid hno
  have c7 : w.cell? ⟨σ.P, 7, none⟩ = some (.bool false) := hi.fl ▸ h.hd.c7
  have c2 := h.hd.c2
  have l0 := World.block_lt_of_cell? w _ c2
  have HC6 := Lib.hid h.hd.c6
  clear h hi hno
  go_enter Tryz.func21, Tryz.ntmps21
  go_wp2_with (go_at_call 57; refine (check_ok σ.P _ c7).mono ?_; rintro e w' ⟨rfl, rfl⟩)
  refine (tabled_any σ.V σ.nV σ.nw σ.DV _ HH.out.vm HH.out.vf).mono ?_
  rintro e w1 ⟨B, c, rfl, hc, ht, hB, hb1⟩
  have HB1 := Lib.hid hb1
  have c6 := (hb1.cell (p := ⟨σ.P, 6, none⟩) l0).trans HC6.out
  have hfr := HNO.out c hc
  have hc2 := hc.le HH.out.vf
  have HSP := Lib.hid (HH.out.sp.below hb1)
  have hlen := lowest_len HH.out.sp.ok c
  have HLO := Lib.hid (lowest_any σ.G σ.T σ.S c w1 HSP.out (by omega))
  have hlt : ((σ.S.lowest c).length : Int) < (c : Int) := by omega
  clear ht hB hb1 hc
  go_wp2_with (go_at_call 59; refine HLO.out.mono ?_; intro e w2 hlo; obtain ⟨ao, cap, rfl, _, _, hb, _⟩ := low_blk hlo; have HB2 := Lib.hid (HB1.out.trans (hb.mono HB1.out.size)); clear hlo hb)
  go_ret
  exact ⟨rfl, HB2.out⟩
def CmOk (W : World) (N : Nat) (w : World) (σ : Sd) (pn : Nat → Sm.Pg) (c : Nat) (e : Ending) (w' : World) : Prop :=
  ∃ ao cap V' S' H', e = .returned .nilIface ∧ Sh W N w' (cmt σ (σ.S.lowest c) ao cap V' S' H') (fun _ => True) ∧ Inv (cmt σ (σ.S.lowest c) ao cap V' S' H') (fun _ => True) pn pn ∧ Frm w w' σ (cmt σ (σ.S.lowest c) ao cap V' S' H') ∧ ∀ b o, ao = some ⟨b, o, none⟩ → w.heap.size ≤ b
set_option maxRecDepth 100000 in
set_option maxHeartbeats 4000000 in
theorem commit_ok {W w : World} {N : Nat} {σ : Sd} {pk pn : Nat → Sm.Pg} (h : Sh W N w σ (Kept σ)) (hi : Inv σ (Kept σ) pk pn) (c : Nat) (hc : IsTbl σ.nw c) (hfr : c ≤ σ.S.free) (he : σ.ep + 1 < 4611686018427387904) (hN : N + 20000 < 2305843009213693952) :
    Calls Tryz.prog 21 #[.pointer (some ⟨σ.P, 0, none⟩)] w (CmOk W (N + 4000) w σ pn c) := by
  have HH := Lib.hid h
  have HI := Lib.hid hi
  have HCC := Lib.hid hc
  have hc2 := hc.le h.vf
  have hlen : (σ.S.lowest c).length = c := by rw [lowest_len h.sp.ok c]; omega
  have c7 : w.cell? ⟨σ.P, 7, none⟩ = some (.bool false) := hi.fl ▸ h.hd.c7
  have c2 := h.hd.c2
  have l0 : σ.P < w.heap.size := World.block_lt_of_cell? w _ c2
  have HC6 := Lib.hid h.hd.c6
  have r2 := hi.r2
  have hm2 := hi.m2
  clear h hi hc hfr
  go_enter Tryz.func21, Tryz.ntmps21
  go_wp2_with (go_at_call 57; refine (check_ok σ.P _ c7).mono ?_; rintro e w' ⟨rfl, rfl⟩)
  refine (tabled_any σ.V σ.nV σ.nw σ.DV _ HH.out.vm HH.out.vf).mono ?_
  rintro e w1 ⟨B, c', rfl, hc', ht, hB, hb1⟩
  obtain rfl := HCC.out.one hc'
  have HB1 := Lib.hid hb1
  have HSB := Lib.hid hb1.size
  have c6 := (hb1.cell (p := ⟨σ.P, 6, none⟩) l0).trans HC6.out
  have HT1 := Lib.hid ht
  have HBB := Lib.hid hB
  have HSP := Lib.hid (HH.out.sp.below hb1)
  have HLO := Lib.hid (lowest_any σ.G σ.T σ.S c w1 HSP.out (by omega))
  clear ht hB hb1 hc' c7 c2
  go_upto_region 8 with (go_at_call 59; refine HLO.out.mono ?_; intro e w2 hlo; obtain ⟨ao, cap, rfl, hx, hcap, hb, hao⟩ := low_blk hlo; have HB2 := Lib.hid (HB1.out.trans (hb.mono HB1.out.size)); have HB3 := Lib.hid hb.size; have HX2 := Lib.hid hx; have HAO := Lib.hid hao; have HT2 := Lib.hid (HT1.out.below hb); have HCP := Lib.hid hcap; clear hlo hb hx hao hcap)
  have HSZ := Lib.hid (show w1.heap.size ≤ w2.heap.size from HT2.out.z |> fun _ => HB3.out)
  have HS2 := Lib.hid (HH.out.below HB2.out)
  have HFR := Lib.hid (show ∀ x ∈ σ.S.lowest c, 2 ≤ x ∧ x < σ.n ∧ ¬ Kept σ x from fun x hx => by
    obtain ⟨a1, a2, a3, a4, _⟩ := sec_free HI.out.sn HI.out.tk hx
    exact ⟨a1, a2, fun q => by rcases q with q | q | ⟨j, q1, q2⟩; omega; exact a3 q; exact a4 j q1 q2⟩)
  have HKP := Lib.hid (keep_any σ.P HS2.out.ps HS2.out.hd.c0 σ.root σ.ep HS2.out.hd.c4 HS2.out.hd.c5 HS2.out.se.nh.1 r2 HI.out.e1 B c σ.nw σ.DV HH.out.vf HT2.out (fun b q => by have := (HH.out.ps.lt b q).2; have := HBB.out; omega) (σ.S.lowest c) ao cap hlen hc2 HX2.out (fun b o e q => by have := (HH.out.ps.lt b q).2; have := (HAO.out b o e).1; have := HSB.out; omega) HFR.out HI.out.n4 HI.out.n1 (by omega) hm2)
  clear c6
  go_wp2_with fail
  refine HKP.out.mono ?_
  rintro e w3 ⟨rfl, H', hps, hst⟩
  have HS3 := Lib.hid (HS2.out.pool hps hst (by omega))
  have HF3 := Lib.hid (frm_trans (frm_below HB2.out) (frm_pool (σ := σ) (ct' := updT (ctK σ.ct σ.nw ((σ.ep : Int) + 1) (σ.S.lowest c) c) (1 - σ.root) (bt (pg4 82 0 ((σ.ep : Int) + 1) (σ.S.lowest c)))) hst))
  have HNA := Lib.hid (show ∀ b o, ao = some ⟨b, o, none⟩ → b < w3.heap.size ∧ ¬ H' b from fun b o e => ⟨by have := (HAO.out b o e).2; have := hst.size; omega, nh_stp hst (HAO.out b o e).2 (fun q => by have := (HH.out.ps.lt b q).2; have := (HAO.out b o e).1; have := HSB.out; omega)⟩)
  have HX3 := Lib.hid (ints_stp HX2.out hst (fun b o e q => by have := (HH.out.ps.lt b q).2; have := (HAO.out b o e).1; have := HSB.out; omega))
  clear hps hst HKP
  have c1 := HS3.out.hd.c1
  have c2 := HS3.out.hd.c2
  have c3 := HS3.out.hd.c3
  have f1 := HS3.out.hd.fz 1
  have f3 := HS3.out.hd.fz 3
  go_upto_region 12 with (fail)
  have HD4 := Lib.hid ((HS3.out.hd.set1 σ.V).set3 (.slice ao c cap))
  have HW4 := Lib.hid (((Wrt.refl (isB σ.P) w3).set (show isB σ.P σ.P from rfl) 1 (.map (some σ.V))).set (show isB σ.P σ.P from rfl) 3 (.slice ao c cap))
  clear c1 c2 c3 f1 f3
  generalize World.setCell (World.setCell _ _ _) _ _ = w4 at HD4 HW4 ⊢
  have c4 := HD4.out.c4
  have c5 := HD4.out.c5
  have f4 := HD4.out.fz 4
  have f5 := HD4.out.fz 5
  change w4.cell? ⟨σ.P, 4, none⟩ = some (.int .i64 (σ.root : Int)) at c4
  change w4.cell? ⟨σ.P, 5, none⟩ = some (.int .i64 (σ.ep : Int)) at c5
  change w4.frozen? ⟨σ.P, 4, none⟩ = false at f4
  change w4.frozen? ⟨σ.P, 5, none⟩ = false at f5
  have hw1 : wrap64 ((σ.ep : Int) + 1) = (σ.ep : Int) + 1 := IntWalk.wrap64_in _ ⟨by omega, by omega⟩
  have hw2 : IntKind.i64.wrap ((σ.ep : Int) + 1) = (σ.ep : Int) + 1 := IntWalk.i64_in _ ⟨by omega, by omega⟩
  have HD5 := Lib.hid (show Hd8 ((w4.setCell ⟨σ.P, 4, none⟩ (.int .i64 ((1 - σ.root : Nat) : Int))).setCell ⟨σ.P, 5, none⟩ (.int .i64 ((σ.ep : Int) + 1))).drew σ.P σ.p σ.V σ.G (some σ.V) (.slice ao c cap) ((1 - σ.root : Nat) : Int) ((σ.ep : Int) + 1) σ.fl from ((HD4.out.set4 _).set5 _).same rfl)
  have HW5 := Lib.hid (((Wrt.refl (isB σ.P) w4).set (show isB σ.P σ.P from rfl) 4 (.int .i64 ((1 - σ.root : Nat) : Int))).set (show isB σ.P σ.P from rfl) 5 (.int .i64 ((σ.ep : Int) + 1))).drew
  go_cut [] (fun wx => Hid (Hd8 wx σ.P σ.p σ.V σ.G (some σ.V) (.slice ao c cap) ((1 - σ.root : Nat) : Int) ((σ.ep : Int) + 1) σ.fl) ∧ Hid (Wrt (isB σ.P) w4 wx))
  case first =>
    go_region_with (go_at_call 36; refine (other_any σ.root r2 _).mono ?_; rintro e w' ⟨rfl, rfl⟩)
    all_goals go_wp2
    all_goals go_meet
    all_goals exact ⟨HD5, HW5⟩
  obtain ⟨HD6, HW6⟩ := hcut
  clear c4 c5 f4 f5 hw1 hw2 HD5 HW5
  have hse := HH.out.se
  obtain ⟨e1, e2, e3, e4, e5⟩ := hse.ne
  obtain ⟨v1, v2, v3, v4⟩ := hse.nv
  have hbk : ∀ b, b ≠ σ.P → wc.heap[b]? = w3.heap[b]? := fun b hb => (HW6.out.block b hb).trans (HW4.out.block b hb)
  have hs3 : wc.heap.size = w3.heap.size := HW6.out.size.trans HW4.out.size
  have HBK := Lib.hid hbk
  have HS63 := Lib.hid hs3
  have HX6 := Lib.hid (ints_same HX3.out (w' := wc) (fun b o e => hbk b (fun q => by have := (HAO.out b o e).1; have := HSB.out; omega)))
  have HVM := Lib.hid (owns_same HS3.out.vm (hbk σ.V v1))
  have HSE := Lib.hid (settle_any wc σ.P σ.p σ.V σ.G σ.T σ.n σ.nV σ.DV ao c cap (some σ.V) ((1 - σ.root : Nat) : Int) ((σ.ep : Int) + 1) σ.fl (σ.S.lowest c) σ.nw σ.S HD6.out hlen HX6.out (fun b o e => by have := (HAO.out b o e).1; have := HSB.out; have := HH.out.sp.ltG; have := HH.out.sp.ltT; omega) HVM.out HH.out.vf (HS3.out.sp.same (hbk σ.G e2.symm) (hbk σ.T e3.symm)) HI.out.sn (secs_new HI.out c) ⟨v1.symm, e2, e3, v3, v4⟩ (by omega))
  clear hbk hs3
  go_wp2_with (go_at_call 38; refine HSE.out.mono ?_; rintro e w6 ⟨rfl, S', hss⟩; have HSS := Lib.hid hss; clear hss)
  go_ret
  have hst := HSS.out.st
  have hsz6 := hst.size
  have h63 := HS63.out
  have hVn : ∀ b, b < w3.heap.size → b ≠ σ.P → b ≠ σ.G → b ≠ σ.T → w6.heap[b]? = w3.heap[b]? := fun b hb n1 n2 n3 => (hst.block b (by omega) (fun q => by rcases q with q | q | q; exact n1 q; exact n2 q; exact n3 q)).trans (HBK.out b n1)
  obtain ⟨h1, h2, h3, h4, h5⟩ := HS3.out.se.nh
  have hlt3 := HS3.out.ps.lt
  have hVl := HS3.out.vm.lt
  have hSW := HI.out.sw
  have hlo := HS3.out.se.lo
  have hGl := HS3.out.sp.ltG
  have hTl := HS3.out.sp.ltT
  have hPl : σ.P < w3.heap.size := World.block_lt_of_cell? w3 _ HS3.out.hd.c0
  have ce : ((σ.ep + 1 : Nat) : Int) = (σ.ep : Int) + 1 := by omega
  have hta : ∀ b o, ao = some ⟨b, o, none⟩ → b ≠ σ.P ∧ b ≠ σ.V ∧ b ≠ σ.G ∧ b ≠ σ.T ∧ b < w3.heap.size ∧ ¬ H' b ∧ W.heap.size ≤ b := fun b o e => by
    have q1 := (HAO.out b o e).1
    have q2 := HSB.out
    have q3 := HH.out.sp.ltG
    have q4 := HH.out.sp.ltT
    have q5 := HH.out.vm.lt
    have q6 := HH.out.ps.b.size
    have q7 := HNA.out b o e
    exact ⟨by omega, by omega, by omega, by omega, q7.1, q7.2, by omega⟩
  refine ⟨ao, cap, wc.heap.size, S', H', rfl, ⟨?_, ?_, HH.out.vf, HSS.out.vm, HH.out.vf, ?_, HSS.out.sp, ?_, ⟨⟨v1.symm, e2, e3, v3, v4⟩, ?_, ?_, ?_, ?_⟩, ?_⟩, HI.out.commit hlen HCC.out hc2 he ao cap wc.heap.size S' H' HSS.out.tk, ?_, fun b o e => by have := (HAO.out b o e).1; have := HSB.out; omega⟩
  · show Hd8 w6 σ.P σ.p σ.V σ.G (some wc.heap.size) (.slice ao (σ.S.lowest c).length cap) ((1 - σ.root : Nat) : Int) ((σ.ep + 1 : Nat) : Int) σ.fl
    rw [hlen, ce]
    exact HSS.out.hd
  · exact owns_same HS3.out.vm (hVn σ.V hVl v1 v3 v4)
  · exact ints_same HX3.out (fun b o e => by obtain ⟨n1, _, n3, n4, n5, _⟩ := hta b o e; exact hVn b n5 n1 n3 n4)
  · show PS W (N + 4000) w6 σ.p σ.D (updT (ctK σ.ct σ.nw ((σ.ep : Int) + 1) (σ.S.lowest c) (σ.S.lowest c).length) (1 - σ.root) _) (fun _ => True) σ.n σ.m H'
    rw [hlen]
    have a1 := (HS3.out.ps.mono (M := N + 4000) (by have : σ.m ≤ 1024 := hm2; show N + c + σ.m + 1 + σ.m ≤ N + 4000; omega)).stp HW4.out.stp (fun b hb q => h1 (by rw [show b = σ.P from q] at hb; exact hb)) (fun b q => by rw [show b = σ.P from q]; exact hlo.1)
    have a2 := a1.stp HW6.out.stp (fun b hb q => h1 (by rw [show b = σ.P from q] at hb; exact hb)) (fun b q => by rw [show b = σ.P from q]; exact hlo.1)
    exact a2.stp hst (fun b hb q => by rcases q with q | q | q; exact h1 (q ▸ hb); exact h3 (q ▸ hb); exact h4 (q ▸ hb)) (fun b q => by rcases q with rfl | rfl | rfl; exact hlo.1; exact hlo.2.2.1; exact hlo.2.2.2.1)
  · show wc.heap.size ≠ σ.P ∧ wc.heap.size ≠ σ.V ∧ wc.heap.size ≠ σ.G ∧ wc.heap.size ≠ σ.T
    change σ.G < _ at hGl
    change σ.T < _ at hTl
    change σ.V < _ at hVl
    omega
  · exact ⟨h1, h5, h3, h4, fun q => by have := (hlt3 wc.heap.size q).2; omega⟩
  · exact ⟨hlo.1, hlo.2.2.2.2, hlo.2.2.1, hlo.2.2.2.1, by have := HS3.out.ps.b.size; show W.heap.size ≤ wc.heap.size; omega⟩
  · intro b o e
    obtain ⟨n1, n2, n3, n4, n5, n6, n7⟩ := hta b o e
    exact ⟨n1, n2, n3, n4, by show b ≠ wc.heap.size; omega, n6, n7, by omega⟩
  · exact ⟨by have := HH.out.nb.2; show σ.nV ≤ N + 4000; omega, by have := HH.out.nb.2; show σ.nV ≤ N + 4000; omega⟩
  · have F4 : Stp w3 (Sd.all { σ with ct := updT (ctK σ.ct σ.nw ((σ.ep : Int) + 1) (σ.S.lowest c) c) (1 - σ.root) (bt (pg4 82 0 ((σ.ep : Int) + 1) (σ.S.lowest c))), H := H' }) wc (Sd.all { σ with ct := updT (ctK σ.ct σ.nw ((σ.ep : Int) + 1) (σ.S.lowest c) c) (1 - σ.root) (bt (pg4 82 0 ((σ.ep : Int) + 1) (σ.S.lowest c))), H := H' }) := Stp.wide (HW4.out.stp.trans HW6.out.stp) (fun _ q => .inl q) (fun _ q => .inl q)
    refine (HF3.out.trans F4).trans ⟨hst.os, hst.tape, hst.output, hst.size, fun k hk hn => hst.block k hk (fun q => hn (by rcases q with q | q | q; exact .inl q; exact .inr (.inr (.inr (.inl q))); exact .inr (.inr (.inr (.inr (.inl q)))))), fun b q => ?_⟩
    rcases q with q | q | q | q | q | q
    · exact .inl (.inl q)
    · exact .inl (.inr (.inr (.inl q)))
    · exact .inr (by rw [show b = wc.heap.size from q]; exact Nat.le_refl _)
    · exact .inl (.inr (.inr (.inr (.inl q))))
    · exact .inl (.inr (.inr (.inr (.inr (.inl q)))))
    · exact .inl (.inr (.inr (.inr (.inr (.inr q)))))
end Go.Proofs.YtokikeenfpligaaGreatDoor.Sh
namespace Go.Proofs.YtokikeenfpligaaGreatDoor.Sh
open Go.RowKit Go.Maps

/-- behind an Abort -/
def abt (σ : Sd) (V' : Nat) (S' : Spc) : Sd := { σ with V := V', nV := σ.nK, DV := σ.DK, nw := σ.kp, S := S' }
theorem Inv.abort {σ : Sd} {Q : Nat → Prop} {pk pn : Nat → Sm.Pg} (h : Inv σ Q pk pn) (V' : Nat) (S' : Spc) (hT : Tk σ.n σ.tb σ.kp S') : Inv (abt σ V' S') Q pk pk := by
  refine ⟨h.n4, h.n1, h.m1, h.m2, hT.1, fun i => ?_, h.sk, h.sk, h.sk.inj, h.it, h.ck, h.ck, h.tt, h.r2, h.e1, h.st, h.fl, h.sq⟩
  show S'.t i = true ↔ i < 2 ∨ i ∈ σ.tb ∨ (∃ k, σ.kp k = i ∧ σ.kp k ≠ 0) ∨ (∃ k, σ.kp k = i ∧ σ.kp k ≠ 0)
  rw [hT.2 i]
  constructor
  · rintro (q | q | q)
    · exact .inl q
    · exact .inr (.inl q)
    · exact .inr (.inr (.inl q))
  · rintro (q | q | q | q)
    · exact .inl q
    · exact .inr (.inl q)
    · exact .inr (.inr q)
    · exact .inr (.inr q)
def AbOk (W : World) (N : Nat) (w : World) (σ : Sd) (Q : Nat → Prop) (pk : Nat → Sm.Pg) (e : Ending) (w' : World) : Prop :=
  ∃ V' S', e = .returned .nilIface ∧ Sh W N w' (abt σ V' S') Q ∧ Inv (abt σ V' S') Q pk pk ∧ Frm w w' σ (abt σ V' S')
theorem abort_ok {W w : World} {N : Nat} {σ : Sd} {Q : Nat → Prop} {pk pn : Nat → Sm.Pg} (h : Sh W N w σ Q) (hi : Inv σ Q pk pn) :
    Calls Tryz.prog 22 #[.pointer (some ⟨σ.P, 0, none⟩)] w (AbOk W N w σ Q pk) := by
  have HH := Lib.hid h
  have HI := Lib.hid hi
  have c7 : w.cell? ⟨σ.P, 7, none⟩ = some (.bool false) := hi.fl ▸ h.hd.c7
  have HSE := Lib.hid (settle_any w σ.P σ.p σ.K σ.G σ.T σ.n σ.nK σ.DK σ.ta σ.tb.length σ.tc (some σ.V) (σ.root : Int) (σ.ep : Int) σ.fl σ.tb σ.kp σ.S h.hd rfl h.ti (fun b o e => by obtain ⟨a1, _, a3, a4, _⟩ := h.se.ta b o e; exact ⟨a1, a3, a4⟩) h.km h.kf h.sp hi.sn hi.sk h.se.ne (by have := hi.it.le h.kf; omega))
  clear h hi
  go_enter Tryz.func22, Tryz.ntmps22
  go_wp2_with (first | (go_at_call 57; refine (check_ok σ.P _ c7).mono ?_; rintro e w' ⟨rfl, rfl⟩) | (go_at_call 38; refine HSE.out.mono ?_; rintro e w6 ⟨rfl, S', hss⟩; have HSS := Lib.hid hss; clear hss))
  go_ret
  have hst := HSS.out.st
  have hsz6 := hst.size
  obtain ⟨h1, h2, h3, h4, h5⟩ := HH.out.se.nh
  have hlo := HH.out.se.lo
  have hne := HH.out.se.ne
  have hlt := HH.out.ps.lt
  have hPl : σ.P < w.heap.size := World.block_lt_of_cell? w _ HH.out.hd.c0
  have hKl := HH.out.km.lt
  have hGl := HH.out.sp.ltG
  have hTl := HH.out.sp.ltT
  have hbk : ∀ b, b < w.heap.size → b ≠ σ.P → b ≠ σ.G → b ≠ σ.T → w6.heap[b]? = w.heap[b]? := fun b hb n1 n2 n3 => hst.block b hb (fun q => by rcases q with q | q | q; exact n1 q; exact n2 q; exact n3 q)
  refine ⟨w.heap.size, S', rfl, ⟨HSS.out.hd, owns_same HH.out.km (hbk σ.K hKl hne.1.symm hne.2.2.2.1 hne.2.2.2.2), HH.out.kf, HSS.out.vm, HH.out.kf, ?_, HSS.out.sp, ?_, ⟨hne, ?_, ?_, ?_, ?_⟩, ⟨HH.out.nb.1, HH.out.nb.1⟩⟩, HI.out.abort _ _ HSS.out.tk, ?_⟩
  · exact ints_same HH.out.ti (fun b o e => by obtain ⟨a1, _, a3, a4, _, _, _, a8⟩ := HH.out.se.ta b o e; exact hbk b a8 a1 a3 a4)
  · exact HH.out.ps.stp hst (fun b hb q => by rcases q with q | q | q; exact h1 (q ▸ hb); exact h3 (q ▸ hb); exact h4 (q ▸ hb)) (fun b q => by rcases q with rfl | rfl | rfl; exact hlo.1; exact hlo.2.2.1; exact hlo.2.2.2.1)
  · show w.heap.size ≠ σ.P ∧ w.heap.size ≠ σ.K ∧ w.heap.size ≠ σ.G ∧ w.heap.size ≠ σ.T
    omega
  · exact ⟨h1, h2, h3, h4, fun q => by have := (hlt w.heap.size q).2; omega⟩
  · exact ⟨hlo.1, hlo.2.1, hlo.2.2.1, hlo.2.2.2.1, by have := HH.out.ps.b.size; show W.heap.size ≤ w.heap.size; omega⟩
  · intro b o e
    obtain ⟨a1, a2, a3, a4, a5, a6, a7, a8⟩ := HH.out.se.ta b o e
    exact ⟨a1, a2, a3, a4, by show b ≠ w.heap.size; omega, a6, a7, by omega⟩
  · refine ⟨hst.os, hst.tape, hst.output, hst.size, fun k hk hn => hst.block k hk (fun q => hn (by rcases q with q | q | q; exact .inl q; exact .inr (.inr (.inr (.inl q))); exact .inr (.inr (.inr (.inr (.inl q)))))), fun b q => ?_⟩
    rcases q with q | q | q | q | q | q
    · exact .inl (.inl q)
    · exact .inl (.inr (.inl q))
    · exact .inr (by rw [show b = w.heap.size from q]; exact Nat.le_refl _)
    · exact .inl (.inr (.inr (.inr (.inl q))))
    · exact .inl (.inr (.inr (.inr (.inr (.inl q)))))
    · exact .inl (.inr (.inr (.inr (.inr (.inr q)))))
end Go.Proofs.YtokikeenfpligaaGreatDoor.Sh

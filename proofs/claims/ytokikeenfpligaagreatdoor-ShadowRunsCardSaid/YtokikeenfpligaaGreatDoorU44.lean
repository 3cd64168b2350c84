/-
  OPENED AGAIN, plainly; a map that is filled table by table. Conditions: those that each lemma names.
  TAKEN UP AGAIN: the walk of restore. Conditions: those that each lemma names.
-/
import Derived.BigRegion
import Derived.Test.YtokikeenfpligaaGreatDoorU43
namespace Go.Proofs.YtokikeenfpligaaGreatDoor.Sh
open Go.RowKit Go.Maps

/-- the numbers below x alone -/
def fT (f : Nat → Nat) (x : Nat) : Nat → Nat := fun k => if k < x then f k else 0
theorem fT_zero (f : Nat → Nat) : fT f 0 = fun _ => 0 := by funext k; unfold fT; rw [if_neg (by omega)]
theorem fT_step (f : Nat → Nat) (x : Nat) : fT f (x + 1) = updN (fT f x) x (f x) := by
  funext k
  unfold fT updN
  by_cases h : k = x
  · subst h; simp
  · by_cases h2 : k < x
    · simp [h, h2, show k < x + 1 by omega]
    · simp [h, h2, show ¬ k < x + 1 by omega]
theorem fT_same {f : Nat → Nat} {x : Nat} (h : f x = 0) : fT f (x + 1) = fT f x := by
  funext k
  unfold fT
  by_cases h1 : k = x
  · subst h1; simp [h]
  · by_cases h2 : k < x
    · simp [h2, show k < x + 1 by omega]
    · simp [h2, show ¬ k < x + 1 by omega]
theorem fT_all {f : Nat → Nat} {c : Nat} (h : IsTbl f c) : fT f (c * 123) = f := by
  funext k
  unfold fT
  by_cases h1 : k < c * 123
  · rw [if_pos h1]
  · rw [if_neg h1]
    by_cases h2 : f k = 0
    · exact h2.symm
    · have := h.1 k h2
      omega
theorem mpf_fill {f : Nat → Nat} {D : DataW Unit} {x : Nat} (h : MpF (fT f x) D) (hx : x < 15006) (h0 : f x ≠ 0) (hs : f x ≤ 16384) : MpF (fT f (x + 1)) (D.put (.int .i64 (x : Int)) (.lit (.int .i64 (f x : Int)))) := by
  rw [fT_step]
  exact h.put hx h0 hs
theorem tbl_get (f : Nat → Nat) (i j : Nat) (hj : j < (tbl f i).length) : (tbl f i)[j] = f (i * 123 + j) := by simp [tbl]
/-- what stays when one is opened again: another pool, other maps, the same sectors -/
theorem Inv.reopen {σ : Sd} {Q : Nat → Prop} {pk pn : Nat → Sm.Pg} (h : Inv σ Q pk pn) (σ' : Sd) (en : σ'.n = σ.n) (m1 : 1 ≤ σ'.m) (m2 : σ'.m ≤ 1024) (etb : σ'.tb = σ.tb) (ekp : σ'.kp = σ.kp) (enw : σ'.nw = σ.kp) (ert : σ'.root = σ.root) (eep : σ'.ep = σ.ep) (efl : σ'.fl = false) (ect : ∀ q, Kept σ q → σ'.ct q = σ.ct q) (hT : Tk σ'.n σ.tb σ.kp σ'.S) : Inv σ' (fun _ => True) pk pk := by
  have hk : ∀ k, σ.kp k ≠ 0 → σ'.ct (σ.kp k) = bt (pk k) ∧ PgOk (pk k) ∧ (pk k).number = k := fun k hk => by
    rw [ect _ (.inr (.inr ⟨k, hk, rfl⟩))]
    exact h.ck k hk
  refine ⟨by rw [en]; exact h.n4, by rw [en]; exact h.n1, m1, m2, hT.1, fun i => ?_, by rw [en, etb, ekp]; exact h.sk, by rw [en, etb, enw]; exact h.sk, ?_, by rw [ekp, etb]; exact h.it, by rw [ekp]; exact hk, by rw [enw]; exact hk, ?_, by rw [ert]; exact h.r2, by rw [eep]; exact h.e1, ?_, efl, ⟨fun _ _ => trivial, fun _ _ => trivial, fun _ _ => trivial⟩⟩
  · rw [hT.2 i, etb, ekp, enw]
    constructor
    · rintro (q | q | q)
      · exact .inl q
      · exact .inr (.inl q)
      · exact .inr (.inr (.inl q))
    · rintro (q | q | q | q)
      · exact .inl q
      · exact .inr (.inl q)
      · exact .inr (.inr q)
      · exact .inr (.inr q)
  · rw [enw, ekp]; exact h.sk.inj
  · intro i hi
    have hi' : i < σ.tb.length := by rw [← etb]; exact hi
    have e : σ'.tb[i] = σ.tb[i] := by simp only [etb]
    rw [e, ect _ (.inr (.inl (List.getElem_mem hi'))), eep, ekp]
    exact h.tt i hi'
  · obtain ⟨st, s1, s2, s3⟩ := h.st
    exact ⟨st, fun r hr => rt_ne (s1 r hr) (ect r (.inl hr)), by rw [ert, eep, etb]; exact s2, by rw [ert, eep, etb]; exact s3⟩
end Go.Proofs.YtokikeenfpligaaGreatDoor.Sh
namespace Go.Proofs.YtokikeenfpligaaGreatDoor.Sh
open Go.RowKit Go.Maps

theorem ep_wrap {ep : Nat} (he : ep < 4611686018427387904) : wrap64 (ep : Int) = (ep : Int) ∧ IntKind.i64.wrap (ep : Int) = (ep : Int) := ⟨IntWalk.wrap64_in _ ⟨by omega, by omega⟩, IntWalk.i64_in _ ⟨by omega, by omega⟩⟩
def pkB (P K b : Nat) : Prop := b = P ∨ b = K
/-- at the head of restore's loops: the root's box, the tables' sectors, and the map filled below x -/
structure RsRel (w wr : World) (P p K G g : Nat) (ta : Option Addr) (tc k0 ep : Nat) (tb : List Nat) (rv : Value) (f : Nat → Nat) (x : Nat) : Prop where
  st : Stp w (pkB P K) wr (pkB P K)
  hd : Hd8 wr P p K G none (.slice ta k0 tc) 0 (ep : Int) false
  bx : Box wr g 82 0 (ep : Int) 4 rv
  ti : Ints wr ta (zl tb)
  tn : ∀ b o, ta = some ⟨b, o, none⟩ → w.heap.size ≤ b ∧ b < wr.heap.size
  mp : ∃ nK D, Owns wr K nK D ∧ MpF (fT f x) D ∧ nK ≤ x
theorem RsRel.below {w wr w' : World} {P p K G g : Nat} {ta : Option Addr} {tc k0 ep : Nat} {tb : List Nat} {rv : Value} {f : Nat → Nat} {x : Nat} (h : RsRel w wr P p K G g ta tc k0 ep tb rv f x) (hb : Below wr.heap.size wr w') : RsRel w w' P p K G g ta tc k0 ep tb rv f x := by
  obtain ⟨nK, D, m1, m2, m3⟩ := h.mp
  exact ⟨h.st.trans (.of_below hb), h.hd.same (hb.block _ (World.block_lt_of_cell? wr _ h.hd.c0)), h.bx.same (hb.block _ h.bx.lt), ints_same h.ti (fun b o e => hb.block b (h.tn b o e).2), fun b o e => ⟨(h.tn b o e).1, Nat.lt_of_lt_of_le (h.tn b o e).2 hb.size⟩, nK, D, owns_same m1 (hb.block _ m1.lt), m2, m3⟩
theorem RsRel.turn {w wr w' : World} {P p K G g : Nat} {ta : Option Addr} {tc k0 ep : Nat} {tb : List Nat} {rv : Value} {f : Nat → Nat} {x : Nat} (h : RsRel w wr P p K G g ta tc k0 ep tb rv f x) (ht : wr.mapTurned w' K) (hPK : P ≠ K) (hK : K < w.heap.size) (hg : w.heap.size ≤ g) (y : Nat) (mp : ∃ nK D, Owns w' K nK D ∧ MpF (fT f y) D ∧ nK ≤ y) : RsRel w w' P p K G g ta tc k0 ep tb rv f y := by
  have hw := turned_wrt ht
  refine ⟨h.st.trans (Stp.wide hw.stp (fun b q => .inr q) (fun b q => .inl q)), h.hd.same (hw.block _ hPK), h.bx.same (hw.block _ (fun q => by have : g = K := q; omega)), ints_same h.ti (fun b o e => hw.block b (fun q => by have e1 : b = K := q; have := (h.tn b o e).1; omega)), fun b o e => ⟨(h.tn b o e).1, by rw [hw.size]; exact (h.tn b o e).2⟩, mp⟩
theorem RsRel.same {w wr : World} {P p K G g : Nat} {ta : Option Addr} {tc k0 ep : Nat} {tb : List Nat} {rv : Value} {f : Nat → Nat} {x : Nat} (h : RsRel w wr P p K G g ta tc k0 ep tb rv f x) (h0 : f x = 0) : RsRel w wr P p K G g ta tc k0 ep tb rv f (x + 1) := by
  obtain ⟨nK, D, m1, m2, m3⟩ := h.mp
  exact ⟨h.st, h.hd, h.bx, h.ti, h.tn, nK, D, m1, by rw [fT_same h0]; exact m2, by omega⟩
/-- a table's page, wherever restore's loops are -/
theorem tabs_at {w wr : World} {P K base : Nat} {H : Nat → Prop} {v : Value} {e : Nat} {f : Nat → Nat} {k : Nat} (h : TabsR w base H v e f k) (s : Stp w (pkB P K) wr (pkB P K)) (hP : P < base) (hK : K < base) (i : Nat) (hi : i < k) :
    ∃ bv cap ra rc, v = .slice (some ⟨bv, 0, none⟩) k cap ∧ k ≤ cap ∧ base ≤ bv ∧ bv < wr.heap.size ∧ Box0 wr bv (i * 5) 84 (i : Int) (e : Int) 4 (.slice ra 123 rc) ∧ Safe wr (pkB P K) (.slice ra 123 rc) 123 ((tbl f i).map rec4) := by
  obtain ⟨bv, cap, ra, rc, e1, e2, e3, bx, sf⟩ := tabs_page h i hi
  have hlt : bv < w.heap.size := World.block_lt_of_cell? w _ bx.f0
  have hb : wr.heap[bv]? = w.heap[bv]? := s.block bv hlt (fun q => by rcases q with q | q <;> omega)
  refine ⟨bv, cap, ra, rc, e1, e2, e3, Nat.lt_of_lt_of_le hlt s.size, ⟨(World.cell?_of_block hb).trans bx.f0, (World.cell?_of_block hb).trans bx.f1, (World.cell?_of_block hb).trans bx.f2, (World.cell?_of_block hb).trans bx.f3, (World.cell?_of_block hb).trans bx.f4⟩, ?_⟩
  exact sf.mono (fun j hj hn => s.block j hj (fun q => hn (.inr (.inr (by rcases q with q | q <;> omega))))) s.size (fun j _ q => .inr (.inr (by rcases q with q | q <;> omega)))
theorem safe_recs {w : World} {S : Nat → Prop} {ra : Option Addr} {n cap : Nat} {rs : List (List Int)} (h : Safe w S (.slice ra n cap) n rs) : Sm.Recs w ra rs := by
  obtain ⟨B, hB⟩ := h.now
  obtain ⟨a, c, e, hr, _⟩ := hB.recs
  obtain ⟨rfl, _⟩ : ra = a ∧ cap = c := by simpa using e
  exact hr
theorem Safe.below {w w' : World} {S : Nat → Prop} {v : Value} {n : Nat} {rs : List (List Int)} (h : Safe w S v n rs) (hb : Below w.heap.size w w') (hS : ∀ k, k < w.heap.size → S k → S k) : Safe w' S v n rs := h.mono (fun k hk _ => hb.block k hk) hb.size hS
theorem keyM (k j : Nat) (h : k * 123 + j < 15006) : keyOf Tryz.prog 3 (.int .i64 ((k : Int) * 123 + (j : Int))) = some (.int .i64 ((k * 123 + j : Nat) : Int)) := by
  have := keyN (k * 123 + j) h
  rw [show ((k * 123 + j : Nat) : Int) = (k : Int) * 123 + (j : Int) by omega] at this ⊢
  exact this
def RestE (w : World) (P p K G T n ep k0 : Nat) (tb : List Nat) (f : Nat → Nat) (e : Ending) (w' : World) : Prop :=
  e = .returned (.bool true) ∧ ∃ V ta tc nK DK S, Hd8 w' P p K G (some V) (.slice ta k0 tc) 0 (ep : Int) false ∧ Owns w' K nK DK ∧ MpF f DK ∧ nK ≤ 15006 ∧ Owns w' V nK DK ∧ Ints w' ta (zl tb) ∧ (∀ b o, ta = some ⟨b, o, none⟩ → w.heap.size ≤ b ∧ b < w'.heap.size ∧ b ≠ V) ∧ w.heap.size ≤ V ∧ SpAt w' G T S ∧ Tk n tb f S ∧ Stp w (fun b => b = P ∨ b = K ∨ b = G ∨ b = T) w' (fun b => b = P ∨ b = K ∨ b = G ∨ b = T)
set_option maxRecDepth 100000 in
set_option maxHeartbeats 4000000 in
theorem restore_any {w : World} {p n : Nat} {H : Nat → Prop} (P K G T : Nat) (S0 : Spc) (hd : Hd8 w P p K G none (.slice none 0 0) 0 0 false) (km : Owns w K 0 (.map [])) (sp : SpAt w G T S0) (hsn : S0.n = n) (ne : P ≠ K ∧ P ≠ G ∧ P ≠ T ∧ K ≠ G ∧ K ≠ T) (base : Nat) (hlo : P < base ∧ K < base ∧ G < base ∧ T < base)
    (ep : Nat) (he : ep < 4611686018427387904) (ra : Option Addr) (k0 cap : Nat) (tb : List Nat) (hk : tb.length = k0) (hr : Sm.Recs w ra (tb.map rec4)) (h122 : k0 ≤ 122) (h16 : ∀ x ∈ tb, x ≤ 16384) (f : Nat → Nat) (v : Option Addr) (vc : Nat) (tr : TabsR w base H (.slice v k0 vc) ep f k0) (it : IsTbl f k0) (sk : Secs n tb f) (hn : n ≤ 16384) :
    Calls Tryz.prog 49 #[.pointer (some ⟨P, 0, none⟩), .agg #[.int .u8 82, .int .u32 0, .int .u64 (ep : Int), .int .i64 4, .slice ra k0 cap], .slice v k0 vc] w (RestE w P p K G T n ep k0 tb f) := by
  have HB := Lib.hid (Sm.alX w (.cells #[.int .u8 82, .int .u32 0, .int .u64 (ep : Int), .int .i64 4, .slice ra k0 cap] 47))
  have HD := Lib.hid (hd.same (HB.out.block P (World.block_lt_of_cell? w _ hd.c0)))
  have HR := Lib.hid (hr.below HB.out)
  have HX := Lib.hid (box_new w 82 0 (ep : Int) 4 (.slice ra k0 cap))
  have HK := Lib.hid hk
  have H16 := Lib.hid h16
  have HTR := Lib.hid tr
  have hPw : P < w.heap.size := World.block_lt_of_cell? w _ hd.c0
  have HIN := Lib.hid (And.intro km sp)
  have HIT := Lib.hid it
  have HSK := Lib.hid sk
  have HSN := Lib.hid hsn
  have hfv : ∀ k, f k ≤ 16384 := fun k => by
    by_cases e : f k = 0
    · omega
    · have := (sk.fl k e).2; omega
  have hfb : ∀ k, f k ≠ 0 → k < 15006 := fun k e => by have := it.1 k e; omega
  have HFV := Lib.hid hfv
  have HFB := Lib.hid hfb
  clear hd hr hk h16 tr km sp it sk hsn hfv hfb
  have z1 : ¬ (9223372036854775807 : Int) < (ep : Int) := by omega
  have z2 : ¬ (122 : Int) < (k0 : Int) := by omega
  have x0 := HX.out.f0
  have x1 := HX.out.f1
  have x2 := HX.out.f2
  have x3 := HX.out.f3
  have x4 := HX.out.f4
  have c3 := HD.out.c3
  have c5 := HD.out.c5
  have f3 := HD.out.fz 3
  have f5 := HD.out.fz 5
  go_enter Tryz.func49, Tryz.ntmps49
  go_upto_region 3 with (fail)
  generalize hw0 : w.alloc (.cells #[.int .u8 82, .int .u32 0, .int .u64 (ep : Int), .int .i64 4, .slice ra k0 cap] 47) = w0 at HB HD HR HX x0 x1 x2 x3 x4 c3 c5 f3 f5 ⊢
  have HRd := Lib.hid (show Sm.Recs w0.drew ra (tb.map rec4) from HR.out)
  have HDd := Lib.hid (show Hd8 w0.drew P p K G none (.slice none 0 0) 0 0 false from HD.out.same rfl)
  have HXd := Lib.hid (show Box w0.drew w.heap.size 82 0 (ep : Int) 4 (.slice ra k0 cap) from HX.out.same rfl)
  have n0 : w.heap.size ≠ P := by omega
  obtain ⟨hw1, hw2⟩ := ep_wrap he
  have HPL := Lib.hid (show P < w0.heap.size from HD.out.c0 |> World.block_lt_of_cell? w0 _)
  have HGL := Lib.hid (show w.heap.size < w0.heap.size from HX.out.lt)
  clear HX HR
  generalize hgw : w.heap.size = g at x0 x1 x2 x3 x4 n0 HXd HGL ⊢
  have HGW := Lib.hid hgw
  clear hgw
  go_cut [] (fun wx => ∃ ta tc w2, Hid (Hd8 wx P p K G none (.slice ta k0 tc) 0 (ep : Int) false) ∧ Hid (Ints w2 ta (zl tb)) ∧ Hid (∀ b o, ta = some ⟨b, o, none⟩ → w0.heap.size ≤ b ∧ b < w2.heap.size) ∧ Hid (Below w0.heap.size w0 w2) ∧ Hid (Wrt (isB P) w2 wx))
  case first =>
    go_region_with (go_at_call 90; refine (told_any 82 0 (ep : Int) 4 ra k0 cap tb w0.drew HK.out HRd.out H16.out (by omega)).mono ?_; intro e' w2 hlo; obtain ⟨ta, tc, rfl, hxi, _, hb2, hao⟩ := low_blk hlo; rw [HK.out]; have HX2 := Lib.hid hxi; have HA2 := Lib.hid hao; have HB2 := Lib.hid (show Below w0.heap.size w0 w2 from (drew_below w0).trans hb2); have HD2 := Lib.hid (HDd.out.same (hb2.block P HPL.out)); have y2 := (HXd.out.same (hb2.block g HGL.out)).f2; have d3 := HD2.out.c3; have d5 := HD2.out.c5; have g3 := HD2.out.fz 3; have g5 := HD2.out.fz 5; clear hlo hxi hb2 hao)
    all_goals go_wp2
    all_goals go_meet
    all_goals exact ⟨_, _, w2, Lib.hid ((HD2.out.set5 _).set3 _), HX2, HA2, HB2, Lib.hid (((Wrt.refl (isB P) w2).set (show isB P P from rfl) 5 _).set (show isB P P from rfl) 3 _)⟩
  obtain ⟨ta, tc, w2, HD6, HX6, HA6, HB6, HW6⟩ := hcut
  have hKw : K < w.heap.size := HIN.out.1.lt
  have HR6 := Lib.hid (show RsRel w wc P p K G g ta tc k0 ep tb (.slice ra k0 cap) f (0 * 123) from by
    have hs0 := HB.out.size
    have hP := HPL.out
    refine ⟨((Stp.of_below (H := pkB P K) HB.out).trans (.of_below HB6.out)).trans (Stp.wide HW6.out.stp (fun b q => .inl q) (fun b q => .inl q)), HD6.out, HXd.out.same ((HW6.out.block g n0).trans (HB6.out.block g HGL.out)), ints_same HX6.out (fun b o e => HW6.out.block b (fun q => by have e1 : b = P := q; have := (HA6.out b o e).1; omega)), fun b o e => ⟨by have := (HA6.out b o e).1; omega, by rw [HW6.out.size]; exact (HA6.out b o e).2⟩, 0, .map [], owns_same HIN.out.1 ((HW6.out.block K (fun q => ne.1 q.symm)).trans ((HB6.out.block K (by omega)).trans (HB.out.block K hKw))), by rw [Nat.zero_mul, fT_zero]; exact mpf_none, Nat.le_refl _⟩)
  clear HD6 HX6 HA6 HB6 HW6
  go_wp2_with fail
  go_loopw [37, 7, 8, 9, 10, 66, 67, 68] (fun i _ _ _ _ _ _ _ wr => ∃ k : Nat, k ≤ k0 ∧ i = .int .i64 k ∧ Hid (RsRel w wr P p K G g ta tc k0 ep tb (.slice ra k0 cap) f (k * 123))) (fun i _ _ _ _ _ _ _ _ => k0 - (intOf i).toNat)
  case atStart => exact ⟨0, by omega, rfl, HR6⟩
  case round =>
    obtain ⟨k, hk, rfl, HR⟩ := hrel
    by_cases hlt : k < k0
    · obtain ⟨bv, vcap, rb, rc, hv, hvc, hbv, hbl, hbx, hsf⟩ := tabs_at HTR.out HR.out.st hlo.1 hlo.2.1 k hlt
      obtain ⟨rfl, rfl⟩ : v = some ⟨bv, 0, none⟩ ∧ vc = vcap := by simpa using hv
      have f0 := hbx.f0
      have f1 := hbx.f1
      have f2 := hbx.f2
      have f3 := hbx.f3
      have f4 := hbx.f4
      have HSF := Lib.hid hsf
      clear hv hbx hsf
      have j0 : (0 : Int) ≤ (k : Int) := by omega
      have j1 : (k : Int) < (k0 : Int) := by omega
      have j2 : (k : Int) ≤ 122 := by omega
      go_upto_region 7 with (fail)
      have hx4 := box_new wr 84 (k : Int) (ep : Int) 4 (.slice rb 123 rc)
      have hb4 := Sm.alX wr (.cells #[.int .u8 84, .int .u32 (k : Int), .int .u64 (ep : Int), .int .i64 4, .slice rb 123 rc] 47)
      have HR4 := Lib.hid (HR.out.below hb4)
      have HSF4 := Lib.hid (HSF.out.below hb4 (fun _ _ q => q))
      have HX4 := Lib.hid hx4
      clear f0 f1 f2 f3 f4 hb4 hx4 HSF
      generalize wr.alloc _ = w4 at HR4 HSF4 HX4 ⊢
      generalize wr.heap.size = g2 at HX4 ⊢
      have x0 := HX4.out.f0
      have x1 := HX4.out.f1
      have x2 := HX4.out.f2
      have x3 := HX4.out.f3
      have x4 := HX4.out.f4
      have y2 := HR4.out.bx.f2
      go_upto_region 9 with (go_at_call 74; refine (isList_any _ _ _ _ _ _ _ _ _).mono ?_; rintro e w5 ⟨he, hb⟩; obtain rfl : e = .returned (.bool true) := he; have HR5 := Lib.hid (HR4.out.below hb); have HSF5 := Lib.hid (HSF4.out.below hb (fun _ _ q => q)); have HX5 := Lib.hid (HX4.out.same (hb.block _ HX4.out.lt)); clear hb; have z0 := HX5.out.f0; have z1 := HX5.out.f1; have z2 := HX5.out.f2; have z3 := HX5.out.f3; have z4 := HX5.out.f4; have y2' := HR5.out.bx.f2)
      clear x0 x1 x2 x3 x4 y2 y2'
      go_wp2_with fail
      refine (told_any 84 (k : Int) (ep : Int) 4 rb 123 rc (tbl f k) _ (tbl_len f k) (safe_recs HSF5.out) (fun x hx => by unfold tbl at hx; obtain ⟨j, _, rfl⟩ := List.mem_map.1 hx; exact HFV.out _) (by decide)).mono ?_
      intro e' w6 hlo6
      obtain ⟨ao, ac, rfl, hxi, _, hb6, hao⟩ := low_blk hlo6
      rw [tbl_len]
      have HR6 := Lib.hid (show RsRel w w6 P p K G g ta tc k0 ep tb (.slice ra k0 cap) f (k * 123 + 0) from HR5.out.below hb6)
      have HX6 := Lib.hid hxi
      have HA6 := Lib.hid (show ∀ b o, ao = some ⟨b, o, none⟩ → b ≠ K from fun b o e q => by have := (hao b o e).1; have := HR5.out.st.size; omega)
      clear hlo6 hxi hb6 hao z0 z1 z2 z3 z4
      have HE0 := Lib.hid (show k * 123 + 123 = (k + 1) * 123 by omega)
      go_wp2
      go_loopw [68, 9, 10] (fun i _ _ wq => ∃ j : Nat, j ≤ 123 ∧ i = .int .i64 j ∧ Hid (RsRel w wq P p K G g ta tc k0 ep tb (.slice ra k0 cap) f (k * 123 + j)) ∧ Hid (Ints wq ao (zl (tbl f k)))) (fun i _ _ _ => 123 - (intOf i).toNat)
      case atStart => exact ⟨0, by omega, rfl, HR6, HX6⟩
      case round =>
        obtain ⟨j, hj, rfl, HRJ, HXJ⟩ := hrel
        have i0 : (0 : Int) ≤ (j : Int) := by omega
        by_cases hlj : j < 123
        · have i1 : (j : Int) < 123 := by omega
          obtain ⟨b, off, rfl, hc⟩ := HXJ.out j (by rw [zl_len, tbl_len]; exact hlj)
          rw [show (zl (tbl f k))[j]'(by rw [zl_len, tbl_len]; exact hlj) = ((f (k * 123 + j) : Nat) : Int) by simp [zl, tbl]] at hc
          have d1 := HRJ.out.hd.c1
          have HK2 := Lib.hid (keyM k j (by omega))
          have HVW := Lib.hid (HFV.out (k * 123 + j))
          by_cases h0 : f (k * 123 + j) = 0
          · have HRN := Lib.hid (HRJ.out.same h0)
            rw [h0] at hc
            clear h0
            go_wp2
            go_roundw
            case rel => exact ⟨j + 1, by omega, by go_num, HRN, HXJ⟩
            case measure => simp [intOf]; omega
          · obtain ⟨nK, D, hown, hmf, hnk⟩ := HRJ.out.mp
            have HMP := Lib.hid hown
            have HMF := Lib.hid hmf
            have HNK := Lib.hid hnk
            have H0 := Lib.hid h0
            have hz : ((f (k * 123 + j) : Nat) : Int) ≠ 0 := by omega
            have hz2 : ((((f (k * 123 + j) : Nat) : Int)) == 0) = false := by simpa using h0
            generalize hfx : f (k * 123 + j) = s at hc HVW H0 hz hz2
            have HFX := Lib.hid hfx
            clear hown hmf hnk h0 hfx
            go_wp2_with (at_mapUpdate; refine wpList_mapUpdate_in _ rfl _ _ _ 100 rfl 3 3 klaw Tryz.underlying100 _ K nK D rfl HMP.out (by have := HNK.out; unfold maxLen; omega) _ _ _ rfl rfl HK2.out _ [] (plainElem_int Tryz.underlying3 (WalkArith.wf_i64 (n := (s : Int)) (by have := HVW.out; omega))) ?_; intro w7 hown7 hturn7; have HT7 := Lib.hid hturn7; have HO7 := Lib.hid hown7; clear hown7 hturn7)
            go_roundw
            case rel =>
              have hbn : k * 123 + j < 15006 := by omega
              refine ⟨j + 1, by omega, by go_num, Lib.hid (HRJ.out.turn HT7.out ne.1 hKw (by have := HGW.out; omega) (k * 123 + (j + 1)) ⟨nK + 1, _, HO7.out, ?_, by have := HNK.out; omega⟩), Lib.hid (ints_same HXJ.out (fun b' o' e => (turned_wrt HT7.out).block b' (fun q => HA6.out b' o' e q)))⟩
              have hfill := mpf_fill HMF.out hbn (by rw [HFX.out]; exact H0.out) (by rw [HFX.out]; exact HVW.out)
              rw [HFX.out] at hfill
              exact hfill
            case measure => simp [intOf]; omega
        · obtain rfl : j = 123 := by omega
          rw [HE0.out] at HRJ
          go_wp2
          go_roundw
          case rel => exact ⟨k + 1, by omega, by go_num, HRJ⟩
          case measure => simp [intOf]; omega
    · obtain rfl : k = k0 := by omega
      obtain ⟨nK, DK, hown, hmf, hnk⟩ := HR.out.mp
      rw [fT_all HIT.out] at hmf
      have HSP := Lib.hid (HIN.out.2.same (HR.out.st.block G HIN.out.2.ltG (fun q => by rcases q with q | q; exact ne.2.1 q.symm; exact ne.2.2.2.1 q.symm)) (HR.out.st.block T HIN.out.2.ltT (fun q => by rcases q with q | q; exact ne.2.2.1 q.symm; exact ne.2.2.2.2 q.symm)))
      have hwP := HPL.out
      have hww := HR.out.st.size
      have hGw := HIN.out.2.ltG
      have hTw := HIN.out.2.ltT
      have HSE := Lib.hid (settle_any wr P p K G T n nK DK ta k tc none 0 (ep : Int) false tb f S0 HR.out.hd HK.out HR.out.ti (fun b o e => by have := (HR.out.tn b o e).1; omega) hown hmf HSP.out HSN.out HSK.out ne (by omega))
      have HMK := Lib.hid hown
      have HMF := Lib.hid hmf
      have HNK := Lib.hid hnk
      clear hown hmf hnk
      go_wp2_with (first | (go_at_call 38; refine HSE.out.mono ?_; rintro e w6 ⟨rfl, S, hse⟩; have HSS := Lib.hid hse; clear hse; have d1 := HSS.out.hd.c1) | (go_at_call 91; refine (tablesFor_any K nK f DK w6 (owns_same HMK.out (HSS.out.st.block K HMK.out.lt (fun q => by rcases q with q | q | q; exact ne.1 q.symm; exact ne.2.2.2.1 q; exact ne.2.2.2.2 q))) HMF.out).mono ?_; rintro e w7 ⟨c, rfl, hc, hb7⟩; obtain rfl := HIT.out.one hc; have HB7 := Lib.hid hb7; clear hb7 hc))
      go_ret
      have hb7 := HB7.out
      have l6 := HSS.out.st.size
      have hKw6 : w6.heap[K]? = wr.heap[K]? := HSS.out.st.block K HMK.out.lt (fun q => by rcases q with q | q | q; exact ne.1 q.symm; exact ne.2.2.2.1 q; exact ne.2.2.2.2 q)
      have htn := HR.out.tn
      have hti6 : Ints w6 ta (zl tb) := ints_same HR.out.ti (fun b o e => HSS.out.st.block b (htn b o e).2 (fun q => by have := (htn b o e).1; rcases q with q | q | q <;> omega))
      refine ⟨rfl, wr.heap.size, ta, tc, nK, DK, S, HSS.out.hd.same (hb7.block _ (World.block_lt_of_cell? w6 _ HSS.out.hd.c0)), (owns_same (owns_same HMK.out hKw6) (hb7.block _ (Nat.lt_of_lt_of_le HMK.out.lt l6))), HMF.out, by have := HNK.out; omega, owns_same HSS.out.vm (hb7.block _ HSS.out.vm.lt), ints_same hti6 (fun b o e => hb7.block b (Nat.lt_of_lt_of_le (htn b o e).2 l6)), fun b o e => ⟨(htn b o e).1, by have := (htn b o e).2; have := hb7.size; omega, by have := (htn b o e).2; omega⟩, hww, HSS.out.sp.below hb7, HSS.out.tk, ?_⟩
      exact ((Stp.wide HR.out.st (fun b q => by rcases q with q | q; exact .inl q; exact .inr (.inl q)) (fun b q => .inl q)).trans (Stp.wide HSS.out.st (fun b q => by rcases q with q | q | q; exact .inl q; exact .inr (.inr (.inl q)); exact .inr (.inr (.inr q))) (fun b q => .inl q))).trans (.of_below hb7)
end Go.Proofs.YtokikeenfpligaaGreatDoor.Sh

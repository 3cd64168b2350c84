/-
  A PAGE WRITTEN: the walk of Write. Conditions: those that each lemma names.
  A PAGE THAT IS NOT WRITTEN; a page dropped: the walks of Write and Drop. Conditions: those that each lemma names.
-/
import Derived.BigRegion
import Derived.StillTailTactics
import Derived.Test.YtokikeenfpligaaGreatDoorU37
namespace Go.Proofs.YtokikeenfpligaaGreatDoor.Sh
open Go.RowKit Go.Maps

/-- the blocks of one -/
def Sd.all (σ : Sd) (b : Nat) : Prop := b = σ.P ∨ b = σ.K ∨ b = σ.V ∨ b = σ.G ∨ b = σ.T ∨ σ.H b
theorem Sh.all_lt {W w : World} {N : Nat} {σ : Sd} {Q : Nat → Prop} (h : Sh W N w σ Q) (b : Nat) (hb : σ.all b) : W.heap.size ≤ b ∧ b < w.heap.size := by
  have l1 : σ.P < w.heap.size := World.block_lt_of_cell? w _ h.hd.c0
  have l2 := h.km.lt
  have l3 := h.vm.lt
  have l4 := h.sp.ltG
  have l5 := h.sp.ltT
  have l6 := h.se.lo
  rcases hb with rfl | rfl | rfl | rfl | rfl | q
  · omega
  · omega
  · omega
  · omega
  · omega
  · exact h.ps.lt b q
/-- its own blocks alone turn -/
def Frm (w w' : World) (σ σ' : Sd) : Prop := Stp w σ.all w' σ'.all
theorem Stp.wide {w w' : World} {H H' A A' : Nat → Prop} (h : Stp w H w' H') (ha : ∀ b, H b → A b) (hb : ∀ b, A' b → A b ∨ H' b) : Stp w A w' A' :=
  ⟨h.os, h.tape, h.output, h.size, fun k hk hn => h.block k hk (fun q => hn (ha k q)), fun k q => by
    rcases hb k q with e | e
    · exact .inl e
    · rcases h.own k e with e | e
      · exact .inl (ha k e)
      · exact .inr e⟩
theorem frm_below {w w' : World} {σ : Sd} (h : Below w.heap.size w w') : Frm w w' σ σ := .of_below h
theorem frm_pool {w w' : World} {σ : Sd} {H' : Nat → Prop} {ct' : Nat → ByteArray} (h : Stp w σ.H w' H') : Frm w w' σ { σ with ct := ct', H := H' } :=
  Stp.wide h (fun _ q => .inr (.inr (.inr (.inr (.inr q))))) (fun _ q => by rcases q with q | q | q | q | q | q; exact .inl (.inl q); exact .inl (.inr (.inl q)); exact .inl (.inr (.inr (.inl q))); exact .inl (.inr (.inr (.inr (.inl q)))); exact .inl (.inr (.inr (.inr (.inr (.inl q))))); exact .inr q)
theorem frm_space {w w' : World} {σ : Sd} {S : Spc} (h : Wrt (spH σ.G σ.T) w w') : Frm w w' σ { σ with S := S } :=
  Stp.wide h.stp (fun _ q => by rcases q with q | q; exact .inr (.inr (.inr (.inl q))); exact .inr (.inr (.inr (.inr (.inl q))))) (fun _ q => .inl q)
theorem frm_map {w w' : World} {σ : Sd} {nV : Nat} {DV : DataW Unit} {nw : Nat → Nat} (h : w.mapTurned w' σ.V) : Frm w w' σ { σ with nV := nV, DV := DV, nw := nw } :=
  Stp.wide (turned_wrt h).stp (fun _ q => .inr (.inr (.inl q))) (fun _ q => .inl q)
theorem frm_trans {a b c : World} {σ σ' σ'' : Sd} (h : Frm a b σ σ') (k : Frm b c σ' σ'') : Frm a c σ σ'' := h.trans k
theorem below_wrt_new {n : Nat} {w w1 w2 : World} {g : Nat} (h : Below n w w1) (k : Wrt (isB g) w1 w2) (hg : n ≤ g) : Below n w w2 :=
  h.trans ⟨k.os, k.tape, k.output, Nat.le_of_eq k.size.symm, fun b hb => k.block b (fun q => by have : b = g := q; omega)⟩
def npg (ki : Int) (k : Nat) (ep : Nat) (si : Int) (rs : List (List Int)) : Sm.Pg := .mkPg ki (k : Int) ((ep : Int) + 1) si rs
def WrOk (W : World) (N : Nat) (w : World) (σ : Sd) (pk pn : Nat → Sm.Pg) (k : Nat) (pg : Sm.Pg) (e : Ending) (w' : World) : Prop :=
  ∃ s H' nV DV, PlaceE σ k s true ∧ e = .returned .nilIface ∧ Sh W (N + 2) w' { σ with nw := updN σ.nw k s, ct := updT σ.ct s (bt pg), S := (σ.S.claim s).1, H := H', nV := nV, DV := DV } (Kept σ) ∧ Inv { σ with nw := updN σ.nw k s, ct := updT σ.ct s (bt pg), S := (σ.S.claim s).1, H := H', nV := nV, DV := DV } (Kept σ) pk (updP pn k pg) ∧
    Frm w w' σ { σ with nw := updN σ.nw k s, ct := updT σ.ct s (bt pg), S := (σ.S.claim s).1, H := H', nV := nV, DV := DV }
theorem npg_ok {ki nu ep si : Int} {rs : List (List Int)} {k : Nat} {e : Nat} (h : (Sm.Pg.mkPg ki nu ep si rs).may = true) (k0 : 0 ≤ ki) (k1 : ki < 256) (hk : k < 15006) (he : e < 4611686018427387904) (hb : ∀ r ∈ rs, Sm.Byte r) : PgOk (npg ki k e si rs) :=
  ⟨⟨k0, k1, by show (0 : Int) ≤ (k : Int); omega, by show (k : Int) < 4294967296; omega, by show (0 : Int) ≤ ((e : Int) + 1); omega, by show ((e : Int) + 1) < 18446744073709551616; omega⟩, h, hb⟩
theorem place_det {σ : Sd} {k s t : Nat} {b c : Bool} (h : PlaceE σ k s b) (q : PlaceE σ k t c) : s = t ∧ b = c := by
  unfold PlaceE at h q
  split at h
  · rename_i hw
    rw [if_pos hw] at q
    exact ⟨h.1.trans q.1.symm, h.2.trans q.2.symm⟩
  · rename_i hw
    rw [if_neg hw] at q
    split at h
    · rename_i hl
      rw [if_pos hl] at q
      exact ⟨h.1.trans q.1.symm, h.2.trans q.2.symm⟩
    · rename_i hl
      rw [if_neg hl] at q
      have := h.1.trans q.1.symm
      exact ⟨by simpa using this, h.2.trans q.2.symm⟩
/-- a page's cells -/
structure Box (w : World) (g : Nat) (ki nu ep si : Int) (v : Value) : Prop where
  f0 : w.cell? ⟨g, 0, none⟩ = some (.int .u8 ki)
  f1 : w.cell? ⟨g, 1, none⟩ = some (.int .u32 nu)
  f2 : w.cell? ⟨g, 2, none⟩ = some (.int .u64 ep)
  f3 : w.cell? ⟨g, 3, none⟩ = some (.int .i64 si)
  f4 : w.cell? ⟨g, 4, none⟩ = some v
  fz : ∀ i, w.frozen? ⟨g, i, none⟩ = false
theorem box_new (w : World) (ki nu ep si : Int) (v : Value) : Box (w.alloc (.cells #[.int .u8 ki, .int .u32 nu, .int .u64 ep, .int .i64 si, v] 47)) w.heap.size ki nu ep si v :=
  ⟨cell_of_row _ _ 0 _ _ _ (heap_alloc_new w _), cell_of_row _ _ 1 _ _ _ (heap_alloc_new w _), cell_of_row _ _ 2 _ _ _ (heap_alloc_new w _), cell_of_row _ _ 3 _ _ _ (heap_alloc_new w _), cell_of_row _ _ 4 _ _ _ (heap_alloc_new w _), fun i => frozen_of_row _ _ i _ _ (heap_alloc_new w _)⟩
theorem Box.same {w w' : World} {g : Nat} {ki nu ep si : Int} {v : Value} (h : Box w g ki nu ep si v) (hb : w'.heap[g]? = w.heap[g]?) : Box w' g ki nu ep si v :=
  ⟨(World.cell?_of_block hb).trans h.f0, (World.cell?_of_block hb).trans h.f1, (World.cell?_of_block hb).trans h.f2, (World.cell?_of_block hb).trans h.f3, (World.cell?_of_block hb).trans h.f4, fun i => (World.frozen?_of_block hb).trans (h.fz i)⟩
theorem Box.lt {w : World} {g : Nat} {ki nu ep si : Int} {v : Value} (h : Box w g ki nu ep si v) : g < w.heap.size := World.block_lt_of_cell? w _ h.f0
def ClaimB (w : World) (G T : Nat) (S : Spc) (e : Ending) (w' : World) : Prop := ∃ b, e = .returned (.bool b) ∧ SpAt w' G T S ∧ Wrt (spH G T) w w'
theorem claim_place {w : World} {σ : Sd} {Q : Nat → Prop} {pk pn : Nat → Sm.Pg} (h : SpAt w σ.G σ.T σ.S) (hi : Inv σ Q pk pn) {k s : Nat} (hp : PlaceE σ k s true) :
    Calls Tryz.prog 54 #[.pointer (some ⟨σ.G, 0, none⟩), .int .i64 s] w (ClaimB w σ.G σ.T (σ.S.claim s).1) := by
  have o := hi.own1 hp
  have hn : s < σ.S.n := by rw [hi.sn]; exact o.sn
  cases ht : σ.S.t s
  · exact (claim_yes_any σ.G σ.T σ.S s w h hn ht).mono fun e w' ⟨he, hs, hw⟩ => ⟨true, he, hs, hw⟩
  · have hc := claim_no (S := σ.S) (s := (s : Int)) (.inr (.inr ht))
    rw [hc]
    exact (claim_no_any σ.G σ.T σ.S s w h (.inr (.inr ⟨s, rfl, hn, ht⟩))).mono fun e w' ⟨he, hw⟩ => ⟨false, he, hw ▸ h, hw ▸ Wrt.refl _ _⟩
set_option maxRecDepth 100000 in
set_option maxHeartbeats 2000000 in
theorem write_place {W w : World} {N : Nat} {σ : Sd} {pk pn : Nat → Sm.Pg} (h : Sh W N w σ (Kept σ)) (hi : Inv σ (Kept σ) pk pn) (k : Nat) (hk : k < 15006) (s : Nat) (hp : PlaceE σ k s true) (ki nu ep si : Int) (ra : Option Addr) (q cap : Nat) (rs : List (List Int)) (hq : rs.length = q) (hr : Sm.Recs w ra rs) (hm : (Sm.Pg.mkPg ki nu ep si rs).may = true) (k0 : 0 ≤ ki) (k1 : ki < 256) (hN : N + 10 < 2305843009213693952) :
    Calls Tryz.prog 19 #[.pointer (some ⟨σ.P, 0, none⟩), .int .i64 k, .agg #[.int .u8 ki, .int .u32 nu, .int .u64 ep, .int .i64 si, .slice ra q cap]] w (WrOk W N w σ pk pn k (npg ki k σ.ep si rs)) := by
  have HH := Lib.hid h
  have HI := Lib.hid hi
  have HP := Lib.hid hp
  have HK := Lib.hid hk
  have HM := Lib.hid hm
  have HQ := Lib.hid hq
  have HB := Lib.hid (Sm.alX w (.cells #[.int .u8 ki, .int .u32 nu, .int .u64 ep, .int .i64 si, .slice ra q cap] 47))
  have HR := Lib.hid (hr.below HB.out)
  have HRB := Lib.hid hr.byte
  have HR0 := Lib.hid hr
  have HS := Lib.hid (h.below HB.out)
  have c7 : (w.alloc (.cells #[.int .u8 ki, .int .u32 nu, .int .u64 ep, .int .i64 si, .slice ra q cap] 47)).cell? ⟨σ.P, 7, none⟩ = some (.bool false) := hi.fl ▸ HS.out.hd.c7
  have hsz := Sm.may_nat hm
  have HSI := Lib.hid (show si ≤ 9223372036854775807 by obtain ⟨a, b, c, d, _⟩ := hsz; have : si = (a : Int) := b; omega)
  have HQL := Lib.hid (show q ≤ 9223372036854775807 by obtain ⟨a, b, c, d, e, _⟩ := hsz; have : rs.length ≤ 255 := e; omega)
  clear h hi hp hm hr hsz hq
  have hk0 : (0 : Int) ≤ (k : Int) := by omega
  have hk1 : (k : Int) < 15006 := by omega
  go_enter Tryz.func19, Tryz.ntmps19
  go_upto_region 10 with (first | (go_at_call 43; refine (number_ok σ.P k _ c7 hk0 hk1).mono ?_; rintro e w' ⟨rfl, rfl⟩) | (go_at_call 50; refine (Sm.check_ok ki nu ep si ra q cap rs _ HQ.out HQL.out HSI.out HR.out HM.out).mono ?_; rintro e w1 ⟨rfl, hb⟩; have HB1 := Lib.hid (HB.out.trans (hb.mono HB.out.size)); have HS1 := Lib.hid (HS.out.below hb); have HX1 := Lib.hid ((box_new w ki nu ep si (.slice ra q cap)).same (hb.block _ (box_new w ki nu ep si (.slice ra q cap)).lt)); have HR1 := Lib.hid (HR.out.below hb); clear hb) | (go_at_call 51; refine (place_any HS1.out k HK.out).mono ?_; rintro e w2 ⟨s', b', rfl, hpe, hb⟩; obtain ⟨rfl, rfl⟩ := place_det HP.out hpe; have HB2 := Lib.hid (HB1.out.trans (hb.mono HB1.out.size)); have HS2 := Lib.hid (HS1.out.below hb); have HX2 := Lib.hid (HX1.out.same (hb.block _ HX1.out.lt)); have HR2 := Lib.hid (HR1.out.below hb); clear hb hpe))
  have c5 := HS2.out.hd.c5
  have f0 := HX2.out.f0
  have f1 := HX2.out.f1
  have f2 := HX2.out.f2
  have f3 := HX2.out.f3
  have f4 := HX2.out.f4
  have z1 := HX2.out.fz 1
  have z2 := HX2.out.fz 2
  have n1 : w.heap.size ≠ σ.P := fun e => by have := World.block_lt_of_cell? w _ HH.out.hd.c0; simp only at this; omega
  clear c7
  have hep := HI.out.e1
  have hw1 : wrap64 ((σ.ep : Int) + 1) = ((σ.ep : Int) + 1) := IntWalk.wrap64_in _ ⟨by omega, by omega⟩
  have hw2 : IntKind.u64.wrap ((σ.ep : Int) + 1) = ((σ.ep : Int) + 1) := by rw [IntKind.wrap_u64]; omega
  generalize hg : w.heap.size = g at f0 f1 f2 f3 f4 z1 z2 n1 ⊢
  go_region
  clear hw1 hw2 z1 z2 n1 c5
  have HX3 := Lib.hid (show Box ((w2.setCell ⟨g, 1, none⟩ (.int .u32 (k : Int))).setCell ⟨g, 2, none⟩ (.int .u64 ((σ.ep : Int) + 1))).drew g ki k ((σ.ep : Int) + 1) si (.slice ra q cap) from
    ⟨set_ne (set_ne f0 (.inr (by decide))) (.inr (by decide)), set_ne (World.cell?_setCell_same _ _ _ f1) (.inr (by decide)), World.cell?_setCell_same _ _ _ (set_ne f2 (.inr (by decide))), set_ne (set_ne f3 (.inr (by decide))) (.inr (by decide)), set_ne (set_ne f4 (.inr (by decide))) (.inr (by decide)), fun i => by show ((w2.setCell ⟨g, 1, none⟩ (.int .u32 (k : Int))).setCell ⟨g, 2, none⟩ (.int .u64 ((σ.ep : Int) + 1))).frozen? _ = _; rw [World.frozen?_setCell, World.frozen?_setCell]; exact hg ▸ HX2.out.fz i⟩)
  have HW3 := Lib.hid (((Wrt.refl (isB g) w2).set (show isB g g from rfl) 1 (.int .u32 (k : Int))).set (show isB g g from rfl) 2 (.int .u64 ((σ.ep : Int) + 1))).drew
  clear f0 f1 f2 f3 f4
  generalize World.drew _ = w3 at HX3 HW3 ⊢
  have HB3 := Lib.hid (show Below w.heap.size w w3 from below_wrt_new HB2.out HW3.out (by omega))
  have HS3 := Lib.hid (HH.out.below HB3.out)
  have HR3 := Lib.hid (show Sm.Recs w3 ra rs from HR0.out.below HB3.out)
  have HL := Lib.hid HX3.out.lt
  have f0 := HX3.out.f0
  have f1 := HX3.out.f1
  have f2 := HX3.out.f2
  have f3 := HX3.out.f3
  have f4 := HX3.out.f4
  have HO := Lib.hid (HI.out.own1 HP.out)
  have HNK := Lib.hid (show ¬ Kept σ s from fun e => by
    rcases e with e | e | ⟨j, e1, e2⟩
    · have := HO.out.s2; omega
    · exact HO.out.tb e
    · exact HO.out.kp j e1 e2)
  clear HX1 HX2 HR1 HR2 HS1 HS2 HB1 HW3
  go_wp2_with fail
  refine (put_page σ.P HS3.out.ps HS3.out.hd.c0 s HO.out.sn HNK.out (npg ki k σ.ep si rs) (npg_ok HM.out k0 k1 HK.out hep HRB.out) HS3.out.se.nh.1 ra q cap HQ.out HR3.out (by omega)).mono ?_
  rintro e w4 ⟨rfl, H', hps, hst⟩
  have HS4 := Lib.hid (HS3.out.pool hps hst (Nat.le_succ N))
  have HF4 := Lib.hid (frm_trans (frm_below HB3.out) (frm_pool (σ := σ) (ct' := updT σ.ct s (bt (npg ki k σ.ep si rs))) hst))
  clear hps hst f0 f1 f2 f3 f4 HX3
  have c6 := HS4.out.hd.c6
  have hkey := keyN k HK.out
  have HKK := Lib.hid hkey
  go_wp2_with (first | (go_at_call 54; refine (claim_place (σ := σ) HS4.out.sp HI.out HP.out).mono ?_; rintro e w5 ⟨b, rfl, hs5, hw5⟩; have HS5 := Lib.hid (HS4.out.space _ hs5 hw5); have HF5 := Lib.hid (frm_trans HF4.out (frm_space (σ := { σ with ct := updT σ.ct s (bt (npg ki k σ.ep si rs)), H := H' }) (S := (σ.S.claim s).1) hw5)); have c2 := HS5.out.hd.c2; clear hs5 hw5) | (at_mapUpdate; refine wpList_mapUpdate_in _ rfl _ _ _ 100 rfl 3 3 klaw Tryz.underlying100 _ σ.V σ.nV σ.DV rfl HS5.out.vm (by have := HH.out.nb.2; unfold maxLen; omega) _ _ _ rfl rfl hkey _ [] (plainElem_int Tryz.underlying3 (WalkArith.wf_i64 (n := (s : Int)) (by have := HO.out.sn; have := HI.out.n1; omega))) ?_; intro w6 hown6 hturn6; have HT6 := Lib.hid hturn6; have HO6 := Lib.hid hown6; clear hown6 hturn6))
  go_ret
  have hs2 := HO.out.s2
  have hsn := HO.out.sn
  have hn1 := HI.out.n1
  have hvf := HH.out.vf.put (k := k) (s := s) HK.out (by omega) (by omega)
  exact ⟨s, H', σ.nV + 1, σ.DV.put (.int .i64 (k : Int)) (.lit (.int .i64 (s : Int))), HP.out, rfl, HS5.out.nowMap HT6.out (σ.nV + 1) _ (updN σ.nw k s) HO6.out hvf (by have := HH.out.nb.2; show σ.nV + 1 ≤ N + 1 + 1; omega), HI.out.write HP.out _ (npg_ok HM.out k0 k1 HK.out hep HRB.out) rfl H' _ _, frm_trans HF5.out (frm_map HT6.out)⟩
end Go.Proofs.YtokikeenfpligaaGreatDoor.Sh
namespace Go.Proofs.YtokikeenfpligaaGreatDoor.Sh
open Go.RowKit Go.Maps

def ErrS (w : World) (c : Int) (e : Ending) (w' : World) : Prop := e = .returned (.iface 78 (.int .i64 c)) ∧ Below w.heap.size w w'
set_option maxRecDepth 100000 in
theorem write_range {w : World} (P : Nat) (k : Int) (ki nu ep si : Int) (v : Value) (c7 : w.cell? ⟨P, 7, none⟩ = some (.bool false)) (h : k < 0 ∨ 15006 ≤ k) :
    Calls Tryz.prog 19 #[.pointer (some ⟨P, 0, none⟩), .int .i64 k, .agg #[.int .u8 ki, .int .u32 nu, .int .u64 ep, .int .i64 si, v]] w (ErrS w 4) := by
  have HB := Lib.hid (Sm.alX w (.cells #[.int .u8 ki, .int .u32 nu, .int .u64 ep, .int .i64 si, v] 47))
  have d7 := (HB.out.cell (p := ⟨P, 7, none⟩) (World.block_lt_of_cell? w _ c7)).trans c7
  clear c7
  go_enter Tryz.func19, Tryz.ntmps19
  go_wp2_with (go_at_call 43; refine (number_range P k _ d7 h).mono ?_; rintro e w' ⟨rfl, rfl⟩)
  go_ret
  exact ⟨rfl, HB.out⟩
set_option maxRecDepth 100000 in
theorem write_bad {w : World} (P : Nat) (k : Int) (ki nu ep si : Int) (ra : Option Addr) (q cap : Nat) (rs : List (List Int)) (hq : rs.length = q) (hq2 : q ≤ 9223372036854775807) (hs : si ≤ 9223372036854775807) (hr : Sm.Recs w ra rs) (c7 : w.cell? ⟨P, 7, none⟩ = some (.bool false)) (h0 : 0 ≤ k) (h1 : k < 15006) (hm : (Sm.Pg.mkPg ki nu ep si rs).may = false) :
    Calls Tryz.prog 19 #[.pointer (some ⟨P, 0, none⟩), .int .i64 k, .agg #[.int .u8 ki, .int .u32 nu, .int .u64 ep, .int .i64 si, .slice ra q cap]] w (ErrS w 1) := by
  have HB := Lib.hid (Sm.alX w (.cells #[.int .u8 ki, .int .u32 nu, .int .u64 ep, .int .i64 si, .slice ra q cap] 47))
  have d7 := (HB.out.cell (p := ⟨P, 7, none⟩) (World.block_lt_of_cell? w _ c7)).trans c7
  have HR := Lib.hid (hr.below HB.out)
  have HQ := Lib.hid hq
  have HM := Lib.hid hm
  clear c7 hr hq hm
  go_enter Tryz.func19, Tryz.ntmps19
  go_wp2_with (first | (go_at_call 43; refine (number_ok P k _ d7 h0 h1).mono ?_; rintro e w' ⟨rfl, rfl⟩) | (go_at_call 50; refine (Sm.check_bad ki nu ep si ra q cap rs _ HQ.out hq2 hs HR.out HM.out).mono ?_; rintro e w1 ⟨rfl, hb⟩; have HB1 := Lib.hid (HB.out.trans (hb.mono HB.out.size)); clear hb))
  go_ret
  exact ⟨rfl, HB1.out⟩
set_option maxRecDepth 100000 in
theorem write_full {W w : World} {N : Nat} {σ : Sd} {Q : Nat → Prop} (h : Sh W N w σ Q) (hf : σ.fl = false) (k : Nat) (hk : k < 15006) (s : Nat) (hp : PlaceE σ k s false) (ki nu ep si : Int) (ra : Option Addr) (q cap : Nat) (rs : List (List Int)) (hq : rs.length = q) (hr : Sm.Recs w ra rs) (hm : (Sm.Pg.mkPg ki nu ep si rs).may = true) :
    Calls Tryz.prog 19 #[.pointer (some ⟨σ.P, 0, none⟩), .int .i64 k, .agg #[.int .u8 ki, .int .u32 nu, .int .u64 ep, .int .i64 si, .slice ra q cap]] w (ErrS w 5) := by
  have HP := Lib.hid hp
  have HK := Lib.hid hk
  have HM := Lib.hid hm
  have HQ := Lib.hid hq
  have HB := Lib.hid (Sm.alX w (.cells #[.int .u8 ki, .int .u32 nu, .int .u64 ep, .int .i64 si, .slice ra q cap] 47))
  have HR := Lib.hid (hr.below HB.out)
  have HS := Lib.hid (h.below HB.out)
  have c7 : (w.alloc (.cells #[.int .u8 ki, .int .u32 nu, .int .u64 ep, .int .i64 si, .slice ra q cap] 47)).cell? ⟨σ.P, 7, none⟩ = some (.bool false) := hf ▸ HS.out.hd.c7
  have hsz := Sm.may_nat hm
  have HSI := Lib.hid (show si ≤ 9223372036854775807 by obtain ⟨a, b, c, d, _⟩ := hsz; have : si = (a : Int) := b; omega)
  have HQL := Lib.hid (show q ≤ 9223372036854775807 by obtain ⟨a, b, c, d, e, _⟩ := hsz; have : rs.length ≤ 255 := e; omega)
  clear h hp hm hr hsz hq hf
  have hk0 : (0 : Int) ≤ (k : Int) := by omega
  have hk1 : (k : Int) < 15006 := by omega
  go_enter Tryz.func19, Tryz.ntmps19
  go_wp2_with (first | (go_at_call 43; refine (number_ok σ.P k _ c7 hk0 hk1).mono ?_; rintro e w' ⟨rfl, rfl⟩) | (go_at_call 50; refine (Sm.check_ok ki nu ep si ra q cap rs _ HQ.out HQL.out HSI.out HR.out HM.out).mono ?_; rintro e w1 ⟨rfl, hb⟩; have HB1 := Lib.hid (HB.out.trans (hb.mono HB.out.size)); have HS1 := Lib.hid (HS.out.below hb); clear hb) | (go_at_call 51; refine (place_any HS1.out k HK.out).mono ?_; rintro e w2 ⟨s', b', rfl, hpe, hb⟩; obtain ⟨rfl, rfl⟩ := place_det HP.out hpe; have HB2 := Lib.hid (HB1.out.trans (hb.mono HB1.out.size)); clear hb hpe))
  go_ret
  exact ⟨rfl, HB2.out⟩
/-! ### Drop -/
theorem drop_range {w : World} (P : Nat) (k : Int) (c7 : w.cell? ⟨P, 7, none⟩ = some (.bool false)) (h : k < 0 ∨ 15006 ≤ k) :
    Calls Tryz.prog 20 #[.pointer (some ⟨P, 0, none⟩), .int .i64 k] w (ErrS w 4) := by
  go_enter Tryz.func20, Tryz.ntmps20
  go_wp2_with (go_at_call 43; refine (number_range P k _ c7 h).mono ?_; rintro e w' ⟨rfl, rfl⟩)
  go_ret
  exact ⟨rfl, Below.refl _ _⟩
set_option maxRecDepth 100000 in
theorem drop_none {W w : World} {N : Nat} {σ : Sd} {Q : Nat → Prop} (h : Sh W N w σ Q) (hf : σ.fl = false) (k : Nat) (hk : k < 15006) (h0 : σ.nw k = 0) :
    Calls Tryz.prog 20 #[.pointer (some ⟨σ.P, 0, none⟩), .int .i64 k] w (ErrS w 8) := by
  have c7 : w.cell? ⟨σ.P, 7, none⟩ = some (.bool false) := hf ▸ h.hd.c7
  have c2 := h.hd.c2
  have l1 := look1 h.vm h.vf k hk
  rw [show decide (σ.nw k ≠ 0) = false from decide_eq_false (by simpa using h0)] at l1
  have hk0 : (0 : Int) ≤ (k : Int) := by omega
  have hk1 : (k : Int) < 15006 := by omega
  clear h h0 hf
  go_enter Tryz.func20, Tryz.ntmps20
  go_wp2_with (go_at_call 43; refine (number_ok σ.P k _ c7 hk0 hk1).mono ?_; rintro e w' ⟨rfl, rfl⟩)
  go_ret
  exact ⟨rfl, Below.refl _ _⟩
/-- the space behind a page that is dropped -/
def dropS (σ : Sd) (k : Nat) : Spc := if wrt σ.kp σ.nw k = true then σ.S.give (σ.nw k) else σ.S
def DrOk (W : World) (N : Nat) (w : World) (σ : Sd) (k : Nat) (e : Ending) (w' : World) : Prop :=
  ∃ DV, e = .returned .nilIface ∧ Sh W (N + 1) w' { σ with nw := updN σ.nw k 0, S := dropS σ k, DV := DV } (Kept σ) ∧ Frm w w' σ { σ with nw := updN σ.nw k 0, S := dropS σ k, DV := DV }
set_option maxRecDepth 100000 in
set_option maxHeartbeats 1000000 in
theorem drop_ok {W w : World} {N : Nat} {σ : Sd} {pk pn : Nat → Sm.Pg} (h : Sh W N w σ (Kept σ)) (hi : Inv σ (Kept σ) pk pn) (k : Nat) (hk : k < 15006) (h0 : σ.nw k ≠ 0) :
    Calls Tryz.prog 20 #[.pointer (some ⟨σ.P, 0, none⟩), .int .i64 k] w (DrOk W N w σ k) := by
  have HH := Lib.hid h
  have HI := Lib.hid hi
  have HK := Lib.hid hk
  have HN0 := Lib.hid h0
  have c7 : w.cell? ⟨σ.P, 7, none⟩ = some (.bool false) := hi.fl ▸ h.hd.c7
  have c2 := h.hd.c2
  have c6 := h.hd.c6
  have l1 := look1 h.vm h.vf k hk
  have l0 := look0 h.vm h.vf k hk
  rw [show decide (σ.nw k ≠ 0) = true from decide_eq_true h0] at l1
  have hk0 : (0 : Int) ≤ (k : Int) := by omega
  have hk1 : (k : Int) < 15006 := by omega
  have hkey := keyN k hk
  have HWR := Lib.hid (written_any σ.P σ.K σ.V σ.nK σ.nV σ.DK σ.DV σ.kp σ.nw w h.hd.c1 h.hd.c2 h.km h.kf h.vm h.vf k hk)
  have HVF := Lib.hid (h.vf.del k)
  clear h h0 hi
  cases hw : wrt σ.kp σ.nw k
  · have HDS := Lib.hid (show dropS σ k = σ.S by unfold dropS; rw [hw]; rfl)
    rw [hw] at HWR
    clear hw l0
    go_enter Tryz.func20, Tryz.ntmps20
    go_wp2_with (first | (go_at_call 43; refine (number_ok σ.P k _ c7 hk0 hk1).mono ?_; rintro e w' ⟨rfl, rfl⟩) | (go_at_call 55; refine HWR.out.mono ?_; rintro e w' ⟨rfl, rfl⟩) | (at_delete; refine wpList_delete_own _ rfl _ _ 100 3 rfl 3 klaw Tryz.underlying100 _ σ.V σ.nV σ.DV rfl HH.out.vm _ _ rfl hkey ?_; intro w4 hown4 hturn4; have HO4 := Lib.hid hown4; have HT4 := Lib.hid hturn4; clear hown4 hturn4))
    go_ret
    refine ⟨σ.DV.del (.int .i64 (k : Int)), rfl, ?_, ?_⟩
    · rw [HDS.out]
      exact HH.out.nowMap HT4.out σ.nV _ (updN σ.nw k 0) HO4.out HVF.out (by have := HH.out.nb.2; omega)
    · rw [HDS.out]
      exact frm_map HT4.out
  · have HDS := Lib.hid (show dropS σ k = σ.S.give (σ.nw k) by unfold dropS; rw [hw]; rfl)
    rw [hw] at HWR
    clear hw
    have hgv : σ.nw k < σ.S.n ∧ σ.S.t (σ.nw k) = true := ⟨by rw [HI.out.sn]; exact (HI.out.sw.fl k HN0.out).2, (HI.out.tk _).2 (.inr (.inr (.inr ⟨k, rfl, HN0.out⟩)))⟩
    have HGV := Lib.hid hgv
    clear hgv
    go_enter Tryz.func20, Tryz.ntmps20
    go_upto_region 8 with (first | (go_at_call 43; refine (number_ok σ.P k _ c7 hk0 hk1).mono ?_; rintro e w' ⟨rfl, rfl⟩) | (go_at_call 55; refine HWR.out.mono ?_; rintro e w' ⟨rfl, rfl⟩))
    have ld : (Instr.lookup 100 (.map (some σ.V)) (.int .i64 (k : Int)) false).run Tryz.prog w.drew = .ok (.int .i64 (σ.nw k : Int)) w.drew := look0 (w := w.drew) (owns_same HH.out.vm rfl) HH.out.vf k HK.out
    go_still_tail 10, (by kernel_rfl)
    have hsp := HH.out.sp.wrt (Wrt.drew (Wrt.refl (fun _ => False) w)) (fun q => q) (fun q => q)
    have HS1 := Lib.hid (HH.out.below (w' := w.drew) ⟨rfl, rfl, rfl, Nat.le_refl _, fun _ _ => rfl⟩)
    have HB1 := Lib.hid (show Below w.heap.size w w.drew from ⟨rfl, rfl, rfl, Nat.le_refl _, fun _ _ => rfl⟩)
    have HSP := Lib.hid hsp
    clear hsp c2 c6 c7 l1 l0 ld
    change wpList _ _ _ _ _ w.drew
    generalize w.drew = w1 at HS1 HB1 HSP ⊢
    go_wp2_with (first | (go_at_call 56; refine (give_any σ.G σ.T σ.S (σ.nw k) _ HSP.out HGV.out.1 HGV.out.2).mono ?_; rintro e w3 ⟨rfl, hs3, hw3⟩; have HS3 := Lib.hid (HS1.out.space _ hs3 hw3); have HF3 := Lib.hid (frm_trans (frm_below HB1.out) (frm_space (σ := σ) (S := σ.S.give (σ.nw k)) hw3)); have c2 := HS3.out.hd.c2; clear hs3 hw3) | (at_delete; refine wpList_delete_own _ rfl _ _ 100 3 rfl 3 klaw Tryz.underlying100 _ σ.V σ.nV σ.DV rfl HS3.out.vm _ _ rfl hkey ?_; intro w4 hown4 hturn4; have HO4 := Lib.hid hown4; have HT4 := Lib.hid hturn4; clear hown4 hturn4))
    go_ret
    refine ⟨σ.DV.del (.int .i64 (k : Int)), rfl, ?_, ?_⟩
    · rw [HDS.out]
      exact HS3.out.nowMap HT4.out σ.nV _ (updN σ.nw k 0) HO4.out HVF.out (by have := HH.out.nb.2; show σ.nV ≤ N + 1; omega)
    · rw [HDS.out]
      exact frm_trans HF3.out (frm_map HT4.out)
end Go.Proofs.YtokikeenfpligaaGreatDoor.Sh

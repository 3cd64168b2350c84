/-
  THE WALK of the statements' own `same`, over two sides that are alike. Conditions: those that the lemma names.
  AN ACT, WHATEVER IT IS: both sides stay alike, and it answers true. Conditions: those that each lemma names.
-/
import Derived.BigRegion
import Derived.Deep.RegionHeld3
import Derived.Test.YtokikeenfpligaaGreatDoorU49
namespace Go.Proofs.YtokikeenfpligaaGreatDoor.Sh
open Go.RowKit Go.Maps

/-- while `same` goes on -/
structure SmW (W ws : World) (N : Nat) (σ : Sd) (pk pn : Nat → Sm.Pg) (r : Rf) (g : Nat) (ao : Option Addr) : Prop where
  ss : Ss W N ws σ pk pn
  rx : RfX ws σ.all r
  bx : ws.heap[g]? = some (bxS r)
  ng : ¬ σ.all g
  li : Ints ws ao (zl (kl σ.nw))
  lo : ∀ b o, ao = some ⟨b, o, none⟩ → ¬ σ.all b ∧ b < ws.heap.size
theorem SmW.below {W ws w' : World} {N : Nat} {σ : Sd} {pk pn : Nat → Sm.Pg} {r : Rf} {g : Nat} {ao : Option Addr} (h : SmW W ws N σ pk pn r g ao) (hb : Below ws.heap.size ws w') : SmW W w' N σ pk pn r g ao :=
  ⟨h.ss.below hb, h.rx.below hb, (hb.block g (lt_of_block h.bx)).trans h.bx, h.ng, ints_same h.li (fun b o e => hb.block b (h.lo b o e).2), fun b o e => ⟨(h.lo b o e).1, Nat.lt_of_lt_of_le (h.lo b o e).2 hb.size⟩⟩
theorem SmW.frm {W ws w' : World} {N M : Nat} {σ : Sd} {pk pn : Nat → Sm.Pg} {r : Rf} {g : Nat} {ao : Option Addr} {H' : Nat → Prop} (h : SmW W ws N σ pk pn r g ao) (hs : Ss W M w' { σ with H := H' } pk pn) (hf : Frm ws w' σ { σ with H := H' }) : SmW W w' M { σ with H := H' } pk pn r g ao := by
  refine ⟨hs, h.rx.stp hf, (hf.block g (lt_of_block h.bx) h.ng).trans h.bx, fun q => ?_, ints_same h.li (fun b o e => hf.block b (h.lo b o e).2 (h.lo b o e).1), fun b o e => ⟨fun q => ?_, Nat.lt_of_lt_of_le (h.lo b o e).2 hf.size⟩⟩
  · rcases hf.own g q with k | k
    · exact h.ng k
    · have := lt_of_block h.bx; omega
  · rcases hf.own b q with k | k
    · exact (h.lo b o e).1 k
    · have := (h.lo b o e).2; omega
/-- behind `same` -/
def SameE (W : World) (N : Nat) (w : World) (σ : Sd) (pk pn : Nat → Sm.Pg) (r : Rf) (e : Ending) (w' : World) : Prop :=
  ∃ H', e = .returned (.bool true) ∧ Ss W (N + 400) w' { σ with H := H' } pk pn ∧ RfX w' ({ σ with H := H' } : Sd).all r ∧ Fro w w' σ { σ with H := H' }
theorem fro_trans {w ws w' : World} {σ : Sd} {H1 H' : Nat → Prop} (h : Fro w ws σ { σ with H := H1 }) (hf : Frm ws w' { σ with H := H1 } { σ with H := H' }) : Fro w w' σ { σ with H := H' } :=
  ⟨frm_trans h.1 hf, fun b q => by
    rcases own_same hf rfl b q with k | k
    · exact h.2 b k
    · have := h.1.size; exact .inr (by omega)⟩
theorem fro_more {w ws w' : World} {σ σ' : Sd} (h : Fro w ws σ σ') (hb : Below ws.heap.size ws w') : Fro w w' σ σ' := ⟨frm_trans h.1 (frm_below hb), h.2⟩
theorem own_recs {B C : Nat} {w : World} {ra : Option Addr} {q cap : Nat} {rs : List (List Int)} (h : OwnIn B C w (.slice ra q cap) q rs) : Sm.Recs w ra rs := by
  obtain ⟨ra', cap', e, hr, _⟩ := (h w (fun _ _ _ => rfl)).recs
  injection e with e1 e2 e3
  subst e1
  exact hr
/-- all that the last region of a round reads -/
def PgS (w : World) (g b1 p1 b2 p2 n c o2 : Nat) (x : Int) (E : Ent) (b3 : Nat) (ra : Option Addr) (cap : Nat) : Prop := (w.cell? ⟨b1, p1, none⟩ = some (.int .i64 x)) ∧ EltAt w g b2 p2 n c o2 E ∧ (w.cell? ⟨b3, 0, none⟩ = some (.int .u8 E.ki) ∧ w.cell? ⟨b3, 1, none⟩ = some (.int .u32 E.nu) ∧ w.cell? ⟨b3, 2, none⟩ = some (.int .u64 E.ep) ∧ w.cell? ⟨b3, 3, none⟩ = some (.int .i64 E.si) ∧ w.cell? ⟨b3, 4, none⟩ = some (.slice ra E.q cap))
theorem box5 {w : World} {g : Nat} {v0 v1 v2 v3 v4 : Value} {T : TypeId} (h : w.heap[g]? = some (.cells #[v0, v1, v2, v3, v4] T (0, 0))) : w.cell? ⟨g, 0, none⟩ = some v0 ∧ w.cell? ⟨g, 1, none⟩ = some v1 ∧ w.cell? ⟨g, 2, none⟩ = some v2 ∧ w.cell? ⟨g, 3, none⟩ = some v3 ∧ w.cell? ⟨g, 4, none⟩ = some v4 :=
  ⟨cell_of_row _ _ 0 _ _ _ h, cell_of_row _ _ 1 _ _ _ h, cell_of_row _ _ 2 _ _ _ h, cell_of_row _ _ 3 _ _ _ h, cell_of_row _ _ 4 _ _ _ h⟩
theorem na_cells {w : World} {g : Nat} {r : Rf} {na : Option Addr} (h : na = r.na) (hb : w.heap[g]? = some (bxS r)) : w.cell? ⟨g, 0, none⟩ = some (.slice r.sa r.su.length r.sc) ∧ w.cell? ⟨g, 1, none⟩ = some (.slice na r.nw.length r.nc) ∧ w.cell? ⟨g, 2, none⟩ = some (.int .i64 r.size) ∧ w.cell? ⟨g, 3, none⟩ = some (.int .i64 r.ep) := by
  subst h
  exact (row4_cells hb).1
set_option maxRecDepth 100000 in
set_option maxHeartbeats 2000000 in
theorem same_all {W w : World} {N : Nat} {σ : Sd} {pk pn : Nat → Sm.Pg} {r : Rf} (hs : Ss W N w σ pk pn) (hl : Rel W σ pk pn r) (hx : RfX w σ.all r) (ok : RfOk r) (hN : N ≤ 10000000) (hq : PgO σ.nw pn (σ.ep + 1)) :
    Calls Tryz.prog 13 #[.pointer (some ⟨σ.P, 0, none⟩), r.val] w (SameE W N w σ pk pn r) := by
  have hb0 := Sm.alX w (bxS r)
  have HP := Lib.hid (pages_any (hs.below hb0).sh (by omega))
  have HS0 := Lib.hid (hs.below hb0)
  have HX0 := Lib.hid (hx.below hb0)
  have HB0 := Lib.hid (heap_alloc_new w (bxS r))
  have HOK := Lib.hid ok
  have HL := Lib.hid hl
  have HQ := Lib.hid hq
  have HNG := Lib.hid (show ¬ σ.all w.heap.size from fun q => by have := (hs.own_lt _ (.inl q)).2; omega)
  have HALL := Lib.hid (show ∀ b, σ.all b → b < w.heap.size from fun b q => (hs.own_lt b (.inl q)).2)
  have HLEN := Lib.hid (lis_len hl.nw)
  have f1 : (((kl σ.nw).length : Int) != (r.nw.length : Int)) = false := by rw [bne_eq_false_iff_eq, HLEN.out]
  have f2 : ((σ.ep : Int) != r.ep) = false := by rw [bne_eq_false_iff_eq, hl.ep]
  have f3 : ((σ.S.free : Int) != freeR r) = false := by rw [bne_eq_false_iff_eq, rel_free hs hl]
  unfold Rf.val
  clear hb0 hs hx ok hl hq
  go_enter Tryz.func13, Tryz.ntmps13
  go_upto_region 2 with (go_at_call 25; refine HP.out.mono ?_; rintro e w1 ⟨ao, cap, rfl, hli, hb1, hao⟩; have HS1 := Lib.hid (show SmW W w1 N σ pk pn r w.heap.size ao from ⟨HS0.out.below hb1, HX0.out.below hb1, (hb1.block _ (by simp)).trans HB0.out, HNG.out, hli, fun b o e => ⟨fun q => by have := HALL.out b q; have := (hao b o e).1; simp at this; omega, (hao b o e).2⟩⟩); have HBW := Lib.hid ((Sm.alX w (bxS r)).trans (hb1.mono (by simp))); clear hli hb1 hao)
  obtain ⟨na, hnae⟩ : ∃ a, a = r.na := ⟨_, rfl⟩
  have HNA := Lib.hid hnae
  rw [← hnae]
  clear hnae
  have HSD := Lib.hid (HS1.out.below ((Below.refl _ _).drew))
  have HBD := Lib.hid (HBW.out.drew)
  have HEP := Lib.hid (epoch_any σ.P (σ.ep : Int) w1.drew HSD.out.ss.sh.hd.c5)
  have HFR := Lib.hid (free_any σ.P σ.G σ.T σ.S w1.drew HSD.out.ss.sh.hd.c6 HSD.out.ss.sh.sp)
  have HRF := Lib.hid (free_ref r w1.drew HSD.out.rx.at' HOK.out)
  have KD := Lib.hid (na_cells HNA.out HSD.out.bx)
  unfold Rf.val at HRF
  rw [← HNA.out] at HRF
  go_region_held3 (fun w' => (w'.cell? ⟨w.heap.size, 0, none⟩ = some (.slice r.sa r.su.length r.sc) ∧ w'.cell? ⟨w.heap.size, 1, none⟩ = some (.slice na r.nw.length r.nc) ∧ w'.cell? ⟨w.heap.size, 2, none⟩ = some (.int .i64 r.size) ∧ w'.cell? ⟨w.heap.size, 3, none⟩ = some (.int .i64 r.ep))) (first | with_reducible exact KD.out | with_reducible exact KE.out) (first | (go_at_call 23; with_reducible refine HEP.out.mono ?_; rintro e w' ⟨rfl, rfl⟩) | (go_at_call 24; with_reducible refine HFR.out.mono ?_; rintro e w' ⟨rfl, rfl⟩) | (go_at_call 41; with_reducible refine HRF.out.mono ?_; rintro e w2 ⟨rfl, hb⟩; have HS2 := Lib.hid (HSD.out.below hb); have HB2 := Lib.hid (HBD.out.trans (hb.mono HBD.out.size)); have KE := Lib.hid (na_cells HNA.out HS2.out.bx); clear hb))
  have HRL := Lib.hid (show ∃ H', SmW W w2 (N + 2 * 0) { σ with H := H' } pk pn r w.heap.size ao ∧ Fro w w2 σ { σ with H := H' } from ⟨σ.H, HS2.out, frm_below HB2.out, fun b q => .inl q⟩)
  clear HSD HBD HEP HFR HRF HS2 HB2 HS1 HBW f1 f2 f3 HP HS0 HX0 HB0 HNG HALL KD KE
  obtain ⟨L, hL⟩ : ∃ L, L = (kl σ.nw).length := ⟨_, rfl⟩
  have HLL := Lib.hid hL
  rw [← hL]
  clear hL
  have HL2 := Lib.hid (show L ≤ 200 by have := HOK.out.l2; rw [HLL.out, ← HLEN.out]; exact this)
  go_wp2
  go_loopw [6] (fun x ws => ∃ j : Nat, j ≤ L ∧ x = .int .i64 (j : Int) ∧ Hid (∃ H', SmW W ws (N + 2 * j) { σ with H := H' } pk pn r w.heap.size ao ∧ Fro w ws σ { σ with H := H' })) (fun x _ => L - (intOf x).toNat)
  case atStart => exact ⟨0, by omega, rfl, HRL⟩
  case round =>
    obtain ⟨j, hj, rfl, HR⟩ := hrel
    clear HRL
    have j0 : (0 : Int) ≤ (j : Int) := by omega
    obtain ⟨H1, hsm, hfo⟩ := HR.out
    have HSM := Lib.hid hsm
    have HFO := Lib.hid hfo
    clear hsm hfo HR
    have j9 : (j : Int) ≤ 200 := by have := HL2.out; omega
    by_cases hlt : j < L
    · have i1 : (j : Int) < (L : Int) := by omega
      have hjk : j < (kl σ.nw).length := by rw [← HLL.out]; exact hlt
      have hje : j < r.nw.length := by rw [HLEN.out]; exact hjk
      obtain ⟨x, hxe⟩ : ∃ x : Nat, x = (kl σ.nw)[j] := ⟨_, rfl⟩
      obtain ⟨E, hEe⟩ : ∃ E : Ent, E = r.nw[j] := ⟨_, rfl⟩
      have hxm : σ.nw x ≠ 0 ∧ x < 15006 := by
        have hm := List.mem_filter.1 (List.getElem_mem (l := kl σ.nw) hjk)
        rw [hxe]
        exact ⟨of_decide_eq_true hm.2, List.mem_range.1 hm.1⟩
      have hEn : E.n = (x : Int) := by
        have h1 : (nums5 r.nw)[j]? = some E.n := by
          unfold nums5
          rw [List.getElem?_map, List.getElem?_eq_getElem hje, hEe]; rfl
        have h2 : (zl (kl σ.nw))[j]? = some (x : Int) := by
          unfold zl
          rw [List.getElem?_map, List.getElem?_eq_getElem hjk, hxe]; rfl
        rw [HL.out.nw.ns] at h1
        exact Option.some.inj (h1.symm.trans h2)
      obtain ⟨rs, hrec, hrl, hrq, hpx⟩ := HL.out.nw.pg E (hEe ▸ List.getElem_mem hje)
      rw [hEn, Int.toNat_natCast] at hpx
      obtain ⟨b1, o1, hao, hc1⟩ := HSM.out.li j (by rw [zl_len]; exact hjk)
      obtain rfl := hao
      have hz1 : (zl (kl σ.nw))[j]'(by rw [zl_len]; exact hjk) = (x : Int) := by simp [zl, hxe]
      rw [hz1] at hc1
      obtain ⟨b2, o2, hna, hr2⟩ := HSM.out.rx.at'.n j hje
      rw [← hEe] at hr2
      obtain rfl : na = some ⟨b2, o2, none⟩ := HNA.out.trans hna
      have HRD := Lib.hid (read_all HSM.out.ss (x : Int) (by omega))
      have HC0 := Lib.hid (show rdC ({ σ with H := H1 } : Sd) (x : Int) = 0 by
        unfold rdC
        rw [if_neg (by omega), Int.toNat_natCast, if_neg hxm.1])
      rw [HC0.out] at HRD
      have HREC := Lib.hid hrec
      have HLI := Lib.hid (fun (V : World) (h : Ints V (some ⟨b1, o1, none⟩) (zl (kl σ.nw))) => (show V.cell? ⟨b1, o1 + j, none⟩ = some (.int .i64 (x : Int)) from by
        obtain ⟨b', o', e', c'⟩ := h j (by rw [zl_len]; exact hjk)
        obtain ⟨rfl, rfl⟩ : b1 = b' ∧ o1 = o' := by simpa using e'
        rw [hz1] at c'; exact c'))
      have HEI := Lib.hid (fun (V : World) (h : RfAt V r) (hb : V.heap[w.heap.size]? = some (bxS r)) => (show EltAt V w.heap.size b2 (o2 + j * 7) r.nw.length r.nc o2 E from by
        obtain ⟨b', o', e', c'⟩ := h.n j hje
        rw [hna] at e'
        obtain ⟨rfl, rfl⟩ : b2 = b' ∧ o2 = o' := by simpa using e'
        rw [← hEe] at c'
        have hk := (row4_cells hb).1.2.1
        rw [hna] at hk
        exact ⟨hk, c' 0 _ rfl, c' 1 _ rfl, c' 2 _ rfl, c' 3 _ rfl, c' 4 _ rfl, c' 5 _ rfl⟩))
      have HPX := Lib.hid hpx
      clear hxe hEe hrec hpx hr2 hxm hz1 hna
      go_upto_region 8 with (go_at_call 14; refine HRD.out.mono ?_; rintro e w8 ⟨σ', pg, ra, cap8, B, C, he, hs8, hf8, ⟨H', rfl⟩, hpg, _⟩; obtain ⟨hp0, _, _, _, hown⟩ := hpg rfl; rw [Int.toNat_natCast, HPX.out] at hp0; subst hp0; change e = .returned (.tuple #[.agg #[.int .u8 E.ki, .int .u32 E.nu, .int .u64 E.ep, .int .i64 E.si, .slice ra rs.length cap8], errv 0]) at he; change OwnIn B C w8 (.slice ra rs.length cap8) rs.length rs at hown; rw [hrl] at he hown; rw [errv0] at he; subst he; have HS8 := Lib.hid (HSM.out.frm hs8 hf8); have HF8 := Lib.hid (fro_trans HFO.out hf8); have HRA := Lib.hid (own_recs hown); clear hs8 hf8 hpg hown)
      have HE0 := Lib.hid (HS8.out.below (Sm.alX w8 (.cells #[.int .u8 E.ki, .int .u32 E.nu, .int .u64 E.ep, .int .i64 E.si, .slice ra E.q cap8] 47)))
      have hbx := box_new w8 E.ki E.nu E.ep E.si (.slice ra E.q cap8)
      have HX8 := Lib.hid (heap_alloc_new w8 (.cells #[.int .u8 E.ki, .int .u32 E.nu, .int .u64 E.ep, .int .i64 E.si, .slice ra E.q cap8] 47))
      have HRB := Lib.hid (HRA.out.below (Sm.alX w8 (.cells #[.int .u8 E.ki, .int .u32 E.nu, .int .u64 E.ep, .int .i64 E.si, .slice ra E.q cap8] 47)))
      have HFB := Lib.hid (fro_more HF8.out (Sm.alX w8 (.cells #[.int .u8 E.ki, .int .u32 E.nu, .int .u64 E.ep, .int .i64 E.si, .slice ra E.q cap8] 47)))
      clear hbx HS8 HF8 HRA HRD HC0 HSM HFO
      generalize hV : w8.alloc (.cells #[.int .u8 E.ki, .int .u32 E.nu, .int .u64 E.ep, .int .i64 E.si, .slice ra E.q cap8] 47) = V at HE0 HX8 HRB HFB ⊢
      clear hV
      have HSV := Lib.hid (fun (V' : World) (hb : Below V.heap.size V V') => (show PgS V' w.heap.size b1 (o1 + j) b2 (o2 + j * 7) r.nw.length r.nc o2 (x : Int) E w8.heap.size ra cap8 from ⟨HLI.out V' (HE0.out.below hb).li, HEI.out V' (HE0.out.below hb).rx.at' (HE0.out.below hb).bx, box5 ((hb.block _ (lt_of_block HX8.out)).trans HX8.out)⟩))
      have K0 := Lib.hid (HSV.out _ (Below.refl _ _).drew)
      have HVD := Lib.hid (HE0.out.below (Below.refl _ _).drew)
      have HSA := Lib.hid (fun (V' : World) (hb : Below V.heap.size V V') => Sm.same_any E.ki E.nu E.ep E.si ra E.a E.q cap8 E.c rs V' hrl hrq (HRB.out.below hb) (HREC.out.below ((HE0.out.below hb).ss.sh.ps.b)))
      have HSD9 := Lib.hid (HSA.out V.drew (Below.refl V.heap.size V).drew)
      have e1 : ((x : Int) != E.n) = false := by rw [bne_eq_false_iff_eq, hEn]
      unfold PgS EltAt at K0
      go_region_held3 (fun w' => (w'.cell? ⟨b1, o1 + j, none⟩ = some (.int .i64 (x : Int))) ∧ (w'.cell? ⟨w.heap.size, 1, none⟩ = some (.slice (some ⟨b2, o2, none⟩) r.nw.length r.nc) ∧ w'.cell? ⟨b2, o2 + j * 7, none⟩ = some (.int .i64 E.n) ∧ w'.cell? ⟨b2, o2 + j * 7 + 1, none⟩ = some (.int .u8 E.ki) ∧ w'.cell? ⟨b2, o2 + j * 7 + 1 + 1, none⟩ = some (.int .u32 E.nu) ∧ w'.cell? ⟨b2, o2 + j * 7 + 1 + 2, none⟩ = some (.int .u64 E.ep) ∧ w'.cell? ⟨b2, o2 + j * 7 + 1 + 3, none⟩ = some (.int .i64 E.si) ∧ w'.cell? ⟨b2, o2 + j * 7 + 1 + 4, none⟩ = some (.slice E.a E.q E.c)) ∧ (w'.cell? ⟨w8.heap.size, 0, none⟩ = some (.int .u8 E.ki) ∧ w'.cell? ⟨w8.heap.size, 1, none⟩ = some (.int .u32 E.nu) ∧ w'.cell? ⟨w8.heap.size, 2, none⟩ = some (.int .u64 E.ep) ∧ w'.cell? ⟨w8.heap.size, 3, none⟩ = some (.int .i64 E.si) ∧ w'.cell? ⟨w8.heap.size, 4, none⟩ = some (.slice ra E.q cap8))) (first | with_reducible exact K0.out | with_reducible exact K1.out) (first | (go_at_call 42; refine (HSD9.out).mono ?_; rintro e w9 ⟨rfl, hb⟩; have HB9 := Lib.hid ((Below.refl V.heap.size V).drew.trans hb); have K1 := Lib.hid (HSV.out _ HB9.out); unfold PgS EltAt at K1; clear hb))
      have HNX := Lib.hid (show ∃ H', SmW W w9 (N + 2 * (j + 1)) { σ with H := H' } pk pn r w.heap.size (some ⟨b1, o1, none⟩) ∧ Fro w w9 σ { σ with H := H' } from ⟨H', by
        have e : N + 2 * (j + 1) = N + 2 * j + 2 := by omega
        rw [e]
        exact HE0.out.below HB9.out, fro_more HFB.out HB9.out⟩)
      clear HE0 HFB HSV HSA HSD9 HVD HX8 HRB HLI HEI HB9 K0 K1
      go_wp2
      go_roundw
      case rel => exact ⟨j + 1, by omega, by go_num, HNX⟩
      case measure => simp [intOf]; omega
    · have i1 : ¬ (j : Int) < (L : Int) := by omega
      have HF := Lib.hid (show SameE W N w σ pk pn r (.returned (.bool true)) wr from ⟨H1, rfl, HSM.out.ss.mono (by have := HL2.out; omega), HSM.out.rx, HFO.out⟩)
      clear HSM HFO
      go_wp2
      go_ret
      exact HF.out
end Go.Proofs.YtokikeenfpligaaGreatDoor.Sh
namespace Go.Proofs.YtokikeenfpligaaGreatDoor.Sh
open Go.RowKit Go.Maps

theorem ret_true {v : Value} {a b : Int} (h : a = b) : Ending.returned (.tuple #[v, .bool (a == b)]) = .returned (.tuple #[v, .bool true]) := by
  subst h; rw [beq_self_eq_true]
def ActT (W w : World) (N : Nat) (σ : Sd) (i : Nat) (e : Ending) (w' : World) : Prop :=
  ∃ (σ' : Sd) (pk' pn' : Nat → Sm.Pg) (r' : Rf), e = .returned (.tuple #[r'.val, .bool true]) ∧ St W w' (N + 4000) σ' pk' pn' r' (i + 1) ∧ Rel W σ' pk' pn' r' ∧ Eqs σ σ' ∧ Fro w w' σ σ'
theorem act_all {W w : World} {N : Nat} {σ : Sd} {pk pn : Nat → Sm.Pg} {r : Rf} {i : Nat} (h : St W w N σ pk pn r i) (hl2 : Rel W σ pk pn r) (hi : i ≤ 100) (A : ActV) (hok : ActOk W A) (hl : Laid W) (hN : N + 20000 < 2305843009213693952) :
    Calls Tryz.prog 12 #[.pointer (some ⟨σ.P, 0, none⟩), r.val, actVal A] w (ActT W w N σ i) := by
  have ok := h.ok hi
  obtain ⟨k, hk, hk7⟩ := red_nat A.kind 7 (by omega) (by omega)
  have l1 := h.l1
  have l2 := h.l2
  have e1 := h.e1
  have hep := h.ep
  by_cases h3 : k = 3
  · subst h3
    refine (act_drop A hk h.ss h.rx ok hl).mono ?_
    rintro e w' ⟨σ', r', rfl, hs, hx, he, hf, ⟨hkp, htb, hpe, hta⟩, hc1, hc0, hsu, hsz, hre, hn1, hn0⟩
    have hnw : ∀ j, σ'.nw j ≠ 0 → σ.nw j ≠ 0 := fun j hj => by
      by_cases c : drC σ A.n = 0
      · rw [(hc0 c).2.2] at hj
        by_cases q : j = A.n.toNat
        · rw [q, updN_same] at hj; exact absurd rfl hj
        · rw [updN_ne q] at hj; exact hj
      · rw [hc1 c] at hj; exact hj
    have hrw : r'.nw.length ≤ i ∧ NumO r'.nw := by
      by_cases c : drR r A.n = 0
      · rw [hn0 c]; exact ⟨Nat.le_trans (wo_len _ _) l2, numO_wo h.b2 _⟩
      · rw [hn1 c]; exact ⟨l2, h.b2⟩
    exact ⟨σ', pk, pn, r', ret_true (rel_dr h.ss hl2 A.n), ⟨hs.mono (by omega), hx, by rw [hsu]; omega, by omega, by rw [hsu]; exact h.b1, hrw.2, by rw [hsz]; exact h.s0, by rw [hsz]; exact h.s1, by rw [hre]; exact h.e0, by rw [hre]; omega, by omega, by rw [hkp, hpe]; exact h.qk, fun j hj => by rw [hpe]; exact h.qn j (hnw j hj)⟩, rel_drop h.ss hl2 he ⟨hkp, htb, hpe, hta⟩ hc1 hc0 hsu hsz hre hn1 hn0, he, hf⟩
  · by_cases h45 : k = 4 ∨ k = 5
    · obtain ⟨t, ht⟩ := istbl_ex h.ss.sh.vf.bnd
      refine (act_commit A (by omega) h.ss h.rx ok hl t ht (by omega) hN).mono ?_
      rintro e w' ⟨σ', r', rfl, hs, hx, he, hf, hc1, hc0, hsz, hn1, hn0⟩
      have hr : r'.su.length ≤ i ∧ r'.nw.length ≤ i ∧ NumO r'.su ∧ NumO r'.nw ∧ 0 ≤ r'.ep ∧ r'.ep ≤ (i : Int) + 1 := by
        have e0 := h.e0
        by_cases c : cmR r = 0
        · obtain ⟨q1, q2, q3⟩ := hn0 c
          rw [q1, q2, q3, cl_len]
          exact ⟨l2, l2, numO_cl h.b2, numO_cl h.b2, by omega, by omega⟩
        · obtain ⟨q1, q2, q3⟩ := hn1 c
          rw [q1, q2, q3]
          exact ⟨l1, l2, h.b1, h.b2, by omega, by omega⟩
      obtain ⟨r1, r2, r3, r4, r5, r6⟩ := hr
      have hrel := rel_commit h.ss hl2 ht he hc1 hc0 hsz hn1 hn0
      have hbe := rel_cm h.ss hl2 t ht
      by_cases c : σ.S.free < t
      · rw [if_pos c] at hs hrel
        obtain rfl := hc1 c
        exact ⟨σ', pk, pn, r', ret_true hbe, ⟨hs, hx, by omega, by omega, r3, r4, by rw [hsz]; exact h.s0, by rw [hsz]; exact h.s1, r5, by omega, by omega, h.qk, h.qn⟩, hrel, he, hf⟩
      · rw [if_neg c] at hs hrel
        obtain ⟨c1, c2, c3, _⟩ := hc0 c
        exact ⟨σ', pn, pn, r', ret_true hbe, ⟨hs, hx, by omega, by omega, r3, r4, by rw [hsz]; exact h.s0, by rw [hsz]; exact h.s1, r5, by omega, by omega, by rw [c1, c3]; exact h.qn, by rw [c2, c3]; exact h.qn.mono (by omega)⟩, hrel, he, hf⟩
    · by_cases h6 : k = 6
      · subst h6
        refine (act_abort A hk h.ss h.rx).mono ?_
        rintro e w' ⟨σ', rfl, hs, hx, he, hf, c1, c2, c3, _⟩
        exact ⟨σ', pk, pk, abR r, rfl, ⟨hs.mono (by omega), hx, by show r.su.length ≤ _; omega, by show r.su.length ≤ _; omega, h.b1, h.b1, h.s0, h.s1, h.e0, by show r.ep ≤ _; omega, by omega, by rw [c1, c3]; exact h.qk, by rw [c2, c3]; exact h.qk.mono (by omega)⟩, rel_abort hl2 he c1 c2 c3, he, hf⟩
      · refine (act_write A ⟨by omega, by omega, by omega, by omega, by omega⟩ hok.pg (by omega) h.ss h.rx ok hl).mono ?_
        rintro e w' ⟨σ', pn', r', rfl, hs, hx, he, hf, ⟨hkp, htb, hpe, hta⟩, hc1, hc0, hsu, hsz, hre, hn1, hn0⟩
        have hrel := rel_write h.ss hs hl2 hok.pg he ⟨hkp, htb, hpe, hta⟩ hc1 hc0 hsu hsz hre hn1 hn0
        have hbe := rel_wr h.ss hl2 A.n (Sm.Pg.mkPg A.ki A.nu A.ep A.si A.rs).may
        generalize hM : (Sm.Pg.mkPg A.ki A.nu A.ep A.si A.rs).may = M at hc1 hc0 hn1 hn0 hbe ⊢
        have hrw : r'.nw.length ≤ i + 1 ∧ NumO r'.nw := by
          by_cases c : wrR r A.n M = 0
          · rw [hn0 c, ins_len]
            have hb : 0 ≤ A.n ∧ A.n < 15006 := by
              unfold wrR at c
              by_cases q : A.n < 0 ∨ 15006 ≤ A.n
              · rw [if_pos q] at c; exact absurd c (by decide)
              · omega
            refine ⟨by have := wo_len r.nw A.n; omega, fun x hx => ?_⟩
            rcases ins_mem hx with rfl | hx
            · exact hb
            · exact numO_wo h.b2 _ x hx
          · rw [hn1 c]; exact ⟨by omega, h.b2⟩
        have hq : PgO σ'.nw pn' (σ.ep + 1) := by
          by_cases c : wrC σ A.n M = 0
          · obtain ⟨j, hj, hj2, rfl, ho, hs1, _⟩ := hc0 c
            intro q hq
            by_cases e : q = j
            · subst e
              rw [updP_same]
              exact ⟨rfl, by show (0 : Int) ≤ (σ.ep : Int) + 1; omega, by show (σ.ep : Int) + 1 ≤ _; omega⟩
            · rw [updP_ne e]
              rw [ho q e] at hq
              exact h.qn q hq
          · obtain ⟨c1, c2⟩ := hc1 c
            rw [c1, c2]; exact h.qn
        exact ⟨σ', pk, pn', r', ret_true hbe, ⟨hs.mono (by omega), hx, by rw [hsu]; omega, hrw.1, by rw [hsu]; exact h.b1, hrw.2, by rw [hsz]; exact h.s0, by rw [hsz]; exact h.s1, by rw [hre]; exact h.e0, by rw [hre]; omega, by omega, by rw [hkp, hpe]; exact h.qk, by rw [hpe]; exact hq⟩, hrel, he, hf⟩
end Go.Proofs.YtokikeenfpligaaGreatDoor.Sh

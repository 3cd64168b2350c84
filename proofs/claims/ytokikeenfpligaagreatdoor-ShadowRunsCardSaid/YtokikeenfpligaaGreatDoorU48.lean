/-
  THE LAW's act: all let go; and whatever act it is. Conditions: those that each lemma names.
  AN ACT, WHATEVER IT IS: what holds of both, and stays so. Conditions: those that each lemma names.
  THE REFERENCE's Read: its number, whatever page it is. Conditions: the lists lie in memory.
-/
import Derived.Test.YtokikeenfpligaaGreatDoorU47
namespace Go.Proofs.YtokikeenfpligaaGreatDoor.Sh
open Go.RowKit Go.Maps

def abR (r : Rf) : Rf := { r with nw := r.su, na := r.sa, nc := r.sc }
/-- what an act that lets all go leaves -/
def ActA (W : World) (N : Nat) (w : World) (σ : Sd) (pk : Nat → Sm.Pg) (r : Rf) (e : Ending) (w' : World) : Prop :=
  ∃ σ' : Sd, e = .returned (.tuple #[(abR r).val, .bool true]) ∧ Ss W N w' σ' pk pk ∧ RfX w' σ'.all (abR r) ∧ Eqs σ σ' ∧ Fro w w' σ σ' ∧ σ'.kp = σ.kp ∧ σ'.nw = σ.kp ∧ σ'.ep = σ.ep ∧ σ'.tb = σ.tb
theorem rfx_abort {w : World} {X : Nat → Prop} {r : Rf} (h : RfX w X r) : RfX w X (abR r) := ⟨⟨h.at'.s, h.at'.s⟩, h.s, h.s⟩
/-- the answer's box, all let go -/
structure BxH (n : Nat) (w : World) (r : Rf) : Prop where
  s : w.heap[n]? = some (bxS r)
  z : w.heap[n + 2]? = some bxZ
  l : n + 3 ≤ w.heap.size
theorem BxH.stp {n : Nat} {w w' : World} {r : Rf} {X X' : Nat → Prop} (h : BxH n w r) (hf : Stp w X w' X') (hX : ∀ b, X b → b < n) : BxH n w' r := by
  have := h.l
  exact ⟨(hf.block _ (by omega) (fun q => by have := hX _ q; omega)).trans h.s, (hf.block _ (by omega) (fun q => by have := hX _ q; omega)).trans h.z, Nat.le_trans h.l hf.size⟩
theorem BxH.below {n : Nat} {w w' : World} {r : Rf} (h : BxH n w r) (hb : Below w.heap.size w w') : BxH n w' r := h.stp (X := fun _ => False) (X' := fun _ => False) (.of_below hb) (fun _ q => q.elim)
theorem BxH.put {n : Nat} {w : World} {r : Rf} (h : BxH n w r) (v0 v1 v2 v3 : Value) : Cells4 ((((w.setCell ⟨n + 1 + 1, 0, none⟩ v0).setCell ⟨n + 1 + 1, 1, none⟩ v1).setCell ⟨n + 1 + 1, 2, none⟩ v2).setCell ⟨n + 1 + 1, 3, none⟩ v3) n r :=
  (row4_cells ((heap_set4 w (n + 1 + 1) n v0 v1 v2 v3 (by omega)).trans h.s)).1
theorem BxH.cells {n : Nat} {w : World} {r : Rf} (h : BxH n w r) : Cells4 w n r := (row4_cells h.s).1
theorem act_fin2 {W w : World} {M n : Nat} {σ : Sd} {pk pn : Nat → Sm.Pg} {r : Rf} (hs : Ss W M w σ pk pn) (hx : RfX w (also σ.all (n + 2)) r) (hz : w.heap[n + 2]? = some bxZ) (ho : ¬ σ.own (n + 2)) (hW : W.heap.size ≤ n) :
    let w' := (((w.setCell ⟨n + 1 + 1, 0, none⟩ (.slice r.sa r.su.length r.sc)).setCell ⟨n + 1 + 1, 1, none⟩ (.slice r.na r.nw.length r.nc)).setCell ⟨n + 1 + 1, 2, none⟩ (.int .i64 r.size)).setCell ⟨n + 1 + 1, 3, none⟩ (.int .i64 r.ep)
    w'.heap[n + 1 + 1]? = some (bxS r) ∧ Ss W M w' σ pk pn ∧ RfX w' σ.all r ∧ Wrt (isB (n + 2)) w w' := by
  intro w'
  have hw : Wrt (isB (n + 2)) w w' := ((((Wrt.refl (isB (n + 2)) w).set (show isB (n + 2) (n + 1 + 1) from rfl) 0 (.slice r.sa r.su.length r.sc)).set (show isB (n + 2) (n + 1 + 1) from rfl) 1 (.slice r.na r.nw.length r.nc)).set (show isB (n + 2) (n + 1 + 1) from rfl) 2 (.int .i64 r.size)).set (show isB (n + 2) (n + 1 + 1) from rfl) 3 (.int .i64 r.ep)
  exact ⟨row_set4 hz _ _ _ _, hs.other hw ho (by omega), (hx.stp (Stp.wide hw.stp (fun b q => .inr q) (fun b q => .inl q))).less (fun b q => .inl q), hw⟩
set_option maxRecDepth 100000 in
set_option maxHeartbeats 4000000 in
theorem act_abort {W w : World} {N : Nat} {σ : Sd} {pk pn : Nat → Sm.Pg} {r : Rf} (A : ActV) (hA : wrap64 ((IntKind.u64.wrap A.kind).tmod 7) = 6) (h : Ss W N w σ pk pn) (hx : RfX w σ.all r) :
    Calls Tryz.prog 12 #[.pointer (some ⟨σ.P, 0, none⟩), r.val, actVal A] w (ActA W N w σ pk r) := by
  have HBX := Lib.hid (bxA_new w r A)
  have HSS := Lib.hid h
  have HRX := Lib.hid hx
  have HDR := Lib.hid (fun (w2 : World) => abort_ref r w2)
  unfold Rf.val at HDR ⊢
  unfold actVal
  clear h hx
  go_enter Tryz.func12, Tryz.ntmps12
  go_upto_region 1 with (fail)
  have HB3 := Lib.hid HBX.out
  generalize ((w.alloc _).alloc _).alloc _ = w3 at HB3 ⊢
  obtain ⟨⟨x0, x1, x2, x3⟩, _⟩ := row4_cells HB3.out.s
  obtain ⟨a0, a1, a2, a3, a4, a5, a6⟩ := row7_cells HB3.out.p
  go_upto_region 10 with (fail)
  clear x0 x1 x2 x3 a0 a1 a2 a3 a4 a5 a6
  have HS3 := Lib.hid (HSS.out.below HB3.out.b)
  have HX3 := Lib.hid (rfx_abort ((HRX.out.more (g := w.heap.size + 2) (Nat.le_add_right _ _)).below HB3.out.b))
  have HG3 := Lib.hid (show BxH w.heap.size w3 r from ⟨HB3.out.s, HB3.out.z, HB3.out.l⟩)
  have HLT := Lib.hid (fun b (q : σ.own b) => (HSS.out.own_lt b q).2)
  have KA := Lib.hid HG3.out.cells
  have KD := Lib.hid (show Cells4 w3.drew w.heap.size r from HG3.out.cells)
  unfold Cells4 at KA KD
  go_region_held3 (fun w' => w'.cell? ⟨w.heap.size, 0, none⟩ = some (.slice r.sa r.su.length r.sc) ∧ w'.cell? ⟨w.heap.size, 1, none⟩ = some (.slice r.na r.nw.length r.nc) ∧ w'.cell? ⟨w.heap.size, 2, none⟩ = some (.int .i64 r.size) ∧ w'.cell? ⟨w.heap.size, 3, none⟩ = some (.int .i64 r.ep)) (first | with_reducible exact KD.out | with_reducible exact KA.out | with_reducible exact KE.out | with_reducible exact KF.out | with_reducible exact KS.out) (first | (go_at_call 18; refine (HDR.out _).mono ?_; rintro e w4 ⟨rfl, hb4⟩; have HB4 := Lib.hid (show Below w3.heap.size w3 w4 from by first | exact hb4 | exact ((Below.refl _ _).drew).trans hb4); have HG4 := Lib.hid (HG3.out.below HB4.out); have HS4 := Lib.hid (HS3.out.below HB4.out); have KE := Lib.hid HG4.out.cells; unfold Cells4 at KE; clear hb4) | (go_at_call 22; refine (abort_all (by first | exact HS4.out | exact HS4.out.below ((Below.refl _ _).drew))).mono ?_; rintro e w6 ⟨σ', rfl, hss6, hfr6, heq6, hd1, hd2, hd3, hd4, hta⟩; have HS6 := Lib.hid hss6; have HFR := Lib.hid (show Frm w4 w6 σ σ' from by first | exact hfr6 | exact frm_trans (frm_below ((Below.refl _ _).drew)) hfr6); have HTA := Lib.hid (show ∀ b, σ'.own b → σ.own b ∨ w4.heap.size ≤ b from own_same HFR.out hta); have HEQ := Lib.hid (And.intro heq6 (And.intro hd1 (And.intro hd2 (And.intro hd3 hd4)))); have HG6 := Lib.hid (HG4.out.stp HFR.out (fun b q => HLT.out b (.inl q))); have KF := Lib.hid HG6.out.cells; obtain ⟨⟨z0, z1, z2, z3⟩, t0, t1, t2, t3⟩ := row4_cells HG6.out.z; have KS := Lib.hid (HG6.out.put (.slice r.sa r.su.length r.sc) (.slice r.sa r.su.length r.sc) (.int .i64 r.size) (.int .i64 r.ep)); unfold Cells4 at KF KS; clear hss6 hfr6 heq6 hd1 hd2 hd3 hd4 hta))
  clear KA KD KE KF KS
  go_wp2
  obtain ⟨hrow, hs8, hx8, hw8⟩ := act_fin2 HS6.out (((HX3.out.below HB4.out).stp (stp_also HFR.out (w.heap.size + 2)))) HG6.out.z (fun q => by
    have h5 := HG4.out.l
    rcases HTA.out _ q with q | q
    · have := HLT.out _ q; omega
    · omega) HSS.out.sh.ps.b.size
  refine Sm.post_row_tmp Tryz.results12 (w.heap.size + 1 + 1) 36 #[.slice r.sa r.su.length r.sc, .slice r.sa r.su.length r.sc, .int .i64 r.size, .int .i64 r.ep] (0, 0) _ (.bool true) Tryz.underlying36 rfl info_rs (by rfl) (by rfl) hrow (by rfl) ?_
  exact ⟨σ', rfl, hs8, hx8, HEQ.out.1, fro_of (HB3.out.b.trans (HB4.out.mono HB3.out.b.size)) HFR.out (Below.refl _ _) hw8 HTA.out, HEQ.out.2.1, HEQ.out.2.2.1, HEQ.out.2.2.2.1, HEQ.out.2.2.2.2⟩
end Go.Proofs.YtokikeenfpligaaGreatDoor.Sh
namespace Go.Proofs.YtokikeenfpligaaGreatDoor.Sh
open Go.RowKit Go.Maps

def PgO (f : Nat → Nat) (p : Nat → Sm.Pg) (e : Nat) : Prop := ∀ k, f k ≠ 0 → Sm.Pg.number (p k) = (k : Int) ∧ 0 ≤ Sm.Pg.epoch (p k) ∧ Sm.Pg.epoch (p k) ≤ (e : Int)
theorem PgO.mono {f : Nat → Nat} {p : Nat → Sm.Pg} {e e' : Nat} (h : PgO f p e) (he : e ≤ e') : PgO f p e' := fun k hk => ⟨(h k hk).1, (h k hk).2.1, by have := (h k hk).2.2; omega⟩
def NumO (L : List Ent) : Prop := ∀ x ∈ L, 0 ≤ x.n ∧ x.n < 15006
theorem numO_wo {L : List Ent} (h : NumO L) (k : Int) : NumO (wo L k) := fun x hx => h x (List.mem_filter.1 hx).1
theorem numO_cl {L : List Ent} (h : NumO L) : NumO (cl L) := fun x hx => by
  obtain ⟨y, hy, rfl⟩ := List.mem_map.1 hx
  exact h y hy
theorem ins_mem {L : List Ent} {e x : Ent} (h : x ∈ ins L e) : x = e ∨ x ∈ L := by
  unfold ins at h
  rcases List.mem_append.1 h with h | h
  · rcases List.mem_append.1 h with h | h
    · exact .inr (List.takeWhile_subset _ h)
    · exact .inl (List.mem_singleton.1 h)
  · exact .inr (List.dropWhile_subset _ h)
theorem ins_len (L : List Ent) (e : Ent) : (ins L e).length = L.length + 1 := by
  unfold ins
  have := congrArg List.length (List.takeWhile_append_dropWhile (p := fun x : Ent => decide (x.n < e.n)) (l := L))
  rw [List.length_append] at this
  rw [List.length_append, List.length_append, List.length_singleton]
  omega
/-- behind i acts -/
structure St (W w : World) (N : Nat) (σ : Sd) (pk pn : Nat → Sm.Pg) (r : Rf) (i : Nat) : Prop where
  ss : Ss W N w σ pk pn
  rx : RfX w σ.all r
  l1 : r.su.length ≤ i
  l2 : r.nw.length ≤ i
  b1 : NumO r.su
  b2 : NumO r.nw
  s0 : 0 ≤ r.size
  s1 : r.size ≤ 16384
  e0 : 0 ≤ r.ep
  e1 : r.ep ≤ (i : Int)
  ep : σ.ep ≤ i
  qk : PgO σ.kp pk σ.ep
  qn : PgO σ.nw pn (σ.ep + 1)
theorem St.ok {W w : World} {N : Nat} {σ : Sd} {pk pn : Nat → Sm.Pg} {r : Rf} {i : Nat} (h : St W w N σ pk pn r i) (hi : i ≤ 100) : RfOk r :=
  ⟨by have := h.l1; omega, by have := h.l2; omega, h.b1, h.b2, h.s0, h.s1, h.e0, by have := h.e1; omega⟩
def ActN (W w : World) (N : Nat) (σ : Sd) (i : Nat) (e : Ending) (w' : World) : Prop :=
  ∃ (σ' : Sd) (pk' pn' : Nat → Sm.Pg) (r' : Rf) (b : Bool), e = .returned (.tuple #[r'.val, .bool b]) ∧ St W w' (N + 4000) σ' pk' pn' r' (i + 1) ∧ Eqs σ σ' ∧ Fro w w' σ σ'
theorem act_any {W w : World} {N : Nat} {σ : Sd} {pk pn : Nat → Sm.Pg} {r : Rf} {i : Nat} (h : St W w N σ pk pn r i) (hi : i ≤ 100) (A : ActV) (hok : ActOk W A) (hl : Laid W) (hN : N + 20000 < 2305843009213693952) :
    Calls Tryz.prog 12 #[.pointer (some ⟨σ.P, 0, none⟩), r.val, actVal A] w (ActN W w N σ i) := by
  have ok := h.ok hi
  obtain ⟨k, hk, hk7⟩ := red_nat A.kind 7 (by omega) (by omega)
  have l1 := h.l1
  have l2 := h.l2
  have e1 := h.e1
  have hep := h.ep
  by_cases h3 : k = 3
  · subst h3
    refine (act_drop A hk h.ss h.rx ok hl).mono ?_
    rintro e w' ⟨σ', r', rfl, hs, hx, he, hf, ⟨hkp, htb, hpe, _⟩, hc1, hc0, hsu, hsz, hre, hn1, hn0⟩
    have hnw : ∀ j, σ'.nw j ≠ 0 → σ.nw j ≠ 0 := fun j hj => by
      by_cases c : drC σ A.n = 0
      · rw [(hc0 c).2.2] at hj
        by_cases q : j = A.n.toNat
        · rw [q, updN_same] at hj; exact absurd rfl hj
        · rw [updN_ne q] at hj; exact hj
      · rw [hc1 c] at hj; exact hj
    have hrw : r'.nw.length ≤ i ∧ NumO r'.nw := by
      by_cases c : drR r A.n = 0
      · rw [hn0 c]; exact ⟨Nat.le_trans (wo_len _ _) l2, numO_wo h.b2 _⟩
      · rw [hn1 c]; exact ⟨l2, h.b2⟩
    exact ⟨σ', pk, pn, r', _, rfl, ⟨hs.mono (by omega), hx, by rw [hsu]; omega, by omega, by rw [hsu]; exact h.b1, hrw.2, by rw [hsz]; exact h.s0, by rw [hsz]; exact h.s1, by rw [hre]; exact h.e0, by rw [hre]; omega, by omega, by rw [hkp, hpe]; exact h.qk, fun j hj => by rw [hpe]; exact h.qn j (hnw j hj)⟩, he, hf⟩
  · by_cases h45 : k = 4 ∨ k = 5
    · obtain ⟨t, ht⟩ := istbl_ex h.ss.sh.vf.bnd
      refine (act_commit A (by omega) h.ss h.rx ok hl t ht (by omega) hN).mono ?_
      rintro e w' ⟨σ', r', rfl, hs, hx, he, hf, hc1, hc0, hsz, hn1, hn0⟩
      have hr : r'.su.length ≤ i ∧ r'.nw.length ≤ i ∧ NumO r'.su ∧ NumO r'.nw ∧ 0 ≤ r'.ep ∧ r'.ep ≤ (i : Int) + 1 := by
        have e0 := h.e0
        by_cases c : cmR r = 0
        · obtain ⟨q1, q2, q3⟩ := hn0 c
          rw [q1, q2, q3, cl_len]
          exact ⟨l2, l2, numO_cl h.b2, numO_cl h.b2, by omega, by omega⟩
        · obtain ⟨q1, q2, q3⟩ := hn1 c
          rw [q1, q2, q3]
          exact ⟨l1, l2, h.b1, h.b2, by omega, by omega⟩
      obtain ⟨r1, r2, r3, r4, r5, r6⟩ := hr
      by_cases c : σ.S.free < t
      · rw [if_pos c] at hs
        obtain rfl := hc1 c
        exact ⟨σ', pk, pn, r', _, rfl, ⟨hs, hx, by omega, by omega, r3, r4, by rw [hsz]; exact h.s0, by rw [hsz]; exact h.s1, r5, by omega, by omega, h.qk, h.qn⟩, he, hf⟩
      · rw [if_neg c] at hs
        obtain ⟨c1, c2, c3, _⟩ := hc0 c
        exact ⟨σ', pn, pn, r', _, rfl, ⟨hs, hx, by omega, by omega, r3, r4, by rw [hsz]; exact h.s0, by rw [hsz]; exact h.s1, r5, by omega, by omega, by rw [c1, c3]; exact h.qn, by rw [c2, c3]; exact h.qn.mono (by omega)⟩, he, hf⟩
    · by_cases h6 : k = 6
      · subst h6
        refine (act_abort A hk h.ss h.rx).mono ?_
        rintro e w' ⟨σ', rfl, hs, hx, he, hf, c1, c2, c3, _⟩
        exact ⟨σ', pk, pk, abR r, _, rfl, ⟨hs.mono (by omega), hx, by show r.su.length ≤ _; omega, by show r.su.length ≤ _; omega, h.b1, h.b1, h.s0, h.s1, h.e0, by show r.ep ≤ _; omega, by omega, by rw [c1, c3]; exact h.qk, by rw [c2, c3]; exact h.qk.mono (by omega)⟩, he, hf⟩
      · refine (act_write A ⟨by omega, by omega, by omega, by omega, by omega⟩ hok.pg (by omega) h.ss h.rx ok hl).mono ?_
        rintro e w' ⟨σ', pn', r', rfl, hs, hx, he, hf, ⟨hkp, htb, hpe, _⟩, hc1, hc0, hsu, hsz, hre, hn1, hn0⟩
        generalize hM : (Sm.Pg.mkPg A.ki A.nu A.ep A.si A.rs).may = M at hc1 hc0 hn1 hn0
        have hrw : r'.nw.length ≤ i + 1 ∧ NumO r'.nw := by
          by_cases c : wrR r A.n M = 0
          · rw [hn0 c, ins_len]
            have hb : 0 ≤ A.n ∧ A.n < 15006 := by
              unfold wrR at c
              by_cases q : A.n < 0 ∨ 15006 ≤ A.n
              · rw [if_pos q] at c; exact absurd c (by decide)
              · omega
            refine ⟨by have := wo_len r.nw A.n; omega, fun x hx => ?_⟩
            rcases ins_mem hx with rfl | hx
            · exact hb
            · exact numO_wo h.b2 _ x hx
          · rw [hn1 c]; exact ⟨by omega, h.b2⟩
        have hq : PgO σ'.nw pn' (σ.ep + 1) := by
          by_cases c : wrC σ A.n M = 0
          · obtain ⟨j, hj, hj2, rfl, ho, hs1, _⟩ := hc0 c
            intro q hq
            by_cases e : q = j
            · subst e
              rw [updP_same]
              exact ⟨rfl, by show (0 : Int) ≤ (σ.ep : Int) + 1; omega, by show (σ.ep : Int) + 1 ≤ _; omega⟩
            · rw [updP_ne e]
              rw [ho q e] at hq
              exact h.qn q hq
          · obtain ⟨c1, c2⟩ := hc1 c
            rw [c1, c2]; exact h.qn
        exact ⟨σ', pk, pn', r', _, rfl, ⟨hs.mono (by omega), hx, by rw [hsu]; omega, hrw.1, by rw [hsu]; exact h.b1, hrw.2, by rw [hsz]; exact h.s0, by rw [hsz]; exact h.s1, by rw [hre]; exact h.e0, by rw [hre]; omega, by omega, by rw [hkp, hpe]; exact h.qk, by rw [hpe]; exact hq⟩, he, hf⟩
end Go.Proofs.YtokikeenfpligaaGreatDoor.Sh
namespace Go.Proofs.YtokikeenfpligaaGreatDoor
open Go.RowKit

def rdR (r : Rf) (k : Int) : Int := if k < 0 ∨ 15006 ≤ k then 4 else if k ∈ nums5 r.nw then 0 else 8
def ReadR (w : World) (c : Int) (e : Ending) (w' : World) : Prop := ∃ (k0 k1 k2 k3 : Int) (a : Option Addr) (q z : Nat), e = .returned (.tuple #[.agg #[.int .u8 k0, .int .u32 k1, .int .u64 k2, .int .i64 k3, .slice a q z], .int .i64 c]) ∧ Below w.heap.size w w'
abbrev bxP0 : Obj := .cells #[.int .u8 0, .int .u32 0, .int .u64 0, .int .i64 0, .slice none 0 0] 43
structure Bx2r (w w3 : World) (r : Rf) : Prop where
  s : w3.heap[w.heap.size]? = some (bxS r)
  z : w3.heap[w.heap.size + 1]? = some bxP0
  b : Below w.heap.size w w3
theorem bx2r_new (w : World) (r : Rf) : Bx2r w ((w.alloc (bxS r)).alloc bxP0) r :=
  ⟨(Go.heap_alloc_old _ _ (by simp)).trans (heap_alloc_new w _), heap_alloc2_new w _ _, ((Below.refl _ _).alloc (Nat.le_refl _) _).alloc (by simp) _⟩
theorem heap_set5 {w : World} {g : Nat} {a0 a1 a2 a3 a4 : Value} {t : TypeId} (h : w.heap[g]? = some (.cells #[a0, a1, a2, a3, a4] t (0, 0))) (v0 v1 v2 v3 v4 : Value) :
    (((((w.setCell ⟨g, 0, none⟩ v0).setCell ⟨g, 1, none⟩ v1).setCell ⟨g, 2, none⟩ v2).setCell ⟨g, 3, none⟩ v3).setCell ⟨g, 4, none⟩ v4).heap[g]? = some (.cells #[v0, v1, v2, v3, v4] t (0, 0)) := by
  have h0 := heap_setCell_same w g 0 _ _ v0 h
  have h1 := heap_setCell_same _ g 1 _ _ v1 h0
  have h2 := heap_setCell_same _ g 2 _ _ v2 h1
  have h3 := heap_setCell_same _ g 3 _ _ v3 h2
  have h4 := heap_setCell_same _ g 4 _ _ v4 h3
  rw [h4]
  rfl
theorem below_set5 {n : Nat} {w w1 : World} {g : Nat} (h : Below n w w1) (hg : n ≤ g) (v0 v1 v2 v3 v4 : Value) : Below n w (((((w1.setCell ⟨g, 0, none⟩ v0).setCell ⟨g, 1, none⟩ v1).setCell ⟨g, 2, none⟩ v2).setCell ⟨g, 3, none⟩ v3).setCell ⟨g, 4, none⟩ v4) := ((((h.setCell hg v0).setCell hg v1).setCell hg v2).setCell hg v3).setCell hg v4
set_option maxRecDepth 100000 in
theorem info_pg3 : (Tryz.prog.info? 43).map (·.size) = some 5 := by kernel_rfl
set_option maxRecDepth 100000 in
set_option maxHeartbeats 2000000 in
theorem read_ref (r : Rf) (k : Int) (w : World) (h : RfAt w r) (ok : RfOk r) :
    Calls Tryz.prog 15 #[r.val, .int .i64 k] w (ReadR w (rdR r k)) := by
  have HBX := Lib.hid (bx2r_new w r)
  have HRA := Lib.hid h
  have HFD := Lib.hid (fun (w2 : World) (h2 : RfAt w2 r) => find_ref r.na r.nw.length r.nc r.nw k w2 h2.n rfl (by have := ok.l2; omega))
  have l2 := ok.l2
  unfold rdR Rf.val
  clear h ok
  by_cases hk : k < 0 ∨ 15006 ≤ k
  · rw [if_pos hk]
    rcases hk with hk | hk
    case' inr => have hk2 : ¬ k < 0 := by omega
    all_goals go_enter Tryz.func15, Tryz.ntmps15
    all_goals go_upto_region 1 with (fail)
    all_goals generalize (w.alloc _).alloc _ = w2 at HBX ⊢
    all_goals obtain ⟨⟨z0, z1, z2, z3, z4⟩, t0, t1, t2, t3, t4⟩ := Sm.row_cells HBX.out.z
    all_goals go_wp2
    all_goals refine Sm.post_row_tmp Tryz.results15 (w.heap.size + 1) 43 #[.int .u8 0, .int .u32 0, .int .u64 0, .int .i64 0, .slice none 0 0] (0, 0) _ (.int .i64 4) Tryz.underlying43 rfl info_pg3 (by rfl) (by rfl) (heap_set5 HBX.out.z _ _ _ _ _) (by rfl) ?_
    all_goals exact ⟨_, _, _, _, _, _, _, rfl, below_set5 HBX.out.b (by omega) _ _ _ _ _⟩
  · rw [if_neg hk]
    have h0 : ¬ k < 0 := fun e => hk (.inl e)
    have h1 : ¬ 15006 ≤ k := fun e => hk (.inr e)
    clear hk
    by_cases hm : k ∈ nums5 r.nw
    · rw [if_pos hm]
      obtain ⟨j, hj, hp, _⟩ := plc_at hm
      rw [hp] at HFD
      obtain ⟨b, off, hna, hr⟩ := HRA.out.n j hj
      have HCE := Lib.hid (show w.rangeAt b (off + j * 7) r.nw[j].cells from hr)
      have lb : b < w.heap.size := World.block_lt_of_cell? w _ (hr 0 _ rfl)
      have HNA := Lib.hid hna
      clear hr hm hp hna
      have j0 : (0 : Int) ≤ (j : Int) := by omega
      have j1 : (j : Int) < (r.nw.length : Int) := by omega
      generalize r.nw[j] = y at HCE
      go_enter Tryz.func15, Tryz.ntmps15
      go_upto_region 1 with (fail)
      generalize (w.alloc _).alloc _ = w2 at HBX ⊢
      obtain ⟨⟨x0, x1, x2, x3⟩, _⟩ := row4_cells HBX.out.s
      obtain ⟨⟨z0, z1, z2, z3, z4⟩, t0, t1, t2, t3, t4⟩ := Sm.row_cells HBX.out.z
      have HR2 := Lib.hid (HRA.out.below HBX.out.b)
      have HC2 := range_same HCE.out (w' := w2) (HBX.out.b.block b lb)
      have c1 : w2.cell? ⟨b, off + j * 7 + 1, none⟩ = some (.int .u8 y.ki) := HC2 1 _ rfl
      have c2 : w2.cell? ⟨b, off + j * 7 + 1 + 1, none⟩ = some (.int .u32 y.nu) := HC2 2 _ rfl
      have c3 : w2.cell? ⟨b, off + j * 7 + 1 + 2, none⟩ = some (.int .u64 y.ep) := HC2 3 _ rfl
      have c4 : w2.cell? ⟨b, off + j * 7 + 1 + 3, none⟩ = some (.int .i64 y.si) := HC2 4 _ rfl
      have c5 : w2.cell? ⟨b, off + j * 7 + 1 + 4, none⟩ = some (.slice y.a y.q y.c) := HC2 5 _ rfl
      clear HC2
      have HFX := Lib.hid (HFD.out w2 HR2.out)
      rw [HNA.out] at x1 HFX
      go_wp2_with (go_at_call 46; refine HFX.out.mono ?_; rintro e w' ⟨rfl, rfl⟩)
      refine Sm.post_row_tmp Tryz.results15 (w.heap.size + 1) 43 #[.int .u8 y.ki, .int .u32 y.nu, .int .u64 y.ep, .int .i64 y.si, .slice y.a y.q y.c] (0, 0) _ (.int .i64 0) Tryz.underlying43 rfl info_pg3 (by rfl) (by rfl) (heap_set5 HBX.out.z _ _ _ _ _) (by rfl) ?_
      exact ⟨_, _, _, _, _, _, _, rfl, below_set5 HBX.out.b (by omega) _ _ _ _ _⟩
    · rw [if_neg hm]
      have hneg : plc (nums5 r.nw) k < 0 := plc_neg.2 hm
      clear hm
      generalize plc (nums5 r.nw) k = p at HFD hneg
      go_enter Tryz.func15, Tryz.ntmps15
      go_upto_region 1 with (fail)
      generalize (w.alloc _).alloc _ = w2 at HBX ⊢
      obtain ⟨⟨x0, x1, x2, x3⟩, _⟩ := row4_cells HBX.out.s
      obtain ⟨⟨z0, z1, z2, z3, z4⟩, t0, t1, t2, t3, t4⟩ := Sm.row_cells HBX.out.z
      have HFX := Lib.hid (HFD.out w2 (HRA.out.below HBX.out.b))
      go_wp2_with (go_at_call 46; refine HFX.out.mono ?_; rintro e w' ⟨rfl, rfl⟩)
      refine Sm.post_row_tmp Tryz.results15 (w.heap.size + 1) 43 #[.int .u8 0, .int .u32 0, .int .u64 0, .int .i64 0, .slice none 0 0] (0, 0) _ (.int .i64 8) Tryz.underlying43 rfl info_pg3 (by rfl) (by rfl) (heap_set5 HBX.out.z _ _ _ _ _) (by rfl) ?_
      exact ⟨_, _, _, _, _, _, _, rfl, below_set5 HBX.out.b (by omega) _ _ _ _ _⟩
end Go.Proofs.YtokikeenfpligaaGreatDoor

/-
  OPENED, AS THE STATEMENTS MEET IT: from a shadow's disk, beside it or behind it. Conditions: those that each lemma names.
  WHAT MUST COME WHATEVER THE INPUT IS: the statements' own fixed example holds. No conditions.
-/
import Derived.Test.YtlfkkakohldgnaaGreatDoorN49
namespace Go.Proofs.YtlfkkakohldgnaaGreatDoor.Sh
open Go.RowKit Go.Maps

def OpAny (W : World) (N : Nat) (w : World) (σ : Sd) (m : Nat) (pk : Nat → Sm.Pg) (e : Ending) (w' : World) : Prop :=
  ∃ σ', e = .returned (.tuple #[.pointer (some ⟨σ'.P, 0, none⟩), .nilIface]) ∧ Ss W N w' σ' pk pk ∧ Sh W N w' σ' (fun _ => True) ∧ Stp w σ.H w' σ'.all ∧ σ'.D = σ.D ∧ σ'.n = σ.n ∧ σ'.m = m ∧ σ'.kp = σ.kp ∧ σ'.nw = σ.kp ∧ σ'.ep = σ.ep ∧ σ'.tb = σ.tb
theorem open_all {W w : World} {N : Nat} {σ : Sd} {pk pn : Nat → Sm.Pg} (h : Ss W N w σ pk pn) (m : Nat) (h1 : 1 ≤ m) (h2 : m ≤ 1024) (hN : N + 10000 < 2305843009213693952) :
    Calls Tryz.prog 17 #[.pointer (some ⟨σ.D, 0, none⟩), .int .i64 (m : Int)] w (OpAny W (N + 20000) w σ m pk) := by
  obtain ⟨ct', Hd, hd, hc, hH⟩ := h.sh.ps.disk'
  have hb := h.sh.kf.bnd
  have hk : ∀ q, Kept σ q → ct' q = σ.ct q := fun q hq => hc q (by
    rcases hq with e | e | ⟨k, e, rfl⟩
    · have := h.iv.n4; omega
    · exact (h.iv.sk.tl q e).2
    · exact (h.iv.sk.fl k e).2) hq
  refine (open_any m hd (fun k hk => (h.sh.ps.lt k (hH k hk)).2) h.iv.n4 h.iv.n1 h1 h2 (h.iv.openOk hb (ct := ct') (fun q hq => hk q (by rcases hq with e | e; exact .inl e; exact .inr (.inl e)))) hN).mono ?_
  rintro e w' ⟨σ', rfl, hsh, hs, hT, hst, _⟩
  have hi := inv_open h.iv h1 h2 hk hs hT
  obtain ⟨e1, e2, e3, e4, e5, e6, e7, e8, e9, e10⟩ := hs
  exact ⟨σ', rfl, ⟨hsh.less (fun _ _ => trivial), hi.kept⟩, hsh, Stp.wide hst hH (fun b q => by rcases hst.own b q with e | e; exact .inl (hH b e); exact .inr q), e1, e2, e3, e5, e6, e8, e4⟩
/-- .. and the first one goes on -/
def OpBes (W : World) (N : Nat) (w : World) (σ : Sd) (pk pn : Nat → Sm.Pg) (e : Ending) (w' : World) : Prop :=
  ∃ σ' H', e = .returned (.tuple #[.pointer (some ⟨σ'.P, 0, none⟩), .nilIface]) ∧ Ss W N w' σ' pk pk ∧ Ss W N w' { σ with H := H' } pk pn ∧ Frm w w' σ { σ with H := H' } ∧ σ'.kp = σ.kp ∧ σ'.nw = σ.kp ∧ σ'.ep = σ.ep ∧ σ'.tb = σ.tb ∧ σ'.n = σ.n
theorem open_beside {W w : World} {N : Nat} {σ : Sd} {pk pn : Nat → Sm.Pg} (h : Ss W N w σ pk pn) (ha : Sh W N w σ (fun _ => True)) (m : Nat) (h1 : 1 ≤ m) (h2 : m ≤ 1024) (hN : N + 10000 < 2305843009213693952) :
    Calls Tryz.prog 17 #[.pointer (some ⟨σ.D, 0, none⟩), .int .i64 (m : Int)] w (OpBes W (N + 20000) w σ pk pn) := by
  have hb := h.sh.kf.bnd
  obtain ⟨Hd, hd, hH, hag⟩ := ha.ps.again
  refine (open_any m hd (fun k hk => (h.sh.ps.lt k (hH k hk)).2) h.iv.n4 h.iv.n1 h1 h2 (h.iv.openOk hb (ct := σ.ct) (fun _ _ => rfl)) hN).mono ?_
  rintro e w' ⟨σ', rfl, hsh, hs, hT, hst, _⟩
  have hi := inv_open h.iv h1 h2 (fun _ _ => rfl) hs hT
  obtain ⟨e1, e2, e3, e4, e5, e6, e7, e8, e9, e10⟩ := hs
  have hps := hsh.ps
  rw [e1, e2, e10] at hps
  have hst2 : Stp w Hd w' σ'.H := ⟨hst.os, hst.tape, hst.output, hst.size, hst.block, fun k q => hst.own k (.inr (.inr (.inr (.inr (.inr q)))))⟩
  obtain ⟨H', hp1, hs1⟩ := hag hps hst2 (by omega)
  have hsh1 := ha.pool hp1 hs1 (by omega)
  exact ⟨σ', H', rfl, ⟨hsh.less (fun _ _ => trivial), hi.kept⟩, ⟨hsh1.less (fun _ _ => trivial), h.iv.pool H'⟩, frm_pool (σ := σ) (ct' := σ.ct) hs1, e5, e6, e8, e4, e2⟩
end Go.Proofs.YtlfkkakohldgnaaGreatDoor.Sh
namespace Go.Proofs.YtlfkkakohldgnaaGreatDoor.Sh
open Go.RowKit Go.Maps

theorem recs9 (w : World) : Sm.Recs ((w.alloc (.cells #[.int .u8 9] 5)).alloc (.cells #[.slice (some ⟨w.heap.size, 0, none⟩) 1 1] 72)) (some ⟨w.heap.size + 1, 0, none⟩) [[9]] := by
  intro i hi
  obtain rfl : i = 0 := by simpa using hi
  refine ⟨w.heap.size + 1, 0, some ⟨w.heap.size, 0, none⟩, 1, rfl, ?_, ?_, (show 1 ≤ 1 by decide), by decide⟩
  · have h := heap_alloc2_new w (.cells #[.int .u8 9] 5) (.cells #[.slice (some ⟨w.heap.size, 0, none⟩) 1 1] 72)
    rw [cell_of_row _ _ _ _ _ _ h]
    rfl
  · refine Sm.Lies.below (w := w.alloc (.cells #[.int .u8 9] 5)) ?_ (Sm.alX _ _)
    intro j hj
    obtain rfl : j = 0 := by simpa using hj
    exact ⟨w.heap.size, 0, rfl, by rw [cell_of_row _ _ _ _ _ _ (heap_alloc_new w _)]; rfl, by show (0 : Int) ≤ 9; decide, by show (9 : Int) < 256; decide⟩
/-- the example's page -/
theorem may9 : (Sm.Pg.mkPg 1 0 0 1 [[9]]).may = true := by decide
theorem put_one {σ σ' : Sd} {pn pn' : Nat → Sm.Pg} {ki si : Int} {rs : List (List Int)} (h : Put1 σ σ' pn pn' 5 ki si rs) (h0 : σ.nw = fun _ => 0) : ∀ j, σ'.nw j ≠ 0 ↔ j = 5 := by
  obtain ⟨k, hk, _, _, ho, hs, _⟩ := h
  obtain rfl : k = 5 := by omega
  intro j
  by_cases e : j = 5
  · subst e; exact ⟨fun _ => rfl, fun _ => hs⟩
  · rw [ho j e, h0]; exact ⟨fun q => absurd rfl q, fun q => absurd q e⟩
theorem late_new {kp nw : Nat → Nat} (h : kp = fun _ => 0) : lateL kp nw = kl nw := by
  unfold lateL
  rw [List.filter_eq_self]
  intro a ha
  unfold kl at ha
  have h1 := (List.mem_filter.1 ha).2
  rw [h]
  exact h1
/-- how many are free behind the example's page, and behind its Commit -/
theorem free_w {W w : World} {N : Nat} {σ : Sd} {pk pn : Nat → Sm.Pg} (h : Ss W N w σ pk pn) (hn : σ.n = 8) (hk : σ.kp = fun _ => 0) (ht : σ.tb = []) (h5 : ∀ j, σ.nw j ≠ 0 ↔ j = 5) : σ.S.free = 5 := by
  have := h.free
  rw [hn, late_new hk, kl_one (by decide) h5, ht, hk, kl_none] at this
  simp only [List.length_nil] at this
  omega
theorem free_c {W w : World} {N : Nat} {σ : Sd} {pk pn : Nat → Sm.Pg} (h : Ss W N w σ pk pn) (hn : σ.n = 8) (hk : σ.nw = σ.kp) (ht : σ.tb.length = 1) (h5 : ∀ j, σ.kp j ≠ 0 ↔ j = 5) : σ.S.free = 4 := by
  have := h.free
  rw [hn, hk, lateL_same, kl_one (by decide) h5, ht] at this
  simp only [List.length_nil] at this
  omega
set_option maxRecDepth 100000 in
set_option maxHeartbeats 4000000 in
theorem sure_any (w : World) :
    Calls Tryz.prog 9 #[] w fun e w' => e = .returned (.bool true) ∧ Below w.heap.size w w' := by
  go_enter Tryz.func9, Tryz.ntmps9
  go_wp2_with fail
  refine (disk_new (W := w) 8 w (Below.refl _ _) (by decide) (by decide)).mono ?_
  rintro e w1 ⟨D, H, rfl, hdk, hb1⟩
  have HDK := Lib.hid hdk
  clear hdk hb1
  go_wp2_with fail
  refine (new_fresh 2 HDK.out (by decide) (by decide) (by decide) (by decide)).mono ?_
  rintro e w2 ⟨σ, rfl, _, hss, e1, e2, e3, e4, e5, e6, e7⟩
  have HS := Lib.hid hss
  have HFR := Lib.hid (show σ.S.free = 6 by
    have := hss.free
    rw [e2, e5, e6, e7, lateL_same, kl_none] at this
    simp only [List.length_nil] at this
    omega)
  have HE := Lib.hid (And.intro e1 (And.intro e2 (And.intro e3 (And.intro e4 (And.intro e5 (And.intro e6 e7))))))
  have HC := Lib.hid (show wrC σ 5 (Sm.Pg.mkPg 1 0 0 1 [[9]]).may = 0 by unfold wrC; rw [may9, if_neg (by decide), if_neg (by decide), if_pos (.inr (by rw [HFR.out]; decide))])
  clear hss e1 e2 e3 e4 e5 e6 e7
  have HB3 := Lib.hid ((Sm.alX w2 (.cells #[.int .u8 9] 5)).trans ((Sm.alX (w2.alloc (.cells #[.int .u8 9] 5)) (.cells #[.slice (some ⟨w2.heap.size, 0, none⟩) 1 1] 72)).mono (by simp)))
  have HWR := Lib.hid (write_all (HS.out.below HB3.out) 5 1 0 0 1 _ 1 1 [[9]] rfl (by decide) (by decide) (recs9 w2) (by decide) (by decide) (by decide))
  rw [HC.out] at HWR
  go_upto_region 4 with (first | (go_at_call 24; refine (free_any σ.P σ.G σ.T σ.S _ HS.out.sh.hd.c6 HS.out.sh.sp).mono ?_; rw [HFR.out]; rintro e w' ⟨rfl, rfl⟩) | (go_at_call 19; refine HWR.out.mono ?_; rintro e w3 ⟨σ1, pn1, rfl, hs1, _, hq1, hk1, _, hp1⟩; rw [errv0]; have HS1 := Lib.hid hs1; have HP1 := Lib.hid (put_one (hp1 rfl) HE.out.2.2.2.2.1); have HX1 := Lib.hid (hp1 rfl); have HQ1 := Lib.hid hq1; have HK1 := Lib.hid hk1; clear hs1 hq1 hk1 hp1; rw [← HQ1.out.1]; have HF1 := Lib.hid (free_w HS1.out (HQ1.out.2.2.1.trans HE.out.2.1) (HK1.out.1.trans HE.out.2.2.2.2.2.1) (HK1.out.2.1.trans HE.out.2.2.2.2.2.2) HP1.out)))
  refine (commit_all HS1.out 1 (istbl_one (k := 5) HP1.out) (by rw [HK1.out.2.2.1, HE.out.2.2.2.1]; decide) (by decide)).mono ?_
  rintro e w4 ⟨σ2, rfl, hs2, _, hq2, _, hc2⟩
  have hno : ¬ σ1.S.free < 1 := by rw [HF1.out]; decide
  rw [if_neg hno] at hs2 ⊢
  rw [errv0]
  have HS2 := Lib.hid hs2
  have HQ2 := Lib.hid hq2
  have HC2 := Lib.hid (hc2 hno)
  clear hs2 hq2 hc2 hno
  have HD2 := Lib.hid (show σ2.D = D by rw [HQ2.out.2.1, HQ1.out.2.1]; exact HE.out.1)
  have HP2 := Lib.hid (show ∀ j, σ2.kp j ≠ 0 ↔ j = 5 by rw [HC2.out.2.1]; exact HP1.out)
  have HOP := Lib.hid (open_all HS2.out 1 (by decide) (by decide) (by decide))
  rw [HD2.out] at HOP
  go_wp2_with fail
  refine HOP.out.mono ?_
  rintro e w5 ⟨σ3, rfl, hs3, _, _, e1, e2, e3, e4, e5, e6, e7⟩
  have HS3 := Lib.hid hs3
  have HF3 := Lib.hid (free_c hs3 (e2.trans (HQ2.out.2.2.1.trans (HQ1.out.2.2.1.trans HE.out.2.1))) (e5.trans e4.symm) (by rw [e7]; exact HC2.out.2.2.2.2) (by rw [e4]; exact HP2.out))
  have HN3 := Lib.hid (show σ3.nw 5 ≠ 0 by rw [e5]; exact (HP2.out 5).2 rfl)
  have HE3 := Lib.hid (show σ3.ep = 1 by rw [e6, HC2.out.2.2.2.1, HK1.out.2.2.1, HE.out.2.2.2.1])
  clear hs3 e1 e2 e3 e4 e5 e6 e7
  go_wp2_with fail
  have HC5 := Lib.hid (show rdC σ3 5 = 0 by unfold rdC; rw [if_neg (by decide), if_neg (by exact HN3.out)])
  have HRD := Lib.hid (read_all HS3.out 5 (by decide))
  rw [HC5.out] at HRD
  refine HRD.out.mono ?_
  rintro e w6 ⟨σ4, pg, ra, cap, B, C, rfl, hs4, _, hH, hpg, _⟩
  obtain ⟨hp0, _⟩ := hpg rfl
  obtain ⟨H', rfl⟩ := hH
  have HS4 := Lib.hid (hs4.below (Sm.alX w6 (.cells #[.int .u8 1, .int .u32 5, .int .u64 1, .int .i64 1, .slice ra 1 cap] 47)))
  have HBL := Lib.hid (hs4.sh.ps.b.trans ((Sm.alX w6 (.cells #[.int .u8 1, .int .u32 5, .int .u64 1, .int .i64 1, .slice ra 1 cap] 47)).mono hs4.sh.ps.b.size))
  have hpn : pg = npg 1 5 0 1 [[9]] := by
    obtain ⟨k, hk, _, hp, _⟩ := HX1.out
    obtain rfl : k = 5 := by omega
    rw [hp0, hp]
    show updP p0 5 _ 5 = _
    rw [updP_same, HE.out.2.2.2.1]
  have k1 : Sm.Pg.kind pg = 1 := by rw [hpn]; rfl
  have k2 : Sm.Pg.number pg = 5 := by rw [hpn]; rfl
  have k3 : Sm.Pg.epoch pg = 1 := by rw [hpn]; rfl
  have k4 : Sm.Pg.size pg = 1 := by rw [hpn]; rfl
  have k5 : (Sm.Pg.recs pg).length = 1 := by rw [hpn]; rfl
  rw [k1, k2, k3, k4, k5, errv0]
  have hx := box_new w6 1 5 1 1 (.slice ra 1 cap)
  have x0 := hx.f0
  have x1 := hx.f1
  have x2 := hx.f2
  have HEP := Lib.hid HS4.out.sh.hd.c5
  clear hs4 hp0 hpg hpn k1 k2 k3 k4 k5 hx
  go_wp2_with (first | (go_at_call 24; refine (free_any σ3.P σ3.G σ3.T σ3.S _ HS4.out.sh.hd.c6 HS4.out.sh.sp).mono ?_; rw [HF3.out]; rintro e w' ⟨rfl, rfl⟩) | (go_at_call 23; refine (epoch_any σ3.P (σ3.ep : Int) _ HS4.out.sh.hd.c5).mono ?_; rw [HE3.out]; rintro e w' ⟨rfl, rfl⟩))
  go_ret
  exact ⟨rfl, HBL.out⟩
end Go.Proofs.YtlfkkakohldgnaaGreatDoor.Sh

/-
  A PAGE DROPPED, plainly. Conditions: those that each lemma names.
  TABLES LAID: the walk of keep. Conditions: those that each lemma names.
  ALL KEPT, plainly. Conditions: those that each lemma names.
-/
import Derived.Deep.RegionHeld3
import Derived.Test.YtokikeenfpligaaGreatDoorU38
namespace Go.Proofs.YtokikeenfpligaaGreatDoor.Sh
open Go.RowKit Go.Maps

theorem Inv.drop {σ : Sd} {pk pn : Nat → Sm.Pg} (h : Inv σ (Kept σ) pk pn) {k : Nat} (h0 : σ.nw k ≠ 0) (DV : DataW Unit) :
    Inv { σ with nw := updN σ.nw k 0, S := dropS σ k, DV := DV } (Kept σ) pk pn := by
  have hn : (dropS σ k).n = σ.S.n := by unfold dropS; split <;> rfl
  have ht : ∀ i, (dropS σ k).t i = true ↔ i < 2 ∨ i ∈ σ.tb ∨ (∃ j, σ.kp j = i ∧ σ.kp j ≠ 0) ∨ (∃ j, updN σ.nw k 0 j = i ∧ updN σ.nw k 0 j ≠ 0) := by
    intro i
    cases hw : wrt σ.kp σ.nw k
    · have e : dropS σ k = σ.S := by unfold dropS; rw [hw]; rfl
      rw [e, h.tk i]
      constructor
      · rintro (q | q | q | ⟨j, q1, q2⟩)
        · exact .inl q
        · exact .inr (.inl q)
        · exact .inr (.inr (.inl q))
        · by_cases e : j = k
          · subst e
            rcases wrt_no hw with e | e
            · exact absurd e h0
            · exact .inr (.inr (.inl ⟨j, by rw [← e]; exact q1, by rw [← e]; exact q2⟩))
          · exact .inr (.inr (.inr ⟨j, by rw [updN_ne e]; exact q1, by rw [updN_ne e]; exact q2⟩))
      · rintro (q | q | q | ⟨j, q1, q2⟩)
        · exact .inl q
        · exact .inr (.inl q)
        · exact .inr (.inr (.inl q))
        · by_cases e : j = k
          · subst e; rw [updN_same] at q2; exact absurd rfl q2
          · rw [updN_ne e] at q1 q2; exact .inr (.inr (.inr ⟨j, q1, q2⟩))
    · obtain ⟨_, w2⟩ := wrt_yes hw
      have e : dropS σ k = σ.S.give (σ.nw k) := by unfold dropS; rw [hw]; rfl
      rw [e]
      show updB σ.S.t (σ.nw k) false i = true ↔ _
      unfold updB
      by_cases ei : i = σ.nw k
      · rw [if_pos ei]
        constructor
        · intro q; exact absurd q (by decide)
        · rintro (q | q | ⟨j, q1, q2⟩ | ⟨j, q1, q2⟩)
          · have := (h.sw.fl k h0).1; omega
          · exact absurd (ei ▸ q) (h.sw.dj k h0)
          · have := h.one k j h0 (ei.symm.trans q1.symm)
            subst this
            exact absurd (ei.symm.trans q1.symm) w2
          · by_cases e : j = k
            · subst e; rw [updN_same] at q2; exact absurd rfl q2
            · rw [updN_ne e] at q1 q2; exact absurd (h.sw.inj j k q2 (q1.trans ei)) e
      · rw [if_neg ei, h.tk i]
        constructor
        · rintro (q | q | q | ⟨j, q1, q2⟩)
          · exact .inl q
          · exact .inr (.inl q)
          · exact .inr (.inr (.inl q))
          · have e : j ≠ k := fun e => by subst e; exact ei q1.symm
            exact .inr (.inr (.inr ⟨j, by rw [updN_ne e]; exact q1, by rw [updN_ne e]; exact q2⟩))
        · rintro (q | q | q | ⟨j, q1, q2⟩)
          · exact .inl q
          · exact .inr (.inl q)
          · exact .inr (.inr (.inl q))
          · by_cases e : j = k
            · subst e; rw [updN_same] at q2; exact absurd rfl q2
            · rw [updN_ne e] at q1 q2; exact .inr (.inr (.inr ⟨j, q1, q2⟩))
  have hnw : ∀ {j : Nat}, updN σ.nw k 0 j ≠ 0 → j ≠ k ∧ updN σ.nw k 0 j = σ.nw j := fun {j} q => by
    by_cases e : j = k
    · subst e; rw [updN_same] at q; exact absurd rfl q
    · exact ⟨e, updN_ne e⟩
  refine ⟨h.n4, h.n1, h.m1, h.m2, hn.trans h.sn, ht, h.sk, ⟨h.sw.nd, h.sw.tl, fun j hj => ?_, fun j i hj e => ?_, fun j hj => ?_⟩, fun j i hj e => ?_, h.it, h.ck, fun i hi => ?_, h.tt, h.r2, h.e1, h.st, h.fl, h.sq⟩
  · obtain ⟨_, e⟩ := hnw hj
    simp only [e] at hj ⊢; exact h.sw.fl j hj
  · change updN σ.nw k 0 j ≠ 0 at hj
    change updN σ.nw k 0 j = updN σ.nw k 0 i at e
    obtain ⟨_, e1⟩ := hnw hj
    obtain ⟨_, e2⟩ := hnw (j := i) (by rw [← e]; exact hj)
    rw [e1, e2] at e
    rw [e1] at hj
    exact h.sw.inj j i hj e
  · obtain ⟨_, e⟩ := hnw hj
    simp only [e] at hj ⊢; exact h.sw.dj j hj
  · change updN σ.nw k 0 j ≠ 0 at hj
    change updN σ.nw k 0 j = σ.kp i at e
    obtain ⟨_, e1⟩ := hnw hj
    rw [e1] at hj e
    exact h.one j i hj e
  · obtain ⟨_, e⟩ := hnw hi
    simp only [e] at hi ⊢; exact h.cn i hi
end Go.Proofs.YtokikeenfpligaaGreatDoor.Sh
namespace Go.Proofs.YtokikeenfpligaaGreatDoor.Sh
open Go.RowKit Go.Maps

/-- the sectors behind the first k tables -/
def ctK (ct : Nat → ByteArray) (f : Nat → Nat) (e : Int) (pl : List Nat) : Nat → Nat → ByteArray
  | 0 => ct
  | k + 1 => updT (ctK ct f e pl k) (pl.getD k 0) (bt (pg4 84 (k : Int) e (tbl f k)))
theorem TabAt.stp {w w' : World} {H H' : Nat → Prop} {B c : Nat} {g : Nat → Nat} (h : TabAt w B c g) (s : Stp w H w' H') (hH : ∀ b, H b → b < B) : TabAt w' B c g :=
  h.same (fun k hk hk2 => s.block k (by have := h.z; omega) (fun q => by have := hH k q; omega)) s.size
theorem ints_stp {w w' : World} {H H' : Nat → Prop} {a : Option Addr} {xs : List Int} (h : Ints w a xs) (s : Stp w H w' H') (hH : ∀ b o, a = some ⟨b, o, none⟩ → ¬ H b) : Ints w' a xs := by
  intro i hi
  obtain ⟨b, off, ha, hc⟩ := h i hi
  exact ⟨b, off, ha, s.cell hc (hH b off ha)⟩
theorem tab_ints {w : World} {B c : Nat} {f : Nat → Nat} (h : TabAt w B c f) (i : Nat) (hi : i < c) : Ints w (some ⟨B + 1 + i, 0, none⟩) (zl (tbl f i)) := by
  intro j hj
  have hj' : j < 123 := by rw [zl_len, tbl_len] at hj; exact hj
  refine ⟨B + 1 + i, 0, rfl, ?_⟩
  rw [show (0 : Nat) + j = j from Nat.zero_add j, h.r i hi j hj']
  simp [zl, tbl]
theorem tbl_val {f : Nat → Nat} {D : DataW Unit} (h : MpF f D) (i : Nat) : ∀ x ∈ tbl f i, x ≤ 16384 := by
  intro x hx
  unfold tbl at hx
  rw [List.mem_map] at hx
  obtain ⟨j, _, rfl⟩ := hx
  exact h.val _
theorem listed_flat (ki nu ep : Int) (a : Option Addr) (n c : Nat) (l : List Nat) (w : World) (hn : l.length = n) (hx : Ints w a (zl l)) (hl : ∀ x ∈ l, x ≤ 16384) (hm : n ≤ 130) (u0 : 0 ≤ nu) (u1 : nu < 4294967296) (e0 : 0 ≤ ep) (e1 : ep ≤ 9223372036854775807) :
    Calls Tryz.prog 75 #[.int .u8 ki, .int .i64 nu, .int .i64 ep, .slice a n c] w fun e w' => ∃ ra cap, e = .returned (.agg #[.int .u8 ki, .int .u32 nu, .int .u64 ep, .int .i64 4, .slice ra n cap]) ∧ Sm.Recs w' ra (pg4 ki nu ep l).recs ∧ Below w.heap.size w w' := by
  refine (listed_any ki nu ep a n c l w hn hx hl hm u0 u1 e0 e1).mono ?_
  rintro e w' ⟨ra, cap, rfl, hr, hcap, hb⟩
  refine ⟨ra, cap, by rw [← hn]; rfl, ?_, hb⟩
  obtain ⟨ra', cap', hv, hrr, _⟩ := hr.recs
  obtain ⟨rfl, _⟩ : ra = ra' ∧ cap = cap' := by simpa using hv
  exact hrr
theorem drew_below (w : World) : Below w.heap.size w w.drew := ⟨rfl, rfl, rfl, Nat.le_refl _, fun _ _ => rfl⟩
structure KpRel (W : World) (N : Nat) (w wr : World) (p D : Nat) (ct : Nat → ByteArray) (f : Nat → Nat) (e : Int) (pl : List Nat) (Q : Nat → Prop) (n m : Nat) (H : Nat → Prop) (k : Nat) (H' : Nat → Prop) : Prop where
  ps : PS W (N + k) wr p D (ctK ct f e pl k) Q n m H'
  st : Stp w H wr H'
def KeptE (W : World) (N : Nat) (w : World) (p D : Nat) (ct : Nat → ByteArray) (f : Nat → Nat) (e : Int) (pl : List Nat) (c root : Nat) (n m : Nat) (H : Nat → Prop) (e' : Ending) (w' : World) : Prop :=
  e' = .returned .nilIface ∧ PG W N w w' p D (updT (ctK ct f e pl c) (1 - root) (bt (pg4 82 0 e pl))) (fun _ => True) n m H
theorem nh_stp {w w' : World} {H H' : Nat → Prop} (s : Stp w H w' H') {b : Nat} (hb : b < w.heap.size) (h : ¬ H b) : ¬ H' b := fun q => by
  rcases s.own b q with e | e
  · exact h e
  · omega
set_option maxRecDepth 100000 in
set_option maxHeartbeats 4000000 in
theorem keep_any {W w : World} {N p D n m : Nat} {ct : Nat → ByteArray} {Q H : Nat → Prop} (P : Nat) (h : PS W N w p D ct Q n m H) (c0 : w.cell? ⟨P, 0, none⟩ = some (.pointer (some ⟨p, 0, none⟩))) (root ep : Nat) (c4 : w.cell? ⟨P, 4, none⟩ = some (.int .i64 (root : Int))) (c5 : w.cell? ⟨P, 5, none⟩ = some (.int .i64 (ep : Int))) (hPH : ¬ H P) (hr2 : root < 2) (hep : ep < 4611686018427387904)
    (B c : Nat) (f : Nat → Nat) (DF : DataW Unit) (hf : MpF f DF) (ht : TabAt w B c f) (hHB : ∀ b, H b → b < B) (pl : List Nat) (ao : Option Addr) (cap : Nat) (hpl : pl.length = c) (hc122 : c ≤ 122) (hx : Ints w ao (zl pl)) (hao : ∀ b o, ao = some ⟨b, o, none⟩ → ¬ H b) (h16 : ∀ x ∈ pl, 2 ≤ x ∧ x < n ∧ ¬ Q x) (hn4 : 4 ≤ n) (hn : n ≤ 16384) (hN : N + 10000 < 2305843009213693952) (hm : m ≤ 1024) :
    Calls Tryz.prog 60 #[.pointer (some ⟨P, 0, none⟩), .slice (some ⟨B, 0, none⟩) c c, .slice ao c cap] w (KeptE W (N + c + m + 1 + m) w p D ct f ((ep : Int) + 1) pl c root n m H) := by
  have HS := Lib.hid h
  have HC0 := Lib.hid c0
  have HC4 := Lib.hid c4
  have HPH := Lib.hid hPH
  have HF := Lib.hid hf
  have HT := Lib.hid ht
  have HHB := Lib.hid hHB
  have HPL := Lib.hid hpl
  have HX := Lib.hid hx
  have HAO := Lib.hid hao
  have H16 := Lib.hid h16
  have HM := Lib.hid hm
  have hw1 : wrap64 ((ep : Int) + 1) = (ep : Int) + 1 := IntWalk.wrap64_in _ ⟨by omega, by omega⟩
  clear h hPH hf ht hHB hpl hx hao h16 hm c4
  go_enter Tryz.func60, Tryz.ntmps60
  go_wp2
  go_loopw [8, 9, 10, 19] (fun _ _ _ i wr => ∃ (k : Nat) (H' : Nat → Prop), k ≤ c ∧ i = .int .i64 k ∧ Hid (KpRel W N w wr p D ct f ((ep : Int) + 1) pl Q n m H k H')) (fun _ _ _ i _ => c - (intOf i).toNat)
  case atStart => exact ⟨0, H, by omega, rfl, Lib.hid ⟨HS.out, Stp.refl _ _⟩⟩
  case round =>
    obtain ⟨k, H1, hk, rfl, HR⟩ := hrel
    have HTK := Lib.hid (HT.out.stp HR.out.st HHB.out)
    have HXK := Lib.hid (ints_stp HX.out HR.out.st HAO.out)
    have HPK := Lib.hid (nh_stp HR.out.st (World.block_lt_of_cell? w _ HC0.out) HPH.out)
    have d0 := HR.out.st.cell HC0.out HPH.out
    have HD0 := Lib.hid d0
    have k0 : (0 : Int) ≤ (k : Int) := by omega
    have kk : k ≤ 122 := by omega
    have zc : (c : Int) ≤ 122 := by omega
    clear c0 c5
    by_cases hlt : k < c
    · obtain ⟨b, off, rfl, hcw⟩ := HX.out k (by rw [zl_len, HPL.out]; exact hlt)
      have hc := HR.out.st.cell hcw (HAO.out b off rfl)
      have HNB := Lib.hid (nh_stp HR.out.st (World.block_lt_of_cell? w _ hcw) (HAO.out b off rfl))
      clear hcw
      have j1 : (k : Int) < (c : Int) := by omega
      have s0 := HTK.out.s k hlt
      have HGT := Lib.hid (show (zl pl)[k]'(by rw [zl_len, HPL.out]; exact hlt) = ((pl.getD k 0 : Nat) : Int) by simp [zl, List.getD, List.getElem?_eq_getElem (show k < pl.length by rw [HPL.out]; exact hlt)])
      rw [HGT.out] at hc
      have hin : pl.getD k 0 ∈ pl := by rw [List.getD_eq_getElem?_getD, List.getElem?_eq_getElem (show k < pl.length by rw [HPL.out]; exact hlt)]; exact List.getElem_mem _
      have HS16 := Lib.hid (H16.out _ hin)
      have hin0 : (0 : Int) ≤ ((pl.getD k 0 : Nat) : Int) := by omega
      have HTI := Lib.hid (tab_ints HTK.out k hlt)
      have HOK := Lib.hid (pg4_ok 84 (k : Int) ((ep : Int) + 1) (tbl f k) (by rw [tbl_len]; decide) (by decide) (by decide) k0 (by omega) (by omega) (by omega))
      clear hin
      go_upto_region 5 with (fail)
      have HTI1 := Lib.hid (show Ints wr.drew (some ⟨B + 1 + k, 0, none⟩) (zl (tbl f k)) from HTI.out)
      have HPS1 := Lib.hid (HR.out.ps.below (drew_below wr))
      have HD1 := Lib.hid (show wr.drew.cell? ⟨P, 0, none⟩ = some (.pointer (some ⟨p, 0, none⟩)) from d0)
      have HC1 := Lib.hid (show wr.drew.cell? ⟨b, off + k, none⟩ = some (.int .i64 ((pl.getD k 0 : Nat) : Int)) from hc)
      have hcd := HC1.out
      have HBL := Lib.hid (World.block_lt_of_cell? wr _ hc)
      generalize hq : pl.getD k 0 = q at hc hcd HC1 HS16 hin0
      go_region_held3 (fun w' => w'.cell? ⟨b, off + k, none⟩ = some (.int .i64 (q : Int))) (first | with_reducible exact hc | with_reducible exact hcd | assumption) (first | (go_at_call 75; refine (listed_flat 84 k ((ep : Int) + 1) (some ⟨B + 1 + k, 0, none⟩) 123 123 (tbl f k) _ (tbl_len f k) HTI1.out (tbl_val HF.out k) (by decide) k0 (by omega) (by omega) (by omega)).mono ?_; rintro e w1 ⟨ra, cap1, rfl, hrr, hb⟩; have hc1 := (hb.cell (p := ⟨b, off + k, none⟩) HBL.out).trans HC1.out; have HRR := Lib.hid hrr; have HPS2 := Lib.hid (HPS1.out.below hb); have HD2 := Lib.hid ((hb.cell (p := ⟨P, 0, none⟩) (World.block_lt_of_cell? wr.drew _ HD1.out)).trans HD1.out); have HB2 := Lib.hid (show Below wr.heap.size wr w1 from (drew_below wr).trans (hb.mono (Nat.le_refl _))); clear hrr hb) | (go_at_call 52; refine (put_page P HPS2.out HD2.out q HS16.out.2.1 HS16.out.2.2 (pg4 84 (k : Int) ((ep : Int) + 1) (tbl f k)) HOK.out HPK.out ra 123 cap1 (by simp [pg4, tbl_len]) HRR.out (by omega)).mono ?_; rintro e w2 ⟨rfl, hpg⟩; obtain ⟨H2, hps2, hst2⟩ := hpg.after HB2.out; have hc2 := hst2.cell hc HNB.out; have HPS3 := Lib.hid hps2; have HST3 := Lib.hid hst2; clear hpg hps2 hst2))
      go_wp2
      go_roundw
      case rel => exact ⟨k + 1, H2, by omega, by go_num, Lib.hid ⟨by show PS W (N + k + 1) w2 p D (updT (ctK ct f ((ep : Int) + 1) pl k) (pl.getD k 0) (bt (pg4 84 (k : Int) ((ep : Int) + 1) (tbl f k)))) Q n m H2; rw [hq]; exact HPS3.out, HR.out.st.trans HST3.out⟩⟩
      case measure => simp [intOf]; omega
    · have hkc : k = c := by omega
      subst hkc
      have HPS1 := Lib.hid HR.out.ps
      go_wp2_with fail
      refine (ps_flush HPS1.out (by omega)).mono ?_
      rintro e w1 ⟨rfl, H2, hps1, hst1⟩
      have HPS2 := Lib.hid hps1
      have HST2 := Lib.hid (HR.out.st.trans hst1)
      have c4 := HST2.out.cell HC4.out HPH.out
      have HPH2 := Lib.hid (nh_stp HST2.out (World.block_lt_of_cell? w _ HC0.out) HPH.out)
      have HE0 := Lib.hid (HST2.out.cell HC0.out HPH.out)
      have HX2 := Lib.hid (ints_stp HX.out HST2.out HAO.out)
      clear hps1 hst1 d0
      have hq4 : 1 - root < n := by omega
      have HL := Lib.hid (layRoot_any P (HPS2.out.less (Q' := fun _ => False) (fun _ q => q.elim)) HE0.out (1 - root) hq4 (fun q => q) HPH2.out (ep + 1) (by omega) pl ao k cap HPL.out hc122 HX2.out (fun x hx => by have := (H16.out x hx).2.1; omega) (by have := HM.out; omega))
      rw [show ((ep + 1 : Nat) : Int) = (ep : Int) + 1 from by omega] at HL
      go_wp2_with (first | (go_at_call 36; refine (other_any root hr2 _).mono ?_; rintro e w' ⟨rfl, rfl⟩) | (go_at_call 37; refine HL.out.mono ?_; rintro e w3 ⟨rfl, H3, hps3, hst3⟩; have HPS3 := Lib.hid hps3; have HST3 := Lib.hid (HST2.out.trans hst3); clear hps3 hst3))
      go_ret
      exact ⟨rfl, H3, HPS3.out.mono (by omega), HST3.out⟩
end Go.Proofs.YtokikeenfpligaaGreatDoor.Sh
namespace Go.Proofs.YtokikeenfpligaaGreatDoor.Sh
open Go.RowKit Go.Maps

theorem ctK_ne (ct : Nat → ByteArray) (f : Nat → Nat) (e : Int) (pl : List Nat) (q : Nat) : ∀ k, (∀ j, j < k → pl.getD j 0 ≠ q) → ctK ct f e pl k q = ct q
  | 0, _ => rfl
  | k + 1, h => by
    show updT (ctK ct f e pl k) (pl.getD k 0) _ q = _
    rw [updT_ne (fun he => h k (by omega) he.symm)]
    exact ctK_ne ct f e pl q k fun j hj => h j (by omega)
theorem ctK_at (ct : Nat → ByteArray) (f : Nat → Nat) (e : Int) (pl : List Nat) (i : Nat) : ∀ k, i < k → (∀ j, j < k → i < j → pl.getD j 0 ≠ pl.getD i 0) → ctK ct f e pl k (pl.getD i 0) = bt (pg4 84 (i : Int) e (tbl f i))
  | 0, h, _ => absurd h (by omega)
  | k + 1, h, hn => by
    show updT (ctK ct f e pl k) (pl.getD k 0) _ _ = _
    by_cases e1 : i = k
    · subst e1
      rw [updT_same]
    · rw [updT_ne (fun he => hn k (by omega) (by omega) he.symm)]
      exact ctK_at ct f e pl i k (by omega) fun j hj => hn j (by omega)
theorem getD_mem {pl : List Nat} {j : Nat} (h : j < pl.length) : pl.getD j 0 ∈ pl := by
  rw [List.getD_eq_getElem?_getD, List.getElem?_eq_getElem h]; exact List.getElem_mem _
theorem getD_at {pl : List Nat} {j : Nat} (h : j < pl.length) : pl.getD j 0 = pl[j] := by
  rw [List.getD_eq_getElem?_getD, List.getElem?_eq_getElem h]; rfl
theorem getD_inj {pl : List Nat} (hn : pl.Nodup) {i j : Nat} (hi : i < pl.length) (hj : j < pl.length) (h : pl.getD i 0 = pl.getD j 0) : i = j := by
  rw [getD_at hi, getD_at hj] at h
  rcases Nat.lt_trichotomy i j with l | l | l
  · exact absurd h (List.pairwise_iff_getElem.1 hn i j hi hj l)
  · exact l
  · exact absurd h.symm (List.pairwise_iff_getElem.1 hn j i hj hi l)
/-- behind a Commit -/
def cmt (σ : Sd) (pl : List Nat) (ao : Option Addr) (cap V' : Nat) (S' : Spc) (H' : Nat → Prop) : Sd :=
  { σ with K := σ.V, V := V', nK := σ.nV, DK := σ.DV, ta := ao, tc := cap, tb := pl, kp := σ.nw, root := 1 - σ.root, ep := σ.ep + 1, S := S', ct := updT (ctK σ.ct σ.nw ((σ.ep : Int) + 1) pl pl.length) (1 - σ.root) (bt (pg4 82 0 ((σ.ep : Int) + 1) pl)), H := H' }
theorem best_two (a : Nat × List Nat) (b : Nat × List Nat) (st : Nat → Option (Nat × List Nat)) (h0 : st 0 = some a) (h1 : st 1 = some b) : best st 2 = if a.1 < b.1 then some (1, b.1, b.2) else some (0, a.1, a.2) := by
  simp only [best, h0, h1]
theorem sec_free {S : Spc} {c : Nat} {x n : Nat} {tb : List Nat} {kp nw : Nat → Nat} (hsn : S.n = n) (htk : ∀ i, S.t i = true ↔ i < 2 ∨ i ∈ tb ∨ (∃ k, kp k = i ∧ kp k ≠ 0) ∨ (∃ k, nw k = i ∧ nw k ≠ 0)) (hx : x ∈ S.lowest c) : 2 ≤ x ∧ x < n ∧ x ∉ tb ∧ (∀ k, kp k ≠ 0 → kp k ≠ x) ∧ ∀ k, nw k ≠ 0 → nw k ≠ x := by
  obtain ⟨m1, _, m3⟩ := lowest_mem hx
  have hno : ¬ (x < 2 ∨ x ∈ tb ∨ (∃ k, kp k = x ∧ kp k ≠ 0) ∨ (∃ k, nw k = x ∧ nw k ≠ 0)) := fun q => by rw [(htk x).2 q] at m3; exact absurd m3 (by decide)
  exact ⟨by omega, by omega, fun q => hno (.inr (.inl q)), fun k hk e => hno (.inr (.inr (.inl ⟨k, e, hk⟩))), fun k hk e => hno (.inr (.inr (.inr ⟨k, e, hk⟩)))⟩
theorem secs_new {σ : Sd} {Q : Nat → Prop} {pk pn : Nat → Sm.Pg} (h : Inv σ Q pk pn) (c : Nat) : Secs σ.n (σ.S.lowest c) σ.nw :=
  ⟨lowest_nodup _ _, fun x hx => by have := sec_free h.sn h.tk hx; exact ⟨this.1, this.2.1⟩, h.sw.fl, h.sw.inj, fun k hk q => (sec_free h.sn h.tk q).2.2.2.2 k hk rfl⟩
theorem Inv.commit {σ : Sd} {Q : Nat → Prop} {pk pn : Nat → Sm.Pg} (h : Inv σ Q pk pn) {c : Nat} (hl : (σ.S.lowest c).length = c) (hc : IsTbl σ.nw c) (hc2 : c ≤ 122) (he : σ.ep + 1 < 4611686018427387904) (ao : Option Addr) (cap V' : Nat) (S' : Spc) (H' : Nat → Prop) (hT : Tk σ.n (σ.S.lowest c) σ.nw S') :
    Inv (cmt σ (σ.S.lowest c) ao cap V' S' H') (fun _ => True) pn pn := by
  have hf : ∀ x ∈ σ.S.lowest c, 2 ≤ x ∧ x < σ.n ∧ x ∉ σ.tb ∧ (∀ k, σ.kp k ≠ 0 → σ.kp k ≠ x) ∧ ∀ k, σ.nw k ≠ 0 → σ.nw k ≠ x := fun x hx => sec_free h.sn h.tk hx
  have hS := secs_new h c
  have hnd := lowest_nodup σ.S c
  generalize σ.S.lowest c = pl at hl hT hf hS hnd
  subst hl
  have hr := h.r2
  have ce : ((σ.ep + 1 : Nat) : Int) = (σ.ep : Int) + 1 := by omega
  have hct : ∀ q, q ≠ 1 - σ.root → q ∉ pl → (cmt σ pl ao cap V' S' H').ct q = σ.ct q := fun q h1 h2 => by
    show updT (ctK σ.ct σ.nw _ pl pl.length) (1 - σ.root) _ q = _
    rw [updT_ne h1]
    exact ctK_ne _ _ _ _ _ _ fun j hj e => h2 (e ▸ getD_mem hj)
  have hpg : ∀ k, σ.nw k ≠ 0 → (cmt σ pl ao cap V' S' H').ct (σ.nw k) = bt (pn k) ∧ PgOk (pn k) ∧ (pn k).number = k := fun k hk => by
    have h2 := (h.sw.fl k hk).1
    rw [hct (σ.nw k) (by omega) (fun q => (hf _ q).2.2.2.2 k hk rfl)]
    exact h.cn k hk
  refine ⟨h.n4, h.n1, h.m1, h.m2, hT.1, fun i => ?_, hS, hS, h.sw.inj, hc, hpg, hpg, fun i hi => ?_, by show 1 - σ.root < 2; omega, he, ?_, h.fl, ⟨fun _ _ => trivial, fun _ _ => trivial, fun _ _ => trivial⟩⟩
  · show S'.t i = true ↔ i < 2 ∨ i ∈ pl ∨ (∃ k, σ.nw k = i ∧ σ.nw k ≠ 0) ∨ (∃ k, σ.nw k = i ∧ σ.nw k ≠ 0)
    rw [hT.2 i]
    constructor
    · rintro (q | q | q)
      · exact .inl q
      · exact .inr (.inl q)
      · exact .inr (.inr (.inl q))
    · rintro (q | q | q | q)
      · exact .inl q
      · exact .inr (.inl q)
      · exact .inr (.inr q)
      · exact .inr (.inr q)
  · have hi' : i < pl.length := hi
    show updT (ctK σ.ct σ.nw _ pl pl.length) (1 - σ.root) _ pl[i] = bt (pg4 84 i ((σ.ep + 1 : Nat) : Int) (tbl σ.nw i))
    have hx := hf pl[i] (List.getElem_mem hi')
    rw [updT_ne (by omega), ce, ← getD_at hi']
    exact ctK_at _ _ _ _ i pl.length hi' fun j hj hij e => by have := getD_inj hnd hj hi' e; omega
  · obtain ⟨st, s1, s2, _⟩ := h.st
    refine ⟨fun r => if r = 1 - σ.root then some (σ.ep + 1, pl) else st r, fun r hr2 => ?_, if_pos rfl, ?_⟩
    · by_cases e : r = 1 - σ.root
      · show Rt _ r (if r = 1 - σ.root then some (σ.ep + 1, pl) else st r)
        rw [if_pos e, e]
        refine ⟨?_, hc2, fun x hx => by have := (hf x hx).2.1; have := h.n1; omega, by omega⟩
        show updT _ (1 - σ.root) _ (1 - σ.root) = _
        rw [updT_same, ce]
      · show Rt _ r (if r = 1 - σ.root then some (σ.ep + 1, pl) else st r)
        rw [if_neg e]
        exact rt_ne (s1 r hr2) (hct r e (fun q => by have := (hf _ q).1; omega))
    · show best _ 2 = some (1 - σ.root, σ.ep + 1, pl)
      rcases (show σ.root = 0 ∨ σ.root = 1 by omega) with e | e
      · rw [best_two (σ.ep, σ.tb) (σ.ep + 1, pl) _ (by simp only [e]; rw [if_neg (by decide), ← s2, e]) (by simp only [e]; rfl), if_pos (by show σ.ep < σ.ep + 1; omega), e]
      · rw [best_two (σ.ep + 1, pl) (σ.ep, σ.tb) _ (by simp only [e]; rfl) (by simp only [e]; rw [if_neg (by decide), ← s2, e]), if_neg (by show ¬ σ.ep + 1 < σ.ep; omega), e]
end Go.Proofs.YtokikeenfpligaaGreatDoor.Sh

/-
  THE CALLS AS THE STATEMENTS MEET THEM: whatever comes, by one number of an error. Conditions: those that each lemma names.
  OPENED, AS THE STATEMENTS MEET IT: from a shadow's disk, beside it or behind it. Conditions: those that each lemma names.
  WHAT MUST COME WHATEVER THE INPUT IS: the statements' own fixed example holds. No conditions.
-/
import Derived.Test.YtokikeenfpligaaGreatDoorU45
namespace Go.Proofs.YtokikeenfpligaaGreatDoor.Sh
open Go.RowKit Go.Maps

theorem kl_none : (kl (fun _ => 0)).length = 0 := kl_len (l := []) (fun k h => absurd rfl h) (by simp) (fun k => by simp)
theorem kl_one {f : Nat → Nat} {k : Nat} (hk : k < 15006) (h : ∀ j, f j ≠ 0 ↔ j = k) : (kl f).length = 1 := kl_len (l := [k]) (fun j q => by rw [(h j).1 q]; exact hk) (by simp) (fun j => by rw [h j]; simp)
theorem place_ex {σ : Sd} (o : σ.S.Ok) (k : Nat) (h : wrt σ.kp σ.nw k = true ∨ 1 ≤ σ.S.free) : ∃ s, PlaceE σ k s true := by
  unfold PlaceE
  by_cases hw : wrt σ.kp σ.nw k = true
  · exact ⟨_, by rw [if_pos hw]; exact ⟨rfl, rfl⟩⟩
  · have hf : 1 ≤ σ.S.free := by rcases h with q | q; exact absurd q hw; exact q
    have hl := lowest_len o 1
    cases hq : σ.S.lowest 1 with
    | nil => rw [hq] at hl; simp only [List.length_nil] at hl; omega
    | cons s t =>
      rw [hq] at hl
      have : t = [] := List.length_eq_zero_iff.1 (by simp only [List.length_cons] at hl; omega)
      subst this
      exact ⟨s, by rw [if_neg hw, if_neg (by simp)]; exact ⟨rfl, rfl⟩⟩
theorem place_no {σ : Sd} (o : σ.S.Ok) (k : Nat) (hw : ¬ wrt σ.kp σ.nw k = true) (h0 : σ.S.free = 0) : PlaceE σ k 0 false := by
  unfold PlaceE
  have hl := lowest_len o 1
  rw [if_neg hw, if_pos (List.length_eq_zero_iff.1 (by rw [hl, h0]; rfl))]
  exact ⟨rfl, rfl⟩
theorem istbl_one {f : Nat → Nat} {k : Nat} (h : ∀ j, f j ≠ 0 ↔ j = k) : IsTbl f (k / 123 + 1) := ⟨fun j q => by rw [(h j).1 q]; exact Nat.le_refl _, .inr ⟨k, (h k).2 rfl, rfl⟩⟩
/-- a disk made now -/
theorem dks_new {W w : World} {D n : Nat} {H : Nat → Prop} (h : DkN W w D (Dk.new n) H) : DkS W w D n (fun _ => zT) 0 H := ⟨_, h, rfl, rfl, by show (0 : Int) ≤ 0; omega, by show (0 : Int) ≤ 0; omega, fun _ _ => rfl⟩
set_option maxRecDepth 100000 in
theorem zeros_bad : Sm.isGood (List.replicate 512 0) = false := by decide +kernel
theorem zT_bad : goodT zT = false := by
  unfold goodT zT
  rw [nums_tx (fun _ => by omega)]
  have e : rowOf (fun _ => 0) = List.replicate 512 0 := by
    apply List.ext_getElem (by rw [rowOf_len, List.length_replicate])
    intro i h1 h2
    rw [rowOf_get, List.getElem_replicate]
  rw [e]
  exact zeros_bad
theorem rt_zero : ∀ r, r < 2 → Rt (fun _ => zT) r none := fun _ _ => zT_bad
theorem inv_open {σ : Sd} {Q : Nat → Prop} {pk pn : Nat → Sm.Pg} (h : Inv σ Q pk pn) {ct : Nat → ByteArray} {m : Nat} (m1 : 1 ≤ m) (m2 : m ≤ 1024) (hct : ∀ q, Kept σ q → ct q = σ.ct q) {σ' : Sd} {D : Nat} (hs : σ'.D = D ∧ σ'.n = σ.n ∧ σ'.m = m ∧ σ'.tb = σ.tb ∧ σ'.kp = σ.kp ∧ σ'.nw = σ.kp ∧ σ'.root = σ.root ∧ σ'.ep = σ.ep ∧ σ'.fl = false ∧ σ'.ct = ct) (hT : Tk σ.n σ.tb σ.kp σ'.S) : Inv σ' (fun _ => True) pk pk := by
  obtain ⟨_, e2, e3, e4, e5, e6, e7, e8, e9, e10⟩ := hs
  exact h.reopen σ' e2 (by rw [e3]; exact m1) (by rw [e3]; exact m2) e4 e5 e6 e7 e8 e9 (fun q hq => by rw [e10]; exact hct q hq) (by rw [e2]; exact hT)
structure Ss (W : World) (N : Nat) (w : World) (σ : Sd) (pk pn : Nat → Sm.Pg) : Prop where
  sh : Sh W N w σ (Kept σ)
  iv : Inv σ (Kept σ) pk pn
theorem Ss.below {W w w' : World} {N : Nat} {σ : Sd} {pk pn : Nat → Sm.Pg} (h : Ss W N w σ pk pn) (hb : Below w.heap.size w w') : Ss W N w' σ pk pn := ⟨h.sh.below hb, h.iv⟩
theorem Ss.mono {W w : World} {N M : Nat} {σ : Sd} {pk pn : Nat → Sm.Pg} (h : Ss W N w σ pk pn) (hN : N ≤ M) : Ss W M w σ pk pn := ⟨h.sh.mono hN, h.iv⟩
theorem Ss.free {W w : World} {N : Nat} {σ : Sd} {pk pn : Nat → Sm.Pg} (h : Ss W N w σ pk pn) : σ.S.free + 2 + σ.tb.length + (kl σ.kp).length + (lateL σ.kp σ.nw).length = σ.n := free_eq h.iv h.sh.sp.ok h.sh.kf.bnd h.sh.vf.bnd
theorem Ss.c7 {W w : World} {N : Nat} {σ : Sd} {pk pn : Nat → Sm.Pg} (h : Ss W N w σ pk pn) : w.cell? ⟨σ.P, 7, none⟩ = some (.bool false) := h.iv.fl ▸ h.sh.hd.c7
def Eqs (σ σ' : Sd) : Prop := σ'.P = σ.P ∧ σ'.D = σ.D ∧ σ'.n = σ.n ∧ σ'.m = σ.m
theorem Eqs.refl (σ : Sd) : Eqs σ σ := ⟨rfl, rfl, rfl, rfl⟩
theorem Eqs.trans {a b c : Sd} (h : Eqs a b) (k : Eqs b c) : Eqs a c := ⟨k.1.trans h.1, k.2.1.trans h.2.1, k.2.2.1.trans h.2.2.1, k.2.2.2.trans h.2.2.2⟩
/-- another pool's blocks, the same sectors -/
theorem Inv.pool {σ : Sd} {Q : Nat → Prop} {pk pn : Nat → Sm.Pg} (h : Inv σ Q pk pn) (H' : Nat → Prop) : Inv { σ with H := H' } Q pk pn := ⟨h.n4, h.n1, h.m1, h.m2, h.sn, h.tk, h.sk, h.sw, h.one, h.it, h.ck, h.cn, h.tt, h.r2, h.e1, h.st, h.fl, h.sq⟩
def NewC (W : World) (N : Nat) (D n m : Nat) (e : Ending) (w' : World) : Prop :=
  ∃ σ : Sd, e = .returned (.tuple #[.pointer (some ⟨σ.P, 0, none⟩), .nilIface]) ∧ Sh W N w' σ (fun _ => True) ∧ Ss W N w' σ p0 p0 ∧ σ.D = D ∧ σ.n = n ∧ σ.m = m ∧ σ.ep = 0 ∧ σ.nw = (fun _ => 0) ∧ σ.kp = (fun _ => 0) ∧ σ.tb = []
/-- New on a disk that was made now -/
theorem new_fresh {W w : World} {D n : Nat} {H : Nat → Prop} (m : Nat) (h : DkN W w D (Dk.new n) H) (h4 : 4 ≤ n) (hn : n ≤ 16384) (h1 : 1 ≤ m) (h2 : m ≤ 1024) :
    Calls Tryz.prog 11 #[.pointer (some ⟨D, 0, none⟩), .int .i64 (m : Int)] w (NewC W 10000 D n m) := by
  refine (new_any m (dks_new h) h.lt h.b.size h4 hn h1 h2 (fun _ => none) rt_zero (by decide)).mono ?_
  rintro e w' ⟨σ, he, hsh, hiv, e1, e2, e3, e4, e5, e6, e7⟩
  exact ⟨σ, he, hsh.mono (by omega), ⟨(hsh.less (fun _ _ => trivial)).mono (by omega), hiv.kept⟩, e1, e2, e3, e4, e5, e6, e7⟩
def wrC (σ : Sd) (k : Int) (may : Bool) : Int := if k < 0 ∨ 15006 ≤ k then 4 else if may = false then 1 else if wrt σ.kp σ.nw k.toNat = true ∨ 1 ≤ σ.S.free then 0 else 5
def Put1 (σ σ' : Sd) (pn pn' : Nat → Sm.Pg) (k ki si : Int) (rs : List (List Int)) : Prop := ∃ j : Nat, k = (j : Int) ∧ j < 15006 ∧ pn' = updP pn j (npg ki j σ.ep si rs) ∧ (∀ i, i ≠ j → σ'.nw i = σ.nw i) ∧ σ'.nw j ≠ 0 ∧ σ'.nw j ≠ σ.kp j
def WrAny (W : World) (N : Nat) (w : World) (σ : Sd) (pk pn : Nat → Sm.Pg) (k ki si : Int) (rs : List (List Int)) (c : Int) (e : Ending) (w' : World) : Prop :=
  ∃ σ' pn', e = .returned (errv c) ∧ Ss W (N + 2) w' σ' pk pn' ∧ Frm w w' σ σ' ∧ Eqs σ σ' ∧ (σ'.kp = σ.kp ∧ σ'.tb = σ.tb ∧ σ'.ep = σ.ep ∧ σ'.ta = σ.ta) ∧ (c ≠ 0 → σ' = σ ∧ pn' = pn) ∧ (c = 0 → Put1 σ σ' pn pn' k ki si rs)
theorem write_all {W w : World} {N : Nat} {σ : Sd} {pk pn : Nat → Sm.Pg} (h : Ss W N w σ pk pn) (k ki nu ep si : Int) (ra : Option Addr) (q cap : Nat) (rs : List (List Int)) (hq : rs.length = q) (hq2 : q ≤ 9223372036854775807) (hs : si ≤ 9223372036854775807) (hr : Sm.Recs w ra rs) (k0 : 0 ≤ ki) (k1 : ki < 256) (hN : N + 10 < 2305843009213693952) :
    Calls Tryz.prog 19 #[.pointer (some ⟨σ.P, 0, none⟩), .int .i64 k, .agg #[.int .u8 ki, .int .u32 nu, .int .u64 ep, .int .i64 si, .slice ra q cap]] w (WrAny W N w σ pk pn k ki si rs (wrC σ k (Sm.Pg.mkPg ki nu ep si rs).may)) := by
  have err : ∀ (c : Int), c ≠ 0 → wrC σ k (Sm.Pg.mkPg ki nu ep si rs).may = c → ∀ e w', ErrS w c e w' → WrAny W N w σ pk pn k ki si rs (wrC σ k (Sm.Pg.mkPg ki nu ep si rs).may) e w' := by
    rintro c hc e1 e w' ⟨rfl, hb⟩
    rw [e1]
    exact ⟨σ, pn, by rw [errv1 hc], (h.below hb).mono (by omega), frm_below hb, Eqs.refl σ, ⟨rfl, rfl, rfl, rfl⟩, fun _ => ⟨rfl, rfl⟩, fun q => absurd q hc⟩
  by_cases hk : k < 0 ∨ 15006 ≤ k
  · exact (write_range σ.P k ki nu ep si _ h.c7 hk).mono (err 4 (by decide) (by unfold wrC; rw [if_pos hk]))
  · obtain ⟨j, rfl⟩ : ∃ j : Nat, k = (j : Int) := ⟨k.toNat, by omega⟩
    have hj : j < 15006 := by omega
    cases hm : (Sm.Pg.mkPg ki nu ep si rs).may
    · rw [hm] at err
      exact (write_bad σ.P (j : Int) ki nu ep si ra q cap rs hq hq2 hs hr h.c7 (by omega) (by omega) hm).mono (err 1 (by decide) (by unfold wrC; rw [if_neg hk, if_pos rfl]))
    · rw [hm] at err
      by_cases hf : wrt σ.kp σ.nw j = true ∨ 1 ≤ σ.S.free
      · obtain ⟨s, hp⟩ := place_ex h.sh.sp.ok j hf
        have hc : wrC σ (j : Int) true = 0 := by unfold wrC; rw [if_neg hk, if_neg (by decide), Int.toNat_natCast, if_pos hf]
        refine (write_place h.sh h.iv j hj s hp ki nu ep si ra q cap rs hq hr hm k0 k1 hN).mono ?_
        rintro e w' ⟨s', H', nV, DV, hp', rfl, hsh, hiv, hfr⟩
        obtain ⟨rfl, -⟩ := place_det hp hp'
        have ho := h.iv.own1 hp
        refine ⟨_, _, by rw [hc, errv0], ⟨hsh, hiv⟩, hfr, ⟨rfl, rfl, rfl, rfl⟩, ⟨rfl, rfl, rfl, rfl⟩, fun q => absurd hc q, fun _ => ⟨j, rfl, hj, rfl, fun i hi => updN_ne hi, ?_, ?_⟩⟩
        · show updN σ.nw j s j ≠ 0
          rw [updN_same]; have := ho.s2; omega
        · show updN σ.nw j s j ≠ σ.kp j
          rw [updN_same]
          intro e
          by_cases q : σ.kp j = 0
          · have := ho.s2; omega
          · exact ho.kp j q e.symm
      · have hw : ¬ wrt σ.kp σ.nw j = true := fun q => hf (.inl q)
        exact (write_full h.sh h.iv.fl j hj 0 (place_no h.sh.sp.ok j hw (by have : ¬ 1 ≤ σ.S.free := fun q => hf (.inr q); omega)) ki nu ep si ra q cap rs hq hr hm).mono (err 5 (by decide) (by unfold wrC; rw [if_neg hk, if_neg (by decide), Int.toNat_natCast, if_neg hf]))
def drC (σ : Sd) (k : Int) : Int := if k < 0 ∨ 15006 ≤ k then 4 else if σ.nw k.toNat = 0 then 8 else 0
def DrAny (W : World) (N : Nat) (w : World) (σ : Sd) (pk pn : Nat → Sm.Pg) (k c : Int) (e : Ending) (w' : World) : Prop :=
  ∃ σ', e = .returned (errv c) ∧ Ss W (N + 2) w' σ' pk pn ∧ Frm w w' σ σ' ∧ Eqs σ σ' ∧ (σ'.kp = σ.kp ∧ σ'.tb = σ.tb ∧ σ'.ep = σ.ep ∧ σ'.ta = σ.ta) ∧ (c ≠ 0 → σ' = σ) ∧ (c = 0 → 0 ≤ k ∧ k < 15006 ∧ σ'.nw = updN σ.nw k.toNat 0)
theorem drop_all {W w : World} {N : Nat} {σ : Sd} {pk pn : Nat → Sm.Pg} (h : Ss W N w σ pk pn) (k : Int) :
    Calls Tryz.prog 20 #[.pointer (some ⟨σ.P, 0, none⟩), .int .i64 k] w (DrAny W N w σ pk pn k (drC σ k)) := by
  have err : ∀ (c : Int), c ≠ 0 → drC σ k = c → ∀ e w', ErrS w c e w' → DrAny W N w σ pk pn k (drC σ k) e w' := by
    rintro c hc e1 e w' ⟨rfl, hb⟩
    rw [e1]
    exact ⟨σ, by rw [errv1 hc], (h.below hb).mono (by omega), frm_below hb, Eqs.refl σ, ⟨rfl, rfl, rfl, rfl⟩, fun _ => rfl, fun q => absurd q hc⟩
  by_cases hk : k < 0 ∨ 15006 ≤ k
  · exact (drop_range σ.P k h.c7 hk).mono (err 4 (by decide) (by unfold drC; rw [if_pos hk]))
  · obtain ⟨j, rfl⟩ : ∃ j : Nat, k = (j : Int) := ⟨k.toNat, by omega⟩
    have hj : j < 15006 := by omega
    by_cases h0 : σ.nw j = 0
    · exact (drop_none h.sh h.iv.fl j hj h0).mono (err 8 (by decide) (by unfold drC; rw [if_neg hk, Int.toNat_natCast, if_pos h0]))
    · have hc : drC σ (j : Int) = 0 := by unfold drC; rw [if_neg hk, Int.toNat_natCast, if_neg h0]
      refine (drop_ok h.sh h.iv j hj h0).mono ?_
      rintro e w' ⟨DV, rfl, hsh, hfr⟩
      exact ⟨_, by rw [hc, errv0], ⟨hsh.mono (by omega), h.iv.drop h0 DV⟩, hfr, ⟨rfl, rfl, rfl, rfl⟩, ⟨rfl, rfl, rfl, rfl⟩, fun q => absurd hc q, fun _ => ⟨by omega, by omega, by rw [Int.toNat_natCast]⟩⟩
/-- as many tables as a map needs -/
theorem istbl_ex {f : Nat → Nat} (hb : ∀ k, f k ≠ 0 → k < 15006) : ∃ c, IsTbl f c := by
  cases hl : (kl f).getLast? with
  | none =>
    have : kl f = [] := List.getLast?_eq_none_iff.1 hl
    exact ⟨0, fun k hk => absurd ((kl_mem hb k).2 hk) (by rw [this]; simp), .inl rfl⟩
  | some m =>
    have hm := List.mem_of_getLast? hl
    refine ⟨m / 123 + 1, fun k hk => ?_, .inr ⟨m, (kl_mem hb m).1 hm, rfl⟩⟩
    have hkm := (kl_mem hb k).2 hk
    obtain ⟨l, hll⟩ := List.getLast?_eq_some_iff.1 hl
    have hp : (kl f).Pairwise (· < ·) := List.pairwise_lt_range.filter _
    rw [hll] at hp hkm
    have hle : k ≤ m := by
      rcases List.mem_append.1 hkm with q | q
      · exact Nat.le_of_lt ((List.pairwise_append.1 hp).2.2 k q m (by simp))
      · have := List.mem_singleton.1 q; omega
    omega
def CmAny (W : World) (N : Nat) (w : World) (σ : Sd) (pk pn : Nat → Sm.Pg) (t : Nat) (e : Ending) (w' : World) : Prop :=
  ∃ σ', e = .returned (errv (if σ.S.free < t then 5 else 0)) ∧ Ss W (N + 4000) w' σ' (if σ.S.free < t then pk else pn) pn ∧ Frm w w' σ σ' ∧ Eqs σ σ' ∧ ((σ.S.free < t → σ' = σ) ∧ ∀ b o, σ'.ta = some ⟨b, o, none⟩ → σ.ta = some ⟨b, o, none⟩ ∨ w.heap.size ≤ b) ∧ (¬ σ.S.free < t → Sh W (N + 4000) w' σ' (fun _ => True) ∧ σ'.kp = σ.nw ∧ σ'.nw = σ.nw ∧ σ'.ep = σ.ep + 1 ∧ σ'.tb.length = t)
theorem commit_all {W w : World} {N : Nat} {σ : Sd} {pk pn : Nat → Sm.Pg} (h : Ss W N w σ pk pn) (t : Nat) (ht : IsTbl σ.nw t) (he : σ.ep + 1 < 4611686018427387904) (hN : N + 20000 < 2305843009213693952) :
    Calls Tryz.prog 21 #[.pointer (some ⟨σ.P, 0, none⟩)] w (CmAny W N w σ pk pn t) := by
  by_cases hf : σ.S.free < t
  · refine (commit_full h.sh h.iv (fun c hc => by have := ht.one hc; omega)).mono ?_
    rintro e w' ⟨rfl, hb⟩
    exact ⟨σ, by rw [if_pos hf, errv1 (by decide)], by rw [if_pos hf]; exact (h.below hb).mono (by omega), frm_below hb, Eqs.refl σ, ⟨fun _ => rfl, fun _ _ q => .inl q⟩, fun q => absurd hf q⟩
  · refine (commit_ok h.sh h.iv t ht (by omega) he hN).mono ?_
    rintro e w' ⟨ao, cap, V', S', H', rfl, hsh, hiv, hfr, hta⟩
    refine ⟨_, by rw [if_neg hf, errv0], ?_, hfr, ⟨rfl, rfl, rfl, rfl⟩, ⟨fun q => absurd q hf, fun b o e => .inr (hta b o e)⟩, fun _ => ⟨hsh, rfl, rfl, rfl, ?_⟩⟩
    · rw [if_neg hf]
      exact ⟨hsh.less (fun _ _ => trivial), hiv.kept⟩
    · show (σ.S.lowest t).length = t
      rw [lowest_len h.sh.sp.ok]; omega
def AbAny (W : World) (N : Nat) (w : World) (σ : Sd) (pk : Nat → Sm.Pg) (e : Ending) (w' : World) : Prop :=
  ∃ σ', e = .returned .nilIface ∧ Ss W N w' σ' pk pk ∧ Frm w w' σ σ' ∧ Eqs σ σ' ∧ σ'.kp = σ.kp ∧ σ'.nw = σ.kp ∧ σ'.ep = σ.ep ∧ σ'.tb = σ.tb ∧ σ'.ta = σ.ta
theorem abort_all {W w : World} {N : Nat} {σ : Sd} {pk pn : Nat → Sm.Pg} (h : Ss W N w σ pk pn) :
    Calls Tryz.prog 22 #[.pointer (some ⟨σ.P, 0, none⟩)] w (AbAny W N w σ pk) := by
  refine (abort_ok h.sh h.iv).mono ?_
  rintro e w' ⟨V', S', rfl, hsh, hiv, hfr⟩
  exact ⟨_, rfl, ⟨hsh, hiv⟩, hfr, ⟨rfl, rfl, rfl, rfl⟩, rfl, rfl, rfl, rfl, rfl⟩
def rdC (σ : Sd) (k : Int) : Int := if k < 0 ∨ 15006 ≤ k then 4 else if σ.nw k.toNat = 0 then 8 else 0
/-- what Read answers: a page, or the error beside no page -/
def RdAny (W : World) (N : Nat) (w : World) (σ : Sd) (pk pn : Nat → Sm.Pg) (k c : Int) (e : Ending) (w' : World) : Prop :=
  ∃ σ' pg ra cap B C, e = .returned (.tuple #[.agg #[.int .u8 (Sm.Pg.kind pg), .int .u32 (Sm.Pg.number pg), .int .u64 (Sm.Pg.epoch pg), .int .i64 (Sm.Pg.size pg), .slice ra (Sm.Pg.recs pg).length cap], errv c]) ∧ Ss W (N + 2) w' σ' pk pn ∧ Frm w w' σ σ' ∧ (∃ H', σ' = { σ with H := H' }) ∧ (c = 0 → pg = pn k.toNat ∧ w.heap.size < B ∧ B ≤ C ∧ C ≤ w'.heap.size ∧ OwnIn B C w' (.slice ra (Sm.Pg.recs pg).length cap) (Sm.Pg.recs pg).length (Sm.Pg.recs pg)) ∧ (c ≠ 0 → pg = Sm.Pg.mkPg 0 0 0 0 [])
theorem read_all {W w : World} {N : Nat} {σ : Sd} {pk pn : Nat → Sm.Pg} (h : Ss W N w σ pk pn) (k : Int) (hN : N + 2 < 2305843009213693952) :
    Calls Tryz.prog 14 #[.pointer (some ⟨σ.P, 0, none⟩), .int .i64 k] w (RdAny W N w σ pk pn k (rdC σ k)) := by
  have err : ∀ (c : Int), c ≠ 0 → rdC σ k = c → ∀ e w', ErrR w c e w' → RdAny W N w σ pk pn k (rdC σ k) e w' := by
    rintro c hc e1 e w' ⟨rfl, hb⟩
    rw [e1]
    exact ⟨σ, .mkPg 0 0 0 0 [], none, 0, 0, 0, by rw [errv1 hc]; rfl, (h.below hb).mono (by omega), frm_below hb, ⟨σ.H, rfl⟩, fun q => absurd q hc, fun _ => rfl⟩
  by_cases hk : k < 0 ∨ 15006 ≤ k
  · exact (read_range σ.P k h.c7 hk).mono (err 4 (by decide) (by unfold rdC; rw [if_pos hk]))
  · obtain ⟨j, rfl⟩ : ∃ j : Nat, k = (j : Int) := ⟨k.toNat, by omega⟩
    have hj : j < 15006 := by omega
    by_cases h0 : σ.nw j = 0
    · exact (read_none h.sh h.iv.fl j hj h0).mono (err 8 (by decide) (by unfold rdC; rw [if_neg hk, Int.toNat_natCast, if_pos h0]))
    · have hc : rdC σ (j : Int) = 0 := by unfold rdC; rw [if_neg hk, Int.toNat_natCast, if_neg h0]
      obtain ⟨c1, c2, c3⟩ := h.iv.cn j h0
      refine (read_ok h.sh h.iv.fl j hj h0 (h.iv.sw.fl j h0).2 (pn j) c2 c3 c1 hN).mono ?_
      rintro e w' ⟨ra, cap, H', B, C, rfl, hsh, hfr, b1, b2, b3, hown⟩
      exact ⟨_, pn j, ra, cap, B, C, by rw [hc, errv0], ⟨hsh, h.iv.pool H'⟩, hfr, ⟨H', rfl⟩, fun _ => ⟨by rw [Int.toNat_natCast], b1, b2, b3, hown⟩, fun q => absurd hc q⟩
end Go.Proofs.YtokikeenfpligaaGreatDoor.Sh
namespace Go.Proofs.YtokikeenfpligaaGreatDoor.Sh
open Go.RowKit Go.Maps

def OpAny (W : World) (N : Nat) (w : World) (σ : Sd) (m : Nat) (pk : Nat → Sm.Pg) (e : Ending) (w' : World) : Prop :=
  ∃ σ', e = .returned (.tuple #[.pointer (some ⟨σ'.P, 0, none⟩), .nilIface]) ∧ Ss W N w' σ' pk pk ∧ Sh W N w' σ' (fun _ => True) ∧ Stp w σ.H w' σ'.all ∧ σ'.D = σ.D ∧ σ'.n = σ.n ∧ σ'.m = m ∧ σ'.kp = σ.kp ∧ σ'.nw = σ.kp ∧ σ'.ep = σ.ep ∧ σ'.tb = σ.tb
theorem open_all {W w : World} {N : Nat} {σ : Sd} {pk pn : Nat → Sm.Pg} (h : Ss W N w σ pk pn) (m : Nat) (h1 : 1 ≤ m) (h2 : m ≤ 1024) (hN : N + 10000 < 2305843009213693952) :
    Calls Tryz.prog 17 #[.pointer (some ⟨σ.D, 0, none⟩), .int .i64 (m : Int)] w (OpAny W (N + 20000) w σ m pk) := by
  obtain ⟨ct', Hd, hd, hc, hH⟩ := h.sh.ps.disk'
  have hb := h.sh.kf.bnd
  have hk : ∀ q, Kept σ q → ct' q = σ.ct q := fun q hq => hc q (by
    rcases hq with e | e | ⟨k, e, rfl⟩
    · have := h.iv.n4; omega
    · exact (h.iv.sk.tl q e).2
    · exact (h.iv.sk.fl k e).2) hq
  refine (open_any m hd (fun k hk => (h.sh.ps.lt k (hH k hk)).2) h.iv.n4 h.iv.n1 h1 h2 (h.iv.openOk hb (ct := ct') (fun q hq => hk q (by rcases hq with e | e; exact .inl e; exact .inr (.inl e)))) hN).mono ?_
  rintro e w' ⟨σ', rfl, hsh, hs, hT, hst, _⟩
  have hi := inv_open h.iv h1 h2 hk hs hT
  obtain ⟨e1, e2, e3, e4, e5, e6, e7, e8, e9, e10⟩ := hs
  exact ⟨σ', rfl, ⟨hsh.less (fun _ _ => trivial), hi.kept⟩, hsh, Stp.wide hst hH (fun b q => by rcases hst.own b q with e | e; exact .inl (hH b e); exact .inr q), e1, e2, e3, e5, e6, e8, e4⟩
/-- .. and the first one goes on -/
def OpBes (W : World) (N : Nat) (w : World) (σ : Sd) (pk pn : Nat → Sm.Pg) (e : Ending) (w' : World) : Prop :=
  ∃ σ' H', e = .returned (.tuple #[.pointer (some ⟨σ'.P, 0, none⟩), .nilIface]) ∧ Ss W N w' σ' pk pk ∧ Ss W N w' { σ with H := H' } pk pn ∧ Frm w w' σ { σ with H := H' } ∧ σ'.kp = σ.kp ∧ σ'.nw = σ.kp ∧ σ'.ep = σ.ep ∧ σ'.tb = σ.tb ∧ σ'.n = σ.n
theorem open_beside {W w : World} {N : Nat} {σ : Sd} {pk pn : Nat → Sm.Pg} (h : Ss W N w σ pk pn) (ha : Sh W N w σ (fun _ => True)) (m : Nat) (h1 : 1 ≤ m) (h2 : m ≤ 1024) (hN : N + 10000 < 2305843009213693952) :
    Calls Tryz.prog 17 #[.pointer (some ⟨σ.D, 0, none⟩), .int .i64 (m : Int)] w (OpBes W (N + 20000) w σ pk pn) := by
  have hb := h.sh.kf.bnd
  obtain ⟨Hd, hd, hH, hag⟩ := ha.ps.again
  refine (open_any m hd (fun k hk => (h.sh.ps.lt k (hH k hk)).2) h.iv.n4 h.iv.n1 h1 h2 (h.iv.openOk hb (ct := σ.ct) (fun _ _ => rfl)) hN).mono ?_
  rintro e w' ⟨σ', rfl, hsh, hs, hT, hst, _⟩
  have hi := inv_open h.iv h1 h2 (fun _ _ => rfl) hs hT
  obtain ⟨e1, e2, e3, e4, e5, e6, e7, e8, e9, e10⟩ := hs
  have hps := hsh.ps
  rw [e1, e2, e10] at hps
  have hst2 : Stp w Hd w' σ'.H := ⟨hst.os, hst.tape, hst.output, hst.size, hst.block, fun k q => hst.own k (.inr (.inr (.inr (.inr (.inr q)))))⟩
  obtain ⟨H', hp1, hs1⟩ := hag hps hst2 (by omega)
  have hsh1 := ha.pool hp1 hs1 (by omega)
  exact ⟨σ', H', rfl, ⟨hsh.less (fun _ _ => trivial), hi.kept⟩, ⟨hsh1.less (fun _ _ => trivial), h.iv.pool H'⟩, frm_pool (σ := σ) (ct' := σ.ct) hs1, e5, e6, e8, e4, e2⟩
end Go.Proofs.YtokikeenfpligaaGreatDoor.Sh
namespace Go.Proofs.YtokikeenfpligaaGreatDoor.Sh
open Go.RowKit Go.Maps

theorem recs9 (w : World) : Sm.Recs ((w.alloc (.cells #[.int .u8 9] 5)).alloc (.cells #[.slice (some ⟨w.heap.size, 0, none⟩) 1 1] 72)) (some ⟨w.heap.size + 1, 0, none⟩) [[9]] := by
  intro i hi
  obtain rfl : i = 0 := by simpa using hi
  refine ⟨w.heap.size + 1, 0, some ⟨w.heap.size, 0, none⟩, 1, rfl, ?_, ?_, (show 1 ≤ 1 by decide), by decide⟩
  · have h := heap_alloc2_new w (.cells #[.int .u8 9] 5) (.cells #[.slice (some ⟨w.heap.size, 0, none⟩) 1 1] 72)
    rw [cell_of_row _ _ _ _ _ _ h]
    rfl
  · refine Sm.Lies.below (w := w.alloc (.cells #[.int .u8 9] 5)) ?_ (Sm.alX _ _)
    intro j hj
    obtain rfl : j = 0 := by simpa using hj
    exact ⟨w.heap.size, 0, rfl, by rw [cell_of_row _ _ _ _ _ _ (heap_alloc_new w _)]; rfl, by show (0 : Int) ≤ 9; decide, by show (9 : Int) < 256; decide⟩
/-- the example's page -/
theorem may9 : (Sm.Pg.mkPg 1 0 0 1 [[9]]).may = true := by decide
theorem put_one {σ σ' : Sd} {pn pn' : Nat → Sm.Pg} {ki si : Int} {rs : List (List Int)} (h : Put1 σ σ' pn pn' 5 ki si rs) (h0 : σ.nw = fun _ => 0) : ∀ j, σ'.nw j ≠ 0 ↔ j = 5 := by
  obtain ⟨k, hk, _, _, ho, hs, _⟩ := h
  obtain rfl : k = 5 := by omega
  intro j
  by_cases e : j = 5
  · subst e; exact ⟨fun _ => rfl, fun _ => hs⟩
  · rw [ho j e, h0]; exact ⟨fun q => absurd rfl q, fun q => absurd q e⟩
theorem late_new {kp nw : Nat → Nat} (h : kp = fun _ => 0) : lateL kp nw = kl nw := by
  unfold lateL
  rw [List.filter_eq_self]
  intro a ha
  unfold kl at ha
  have h1 := (List.mem_filter.1 ha).2
  rw [h]
  exact h1
/-- how many are free behind the example's page, and behind its Commit -/
theorem free_w {W w : World} {N : Nat} {σ : Sd} {pk pn : Nat → Sm.Pg} (h : Ss W N w σ pk pn) (hn : σ.n = 8) (hk : σ.kp = fun _ => 0) (ht : σ.tb = []) (h5 : ∀ j, σ.nw j ≠ 0 ↔ j = 5) : σ.S.free = 5 := by
  have := h.free
  rw [hn, late_new hk, kl_one (by decide) h5, ht, hk, kl_none] at this
  simp only [List.length_nil] at this
  omega
theorem free_c {W w : World} {N : Nat} {σ : Sd} {pk pn : Nat → Sm.Pg} (h : Ss W N w σ pk pn) (hn : σ.n = 8) (hk : σ.nw = σ.kp) (ht : σ.tb.length = 1) (h5 : ∀ j, σ.kp j ≠ 0 ↔ j = 5) : σ.S.free = 4 := by
  have := h.free
  rw [hn, hk, lateL_same, kl_one (by decide) h5, ht] at this
  simp only [List.length_nil] at this
  omega
set_option maxRecDepth 100000 in
set_option maxHeartbeats 4000000 in
theorem sure_any (w : World) :
    Calls Tryz.prog 9 #[] w fun e w' => e = .returned (.bool true) ∧ Below w.heap.size w w' := by
  go_enter Tryz.func9, Tryz.ntmps9
  go_wp2_with fail
  refine (disk_new (W := w) 8 w (Below.refl _ _) (by decide) (by decide)).mono ?_
  rintro e w1 ⟨D, H, rfl, hdk, hb1⟩
  have HDK := Lib.hid hdk
  clear hdk hb1
  go_wp2_with fail
  refine (new_fresh 2 HDK.out (by decide) (by decide) (by decide) (by decide)).mono ?_
  rintro e w2 ⟨σ, rfl, _, hss, e1, e2, e3, e4, e5, e6, e7⟩
  have HS := Lib.hid hss
  have HFR := Lib.hid (show σ.S.free = 6 by
    have := hss.free
    rw [e2, e5, e6, e7, lateL_same, kl_none] at this
    simp only [List.length_nil] at this
    omega)
  have HE := Lib.hid (And.intro e1 (And.intro e2 (And.intro e3 (And.intro e4 (And.intro e5 (And.intro e6 e7))))))
  have HC := Lib.hid (show wrC σ 5 (Sm.Pg.mkPg 1 0 0 1 [[9]]).may = 0 by unfold wrC; rw [may9, if_neg (by decide), if_neg (by decide), if_pos (.inr (by rw [HFR.out]; decide))])
  clear hss e1 e2 e3 e4 e5 e6 e7
  have HB3 := Lib.hid ((Sm.alX w2 (.cells #[.int .u8 9] 5)).trans ((Sm.alX (w2.alloc (.cells #[.int .u8 9] 5)) (.cells #[.slice (some ⟨w2.heap.size, 0, none⟩) 1 1] 72)).mono (by simp)))
  have HWR := Lib.hid (write_all (HS.out.below HB3.out) 5 1 0 0 1 _ 1 1 [[9]] rfl (by decide) (by decide) (recs9 w2) (by decide) (by decide) (by decide))
  rw [HC.out] at HWR
  go_upto_region 4 with (first | (go_at_call 24; refine (free_any σ.P σ.G σ.T σ.S _ HS.out.sh.hd.c6 HS.out.sh.sp).mono ?_; rw [HFR.out]; rintro e w' ⟨rfl, rfl⟩) | (go_at_call 19; refine HWR.out.mono ?_; rintro e w3 ⟨σ1, pn1, rfl, hs1, _, hq1, hk1, _, hp1⟩; rw [errv0]; have HS1 := Lib.hid hs1; have HP1 := Lib.hid (put_one (hp1 rfl) HE.out.2.2.2.2.1); have HX1 := Lib.hid (hp1 rfl); have HQ1 := Lib.hid hq1; have HK1 := Lib.hid hk1; clear hs1 hq1 hk1 hp1; rw [← HQ1.out.1]; have HF1 := Lib.hid (free_w HS1.out (HQ1.out.2.2.1.trans HE.out.2.1) (HK1.out.1.trans HE.out.2.2.2.2.2.1) (HK1.out.2.1.trans HE.out.2.2.2.2.2.2) HP1.out)))
  refine (commit_all HS1.out 1 (istbl_one (k := 5) HP1.out) (by rw [HK1.out.2.2.1, HE.out.2.2.2.1]; decide) (by decide)).mono ?_
  rintro e w4 ⟨σ2, rfl, hs2, _, hq2, _, hc2⟩
  have hno : ¬ σ1.S.free < 1 := by rw [HF1.out]; decide
  rw [if_neg hno] at hs2 ⊢
  rw [errv0]
  have HS2 := Lib.hid hs2
  have HQ2 := Lib.hid hq2
  have HC2 := Lib.hid (hc2 hno)
  clear hs2 hq2 hc2 hno
  have HD2 := Lib.hid (show σ2.D = D by rw [HQ2.out.2.1, HQ1.out.2.1]; exact HE.out.1)
  have HP2 := Lib.hid (show ∀ j, σ2.kp j ≠ 0 ↔ j = 5 by rw [HC2.out.2.1]; exact HP1.out)
  have HOP := Lib.hid (open_all HS2.out 1 (by decide) (by decide) (by decide))
  rw [HD2.out] at HOP
  go_wp2_with fail
  refine HOP.out.mono ?_
  rintro e w5 ⟨σ3, rfl, hs3, _, _, e1, e2, e3, e4, e5, e6, e7⟩
  have HS3 := Lib.hid hs3
  have HF3 := Lib.hid (free_c hs3 (e2.trans (HQ2.out.2.2.1.trans (HQ1.out.2.2.1.trans HE.out.2.1))) (e5.trans e4.symm) (by rw [e7]; exact HC2.out.2.2.2.2) (by rw [e4]; exact HP2.out))
  have HN3 := Lib.hid (show σ3.nw 5 ≠ 0 by rw [e5]; exact (HP2.out 5).2 rfl)
  have HE3 := Lib.hid (show σ3.ep = 1 by rw [e6, HC2.out.2.2.2.1, HK1.out.2.2.1, HE.out.2.2.2.1])
  clear hs3 e1 e2 e3 e4 e5 e6 e7
  go_wp2_with fail
  have HC5 := Lib.hid (show rdC σ3 5 = 0 by unfold rdC; rw [if_neg (by decide), if_neg (by exact HN3.out)])
  have HRD := Lib.hid (read_all HS3.out 5 (by decide))
  rw [HC5.out] at HRD
  refine HRD.out.mono ?_
  rintro e w6 ⟨σ4, pg, ra, cap, B, C, rfl, hs4, _, hH, hpg, _⟩
  obtain ⟨hp0, _⟩ := hpg rfl
  obtain ⟨H', rfl⟩ := hH
  have HS4 := Lib.hid (hs4.below (Sm.alX w6 (.cells #[.int .u8 1, .int .u32 5, .int .u64 1, .int .i64 1, .slice ra 1 cap] 47)))
  have HBL := Lib.hid (hs4.sh.ps.b.trans ((Sm.alX w6 (.cells #[.int .u8 1, .int .u32 5, .int .u64 1, .int .i64 1, .slice ra 1 cap] 47)).mono hs4.sh.ps.b.size))
  have hpn : pg = npg 1 5 0 1 [[9]] := by
    obtain ⟨k, hk, _, hp, _⟩ := HX1.out
    obtain rfl : k = 5 := by omega
    rw [hp0, hp]
    show updP p0 5 _ 5 = _
    rw [updP_same, HE.out.2.2.2.1]
  have k1 : Sm.Pg.kind pg = 1 := by rw [hpn]; rfl
  have k2 : Sm.Pg.number pg = 5 := by rw [hpn]; rfl
  have k3 : Sm.Pg.epoch pg = 1 := by rw [hpn]; rfl
  have k4 : Sm.Pg.size pg = 1 := by rw [hpn]; rfl
  have k5 : (Sm.Pg.recs pg).length = 1 := by rw [hpn]; rfl
  rw [k1, k2, k3, k4, k5, errv0]
  have hx := box_new w6 1 5 1 1 (.slice ra 1 cap)
  have x0 := hx.f0
  have x1 := hx.f1
  have x2 := hx.f2
  have HEP := Lib.hid HS4.out.sh.hd.c5
  clear hs4 hp0 hpg hpn k1 k2 k3 k4 k5 hx
  go_wp2_with (first | (go_at_call 24; refine (free_any σ3.P σ3.G σ3.T σ3.S _ HS4.out.sh.hd.c6 HS4.out.sh.sp).mono ?_; rw [HF3.out]; rintro e w' ⟨rfl, rfl⟩) | (go_at_call 23; refine (epoch_any σ3.P (σ3.ep : Int) _ HS4.out.sh.hd.c5).mono ?_; rw [HE3.out]; rintro e w' ⟨rfl, rfl⟩))
  go_ret
  exact ⟨rfl, HBL.out⟩
end Go.Proofs.YtokikeenfpligaaGreatDoor.Sh

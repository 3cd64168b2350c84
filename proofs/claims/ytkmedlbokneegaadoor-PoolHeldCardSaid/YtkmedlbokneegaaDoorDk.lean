/-
  WHAT A WRITE AND A FLUSH MAKE OF A DISK, AS PLAIN DATA. Conditions: those that each lemma names.
-/
import Derived.Test.YtkmedlbokneegaaDoorCb
import Derived.StillTailTactics
namespace Go.Proofs.YtkmedlbokneegaaDoor
open Go.RowKit Go.Maps

theorem Wrote.cur {s s' : St} {i : Nat} {f : Nat → Int} (h : Wrote s i f s') (k j : Nat) : s'.cur k j = if k = i then f j else s.cur k j := by
  unfold St.cur
  by_cases e : k = i
  · subst e
    rw [if_pos rfl]
    cases hl : s'.late k with
    | none => exact absurd hl h.late
    | some b => exact h.now j
  · rw [if_neg e, h.lateo k e]
    cases s.late k with
    | none => simp only; rw [h.sure]
    | some b => simp only; rw [h.nowo k e]
def St.flush (s : St) : St := (s.outs s.pend).settle
theorem flush_cur {B : Nat} {s : St} (o : s.Ok B) (k j : Nat) (hj : j < 512) : s.flush.cur k j = s.cur k j := by
  show (if k ∈ s.pend ∧ j < 512 then s.now k j else s.sure k j) = s.cur k j
  unfold St.cur
  by_cases e : k ∈ s.pend
  · rw [if_pos ⟨e, hj⟩]
    cases hl : s.late k with
    | none => exact absurd hl ((o.mem k).1 e)
    | some b => rfl
  · rw [if_neg (fun q => e q.1)]
    cases hl : s.late k with
    | none => rfl
    | some b => exact absurd ((o.mem k).2 (by rw [hl]; simp)) e
theorem tx_nums {t : ByteArray} (h : t.size = 512) : tx (fun j => (nums t).getD j 0) = t := by
  unfold tx
  rw [rowOf_self (by rw [nums_len, h]), str_nums]
theorem tx_congr {f g : Nat → Int} (h : ∀ j, j < 512 → f j = g j) : tx f = tx g := by unfold tx; rw [rowOf_congr h]
theorem cur_byte {B : Nat} {s : St} (o : s.Ok B) (i j : Nat) : 0 ≤ s.cur i j ∧ s.cur i j < 256 := by
  unfold St.cur
  cases s.late i with
  | none => exact o.us i j
  | some b => exact o.un i j
theorem nums_tx {f : Nat → Int} (h : ∀ j, 0 ≤ f j ∧ f j < 256) : nums (tx f) = rowOf f := by
  unfold tx
  exact nums_str fun i hi => by rw [rowOf_get f i hi]; exact h i
theorem tx_size (f : Nat → Int) : (tx f).size = 512 := by unfold tx; rw [strOfNums_size, rowOf_len]
theorem Tie.wrote {B : Nat} {s s' : St} {d : Dk} {i : Nat} {t : ByteArray} (h : Tie s d) (o : s.Ok B) (hw : Wrote s i (fun j => (nums t).getD j 0) s') (ht : t.size = 512) : Tie s' (d.wrote i t) := by
  refine ⟨h.n.trans hw.n.symm, fun k hk => ?_, ?_, by rw [hw.writes]; show d.writes + 1 = _; rw [h.writes], by rw [hw.left]; show (if 0 < d.left then d.left - 1 else d.left) = _; rw [h.left]⟩
  · show (if k = i then t else d.cur k) = _
    by_cases e : k = i
    · subst e
      rw [if_pos rfl, ← tx_nums ht]
      exact (tx_congr fun j _ => by rw [hw.cur, if_pos rfl]).symm
    · rw [if_neg e, h.cur k (by rw [← hw.n]; exact hk)]
      exact (tx_congr fun j _ => by rw [hw.cur, if_neg e]).symm
  · show (if i ∈ d.pend then d.pend else d.pend ++ [i]) = _
    rw [hw.pend, h.pend]
    by_cases e : s.late i = none
    · rw [if_pos e, if_neg (fun q => (o.mem i).1 q e)]
    · rw [if_neg e, if_pos ((o.mem i).2 e)]
theorem Tie.flush {B : Nat} {s : St} {d : Dk} (h : Tie s d) (o : s.Ok B) : Tie s.flush d.flush :=
  ⟨h.n, fun k hk => (h.cur k hk).trans (tx_congr fun j hj => (flush_cur o k j hj).symm), rfl, h.writes, h.left⟩

/-! clean -/
def framePtr (F k : Nat) : Value := .pointer (some ⟨F, k * 5, none⟩)
theorem cleanP_no {X : Px} {k : Nat} (h : (X.fr k).d = false) : cleanP X k = (X, 0) := by unfold cleanP; rw [if_pos h]
theorem cleanP_full {X : Px} {k : Nat} (h : (X.fr k).d = true) (hl : X.d.left = 0) : cleanP X k = (X, 5) := by unfold cleanP; rw [if_neg (by rw [h]; decide), if_pos hl]
theorem cleanP_ok {X : Px} {k : Nat} (h : (X.fr k).d = true) (hl : X.d.left ≠ 0) : cleanP X k = ((X.disk (X.d.wrote (X.fr k).i.toNat (X.fr k).t)).put k { X.fr k with d := false }, 0) := by unfold cleanP; rw [if_neg (by rw [h]; decide), if_neg hl]
theorem PoolAt.clean {B N : Nat} {w : World} {μ : Mp} (h : PoolAt B N w μ) {k : Nat} (hk : k < μ.X.c) (hm : k < μ.X.m) : PoolAt B N (w.setCell ⟨μ.F, k * 5 + 2, none⟩ (.bool false)) (μ.put k { μ.X.fr k with d := false } (μ.a k) (μ.cp k)) := by
  have hs : (μ.X.fr k).t.size = 512 ∨ ((μ.X.fr k).t.size = 0 ∧ false = false) := by rcases h.core.ok.siz k with q | q; exact .inl q; exact .inr ⟨q.1, rfl⟩
  refine h.put _ _ _ (((OnF.refl (h.core.row.c k hm)).set 2 (by omega) (.bool false)).congr fun j hj => ?_) rfl (h.core.fit hm) (h.core.ok.put hk rfl hs (h.core.ok.hN k) (Nat.le_refl _))
  match j, hj with
  | 0, _ => rfl
  | 1, _ => rfl
  | 2, _ => rfl
  | 3, _ => rfl
  | 4, _ => rfl
theorem stp_cell {B N : Nat} {w : World} {μ : Mp} (h : PoolAt B N w μ) {k : Nat} (hm : k < μ.X.m) (j : Nat) (hj : j < 5) (v : Value) (f : Fr) : Stp w μ.all (w.setCell ⟨μ.F, k * 5 + j, none⟩ v) (μ.put k f (μ.a k) (μ.cp k)).all :=
  stp_put (OnF.set (OnF.refl (h.core.row.c k hm)) j hj v) fun _ off e => .inl (.inr ⟨k, off, hm, e⟩)
theorem Fit.addr {B : Nat} {w : World} {μ : Mp} {t : ByteArray} {a : Option Addr} {c : Nat} (h : Fit B w μ t a c) (hs : 0 < t.size) : ∃ b off, a = some ⟨b, off, none⟩ := by
  obtain ⟨g, off, e, _⟩ := h.1 0 (by rw [nums_len]; exact hs)
  exact ⟨g, off, e⟩
set_option maxRecDepth 100000 in
set_option maxHeartbeats 1000000 in
theorem clean_any {B N : Nat} (μ : Mp) (k : Nat) (w : World) (h : PoolAt B N w μ) (hk : k < μ.X.c) (hN : N < 2305843009213693952) :
    Calls Tryd.prog 41 #[.pointer (some ⟨μ.P, 0, none⟩), framePtr μ.F k] w fun e w' => e = .returned (errv (cleanP μ.X k).2) ∧ Goes B (N + 1) w μ (cleanP μ.X k).1 w' := by
  have hm : k < μ.X.m := by have := h.core.ok.cm; omega
  have c0 := h.core.hd.c0
  have g0 := h.core.row.at0 hm
  have g1 := h.core.row.at1 hm
  have g2 := h.core.row.at2 hm
  have HP := Lib.hid h
  unfold framePtr
  cases hd : (μ.X.fr k).d
  · rw [hd] at g2
    rw [cleanP_no hd, errv0]
    clear h
    go_enter Tryd.func41, Tryd.ntmps41
    go_wp2
    go_ret
    exact ⟨rfl, _, HP.out.mono (by omega), Stp.refl _ _, rfl, rfl, rfl, rfl⟩
  · rw [hd] at g2
    have hsz : (μ.X.fr k).t.size = 512 := by rcases h.core.ok.siz k with q | q; exact q; rw [hd] at q; exact absurd q.2 (by decide)
    have hsec := h.core.ok.sec k hk
    obtain ⟨i, hi⟩ : ∃ i : Nat, (μ.X.fr k).i = i := ⟨(μ.X.fr k).i.toNat, by omega⟩
    have hin : i < μ.s.n := by have := h.core.t.n; omega
    have hfit := h.core.fit hm
    obtain ⟨b, off, ha⟩ := hfit.addr (by omega)
    have hlies := hfit.1
    have hnb : ¬ μ.s.has b := fun q => (hfit.2.2 b off ha).2.2 (.inr (.inr (.inr q)))
    rw [hsz, ha] at g1
    rw [ha] at hlies
    rw [hi] at g0
    have HD := Lib.hid h.core.d.drew
    have HT := Lib.hid h.core.t
    have HL := Lib.hid hlies.drew
    have HNB := Lib.hid hnb
    have HSZ := Lib.hid hsz
    have HIN := Lib.hid hin
    have HI := Lib.hid hi
    have HDD := Lib.hid hd
    have HO := Lib.hid h.core.ok
    by_cases hl : μ.X.d.left = 0
    · have HW := Lib.hid (write_full μ.s i w.drew (some ⟨b, off, none⟩) (μ.cp k) HD.out HIN.out (by rw [← HT.out.left]; exact hl))
      rw [cleanP_full hd hl, errv1 (show ((μ.X, (5 : Int)).2 : Int) ≠ 0 from (by decide : (5 : Int) ≠ 0))]
      clear h hd hsz hsec hi hin hfit ha hlies hnb hl
      go_enter Tryd.func41, Tryd.ntmps41
      go_wp2
      go_still_tail 12, (by kernel_rfl)
      change wpList _ _ _ _ _ w.drew
      go_wp2_with (go_at_call 64; refine HW.out.mono ?_; rintro e w' ⟨rfl, rfl⟩)
      go_ret
      exact ⟨rfl, _, HP.out.drew.mono (by omega), .of_below (Below.refl _ _).drew, rfl, rfl, rfl, rfl⟩
    · have HW := Lib.hid (write_any μ.s i w.drew b off (μ.cp k) (nums (μ.X.fr k).t) HD.out HIN.out HL.out HNB.out (by rw [nums_len, HSZ.out]) (by rw [← HT.out.left]; exact hl) (by rw [← HT.out.writes]; exact HO.out.w0) (by rw [← HT.out.writes]; have := HO.out.wN; omega))
      rw [cleanP_ok hd hl, errv0, hi, Int.toNat_natCast]
      have HKC := Lib.hid hk
      have HKM := Lib.hid hm
      clear h hd hsz hsec hi hin hfit ha hlies hnb hl hk hm
      go_enter Tryd.func41, Tryd.ntmps41
      go_wp2
      go_still_tail 12, (by kernel_rfl)
      change wpList _ _ _ _ _ w.drew
      go_wp2_with (go_at_call 64; refine HW.out.mono ?_; rintro e w' ⟨rfl, s', hd, hs, hw⟩; have HP2 := Lib.hid (HP.out.drew.disk hd hs hw.D (HT.out.wrote HD.out.ok hw HSZ.out) (HO.out.wrote i (μ.X.fr k).t)); have HS2 := Lib.hid (stp_disk (μ := μ) (d' := μ.X.d.wrote i (μ.X.fr k).t) hs); have g5 := HP2.out.core.row.at2 HKM.out; have z5 := HP2.out.core.row.fz (k * 5 + 2); change w'.cell? ⟨μ.F, k * 5 + 2, none⟩ = _ at g5; change w'.frozen? ⟨μ.F, k * 5 + 2, none⟩ = _ at z5; have HDD2 := Lib.hid hw.D; clear hd hs hw)
      go_ret
      refine ⟨rfl, _, HP2.out.clean HKC.out HKM.out, (Stp.of_below (H := μ.all) (Below.refl _ _).drew).trans (HS2.out.trans (stp_cell HP2.out HKM.out 2 (by omega) _ _)), rfl, rfl, HDD2.out, rfl⟩
end Go.Proofs.YtkmedlbokneegaaDoor

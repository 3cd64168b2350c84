/-
  WHAT ONLY THE DOOR's STATEMENTS ASK: numbers of errors, what is pending, a pool made anew over a disk. Conditions: those that each lemma names.
  THE WALKS of the pool's Pin and Unpin, and of a pool that is not there. Conditions: a pool lies in memory, or none.
  THE WALK of the pool's Pin. Conditions: a pool lies in memory.
-/
import Derived.Test.YtfhnnfheonkneaaDoorQw
import Derived.Test.YtfhnnfheonkneaaDoorQk
import Derived.Test.YtfhnnfheonkneaaDoorQe
namespace Go.Proofs.YtfhnnfheonkneaaDoor
open Go.RowKit Go.Maps

theorem pd_pending_nil {W w w0 : World} {N p D : Nat} {X : Px} {H0 : Nat → Prop} (h : PlN W N w p D X w0 H0) (hp : X.d.pend = []) :
    Calls Tryd.prog 31 #[.pointer (some ⟨D, 0, none⟩)] w fun e w' => ∃ ao ac, e = .returned (.slice ao 0 ac) ∧ PlN W N w' p D X w0 H0 := by
  have h' := h
  obtain ⟨H, ⟨μ, h1, rfl, rfl, rfl, rfl, h6⟩, hst⟩ := h
  have e : μ.s.pend.length = 0 := by rw [← h1.core.t.pend, hp]; rfl
  exact (pending_any μ.s w h1.core.d).mono fun _ _ ⟨ao, cap, he, _, _, hb⟩ => ⟨ao, cap, by rw [e] at he; exact he, h'.below hb⟩
/-- the disk of a pool, alone -/
theorem PlN.disk {W w w0 : World} {N p D : Nat} {X : Px} {H0 : Nat → Prop} (h : PlN W N w p D X w0 H0) : ∃ H, DkN W w D X.d H := by
  obtain ⟨H, ⟨μ, h1, rfl, rfl, rfl, rfl, h6⟩, hst⟩ := h
  exact ⟨μ.s.has, μ.s, h1.core.d, h1.core.t, rfl, rfl, h6⟩
theorem num_pl {W w w0 : World} {N p D : Nat} {X : Px} {H0 : Nat → Prop} (h : PlN W N w p D X w0 H0) (hl : Laid W) (k : Int) : Calls Tryd.prog 19 #[.iface 48 (.int .i64 k)] w fun e w' => e = .returned (.int .i64 k) ∧ PlN W N w' p D X w0 H0 :=
  (num_err k w (hl.below h.b)).mono fun _ _ ⟨he, hb⟩ => ⟨he, h.below hb⟩
theorem num_b {W w : World} (hb : Below W.heap.size W w) (hl : Laid W) (k : Int) : Calls Tryd.prog 19 #[.iface 48 (.int .i64 k)] w fun e w' => e = .returned (.int .i64 k) ∧ Below W.heap.size W w' :=
  (num_err k w (hl.below hb)).mono fun _ _ ⟨he, hb2⟩ => ⟨he, hb.trans (hb2.mono hb.size)⟩
theorem pl_read_no {W w w0 : World} {N p D : Nat} {X Y : Px} {H0 : Nat → Prop} (h : PlN W N w p D X w0 H0) (i : Int) (c : Int) (hN : N + 1 < 2305843009213693952) (hc : (readP X i).2.2 = c) (h0 : c ≠ 0) (hY : (readP X i).1 = Y) :
    Calls Tryd.prog 28 #[.pointer (some ⟨p, 0, none⟩), .int .i64 i] w fun e w' => e = .returned (.tuple #[.slice none 0 0, .iface 48 (.int .i64 c)]) ∧ PlN W (N + 2) w' p D Y w0 H0 := by
  subst hc hY
  exact pl_read_bad h i hN h0
theorem pl_read_is {W w w0 : World} {N p D : Nat} {X Y : Px} {t : ByteArray} {H0 : Nat → Prop} (h : PlN W N w p D X w0 H0) (i : Int) (hN : N + 1 < 2305843009213693952) (he : readP X i = (Y, t, 0)) (hs : t.size = 512) :
    Calls Tryd.prog 28 #[.pointer (some ⟨p, 0, none⟩), .int .i64 i] w fun e w' => ∃ g cap, e = .returned (.tuple #[.slice (some ⟨g, 0, none⟩) 512 cap, .nilIface]) ∧ Lies w' (some ⟨g, 0, none⟩) (nums t) ∧ PlN W (N + 2) w' p D Y w0 H0 := by
  have h2 := pl_read_got h i hN (by rw [he]) (by rw [he]; exact hs)
  rw [he] at h2
  exact h2
set_option maxRecDepth 100000 in
theorem zeros_bad : Sm.isGood (List.replicate 512 0) = false := by decide +kernel
theorem zT_bad : goodT zT = false := by
  unfold goodT zT
  rw [nums_tx (fun _ => by omega)]
  have e : rowOf (fun _ => 0) = List.replicate 512 0 := by
    apply List.ext_getElem (by rw [rowOf_len, List.length_replicate])
    intro i h1 h2
    rw [rowOf_get, List.getElem_replicate]
  rw [e]
  exact zeros_bad
/-- on with the statements' loops -/
theorem PInv.to {W wr w3 w' : World} {N M p D g K : Nat} {X Y : Px} {ls ct ls' ct' : Nat → ByteArray} {H : Nat → Prop} (h : PInv W wr N p D g K X ls ct) (h4 : PlN W M w' p D Y w3 H) (hg : ¬ H g) (hgl : g < w3.heap.size) (hl : Last w3 g K ls') (hla : ∀ q, Laid1 ls' ct' q) (hs : Sem Y ct') (hk : Keep X Y) : PInv W w' M p D g K Y ls' ct' := by
  obtain ⟨H2, k1, k2⟩ := h4.open' hgl hg
  refine ⟨⟨H2, k1, k2⟩, h.gW, ?_, hl.keep (h4.block hgl hg), hla, hs, hk.free, hk.n.trans h.n⟩
  obtain ⟨_, _, hs⟩ := h4
  exact Nat.lt_of_lt_of_le hgl hs.size
theorem PInv.mono {W wr : World} {N M p D g K : Nat} {X : Px} {ls ct : Nat → ByteArray} (h : PInv W wr N p D g K X ls ct) (hM : N ≤ M) : PInv W wr M p D g K X ls ct := by
  obtain ⟨H, h1, h2⟩ := h.pl
  exact ⟨⟨H, h1.mono hM, h2⟩, h.gW, h.gl, h.last, h.laid, h.sem, h.free, h.n⟩
theorem PInv.belowN {W wr w' : World} {N p D g K : Nat} {X : Px} {ls ct : Nat → ByteArray} (h : PInv W wr N p D g K X ls ct) (hb : Below wr.heap.size wr w') : PInv W w' N p D g K X ls ct := by
  obtain ⟨H, h1, h2⟩ := h.pl
  exact ⟨⟨H, h1.below hb, h2⟩, h.gW, Nat.lt_of_lt_of_le h.gl hb.size, h.last.keep (hb.block g h.gl), h.laid, h.sem, h.free, h.n⟩
theorem Pl.disk' {W w : World} {N p D : Nat} {X : Px} {H : Nat → Prop} (h : Pl W N w p D X H) : ∃ H', DkN W w D X.d H' ∧ ∀ b, H' b → H b := by
  obtain ⟨μ, h1, rfl, rfl, rfl, rfl, h6⟩ := h
  exact ⟨μ.s.has, ⟨μ.s, h1.core.d, h1.core.t, rfl, rfl, h6⟩, fun b hb => .inl (.inr (.inr (.inr hb)))⟩
/-- another pool over a disk that has all -/
theorem PInv.again {W wr w7 : World} {N M p D g K : Nat} {X Y : Px} {ls ct : Nat → ByteArray} {H : Nat → Prop} (h : PInv W wr N p D g K X ls ct) (F : Flat X Y ct) (hp : PlN W M w7 p D Y wr H) (hg : ¬ H g) :
    Calls Tryd.prog 5 #[.pointer (some ⟨D, 0, none⟩), .int .i64 1] w7 fun e w' => ∃ p', e = .returned (.tuple #[.pointer (some ⟨p', 0, none⟩), .nilIface]) ∧ PInv W w' M p' D g K (Px.fresh Y.d 1) ls ct := by
  have hl7 := h.last.keep (hp.block h.gl hg)
  have ok := hp.ok
  obtain ⟨H7, k1, k2⟩ := hp.open' h.gl hg
  have hgl7 : g < w7.heap.size := by obtain ⟨_, _, hs⟩ := hp; exact Nat.lt_of_lt_of_le h.gl hs.size
  obtain ⟨H8, ⟨s, hd, ht, rfl, rfl, hB⟩, k4⟩ := k1.disk'
  have hn : Y.d.n = K := F.n.trans h.n
  refine (newp_any (N := M) s Y.d 1 w7 hd ht (by omega) (by omega) ok.w0 ok.wN).mono fun _ w' ⟨μ, he, hpo, hs, hX, hb, hown⟩ => ⟨μ.P, he, ⟨⟨μ.all, ⟨μ, hpo, rfl, by rw [hs], hX, rfl, hB.trans (hb.mono hB.size)⟩, fun q => ?_⟩, h.gW, Nat.lt_of_lt_of_le hgl7 hb.size, hl7.keep (hb.block g hgl7), h.laid, ?_, Free.fresh _ _, hn⟩⟩
  · rcases hown g q with e | e
    · exact k2 (k4 g e)
    · omega
  · exact ⟨fun _ hk => absurd hk (Nat.not_lt_zero _), fun _ hk => absurd hk (Nat.not_lt_zero _), fun _ hk => absurd hk (Nat.not_lt_zero _), fun _ hk => absurd hk (Nat.not_lt_zero _), fun q hq _ => flat_cur F.sem ok (fun j hj => F.d j (by rw [← F.m]; exact hj)) hq, F.sem.left⟩
end Go.Proofs.YtfhnnfheonkneaaDoor
namespace Go.Proofs.YtfhnnfheonkneaaDoor
open Go.RowKit Go.Maps

/-! no pool -/
set_option maxRecDepth 100000 in
theorem hand_nil (i : Int) (w : World) : Calls Tryd.prog 44 #[.pointer none, .int .i64 i] w fun e w' => e = .returned (.tuple #[.pointer none, .iface 48 (.int .i64 1)]) ∧ w = w' := by
  go_enter Tryd.func44, Tryd.ntmps44
  go_wp2_with (go_at_call 33; refine (check_nil i _).mono ?_; rintro e w' ⟨rfl, rfl⟩)
  go_ret2
  exact ⟨rfl, rfl⟩
set_option maxRecDepth 100000 in
theorem nop_read (i : Int) (w : World) : Calls Tryd.prog 28 #[.pointer none, .int .i64 i] w fun e w' => e = .returned (.tuple #[.slice none 0 0, .iface 48 (.int .i64 1)]) ∧ w = w' := by
  go_enter Tryd.func28, Tryd.ntmps28
  go_wp2_with (go_at_call 44; refine (hand_nil i _).mono ?_; rintro e w' ⟨rfl, rfl⟩)
  go_ret2
  exact ⟨rfl, rfl⟩
set_option maxRecDepth 100000 in
theorem nop_write (i : Int) (b : Value) (w : World) : Calls Tryd.prog 12 #[.pointer none, .int .i64 i, b] w fun e w' => e = .returned (.iface 48 (.int .i64 1)) ∧ w = w' := by
  go_enter Tryd.func12, Tryd.ntmps12
  go_wp2_with (go_at_call 33; refine (check_nil i _).mono ?_; rintro e w' ⟨rfl, rfl⟩)
  go_ret
  exact ⟨rfl, rfl⟩
set_option maxRecDepth 100000 in
theorem nop_pin (i : Int) (w : World) : Calls Tryd.prog 21 #[.pointer none, .int .i64 i] w fun e w' => e = .returned (.iface 48 (.int .i64 1)) ∧ w = w' := by
  go_enter Tryd.func21, Tryd.ntmps21
  go_wp2_with (go_at_call 44; refine (hand_nil i _).mono ?_; rintro e w' ⟨rfl, rfl⟩)
  go_ret
  exact ⟨rfl, rfl⟩
set_option maxRecDepth 100000 in
theorem nop_unpin (i : Int) (w : World) : Calls Tryd.prog 23 #[.pointer none, .int .i64 i] w fun e w' => e = .returned (.iface 48 (.int .i64 1)) ∧ w = w' := by
  go_enter Tryd.func23, Tryd.ntmps23
  go_wp2_with (go_at_call 33; refine (check_nil i _).mono ?_; rintro e w' ⟨rfl, rfl⟩)
  go_ret
  exact ⟨rfl, rfl⟩
set_option maxRecDepth 100000 in
theorem nop_flush (w : World) : Calls Tryd.prog 25 #[.pointer none] w fun e w' => e = .returned (.iface 48 (.int .i64 1)) ∧ w = w' := by
  go_enter Tryd.func25, Tryd.ntmps25
  go_wp2
  go_ret
  exact ⟨rfl, rfl⟩
set_option maxRecDepth 100000 in
theorem nop_frames (w : World) : Calls Tryd.prog 16 #[.pointer none] w fun e w' => e = .returned (.slice none 0 0) ∧ w = w' := by
  go_enter Tryd.func16, Tryd.ntmps16
  go_wp2
  go_ret
  exact ⟨rfl, rfl⟩
set_option maxRecDepth 100000 in
theorem nop_dirty (w : World) : Calls Tryd.prog 17 #[.pointer none] w fun e w' => e = .returned (.slice none 0 0) ∧ w = w' := by
  go_enter Tryd.func17, Tryd.ntmps17
  go_wp2
  go_ret
  exact ⟨rfl, rfl⟩
set_option maxRecDepth 100000 in
theorem nop_loads (w : World) : Calls Tryd.prog 29 #[.pointer none] w fun e w' => e = .returned (.int .i64 0) ∧ w = w' := by
  go_enter Tryd.func29, Tryd.ntmps29
  go_wp2
  go_ret
  exact ⟨rfl, rfl⟩

/-! Unpin -/
theorem unpinP_no {X : Px} {i : Int} (h : i < 0 ∨ (X.d.n : Int) ≤ i) : unpinP X i = (X, 4) := by unfold unpinP; rw [if_pos h]
theorem unpinP_none {X : Px} {i : Int} (h : ¬ (i < 0 ∨ (X.d.n : Int) ≤ i)) (ha : X.at i = none) : unpinP X i = (X, 8) := by unfold unpinP; rw [if_neg h, ha]
theorem unpinP_zero {X : Px} {i : Int} {k : Nat} (h : ¬ (i < 0 ∨ (X.d.n : Int) ≤ i)) (ha : X.at i = some k) (h0 : (X.fr k).h = 0) : unpinP X i = (X, 8) := by unfold unpinP; rw [if_neg h, ha]; simp only; rw [if_pos h0]
theorem unpinP_some {X : Px} {i : Int} {k : Nat} (h : ¬ (i < 0 ∨ (X.d.n : Int) ≤ i)) (ha : X.at i = some k) (h0 : (X.fr k).h ≠ 0) : unpinP X i = (X.put k { X.fr k with h := (X.fr k).h - 1 }, 0) := by unfold unpinP; rw [if_neg h, ha]; simp only; rw [if_neg h0]
theorem onF_held {w : World} {F m : Nat} {fr : Nat → Fr} {a : Nat → Option Addr} {cp : Nat → Nat} (h : Row w F m fr a cp) {k : Nat} (hk : k < m) (n : Nat) :
    OnF w (w.setCell ⟨F, k * 5 + 4, none⟩ (.int .i64 (n : Int))) F k (fv { fr k with h := n } (a k) (cp k)) := by
  refine ((OnF.refl (h.c k hk)).set 4 (by omega) _).congr fun j hj => ?_
  match j, hj with
  | 0, _ => rfl
  | 1, _ => rfl
  | 2, _ => rfl
  | 3, _ => rfl
  | 4, _ => rfl
def ErrAt (B N : Nat) (w : World) (μ : Mp) (r : Px × Int) (e : Ending) (w' : World) : Prop := e = .returned (errv r.2) ∧ Goes B N w μ r.1 w'
theorem ret_e {c : Int} (h : c ≠ 0) : Ending.returned (.iface 48 (.int .i64 c)) = .returned (errv c) := by rw [errv1 h]
set_option maxRecDepth 100000 in
set_option maxHeartbeats 1000000 in
theorem unpin_any {B N : Nat} (μ : Mp) (i : Int) (w : World) (h : PoolAt B N w μ) (hN : N < 2305843009213693952) :
    Calls Tryd.prog 23 #[.pointer (some ⟨μ.P, 0, none⟩), .int .i64 i] w (ErrAt B N w μ (unpinP μ.X i)) := by
  by_cases hr : i < 0 ∨ (μ.X.d.n : Int) ≤ i
  · rw [unpinP_no hr]
    have HC := Lib.hid (check_no μ i w h hr)
    have HP := Lib.hid h
    clear h hr
    go_enter Tryd.func23, Tryd.ntmps23
    go_wp2_with (go_at_call 33; refine HC.out.mono ?_; rintro e w1 ⟨rfl, rfl⟩)
    go_ret
    exact ⟨ret_e (c := 4) (by decide), _, HP.out, Stp.refl _ _, rfl, rfl, rfl, rfl⟩
  · have HC := Lib.hid (check_ok μ i w h (by omega) (by omega))
    have c1 := h.core.hd.c1
    have c2 := h.core.hd.c2
    have hn1 := h.core.ok.n1
    have hkey := key_of (x := i) (by omega)
    have HO := Lib.hid (show Owns w μ.M μ.X.c μ.D from h.mo)
    cases ha : μ.X.at i with
    | some k =>
      obtain ⟨hk, hki⟩ := at_some ha
      have hkm : k < μ.X.m := by have := h.core.ok.cm; omega
      have hm1 := h.core.ok.m1
      have i0 : (0 : Int) ≤ (k : Int) := by omega
      have i1 : (k : Int) < (μ.X.m : Int) := by omega
      have g4 := h.core.row.at4 hkm
      have z4 := h.core.row.fz (k * 5 + 4)
      have hhN := h.core.ok.hN k
      have HH := Lib.hid ((h.mp.has i).2 ⟨k, hk, hki⟩)
      have HA := Lib.hid (show μ.D.atKey (.int .i64 i) (.lit (.int .i64 0)) = .lit (.int .i64 (k : Int)) by rw [← hki]; exact h.mp.at' k hk)
      by_cases h0 : (μ.X.fr k).h = 0
      · rw [unpinP_zero hr ha h0]
        rw [h0] at g4
        have HP := Lib.hid h
        clear h ha hki hr hkm hk h0 hhN
        go_enter Tryd.func23, Tryd.ntmps23
        go_wp2_with (first | (go_at_call 33; refine HC.out.mono ?_; rintro e w1 ⟨rfl, rfl⟩) | (at_lookup; refine wpList_lookup_own_ok_int _ rfl _ _ 63 rfl 3 3 .i64 klaw Tryd.underlying63 Tryd.underlying3 (zeroI _) μ.M μ.X.c μ.D rfl HO.out _ _ rfl hkey ?_; intro c hat hwc; rw [HA.out] at hat; obtain rfl : (k : Int) = c := (by injection hat with e; injection e); rw [HH.out]; clear hat hwc))
        go_ret
        exact ⟨ret_e (c := 8) (by decide), _, HP.out, Stp.refl _ _, rfl, rfl, rfl, rfl⟩
      · rw [unpinP_some hr ha h0]
        have HON := Lib.hid (onF_held h.core.row hkm ((μ.X.fr k).h - 1))
        have HP := Lib.hid (h.put (M := N) { μ.X.fr k with h := (μ.X.fr k).h - 1 } (μ.a k) (μ.cp k) HON.out rfl (h.core.fit hkm) (h.core.ok.put hk rfl (h.core.ok.siz k) (by show (μ.X.fr k).h - 1 ≤ N; omega) (Nat.le_refl _)))
        have HS := Lib.hid (stp_put (f := { μ.X.fr k with h := (μ.X.fr k).h - 1 }) (a := μ.a k) (c := μ.cp k) HON.out (fun b off e => .inl (.inr ⟨k, off, hkm, e⟩)))
        have hx0 : ¬ ((μ.X.fr k).h : Int) = 0 := by omega
        have HX1 := Lib.hid (show ((μ.X.fr k).h : Int) - 1 = (((μ.X.fr k).h - 1 : Nat) : Int) by omega)
        have hx2 : (0 : Int) ≤ ((μ.X.fr k).h : Int) := by omega
        have hx3 : ((μ.X.fr k).h : Int) < 2305843009213693952 := by omega
        clear h ha hki hr HON hkm hk h0 hhN
        generalize ((μ.X.fr k).h : Int) = x at g4 hx0 HX1 hx2 hx3
        go_enter Tryd.func23, Tryd.ntmps23
        go_wp2_with (first | (go_at_call 33; refine HC.out.mono ?_; rintro e w1 ⟨rfl, rfl⟩) | (at_lookup; refine wpList_lookup_own_ok_int _ rfl _ _ 63 rfl 3 3 .i64 klaw Tryd.underlying63 Tryd.underlying3 (zeroI _) μ.M μ.X.c μ.D rfl HO.out _ _ rfl hkey ?_; intro c hat hwc; rw [HA.out] at hat; obtain rfl : (k : Int) = c := (by injection hat with e; injection e); rw [HH.out]; clear hat hwc))
        go_ret
        have hp := HP.out
        have hs := HS.out
        rw [← HX1.out] at hp hs
        exact ⟨errv0 ▸ rfl, _, hp, hs, rfl, rfl, rfl, rfl⟩
    | none =>
      rw [unpinP_none hr ha]
      obtain ⟨j, rfl⟩ : ∃ j : Nat, i = j := ⟨i.toNat, by omega⟩
      have HH := Lib.hid (show Maps.has μ.D (.int .i64 j) = false by
        cases hh : Maps.has μ.D (.int .i64 j)
        · rfl
        · obtain ⟨k, h1, h2⟩ := (h.mp.has j).1 hh
          exact absurd h2 (at_none ha k h1))
      have HP := Lib.hid h
      clear h ha hr
      go_enter Tryd.func23, Tryd.ntmps23
      go_wp2_with (first | (go_at_call 33; refine HC.out.mono ?_; rintro e w1 ⟨rfl, rfl⟩) | (at_lookup; refine wpList_lookup_own_ok_int _ rfl _ _ 63 rfl 3 3 .i64 klaw Tryd.underlying63 Tryd.underlying3 (zeroI _) μ.M μ.X.c μ.D rfl HO.out _ _ rfl hkey ?_; intro c hat hwc; rw [HH.out]; clear hat hwc))
      go_ret
      exact ⟨ret_e (c := 8) (by decide), _, HP.out, Stp.refl _ _, rfl, rfl, rfl, rfl⟩
/-- what the statements meet -/
theorem pl_unpin {W w w0 : World} {N p D : Nat} {X : Px} {H0 : Nat → Prop} (h : PlN W N w p D X w0 H0) (i : Int) (hN : N < 2305843009213693952) :
    Calls Tryd.prog 23 #[.pointer (some ⟨p, 0, none⟩), .int .i64 i] w fun e w' => e = .returned (errv (unpinP X i).2) ∧ PlN W N w' p D (unpinP X i).1 w0 H0 := by
  obtain ⟨H, ⟨μ, h1, rfl, rfl, rfl, rfl, h6⟩, hst⟩ := h
  exact (unpin_any μ i w h1 hN).mono fun _ _ ⟨he, hg⟩ => ⟨he, goes_pl h1 rfl rfl h6 hst hg⟩
end Go.Proofs.YtfhnnfheonkneaaDoor
namespace Go.Proofs.YtfhnnfheonkneaaDoor
open Go.RowKit Go.Maps

def pinE (r : Px × Nat × Int) : Px × Int := if r.2.2 = 0 then (r.1.put r.2.1 { r.1.fr r.2.1 with h := (r.1.fr r.2.1).h + 1 }, 0) else (r.1, r.2.2)
theorem pinP_eq (X : Px) (i : Int) : pinP X i = pinE (handP X i) := rfl
set_option maxRecDepth 100000 in
set_option maxHeartbeats 1000000 in
theorem pin_any {B N : Nat} (μ : Mp) (i : Int) (w : World) (h : PoolAt B N w μ) (hN : N + 3 < 2305843009213693952) :
    Calls Tryd.prog 21 #[.pointer (some ⟨μ.P, 0, none⟩), .int .i64 i] w (ErrAt B (N + 3) w μ (pinP μ.X i)) := by
  have hh := hand_any μ i w h (by omega)
  have hlt := hand_lt h.core.ok i
  rw [pinP_eq]
  generalize handP μ.X i = r at hh hlt ⊢
  obtain ⟨Y, k, err⟩ := r
  simp only at hlt
  by_cases he : err = 0
  · subst he
    have HF := Lib.hid (found_zero hh)
    have HLT := Lib.hid (hlt rfl)
    have hE : pinE (Y, k, 0) = (Y.put k { Y.fr k with h := (Y.fr k).h + 1 }, 0) := by unfold pinE; rw [if_pos rfl]
    rw [hE]
    clear h hh hlt hE
    go_enter Tryd.func21, Tryd.ntmps21
    go_upto_region 4 with (go_at_call 44; refine HF.out.mono ?_; rintro e w2 ⟨rfl, hg⟩; have HG := Lib.hid hg; clear hg)
    obtain ⟨μ2, hp2, hs2, eP, eF, eD, eX⟩ := HG.out
    have hkc : k < μ2.X.c := by rw [eX]; exact HLT.out
    have hkm : k < μ2.X.m := by have := hp2.core.ok.cm; omega
    have g4 := hp2.core.row.at4 hkm
    have z4 := hp2.core.row.fz (k * 5 + 4)
    have hhN := hp2.core.ok.hN k
    have HON := Lib.hid (onF_held hp2.core.row hkm ((μ2.X.fr k).h + 1))
    have HP := Lib.hid (hp2.put (M := N + 3) { μ2.X.fr k with h := (μ2.X.fr k).h + 1 } (μ2.a k) (μ2.cp k) HON.out rfl (hp2.core.fit hkm) (hp2.core.ok.put hkc rfl (hp2.core.ok.siz k) (by show (μ2.X.fr k).h + 1 ≤ N + 3; omega) (by omega)))
    have HS := Lib.hid (hs2.trans (stp_put (f := { μ2.X.fr k with h := (μ2.X.fr k).h + 1 }) (a := μ2.a k) (c := μ2.cp k) HON.out (fun b off e => .inl (.inr ⟨k, off, hkm, e⟩))))
    have HX1 := Lib.hid (show ((μ2.X.fr k).h : Int) + 1 = (((μ2.X.fr k).h + 1 : Nat) : Int) by omega)
    have HE := Lib.hid (show μ2.P = μ.P ∧ μ2.F = μ.F ∧ μ2.s.D = μ.s.D from ⟨eP, eF, eD⟩)
    have HX := Lib.hid eX
    have hx2 : (0 : Int) ≤ ((μ2.X.fr k).h : Int) := by omega
    have hx3 : ((μ2.X.fr k).h : Int) < 2305843009213693952 := by omega
    rw [eF] at g4 z4
    rw [eF] at HP HS
    clear hp2 hs2 eP eF eD eX HG HON hkc hkm hhN
    generalize ((μ2.X.fr k).h : Int) = x at g4 HX1 hx2 hx3
    go_wp2
    go_ret
    have hp := HP.out
    have hs := HS.out
    rw [← HX1.out] at hp hs
    exact ⟨errv0 ▸ rfl, _, hp, hs, HE.out.1, HE.out.2.1, HE.out.2.2, by show μ2.X.put k _ = Y.put k _; rw [HX.out]⟩
  · have HF := Lib.hid (found_bad hh he)
    have hE : pinE (Y, k, err) = (Y, err) := by unfold pinE; rw [if_neg he]
    rw [hE]
    have HE := Lib.hid he
    clear h hh hlt hE he
    go_enter Tryd.func21, Tryd.ntmps21
    go_wp2_with (go_at_call 44; refine HF.out.mono ?_; rintro e w2 ⟨rfl, hg⟩; have HG := Lib.hid hg; clear hg)
    go_ret
    obtain ⟨μ2, hp2, hr⟩ := HG.out
    exact ⟨ret_e HE.out, μ2, hp2.mono (by omega), hr⟩
/-- what the statements meet -/
theorem pl_pin {W w w0 : World} {N p D : Nat} {X : Px} {H0 : Nat → Prop} (h : PlN W N w p D X w0 H0) (i : Int) (hN : N + 3 < 2305843009213693952) :
    Calls Tryd.prog 21 #[.pointer (some ⟨p, 0, none⟩), .int .i64 i] w fun e w' => e = .returned (errv (pinP X i).2) ∧ PlN W (N + 3) w' p D (pinP X i).1 w0 H0 := by
  obtain ⟨H, ⟨μ, h1, rfl, rfl, rfl, rfl, h6⟩, hst⟩ := h
  exact (pin_any μ i w h1 hN).mono fun _ _ ⟨he, hg⟩ => ⟨he, goes_pl h1 rfl rfl h6 hst hg⟩
end Go.Proofs.YtfhnnfheonkneaaDoor

/-
  WHAT ONLY THE DOOR's STATEMENTS ASK: numbers of errors, what is pending, a pool made anew over a disk. Conditions: those that each lemma names.
-/
import Derived.Test.YtkmedlbokneegaaDoorLa
import Derived.Test.YtkmedlbokneegaaDoorErr
import Derived.Test.YtkmedlbokneegaaDoorPend
namespace Go.Proofs.YtkmedlbokneegaaDoor
open Go.RowKit Go.Maps

theorem pd_pending_nil {W w w0 : World} {N p D : Nat} {X : Px} {H0 : Nat → Prop} (h : PlN W N w p D X w0 H0) (hp : X.d.pend = []) :
    Calls Tryd.prog 24 #[.pointer (some ⟨D, 0, none⟩)] w fun e w' => ∃ ao ac, e = .returned (.slice ao 0 ac) ∧ PlN W N w' p D X w0 H0 := by
  have h' := h
  obtain ⟨H, ⟨μ, h1, rfl, rfl, rfl, rfl, h6⟩, hst⟩ := h
  have e : μ.s.pend.length = 0 := by rw [← h1.core.t.pend, hp]; rfl
  exact (pending_any μ.s w h1.core.d).mono fun _ _ ⟨ao, cap, he, _, _, hb⟩ => ⟨ao, cap, by rw [e] at he; exact he, h'.below hb⟩
/-- the disk of a pool, alone -/
theorem PlN.disk {W w w0 : World} {N p D : Nat} {X : Px} {H0 : Nat → Prop} (h : PlN W N w p D X w0 H0) : ∃ H, DkN W w D X.d H := by
  obtain ⟨H, ⟨μ, h1, rfl, rfl, rfl, rfl, h6⟩, hst⟩ := h
  exact ⟨μ.s.has, μ.s, h1.core.d, h1.core.t, rfl, rfl, h6⟩
theorem num_pl {W w w0 : World} {N p D : Nat} {X : Px} {H0 : Nat → Prop} (h : PlN W N w p D X w0 H0) (hl : Laid W) (k : Int) : Calls Tryd.prog 15 #[.iface 60 (.int .i64 k)] w fun e w' => e = .returned (.int .i64 k) ∧ PlN W N w' p D X w0 H0 :=
  (num_err k w (hl.below h.b)).mono fun _ _ ⟨he, hb⟩ => ⟨he, h.below hb⟩
theorem num_b {W w : World} (hb : Below W.heap.size W w) (hl : Laid W) (k : Int) : Calls Tryd.prog 15 #[.iface 60 (.int .i64 k)] w fun e w' => e = .returned (.int .i64 k) ∧ Below W.heap.size W w' :=
  (num_err k w (hl.below hb)).mono fun _ _ ⟨he, hb2⟩ => ⟨he, hb.trans (hb2.mono hb.size)⟩
theorem pl_read_no {W w w0 : World} {N p D : Nat} {X Y : Px} {H0 : Nat → Prop} (h : PlN W N w p D X w0 H0) (i : Int) (c : Int) (hN : N + 1 < 2305843009213693952) (hc : (readP X i).2.2 = c) (h0 : c ≠ 0) (hY : (readP X i).1 = Y) :
    Calls Tryd.prog 14 #[.pointer (some ⟨p, 0, none⟩), .int .i64 i] w fun e w' => e = .returned (.tuple #[.slice none 0 0, .iface 60 (.int .i64 c)]) ∧ PlN W (N + 2) w' p D Y w0 H0 := by
  subst hc hY
  exact pl_read_bad h i hN h0
theorem pl_read_is {W w w0 : World} {N p D : Nat} {X Y : Px} {t : ByteArray} {H0 : Nat → Prop} (h : PlN W N w p D X w0 H0) (i : Int) (hN : N + 1 < 2305843009213693952) (he : readP X i = (Y, t, 0)) (hs : t.size = 512) :
    Calls Tryd.prog 14 #[.pointer (some ⟨p, 0, none⟩), .int .i64 i] w fun e w' => ∃ g cap, e = .returned (.tuple #[.slice (some ⟨g, 0, none⟩) 512 cap, .nilIface]) ∧ Lies w' (some ⟨g, 0, none⟩) (nums t) ∧ PlN W (N + 2) w' p D Y w0 H0 := by
  have h2 := pl_read_got h i hN (by rw [he]) (by rw [he]; exact hs)
  rw [he] at h2
  exact h2
set_option maxRecDepth 100000 in
theorem zeros_bad : Sm.isGood (List.replicate 512 0) = false := by decide +kernel
theorem zT_bad : goodT zT = false := by
  unfold goodT zT
  rw [nums_tx (fun _ => by omega)]
  have e : rowOf (fun _ => 0) = List.replicate 512 0 := by
    apply List.ext_getElem (by rw [rowOf_len, List.length_replicate])
    intro i h1 h2
    rw [rowOf_get, List.getElem_replicate]
  rw [e]
  exact zeros_bad
/-- on with the statements' loops -/
theorem PInv.to {W wr w3 w' : World} {N M p D g K : Nat} {X Y : Px} {ls ct ls' ct' : Nat → ByteArray} {H : Nat → Prop} (h : PInv W wr N p D g K X ls ct) (h4 : PlN W M w' p D Y w3 H) (hg : ¬ H g) (hgl : g < w3.heap.size) (hl : Last w3 g K ls') (hla : ∀ q, Laid1 ls' ct' q) (hs : Sem Y ct') (hk : Keep X Y) : PInv W w' M p D g K Y ls' ct' := by
  obtain ⟨H2, k1, k2⟩ := h4.open' hgl hg
  refine ⟨⟨H2, k1, k2⟩, h.gW, ?_, hl.keep (h4.block hgl hg), hla, hs, hk.free, hk.n.trans h.n⟩
  obtain ⟨_, _, hs⟩ := h4
  exact Nat.lt_of_lt_of_le hgl hs.size
theorem PInv.mono {W wr : World} {N M p D g K : Nat} {X : Px} {ls ct : Nat → ByteArray} (h : PInv W wr N p D g K X ls ct) (hM : N ≤ M) : PInv W wr M p D g K X ls ct := by
  obtain ⟨H, h1, h2⟩ := h.pl
  exact ⟨⟨H, h1.mono hM, h2⟩, h.gW, h.gl, h.last, h.laid, h.sem, h.free, h.n⟩
theorem PInv.belowN {W wr w' : World} {N p D g K : Nat} {X : Px} {ls ct : Nat → ByteArray} (h : PInv W wr N p D g K X ls ct) (hb : Below wr.heap.size wr w') : PInv W w' N p D g K X ls ct := by
  obtain ⟨H, h1, h2⟩ := h.pl
  exact ⟨⟨H, h1.below hb, h2⟩, h.gW, Nat.lt_of_lt_of_le h.gl hb.size, h.last.keep (hb.block g h.gl), h.laid, h.sem, h.free, h.n⟩
theorem Pl.disk' {W w : World} {N p D : Nat} {X : Px} {H : Nat → Prop} (h : Pl W N w p D X H) : ∃ H', DkN W w D X.d H' ∧ ∀ b, H' b → H b := by
  obtain ⟨μ, h1, rfl, rfl, rfl, rfl, h6⟩ := h
  exact ⟨μ.s.has, ⟨μ.s, h1.core.d, h1.core.t, rfl, rfl, h6⟩, fun b hb => .inl (.inr (.inr (.inr hb)))⟩
/-- another pool over a disk that has all -/
theorem PInv.again {W wr w7 : World} {N M p D g K : Nat} {X Y : Px} {ls ct : Nat → ByteArray} {H : Nat → Prop} (h : PInv W wr N p D g K X ls ct) (F : Flat X Y ct) (hp : PlN W M w7 p D Y wr H) (hg : ¬ H g) :
    Calls Tryd.prog 8 #[.pointer (some ⟨D, 0, none⟩), .int .i64 1] w7 fun e w' => ∃ p', e = .returned (.tuple #[.pointer (some ⟨p', 0, none⟩), .nilIface]) ∧ PInv W w' M p' D g K (Px.fresh Y.d 1) ls ct := by
  have hl7 := h.last.keep (hp.block h.gl hg)
  have ok := hp.ok
  obtain ⟨H7, k1, k2⟩ := hp.open' h.gl hg
  have hgl7 : g < w7.heap.size := by obtain ⟨_, _, hs⟩ := hp; exact Nat.lt_of_lt_of_le h.gl hs.size
  obtain ⟨H8, ⟨s, hd, ht, rfl, rfl, hB⟩, k4⟩ := k1.disk'
  have hn : Y.d.n = K := F.n.trans h.n
  refine (newp_any (N := M) s Y.d 1 w7 hd ht (by omega) (by omega) ok.w0 ok.wN).mono fun _ w' ⟨μ, he, hpo, hs, hX, hb, hown⟩ => ⟨μ.P, he, ⟨⟨μ.all, ⟨μ, hpo, rfl, by rw [hs], hX, rfl, hB.trans (hb.mono hB.size)⟩, fun q => ?_⟩, h.gW, Nat.lt_of_lt_of_le hgl7 hb.size, hl7.keep (hb.block g hgl7), h.laid, ?_, Free.fresh _ _, hn⟩⟩
  · rcases hown g q with e | e
    · exact k2 (k4 g e)
    · omega
  · exact ⟨fun _ hk => absurd hk (Nat.not_lt_zero _), fun _ hk => absurd hk (Nat.not_lt_zero _), fun _ hk => absurd hk (Nat.not_lt_zero _), fun _ hk => absurd hk (Nat.not_lt_zero _), fun q hq _ => flat_cur F.sem ok (fun j hj => F.d j (by rw [← F.m]; exact hj)) hq, F.sem.left⟩
end Go.Proofs.YtkmedlbokneegaaDoor

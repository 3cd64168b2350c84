/-
  RLE: runs: the walk.
-/
import Derived.Test.YtangbokcdgganaaGreatDoorMd
namespace Go.Proofs.YtangbokcdgganaaGreatDoor
open Go.RowKit Ru Ce

namespace Rl
def lenV : Value → Nat
  | .slice _ m _ => m
  | _ => 0
theorem runsT_nil (lx ax ay : Int) (p : List UInt8 × Nat) : runsT lx [] ax ay p = p := by rw [runsT]
theorem runsT_dn {lx ax ay : Int} {c : Cel} {t : List Cel} {p : List UInt8 × Nat} (h : ay < c.2) : runsT lx (c :: t) ax ay p = runsT lx ((c :: t).drop (tog (c :: t))) (c.1 + (tog (c :: t) : Nat)) c.2 (runT (runT (runT p (c.2 - ay).toNat 36) (c.1 - lx).toNat 98) (tog (c :: t)) 111) := by
  rw [runsT, if_pos h, if_pos h]
theorem runsT_eq {lx ax ay : Int} {c : Cel} {t : List Cel} {p : List UInt8 × Nat} (h : ¬ ay < c.2) : runsT lx (c :: t) ax ay p = runsT lx ((c :: t).drop (tog (c :: t))) (c.1 + (tog (c :: t) : Nat)) c.2 (runT (runT p (c.1 - ax).toNat 98) (tog (c :: t)) 111) := by
  rw [runsT, if_neg h, if_neg h]
theorem RS.tail {B g : Nat} {w0 w : World} {lx ly ax ay : Int} {L : List Cel} {b o : Nat} {p : List UInt8 × Nat} (h : RS B g w0 lx ly L (some ⟨b, o, none⟩) ax ay p w) {n c : Nat} (hn : L.length = n) (hc : n ≤ c) (k : Nat) : RS B g w0 lx ly (L.drop k) (some (if c = k then ⟨b, o, none⟩ else ⟨b, o + k * 2, none⟩)) ax ay p w :=
  ⟨h.bl, h.fr, h.wt, h.tb, h.b5, h.b6, cls_tail h.cl hn hc k, fun a e => by
    have h0 := h.lt _ rfl
    simp only [Option.some.injEq] at e
    subst e
    split <;> exact h0, h.hB, h.gl⟩
theorem RS.start {B g : Nat} {w : World} {lx ly : Int} {L : List Cel} {ao : Option Addr} {p : List UInt8 × Nat} (h : WtE B w g p) (ht : Tb w) (hc : Cls w ao L) (hlt : ∀ a, ao = some a → a.block < B) (hB : B ≤ w.heap.size) :
    RS B g w lx ly L ao lx ly p ((w.alloc (.cells #[.int .i64 lx, .int .i64 ly] 25)).alloc (.cells #[.int .i64 lx, .int .i64 ly] 25)) := by
  have hb : Below w.heap.size w ((w.alloc (.cells #[.int .i64 lx, .int .i64 ly] 25)).alloc (.cells #[.int .i64 lx, .int .i64 ly] 25)) := (alX w _).trans ((alX _ _).mono (by simp))
  obtain ⟨v, hv⟩ := h
  refine ⟨hb.mono hB, Fr8.below hb, ⟨v, hv.other hb⟩, ht.below hb, ?_, ?_, hc.below hb (Nat.le_refl _), hlt, hB, lt_of_block hv.blk⟩
  · exact (heap_alloc_old _ _ (by simp)).trans (heap_alloc_new w _)
  · have := heap_alloc_new (w.alloc (.cells #[.int .i64 lx, .int .i64 ly] 25)) (.cells #[.int .i64 lx, .int .i64 ly] 25)
    unfold Cb
    simpa using this
theorem cb2 {w : World} {g : Nat} {x y : Int} (h : Cb w g x y) : (w.cell? ⟨g, 0, none⟩ = some (.int .i64 x) ∧ w.cell? ⟨g, 1, none⟩ = some (.int .i64 y)) ∧ w.frozen? ⟨g, 0, none⟩ = false ∧ w.frozen? ⟨g, 1, none⟩ = false := row2 h
set_option maxRecDepth 100000 in
set_option maxHeartbeats 8000000 in
theorem runs_any (B g : Nat) (p : List UInt8 × Nat) (lx ly : Int) (L : List Cel) (ao : Option Addr) (n cap : Nat) (w : World) (h : WtE B w g p) (ht : Tb w) (hg : 2 < B) (hc : Cls w ao L) (hlt : ∀ a, ao = some a → a.block < B) (hB : B ≤ w.heap.size)
    (hn : L.length = n) (hn4 : n ≤ 4096) (hcap : n ≤ cap) (hN : Nice lx L lx ly) (hl0 : -274877906944 ≤ lx) (hl1 : lx ≤ 274877906944) (hl2 : -274877906944 ≤ ly) (hp : p.2 ≤ p.1.length) (hpl : p.1.length ≤ 100000) :
    Calls Tryz.prog 15 #[.pointer (some ⟨g, 0, none⟩), .slice ao n cap, .agg #[.int .i64 lx, .int .i64 ly]] w (WtR B g w (runsT lx L lx ly p)) := by
  obtain ⟨R, hR⟩ : ∃ R, runsT lx L lx ly p = R := ⟨_, rfl⟩
  rw [hR]
  have HR := Lib.hid hR
  have HS := Lib.hid (RS.start (lx := lx) (ly := ly) h ht hc hlt hB)
  have HN := Lib.hid hN
  have HP := Lib.hid (show p.2 ≤ p.1.length ∧ p.1.length + 42 * n ≤ 800000 by omega)
  have HK := Lib.hid (show L.length = n ∧ n ≤ cap ∧ n ≤ 4096 from ⟨hn, hcap, hn4⟩)
  have HA := Lib.hid (show lx ≤ lx ∧ -274877906944 ≤ ly from ⟨by omega, hl2⟩)
  have HG := Lib.hid hg
  clear hR h ht hc hlt hB hn hn4 hcap hN hl2 hp hpl hg
  go_enter Tryz.func15, Tryz.ntmps15
  go_wp2
  go_loopw [1] (fun i wr => ∃ (L : List Cel) (ao : Option Addr) (m c : Nat) (ax ay : Int) (p : List UInt8 × Nat), i = .slice ao m c ∧ Hid (L.length = m ∧ m ≤ c ∧ m ≤ 4096) ∧ Hid (Nice lx L ax ay) ∧ Hid (runsT lx L ax ay p = R) ∧ Hid (p.2 ≤ p.1.length ∧ p.1.length + 42 * m ≤ 800000) ∧ Hid (lx ≤ ax ∧ -274877906944 ≤ ay) ∧ Hid (RS B g w lx ly L ao ax ay p wr)) (fun i _ => lenV i)
  case atStart => exact ⟨L, ao, n, cap, lx, ly, p, rfl, HK, HN, HR, HP, HA, HS⟩
  case round =>
    obtain ⟨L, ao, m, c, ax, ay, p, rfl, HK, HN, HR, HP, HA, HS⟩ := hrel
    cases L with
    | nil =>
      obtain rfl : m = 0 := HK.out.1.symm
      have hr : R = p := by rw [← HR.out, runsT_nil]
      subst hr
      go_wp2
      go_end0
      exact ⟨rfl, HS.out.bl, HS.out.wt, HS.out.fr⟩
    | cons d t =>
      have hm0 : 0 < m := by have := HK.out.1; simp only [List.length_cons] at this; omega
      have hm0' : (0 : Int) < (m : Int) := by omega
      have hmn : ¬ m = 0 := by omega
      obtain ⟨b, o, rfl, x0, y0⟩ := HS.out.cl 0 (by simp)
      have x0 : wr.cell? ⟨b, o, none⟩ = some (.int .i64 d.1) := by simpa using x0
      have y0 : wr.cell? ⟨b, o + 1, none⟩ = some (.int .i64 d.2) := by simpa using y0
      have hok := (okc_iff _).1 (HN.out.ok d (by simp))
      obtain ⟨hx1, hx2, hy1, hy2⟩ := hok
      have hlo := HN.out.lo d (by simp)
      have hup := HN.out.up d (by simp)
      have hA1 := HA.out.1
      have hA2 := HA.out.2
      obtain ⟨q, hq⟩ : ∃ q, tog (d :: t) = q := ⟨_, rfl⟩
      have hq1 : 1 ≤ q ∧ q ≤ m := by have := tog_le d t; have := HK.out.1; omega
      have HQ := Lib.hid (And.intro hq hq1)
      have q0 : (0 : Int) ≤ (q : Int) := by omega
      have qm : (q : Int) ≤ (m : Int) := by omega
      have m4 : (m : Int) ≤ 4096 := by have := HK.out.2.2; omega
      have H7 := Lib.hid (show Cb (wr.alloc (.cells #[.int .i64 d.1, .int .i64 d.2] 25)) wr.heap.size d.1 d.2 from heap_alloc_new wr _)
      have HS1 := Lib.hid (HS.out.next (alX wr (.cells #[.int .i64 d.1, .int .i64 d.2] 25)))
      have HSZ := Lib.hid (show w.heap.size + 1 < wr.heap.size from lt_of_block HS.out.b6)
      have HNX := Lib.hid HN.out.next
      rw [hq] at HNX
      have htl := tail_r b o m c q hq1.2
      have HT := Lib.hid (fun (W : World) (hW : Cls W (some ⟨b, o, none⟩) (d :: t)) => together_any b o m c (d :: t) (by simp) W hW HK.out.1 (by have := HK.out.2.2; omega) HN.out.ok HK.out.2.1)
      rw [hq] at HT
      obtain ⟨⟨c70, c71⟩, f70, f71⟩ := cb2 H7.out
      obtain ⟨⟨c50, c51⟩, f50, f51⟩ := cb2 HS1.out.b5
      obtain ⟨⟨c60, c61⟩, f60, f61⟩ := cb2 HS1.out.b6
      clear hq hq1
      by_cases hd : ay < d.2
      · obtain ⟨e1, he1⟩ : ∃ e1 : Nat, (d.2 - ay).toNat = e1 := ⟨_, rfl⟩
        have HRN1 := Lib.hid (fun (W : World) (hW : RS B g w lx ly (d :: t) (some ⟨b, o, none⟩) ax ay p W) => run_any B g p e1 36 W hW.wt hW.tb HP.out.1 (by have := HP.out.2; omega) (by omega) (Nat.le_trans hW.hB hW.fr.1))
        rw [show ((e1 : Nat) : Int) = d.2 - ay by omega] at HRN1
        have HE1 := Lib.hid (show e1 ≤ 999999999999 by omega)
        have HPP := Lib.hid (run_le p e1 36 HE1.out HP.out.1)
        have HPX := Lib.hid (show (runT p e1 36).1.length + 42 * m ≤ 800000 + 14 by have := HPP.out.2; have := HP.out.2; omega)
        go_upto_region 6 with (go_at_call 32; refine (HRN1.out _ HS1.out).mono ?_; rintro e w2 hwr2; obtain rfl := hwr2.1; have HS2 := Lib.hid (HS1.out.wr hwr2 HG.out); have H7 := Lib.hid (show Cb w2 wr.heap.size d.1 d.2 from hwr2.2.2.2.2 _ _ _ _ (by have := HS1.out.gl; have := HSZ.out; omega) u_ne H7.out); obtain ⟨⟨c70, c71⟩, f70, f71⟩ := cb2 H7.out; obtain ⟨⟨c50, c51⟩, f50, f51⟩ := cb2 HS2.out.b5; obtain ⟨⟨c60, c61⟩, f60, f61⟩ := cb2 HS2.out.b6; clear hwr2)
        have HS3 := Lib.hid (HS2.out.at6 (ax' := lx) (ay' := d.2) (w' := (w2.setCell ⟨w.heap.size + 1, 0, none⟩ (.int .i64 lx)).setCell ⟨w.heap.size + 1, 1, none⟩ (.int .i64 d.2)) (set2_1 (set2_0 HS2.out.b6 _) _) (by simp) ⟨rfl, rfl, rfl⟩ (fun k hk => (heap_setCell_other _ ⟨w.heap.size + 1, 1, none⟩ k _ hk).trans (heap_setCell_other _ ⟨w.heap.size + 1, 0, none⟩ k _ hk)))
        have H7 := Lib.hid (show Cb ((w2.setCell ⟨w.heap.size + 1, 0, none⟩ (.int .i64 lx)).setCell ⟨w.heap.size + 1, 1, none⟩ (.int .i64 d.2)) wr.heap.size d.1 d.2 from by
          have h7 := H7.out
          have hne : wr.heap.size ≠ w.heap.size + 1 := by have := HSZ.out; omega
          unfold Cb at h7 ⊢
          rw [heap_setCell_other _ ⟨w.heap.size + 1, 1, none⟩ _ _ hne, heap_setCell_other _ ⟨w.heap.size + 1, 0, none⟩ _ _ hne]
          exact h7)
        go_upto_region 7 with (fail)
        clear c70 c71 f70 f71 c50 c51 f50 f51 c60 c61 f60 f61
        obtain ⟨⟨c70, c71⟩, f70, f71⟩ := cb2 H7.out
        obtain ⟨⟨c60, c61⟩, f60, f61⟩ := cb2 HS3.out.b6
        generalize (w2.setCell ⟨w.heap.size + 1, 0, none⟩ (.int .i64 lx)).setCell ⟨w.heap.size + 1, 1, none⟩ (.int .i64 d.2) = w3 at *
        obtain ⟨e2, he2⟩ : ∃ e2 : Nat, (d.1 - lx).toNat = e2 := ⟨_, rfl⟩
        have HP2 := Lib.hid (show (runT p e1 36).2 ≤ (runT p e1 36).1.length ∧ (runT p e1 36).1.length ≤ 800000 - 28 from ⟨HPP.out.1, by have := HPX.out; omega⟩)
        have HRN2 := Lib.hid (fun (W : World) (hW : RS B g w lx ly (d :: t) (some ⟨b, o, none⟩) lx d.2 (runT p e1 36) W) => run_any B g (runT p e1 36) e2 98 W hW.wt hW.tb HP2.out.1 (by have := HP2.out.2; omega) (by omega) (Nat.le_trans hW.hB hW.fr.1))
        rw [show ((e2 : Nat) : Int) = d.1 - lx by omega] at HRN2
        have HE2 := Lib.hid (show e2 ≤ 999999999999 by omega)
        have HRR := Lib.hid (show runsT lx ((d :: t).drop q) (d.1 + (q : Int)) d.2 (runT (runT (runT p e1 36) e2 98) q 111) = R from by
          have h := HR.out
          rw [runsT_dn hd, HQ.out.1, he1, he2] at h
          exact h)
        generalize runT p e1 36 = P1 at *
        have HP3 := Lib.hid (run_le P1 e2 98 HE2.out HP2.out.1)
        have HRN3 := Lib.hid (fun (W : World) (hW : RS B g w lx ly (d :: t) (some ⟨b, o, none⟩) lx d.2 (runT P1 e2 98) W) => run_any B g (runT P1 e2 98) q 111 W hW.wt hW.tb HP3.out.1 (by have := HP3.out.2; have := HP2.out.2; omega) (by omega) (Nat.le_trans hW.hB hW.fr.1))
        have HP4 := Lib.hid (run_le (runT P1 e2 98) q 111 (by omega) HP3.out.1)
        generalize runT P1 e2 98 = P2 at *
        generalize runT P2 q 111 = P3 at *
        go_upto_region 8 with (go_at_call 32; refine (HRN2.out _ HS3.out).mono ?_; rintro e w4 hwr4; obtain rfl := hwr4.1; have HS4 := Lib.hid (HS3.out.wr hwr4 HG.out); have H7 := Lib.hid (show Cb w4 wr.heap.size d.1 d.2 from hwr4.2.2.2.2 _ _ _ _ (by have := HS3.out.gl; have := HSZ.out; omega) u_ne H7.out); obtain ⟨⟨c70, c71⟩, f70, f71⟩ := cb2 H7.out; obtain ⟨⟨c50, c51⟩, f50, f51⟩ := cb2 HS4.out.b5; obtain ⟨⟨c60, c61⟩, f60, f61⟩ := cb2 HS4.out.b6; clear hwr4)
        go_upto_region 9 with (go_at_call 33; refine (HT.out _ HS4.out.cl).mono ?_; rintro e w5 ⟨rfl, hb5⟩; have HS5 := Lib.hid (HS4.out.next hb5); have H7 := Lib.hid (show Cb w5 wr.heap.size d.1 d.2 from (hb5.block _ (lt_of_block H7.out)).trans H7.out); clear hb5)
        go_upto_region 10 with (go_at_call 32; refine (HRN3.out _ HS5.out).mono ?_; rintro e w6 hwr6; obtain rfl := hwr6.1; have HS6 := Lib.hid (HS5.out.wr hwr6 HG.out); have H7 := Lib.hid (show Cb w6 wr.heap.size d.1 d.2 from hwr6.2.2.2.2 _ _ _ _ (by have := HS5.out.gl; have := HSZ.out; omega) u_ne H7.out); obtain ⟨⟨c70, c71⟩, f70, f71⟩ := cb2 H7.out; obtain ⟨⟨c50, c51⟩, f50, f51⟩ := cb2 HS6.out.b5; obtain ⟨⟨c60, c61⟩, f60, f61⟩ := cb2 HS6.out.b6; clear hwr6)
        have HS7 := Lib.hid (HS6.out.at6 (ax' := d.1 + (q : Int)) (ay' := d.2) (w' := w6.setCell ⟨w.heap.size + 1, 0, none⟩ (.int .i64 (d.1 + (q : Int)))) (set2_0 HS6.out.b6 _) (by simp) ⟨rfl, rfl, rfl⟩ (fun k hk => heap_setCell_other _ ⟨w.heap.size + 1, 0, none⟩ k _ hk))
        have HS8 := Lib.hid (HS7.out.tail HK.out.1 HK.out.2.1 q)
        go_wp2
        go_roundw
        case rel => exact ⟨(d :: t).drop q, _, m - q, c - q, d.1 + (q : Int), d.2, P3, rfl, Lib.hid (by have := HK.out; have := HQ.out.2; rw [List.length_drop]; omega), HNX, HRR, Lib.hid (by have h4 := HP4.out; have h3 := HP3.out; have h2 := HPX.out; have := HQ.out.2; omega), Lib.hid (by omega), HS8⟩
        case measure => have := HQ.out.2; simp [lenV]; omega
      · have hae : ay = d.2 := by omega
        have hax : ax ≤ d.1 := by omega
        obtain ⟨e2, he2⟩ : ∃ e2 : Nat, (d.1 - ax).toNat = e2 := ⟨_, rfl⟩
        have HP2 := Lib.hid (show (p).2 ≤ (p).1.length ∧ (p).1.length ≤ 800000 - 28 from ⟨HP.out.1, by have := HP.out.2; omega⟩)
        have HRN2 := Lib.hid (fun (W : World) (hW : RS B g w lx ly (d :: t) (some ⟨b, o, none⟩) ax d.2 (p) W) => run_any B g (p) e2 98 W hW.wt hW.tb HP2.out.1 (by have := HP2.out.2; omega) (by omega) (Nat.le_trans hW.hB hW.fr.1))
        rw [show ((e2 : Nat) : Int) = d.1 - ax by omega] at HRN2
        have HE2 := Lib.hid (show e2 ≤ 999999999999 by omega)
        have HRR := Lib.hid (show runsT lx ((d :: t).drop q) (d.1 + (q : Int)) d.2 (runT (runT (p) e2 98) q 111) = R from by
          have h := HR.out
          rw [runsT_eq hd, HQ.out.1, he2] at h
          exact h)
        have HPX := Lib.hid (show p.1.length + 42 * m ≤ 800000 + 14 by have := HP.out.2; omega)
        subst hae
        have HP3 := Lib.hid (run_le p e2 98 HE2.out HP2.out.1)
        have HRN3 := Lib.hid (fun (W : World) (hW : RS B g w lx ly (d :: t) (some ⟨b, o, none⟩) ax d.2 (runT p e2 98) W) => run_any B g (runT p e2 98) q 111 W hW.wt hW.tb HP3.out.1 (by have := HP3.out.2; have := HP2.out.2; omega) (by omega) (Nat.le_trans hW.hB hW.fr.1))
        have HP4 := Lib.hid (run_le (runT p e2 98) q 111 (by omega) HP3.out.1)
        generalize runT p e2 98 = P2 at *
        generalize runT P2 q 111 = P3 at *
        go_upto_region 8 with (go_at_call 32; refine (HRN2.out _ HS1.out).mono ?_; rintro e w4 hwr4; obtain rfl := hwr4.1; have HS4 := Lib.hid (HS1.out.wr hwr4 HG.out); have H7 := Lib.hid (show Cb w4 wr.heap.size d.1 d.2 from hwr4.2.2.2.2 _ _ _ _ (by have := HS1.out.gl; have := HSZ.out; omega) u_ne H7.out); obtain ⟨⟨c70, c71⟩, f70, f71⟩ := cb2 H7.out; obtain ⟨⟨c50, c51⟩, f50, f51⟩ := cb2 HS4.out.b5; obtain ⟨⟨c60, c61⟩, f60, f61⟩ := cb2 HS4.out.b6; clear hwr4)
        go_upto_region 9 with (go_at_call 33; refine (HT.out _ HS4.out.cl).mono ?_; rintro e w5 ⟨rfl, hb5⟩; have HS5 := Lib.hid (HS4.out.next hb5); have H7 := Lib.hid (show Cb w5 wr.heap.size d.1 d.2 from (hb5.block _ (lt_of_block H7.out)).trans H7.out); clear hb5)
        go_upto_region 10 with (go_at_call 32; refine (HRN3.out _ HS5.out).mono ?_; rintro e w6 hwr6; obtain rfl := hwr6.1; have HS6 := Lib.hid (HS5.out.wr hwr6 HG.out); have H7 := Lib.hid (show Cb w6 wr.heap.size d.1 d.2 from hwr6.2.2.2.2 _ _ _ _ (by have := HS5.out.gl; have := HSZ.out; omega) u_ne H7.out); obtain ⟨⟨c70, c71⟩, f70, f71⟩ := cb2 H7.out; obtain ⟨⟨c50, c51⟩, f50, f51⟩ := cb2 HS6.out.b5; obtain ⟨⟨c60, c61⟩, f60, f61⟩ := cb2 HS6.out.b6; clear hwr6)
        have HS7 := Lib.hid (HS6.out.at6 (ax' := d.1 + (q : Int)) (ay' := d.2) (w' := w6.setCell ⟨w.heap.size + 1, 0, none⟩ (.int .i64 (d.1 + (q : Int)))) (set2_0 HS6.out.b6 _) (by simp) ⟨rfl, rfl, rfl⟩ (fun k hk => heap_setCell_other _ ⟨w.heap.size + 1, 0, none⟩ k _ hk))
        have HS8 := Lib.hid (HS7.out.tail HK.out.1 HK.out.2.1 q)
        go_wp2
        go_roundw
        case rel => exact ⟨(d :: t).drop q, _, m - q, c - q, d.1 + (q : Int), d.2, P3, rfl, Lib.hid (by have := HK.out; have := HQ.out.2; rw [List.length_drop]; omega), HNX, HRR, Lib.hid (by have h4 := HP4.out; have h3 := HP3.out; have h2 := HPX.out; have := HQ.out.2; omega), Lib.hid (by omega), HS8⟩
        case measure => have := HQ.out.2; simp [lenV]; omega
end Rl
end Go.Proofs.YtangbokcdgganaaGreatDoor

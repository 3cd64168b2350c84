/-
  THE WALK of joined: four of one level. Conditions: the store lies in memory.
-/
import Derived.Test.YtifkhmcdgmnipaaGreatDoorR17
namespace Go.Proofs.YtifkhmcdgmnipaaGreatDoor
open Go.RowKit Ti Qd Go.Maps Go.WideMaps

set_option maxRecDepth 100000 in
set_option maxHeartbeats 4000000 in
theorem joined_q {B : Nat} {w : World} {P : Nat} {L : List Sq} {room : Nat} {H : Nat → Prop} (h : St B w P L room H) (ka kb kc kd l : Int) (a b c d : Sq) (hf : Four L ka kb kc kd l) (hq : Fq L ka kb kc kd a b c d) (hl : a.lev < 40) :
    Calls Tryz.prog 28 #[.pointer (some ⟨P, 0, none⟩), .agg #[.int .i64 ka, .int .i64 kb, .int .i64 kc, .int .i64 kd]] w fun e w' => e = .returned (.tuple #[qv (joinQ L ka kb kc kd), .nilIface]) ∧ Below w.heap.size w w' := by
  have HE := Lib.hid (show joinQ L ka kb kc kd = ⟨a.lev + 1, cs4 a.cnt b.cnt c.cnt d.cnt 4, 0#64, ka, kb, kc, kd⟩ by
    unfold joinQ cnt4
    rw [hq.ea, hq.eb, hq.ec, hq.ed]
    rfl)
  rw [HE.out]
  have HF := Lib.hid hf
  have HQ := Lib.hid hq
  have HS := Lib.hid h
  have HJ := Lib.hid (jr_start w ka kb kc kd a b c d)
  have l0 := hq.l0
  clear hf h hq HE
  go_enter Tryz.func28, Tryz.ntmps28
  go_wp2
  go_loopw [5, 15] (fun v i wr => ∃ k : Nat, k ≤ 4 ∧ v = .nilIface ∧ i = .int .i64 k ∧ Hid (JR w ka kb kc kd a b c d wr k)) (fun _ i _ => 4 - (intOf i).toNat)
  case atStart => exact ⟨0, by omega, rfl, rfl, HJ⟩
  case round =>
    clear HJ
    obtain ⟨k, hk, rfl, rfl, HR⟩ := hrel
    rcases (show k = 0 ∨ k = 1 ∨ k = 2 ∨ k = 3 ∨ k = 4 by omega) with rfl | rfl | rfl | rfl | rfl
    · have hx := idx4_0 ka kb kc kd
      go_wp2_with fail
      refine (square_is (HS.out.below HR.out.bel (Nat.le_refl _)) ka HF.out.o0 HQ.out.ea).mono ?_
      rintro e w1 ⟨rfl, hb⟩
      have HR1 := Lib.hid (HR.out.below (hb.trans ((alX w1 (bq a)).mono hb.size)))
      clear hb HR hx
      have c0 := cells28 HR1.out.h2 0 (v := .int .i64 0) rfl
      have f0 := frozen_of_row _ _ 0 _ _ HR1.out.h2
      have c1 := cells28 HR1.out.h2 1 (v := .int .i64 0) rfl
      have f1 := frozen_of_row _ _ 1 _ _ HR1.out.h2
      have c2 := cells28 HR1.out.h2 2 (v := .int .u64 0) rfl
      have f2 := frozen_of_row _ _ 2 _ _ HR1.out.h2
      have c3 := cells28 HR1.out.h2 3 (v := .int .i64 0) rfl
      have f3 := frozen_of_row _ _ 3 _ _ HR1.out.h2
      have c4 := cells28 HR1.out.h2 4 (v := .int .i64 0) rfl
      have f4 := frozen_of_row _ _ 4 _ _ HR1.out.h2
      have c5 := cells28 HR1.out.h2 5 (v := .int .i64 0) rfl
      have f5 := frozen_of_row _ _ 5 _ _ HR1.out.h2
      have c6 := cells28 HR1.out.h2 6 (v := .int .i64 0) rfl
      have f6 := frozen_of_row _ _ 6 _ _ HR1.out.h2
      unfold qv
      unfold bq at *
      go_wp2
      go_roundw
      case rel => exact ⟨1, by omega, rfl, rfl, Lib.hid HR1.out.lay0⟩
      case measure => simp [intOf]
    · have hx := idx4_1 ka kb kc kd
      go_wp2_with fail
      refine (square_is (HS.out.below HR.out.bel (Nat.le_refl _)) kb HF.out.o1 HQ.out.eb).mono ?_
      rintro e w1 ⟨rfl, hb⟩
      have HR1 := Lib.hid (HR.out.below (hb.trans ((alX w1 (bq b)).mono hb.size)))
      clear hb HR hx
      have c0 := cells28 HR1.out.h2 7 (v := .int .i64 0) rfl
      have f0 := frozen_of_row _ _ 7 _ _ HR1.out.h2
      have c1 := cells28 HR1.out.h2 8 (v := .int .i64 0) rfl
      have f1 := frozen_of_row _ _ 8 _ _ HR1.out.h2
      have c2 := cells28 HR1.out.h2 9 (v := .int .u64 0) rfl
      have f2 := frozen_of_row _ _ 9 _ _ HR1.out.h2
      have c3 := cells28 HR1.out.h2 10 (v := .int .i64 0) rfl
      have f3 := frozen_of_row _ _ 10 _ _ HR1.out.h2
      have c4 := cells28 HR1.out.h2 11 (v := .int .i64 0) rfl
      have f4 := frozen_of_row _ _ 11 _ _ HR1.out.h2
      have c5 := cells28 HR1.out.h2 12 (v := .int .i64 0) rfl
      have f5 := frozen_of_row _ _ 12 _ _ HR1.out.h2
      have c6 := cells28 HR1.out.h2 13 (v := .int .i64 0) rfl
      have f6 := frozen_of_row _ _ 13 _ _ HR1.out.h2
      unfold qv
      unfold bq at *
      go_wp2
      go_roundw
      case rel => exact ⟨2, by omega, rfl, rfl, Lib.hid HR1.out.lay1⟩
      case measure => simp [intOf]
    · have hx := idx4_2 ka kb kc kd
      go_wp2_with fail
      refine (square_is (HS.out.below HR.out.bel (Nat.le_refl _)) kc HF.out.o2 HQ.out.ec).mono ?_
      rintro e w1 ⟨rfl, hb⟩
      have HR1 := Lib.hid (HR.out.below (hb.trans ((alX w1 (bq c)).mono hb.size)))
      clear hb HR hx
      have c0 := cells28 HR1.out.h2 14 (v := .int .i64 0) rfl
      have f0 := frozen_of_row _ _ 14 _ _ HR1.out.h2
      have c1 := cells28 HR1.out.h2 15 (v := .int .i64 0) rfl
      have f1 := frozen_of_row _ _ 15 _ _ HR1.out.h2
      have c2 := cells28 HR1.out.h2 16 (v := .int .u64 0) rfl
      have f2 := frozen_of_row _ _ 16 _ _ HR1.out.h2
      have c3 := cells28 HR1.out.h2 17 (v := .int .i64 0) rfl
      have f3 := frozen_of_row _ _ 17 _ _ HR1.out.h2
      have c4 := cells28 HR1.out.h2 18 (v := .int .i64 0) rfl
      have f4 := frozen_of_row _ _ 18 _ _ HR1.out.h2
      have c5 := cells28 HR1.out.h2 19 (v := .int .i64 0) rfl
      have f5 := frozen_of_row _ _ 19 _ _ HR1.out.h2
      have c6 := cells28 HR1.out.h2 20 (v := .int .i64 0) rfl
      have f6 := frozen_of_row _ _ 20 _ _ HR1.out.h2
      unfold qv
      unfold bq at *
      go_wp2
      go_roundw
      case rel => exact ⟨3, by omega, rfl, rfl, Lib.hid HR1.out.lay2⟩
      case measure => simp [intOf]
    · have hx := idx4_3 ka kb kc kd
      go_wp2_with fail
      refine (square_is (HS.out.below HR.out.bel (Nat.le_refl _)) kd HF.out.o3 HQ.out.ed).mono ?_
      rintro e w1 ⟨rfl, hb⟩
      have HR1 := Lib.hid (HR.out.below (hb.trans ((alX w1 (bq d)).mono hb.size)))
      clear hb HR hx
      have c0 := cells28 HR1.out.h2 21 (v := .int .i64 0) rfl
      have f0 := frozen_of_row _ _ 21 _ _ HR1.out.h2
      have c1 := cells28 HR1.out.h2 22 (v := .int .i64 0) rfl
      have f1 := frozen_of_row _ _ 22 _ _ HR1.out.h2
      have c2 := cells28 HR1.out.h2 23 (v := .int .u64 0) rfl
      have f2 := frozen_of_row _ _ 23 _ _ HR1.out.h2
      have c3 := cells28 HR1.out.h2 24 (v := .int .i64 0) rfl
      have f3 := frozen_of_row _ _ 24 _ _ HR1.out.h2
      have c4 := cells28 HR1.out.h2 25 (v := .int .i64 0) rfl
      have f4 := frozen_of_row _ _ 25 _ _ HR1.out.h2
      have c5 := cells28 HR1.out.h2 26 (v := .int .i64 0) rfl
      have f5 := frozen_of_row _ _ 26 _ _ HR1.out.h2
      have c6 := cells28 HR1.out.h2 27 (v := .int .i64 0) rfl
      have f6 := frozen_of_row _ _ 27 _ _ HR1.out.h2
      unfold qv
      unfold bq at *
      go_wp2
      go_roundw
      case rel => exact ⟨4, by omega, rfl, rfl, Lib.hid HR1.out.lay3⟩
      case measure => simp [intOf]
    · obtain ⟨b0, b1, b2, b3⟩ := row4 HR.out.h0
      have l1 := hl
      have c0 := cells28 HR.out.h2 0 (v := .int .i64 a.lev) rfl
      go_upto_region 11 with (fail)
      clear b0 b1 b2 b3
      have HJ2 := Lib.hid (show J2 w wr.heap.size ka kb kc kd a b c d (wr.alloc (.cells #[.int .i64 (a.lev + 1), .int .i64 0, .int .u64 0, .int .i64 ka, .int .i64 kb, .int .i64 kc, .int .i64 kd] 76)) 0 from ⟨HR.out.below (alX wr _), heap_alloc_new wr _, by
        have h2 := lt_of_block HR.out.h2
        omega⟩)
      obtain ⟨g, hg⟩ : ∃ g, g = wr.heap.size := ⟨_, rfl⟩
      rw [← hg] at HJ2 ⊢
      generalize wr.alloc (.cells #[.int .i64 (a.lev + 1), .int .i64 0, .int .u64 0, .int .i64 ka, .int .i64 kb, .int .i64 kc, .int .i64 kd] 76) = w2 at HJ2 ⊢
      clear hg HR c0
      go_wp2_with (refine wpList_load_row rfl _ (.tmp 6) rfl (w.heap.size + 1 + 1) rfl _ (f4 a b c d 4) (0, 0) _ HJ2.out.j.h2 Tryz.underlying116 rfl info_28 ?_)
      go_loopw [5, 40] (fun v i wr => ∃ k : Nat, k ≤ 4 ∧ v = .nilIface ∧ i = .int .i64 k ∧ Hid (J2 w g ka kb kc kd a b c d wr k)) (fun _ i _ => 4 - (intOf i).toNat)
      case atStart => exact ⟨0, by omega, rfl, rfl, HJ2⟩
      case round =>
        clear HJ2
        obtain ⟨k, hk, rfl, rfl, HR⟩ := hrel
        rcases (show k = 0 ∨ k = 1 ∨ k = 2 ∨ k = 3 ∨ k = 4 by omega) with rfl | rfl | rfl | rfl | rfl
        · have hx := idx28_0 a b c d
          have HR1 := Lib.hid (HR.out.below (alX wr (bq a)))
          have v0 := cells28 HR1.out.j.h2 0 (v := .int .i64 a.lev) rfl
          obtain ⟨⟨q0, q1, q2, q3, q4, q5, q6⟩, f0, f1, f2, f3, f4, f5, f6⟩ := row7 HR1.out.q
          have e1 : (a.lev == a.lev) = true := beq_iff_eq.2 rfl
          have e2 : (a.lev != a.lev) = false := bne_eq_false_iff_eq.2 rfl
          have hcs := cs4_lo HQ.out.ca.1 HQ.out.cb.1 HQ.out.cc.1 HQ.out.cd.1 0
          have hc := HQ.out.ca
          have hsum := Lib.hid (show ∀ x, x = cs4 a.cnt b.cnt c.cnt d.cnt 0 → (x + if 4611686018427387904 - x < a.cnt then 4611686018427387904 - x else a.cnt) = cs4 a.cnt b.cnt c.cnt d.cnt 1 from fun x hx => by rw [hx, sat_if]; rfl)
          obtain ⟨x, hxx⟩ : ∃ x, x = cs4 a.cnt b.cnt c.cnt d.cnt 0 := ⟨_, rfl⟩
          rw [← hxx] at q1 hcs
          have HXX := Lib.hid hxx
          have s0 : 0 ≤ x := hcs.1
          have s1 : x ≤ 4611686018427387904 := hcs.2
          have s2 : 0 ≤ a.cnt := hc.1
          have s3 : a.cnt ≤ 4611686018427387904 := hc.2
          clear hxx hcs hc HR
          unfold bq at *
          go_wp2
          go_roundw
          case rel => exact ⟨1, by omega, rfl, rfl, Lib.hid (HR1.out.add (hsum.out x HXX.out))⟩
          case measure => simp [intOf]
        · have hx := idx28_1 a b c d
          have HR1 := Lib.hid (HR.out.below (alX wr (bq b)))
          have v0 := cells28 HR1.out.j.h2 0 (v := .int .i64 a.lev) rfl
          obtain ⟨⟨q0, q1, q2, q3, q4, q5, q6⟩, f0, f1, f2, f3, f4, f5, f6⟩ := row7 HR1.out.q
          have e1 : (b.lev == a.lev) = true := beq_iff_eq.2 HQ.out.lb
          have e2 : (b.lev != a.lev) = false := bne_eq_false_iff_eq.2 HQ.out.lb
          have hcs := cs4_lo HQ.out.ca.1 HQ.out.cb.1 HQ.out.cc.1 HQ.out.cd.1 1
          have hc := HQ.out.cb
          have hsum := Lib.hid (show ∀ x, x = cs4 a.cnt b.cnt c.cnt d.cnt 1 → (x + if 4611686018427387904 - x < b.cnt then 4611686018427387904 - x else b.cnt) = cs4 a.cnt b.cnt c.cnt d.cnt 2 from fun x hx => by rw [hx, sat_if]; rfl)
          obtain ⟨x, hxx⟩ : ∃ x, x = cs4 a.cnt b.cnt c.cnt d.cnt 1 := ⟨_, rfl⟩
          rw [← hxx] at q1 hcs
          have HXX := Lib.hid hxx
          have s0 : 0 ≤ x := hcs.1
          have s1 : x ≤ 4611686018427387904 := hcs.2
          have s2 : 0 ≤ b.cnt := hc.1
          have s3 : b.cnt ≤ 4611686018427387904 := hc.2
          clear hxx hcs hc HR
          unfold bq at *
          go_wp2
          go_roundw
          case rel => exact ⟨2, by omega, rfl, rfl, Lib.hid (HR1.out.add (hsum.out x HXX.out))⟩
          case measure => simp [intOf]
        · have hx := idx28_2 a b c d
          have HR1 := Lib.hid (HR.out.below (alX wr (bq c)))
          have v0 := cells28 HR1.out.j.h2 0 (v := .int .i64 a.lev) rfl
          obtain ⟨⟨q0, q1, q2, q3, q4, q5, q6⟩, f0, f1, f2, f3, f4, f5, f6⟩ := row7 HR1.out.q
          have e1 : (c.lev == a.lev) = true := beq_iff_eq.2 HQ.out.lc
          have e2 : (c.lev != a.lev) = false := bne_eq_false_iff_eq.2 HQ.out.lc
          have hcs := cs4_lo HQ.out.ca.1 HQ.out.cb.1 HQ.out.cc.1 HQ.out.cd.1 2
          have hc := HQ.out.cc
          have hsum := Lib.hid (show ∀ x, x = cs4 a.cnt b.cnt c.cnt d.cnt 2 → (x + if 4611686018427387904 - x < c.cnt then 4611686018427387904 - x else c.cnt) = cs4 a.cnt b.cnt c.cnt d.cnt 3 from fun x hx => by rw [hx, sat_if]; rfl)
          obtain ⟨x, hxx⟩ : ∃ x, x = cs4 a.cnt b.cnt c.cnt d.cnt 2 := ⟨_, rfl⟩
          rw [← hxx] at q1 hcs
          have HXX := Lib.hid hxx
          have s0 : 0 ≤ x := hcs.1
          have s1 : x ≤ 4611686018427387904 := hcs.2
          have s2 : 0 ≤ c.cnt := hc.1
          have s3 : c.cnt ≤ 4611686018427387904 := hc.2
          clear hxx hcs hc HR
          unfold bq at *
          go_wp2
          go_roundw
          case rel => exact ⟨3, by omega, rfl, rfl, Lib.hid (HR1.out.add (hsum.out x HXX.out))⟩
          case measure => simp [intOf]
        · have hx := idx28_3 a b c d
          have HR1 := Lib.hid (HR.out.below (alX wr (bq d)))
          have v0 := cells28 HR1.out.j.h2 0 (v := .int .i64 a.lev) rfl
          obtain ⟨⟨q0, q1, q2, q3, q4, q5, q6⟩, f0, f1, f2, f3, f4, f5, f6⟩ := row7 HR1.out.q
          have e1 : (d.lev == a.lev) = true := beq_iff_eq.2 HQ.out.ld
          have e2 : (d.lev != a.lev) = false := bne_eq_false_iff_eq.2 HQ.out.ld
          have hcs := cs4_lo HQ.out.ca.1 HQ.out.cb.1 HQ.out.cc.1 HQ.out.cd.1 3
          have hc := HQ.out.cd
          have hsum := Lib.hid (show ∀ x, x = cs4 a.cnt b.cnt c.cnt d.cnt 3 → (x + if 4611686018427387904 - x < d.cnt then 4611686018427387904 - x else d.cnt) = cs4 a.cnt b.cnt c.cnt d.cnt 4 from fun x hx => by rw [hx, sat_if]; rfl)
          obtain ⟨x, hxx⟩ : ∃ x, x = cs4 a.cnt b.cnt c.cnt d.cnt 3 := ⟨_, rfl⟩
          rw [← hxx] at q1 hcs
          have HXX := Lib.hid hxx
          have s0 : 0 ≤ x := hcs.1
          have s1 : x ≤ 4611686018427387904 := hcs.2
          have s2 : 0 ≤ d.cnt := hc.1
          have s3 : d.cnt ≤ 4611686018427387904 := hc.2
          clear hxx hcs hc HR
          unfold bq at *
          go_wp2
          go_roundw
          case rel => exact ⟨4, by omega, rfl, rfl, Lib.hid (HR1.out.add (hsum.out x HXX.out))⟩
          case measure => simp [intOf]
        · have l1 := hl
          obtain ⟨⟨q0, q1, q2, q3, q4, q5, q6⟩, _, _, _, _, _, _, _⟩ := row7 HR.out.q
          obtain ⟨⟨p0, p1, p2, p3, p4, p5, p6⟩, f0, f1, f2, f3, f4, f5, f6⟩ := row7 HR.out.j.h1
          have hne : ¬ g = w.heap.size + 1 := by have := HR.out.g3; omega
          have n40 : ¬ 40 < a.lev + 1 := by omega
          have HB := Lib.hid (below_set7 HR.out.j.bel (show w.heap.size ≤ w.heap.size + 1 by omega))
          go_wp2
          refine post_row_tmp Tryz.results28 (w.heap.size + 1) 76 #[.int .i64 (a.lev + 1), .int .i64 (cs4 a.cnt b.cnt c.cnt d.cnt 4), .int .u64 0, .int .i64 ka, .int .i64 kb, .int .i64 kc, .int .i64 kd] (0, 0) _ .nilIface Tryz.underlying76 rfl info_q7 ?_ ?_ (row_set7 HR.out.j.h1 _ _ _ _ _ _ _) ?_ ?_
          · rfl
          · rfl
          · rfl
          exact ⟨rfl, HB.out _ _ _ _ _ _ _⟩
end Go.Proofs.YtifkhmcdgmnipaaGreatDoor

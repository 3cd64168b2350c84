/-
  THE WALK of joined: four of one level. Conditions: the store lies in memory.
  THE WALKS of New, Leaf, Node, Count, Len, Empty where there is room. Conditions: the store lies in memory.
  THE WALKS of about, lead, Get, Set at cells that are there, where there is room. Conditions: the store lies in memory.
-/
import Derived.Test.YtlejohclijjhnaaGreatDoorL15
namespace Go.Proofs.YtlejohclijjhnaaGreatDoor
open Go.RowKit Ti Qd Go.Maps Go.WideMaps

set_option maxRecDepth 100000 in
set_option maxHeartbeats 4000000 in
theorem joined_q {B : Nat} {w : World} {P : Nat} {L : List Sq} {room : Nat} {H : Nat → Prop} (h : St B w P L room H) (ka kb kc kd l : Int) (a b c d : Sq) (hf : Four L ka kb kc kd l) (hq : Fq L ka kb kc kd a b c d) (hl : a.lev < 40) :
    Calls Tryz.prog 56 #[.pointer (some ⟨P, 0, none⟩), .agg #[.int .i64 ka, .int .i64 kb, .int .i64 kc, .int .i64 kd]] w fun e w' => e = .returned (.tuple #[qv (joinQ L ka kb kc kd), .nilIface]) ∧ Below w.heap.size w w' := by
  have HE := Lib.hid (show joinQ L ka kb kc kd = ⟨a.lev + 1, cs4 a.cnt b.cnt c.cnt d.cnt 4, 0#64, ka, kb, kc, kd⟩ by
    unfold joinQ cnt4
    rw [hq.ea, hq.eb, hq.ec, hq.ed]
    rfl)
  rw [HE.out]
  have HF := Lib.hid hf
  have HQ := Lib.hid hq
  have HS := Lib.hid h
  have HJ := Lib.hid (jr_start w ka kb kc kd a b c d)
  have l0 := hq.l0
  clear hf h hq HE
  go_enter Tryz.func56, Tryz.ntmps56
  go_wp2
  go_loopw [5, 15] (fun v i wr => ∃ k : Nat, k ≤ 4 ∧ v = .nilIface ∧ i = .int .i64 k ∧ Hid (JR w ka kb kc kd a b c d wr k)) (fun _ i _ => 4 - (intOf i).toNat)
  case atStart => exact ⟨0, by omega, rfl, rfl, HJ⟩
  case round =>
    clear HJ
    obtain ⟨k, hk, rfl, rfl, HR⟩ := hrel
    rcases (show k = 0 ∨ k = 1 ∨ k = 2 ∨ k = 3 ∨ k = 4 by omega) with rfl | rfl | rfl | rfl | rfl
    · have hx := idx4_0 ka kb kc kd
      go_wp2_with fail
      refine (square_is (HS.out.below HR.out.bel (Nat.le_refl _)) ka HF.out.o0 HQ.out.ea).mono ?_
      rintro e w1 ⟨rfl, hb⟩
      have HR1 := Lib.hid (HR.out.below (hb.trans ((alX w1 (bq a)).mono hb.size)))
      clear hb HR hx
      have c0 := cells28 HR1.out.h2 0 (v := .int .i64 0) rfl
      have f0 := frozen_of_row _ _ 0 _ _ HR1.out.h2
      have c1 := cells28 HR1.out.h2 1 (v := .int .i64 0) rfl
      have f1 := frozen_of_row _ _ 1 _ _ HR1.out.h2
      have c2 := cells28 HR1.out.h2 2 (v := .int .u64 0) rfl
      have f2 := frozen_of_row _ _ 2 _ _ HR1.out.h2
      have c3 := cells28 HR1.out.h2 3 (v := .int .i64 0) rfl
      have f3 := frozen_of_row _ _ 3 _ _ HR1.out.h2
      have c4 := cells28 HR1.out.h2 4 (v := .int .i64 0) rfl
      have f4 := frozen_of_row _ _ 4 _ _ HR1.out.h2
      have c5 := cells28 HR1.out.h2 5 (v := .int .i64 0) rfl
      have f5 := frozen_of_row _ _ 5 _ _ HR1.out.h2
      have c6 := cells28 HR1.out.h2 6 (v := .int .i64 0) rfl
      have f6 := frozen_of_row _ _ 6 _ _ HR1.out.h2
      unfold qv
      unfold bq at *
      go_wp2
      go_roundw
      case rel => exact ⟨1, by omega, rfl, rfl, Lib.hid HR1.out.lay0⟩
      case measure => simp [intOf]
    · have hx := idx4_1 ka kb kc kd
      go_wp2_with fail
      refine (square_is (HS.out.below HR.out.bel (Nat.le_refl _)) kb HF.out.o1 HQ.out.eb).mono ?_
      rintro e w1 ⟨rfl, hb⟩
      have HR1 := Lib.hid (HR.out.below (hb.trans ((alX w1 (bq b)).mono hb.size)))
      clear hb HR hx
      have c0 := cells28 HR1.out.h2 7 (v := .int .i64 0) rfl
      have f0 := frozen_of_row _ _ 7 _ _ HR1.out.h2
      have c1 := cells28 HR1.out.h2 8 (v := .int .i64 0) rfl
      have f1 := frozen_of_row _ _ 8 _ _ HR1.out.h2
      have c2 := cells28 HR1.out.h2 9 (v := .int .u64 0) rfl
      have f2 := frozen_of_row _ _ 9 _ _ HR1.out.h2
      have c3 := cells28 HR1.out.h2 10 (v := .int .i64 0) rfl
      have f3 := frozen_of_row _ _ 10 _ _ HR1.out.h2
      have c4 := cells28 HR1.out.h2 11 (v := .int .i64 0) rfl
      have f4 := frozen_of_row _ _ 11 _ _ HR1.out.h2
      have c5 := cells28 HR1.out.h2 12 (v := .int .i64 0) rfl
      have f5 := frozen_of_row _ _ 12 _ _ HR1.out.h2
      have c6 := cells28 HR1.out.h2 13 (v := .int .i64 0) rfl
      have f6 := frozen_of_row _ _ 13 _ _ HR1.out.h2
      unfold qv
      unfold bq at *
      go_wp2
      go_roundw
      case rel => exact ⟨2, by omega, rfl, rfl, Lib.hid HR1.out.lay1⟩
      case measure => simp [intOf]
    · have hx := idx4_2 ka kb kc kd
      go_wp2_with fail
      refine (square_is (HS.out.below HR.out.bel (Nat.le_refl _)) kc HF.out.o2 HQ.out.ec).mono ?_
      rintro e w1 ⟨rfl, hb⟩
      have HR1 := Lib.hid (HR.out.below (hb.trans ((alX w1 (bq c)).mono hb.size)))
      clear hb HR hx
      have c0 := cells28 HR1.out.h2 14 (v := .int .i64 0) rfl
      have f0 := frozen_of_row _ _ 14 _ _ HR1.out.h2
      have c1 := cells28 HR1.out.h2 15 (v := .int .i64 0) rfl
      have f1 := frozen_of_row _ _ 15 _ _ HR1.out.h2
      have c2 := cells28 HR1.out.h2 16 (v := .int .u64 0) rfl
      have f2 := frozen_of_row _ _ 16 _ _ HR1.out.h2
      have c3 := cells28 HR1.out.h2 17 (v := .int .i64 0) rfl
      have f3 := frozen_of_row _ _ 17 _ _ HR1.out.h2
      have c4 := cells28 HR1.out.h2 18 (v := .int .i64 0) rfl
      have f4 := frozen_of_row _ _ 18 _ _ HR1.out.h2
      have c5 := cells28 HR1.out.h2 19 (v := .int .i64 0) rfl
      have f5 := frozen_of_row _ _ 19 _ _ HR1.out.h2
      have c6 := cells28 HR1.out.h2 20 (v := .int .i64 0) rfl
      have f6 := frozen_of_row _ _ 20 _ _ HR1.out.h2
      unfold qv
      unfold bq at *
      go_wp2
      go_roundw
      case rel => exact ⟨3, by omega, rfl, rfl, Lib.hid HR1.out.lay2⟩
      case measure => simp [intOf]
    · have hx := idx4_3 ka kb kc kd
      go_wp2_with fail
      refine (square_is (HS.out.below HR.out.bel (Nat.le_refl _)) kd HF.out.o3 HQ.out.ed).mono ?_
      rintro e w1 ⟨rfl, hb⟩
      have HR1 := Lib.hid (HR.out.below (hb.trans ((alX w1 (bq d)).mono hb.size)))
      clear hb HR hx
      have c0 := cells28 HR1.out.h2 21 (v := .int .i64 0) rfl
      have f0 := frozen_of_row _ _ 21 _ _ HR1.out.h2
      have c1 := cells28 HR1.out.h2 22 (v := .int .i64 0) rfl
      have f1 := frozen_of_row _ _ 22 _ _ HR1.out.h2
      have c2 := cells28 HR1.out.h2 23 (v := .int .u64 0) rfl
      have f2 := frozen_of_row _ _ 23 _ _ HR1.out.h2
      have c3 := cells28 HR1.out.h2 24 (v := .int .i64 0) rfl
      have f3 := frozen_of_row _ _ 24 _ _ HR1.out.h2
      have c4 := cells28 HR1.out.h2 25 (v := .int .i64 0) rfl
      have f4 := frozen_of_row _ _ 25 _ _ HR1.out.h2
      have c5 := cells28 HR1.out.h2 26 (v := .int .i64 0) rfl
      have f5 := frozen_of_row _ _ 26 _ _ HR1.out.h2
      have c6 := cells28 HR1.out.h2 27 (v := .int .i64 0) rfl
      have f6 := frozen_of_row _ _ 27 _ _ HR1.out.h2
      unfold qv
      unfold bq at *
      go_wp2
      go_roundw
      case rel => exact ⟨4, by omega, rfl, rfl, Lib.hid HR1.out.lay3⟩
      case measure => simp [intOf]
    · obtain ⟨b0, b1, b2, b3⟩ := row4 HR.out.h0
      have l1 := hl
      have c0 := cells28 HR.out.h2 0 (v := .int .i64 a.lev) rfl
      go_upto_region 11 with (fail)
      clear b0 b1 b2 b3
      have HJ2 := Lib.hid (show J2 w wr.heap.size ka kb kc kd a b c d (wr.alloc (.cells #[.int .i64 (a.lev + 1), .int .i64 0, .int .u64 0, .int .i64 ka, .int .i64 kb, .int .i64 kc, .int .i64 kd] 95)) 0 from ⟨HR.out.below (alX wr _), heap_alloc_new wr _, by
        have h2 := lt_of_block HR.out.h2
        omega⟩)
      obtain ⟨g, hg⟩ : ∃ g, g = wr.heap.size := ⟨_, rfl⟩
      rw [← hg] at HJ2 ⊢
      generalize wr.alloc (.cells #[.int .i64 (a.lev + 1), .int .i64 0, .int .u64 0, .int .i64 ka, .int .i64 kb, .int .i64 kc, .int .i64 kd] 95) = w2 at HJ2 ⊢
      clear hg HR c0
      go_wp2_with (refine wpList_load_row rfl _ (.tmp 6) rfl (w.heap.size + 1 + 1) rfl _ (f4 a b c d 4) (0, 0) _ HJ2.out.j.h2 Tryz.underlying163 rfl info_28 ?_)
      go_loopw [5, 40] (fun v i wr => ∃ k : Nat, k ≤ 4 ∧ v = .nilIface ∧ i = .int .i64 k ∧ Hid (J2 w g ka kb kc kd a b c d wr k)) (fun _ i _ => 4 - (intOf i).toNat)
      case atStart => exact ⟨0, by omega, rfl, rfl, HJ2⟩
      case round =>
        clear HJ2
        obtain ⟨k, hk, rfl, rfl, HR⟩ := hrel
        rcases (show k = 0 ∨ k = 1 ∨ k = 2 ∨ k = 3 ∨ k = 4 by omega) with rfl | rfl | rfl | rfl | rfl
        · have hx := idx28_0 a b c d
          have HR1 := Lib.hid (HR.out.below (alX wr (bq a)))
          have v0 := cells28 HR1.out.j.h2 0 (v := .int .i64 a.lev) rfl
          obtain ⟨⟨q0, q1, q2, q3, q4, q5, q6⟩, f0, f1, f2, f3, f4, f5, f6⟩ := row7 HR1.out.q
          have e1 : (a.lev == a.lev) = true := beq_iff_eq.2 rfl
          have e2 : (a.lev != a.lev) = false := bne_eq_false_iff_eq.2 rfl
          have hcs := cs4_lo HQ.out.ca.1 HQ.out.cb.1 HQ.out.cc.1 HQ.out.cd.1 0
          have hc := HQ.out.ca
          have hsum := Lib.hid (show ∀ x, x = cs4 a.cnt b.cnt c.cnt d.cnt 0 → (x + if 4611686018427387904 - x < a.cnt then 4611686018427387904 - x else a.cnt) = cs4 a.cnt b.cnt c.cnt d.cnt 1 from fun x hx => by rw [hx, sat_if]; rfl)
          obtain ⟨x, hxx⟩ : ∃ x, x = cs4 a.cnt b.cnt c.cnt d.cnt 0 := ⟨_, rfl⟩
          rw [← hxx] at q1 hcs
          have HXX := Lib.hid hxx
          have s0 : 0 ≤ x := hcs.1
          have s1 : x ≤ 4611686018427387904 := hcs.2
          have s2 : 0 ≤ a.cnt := hc.1
          have s3 : a.cnt ≤ 4611686018427387904 := hc.2
          clear hxx hcs hc HR
          unfold bq at *
          go_wp2
          go_roundw
          case rel => exact ⟨1, by omega, rfl, rfl, Lib.hid (HR1.out.add (hsum.out x HXX.out))⟩
          case measure => simp [intOf]
        · have hx := idx28_1 a b c d
          have HR1 := Lib.hid (HR.out.below (alX wr (bq b)))
          have v0 := cells28 HR1.out.j.h2 0 (v := .int .i64 a.lev) rfl
          obtain ⟨⟨q0, q1, q2, q3, q4, q5, q6⟩, f0, f1, f2, f3, f4, f5, f6⟩ := row7 HR1.out.q
          have e1 : (b.lev == a.lev) = true := beq_iff_eq.2 HQ.out.lb
          have e2 : (b.lev != a.lev) = false := bne_eq_false_iff_eq.2 HQ.out.lb
          have hcs := cs4_lo HQ.out.ca.1 HQ.out.cb.1 HQ.out.cc.1 HQ.out.cd.1 1
          have hc := HQ.out.cb
          have hsum := Lib.hid (show ∀ x, x = cs4 a.cnt b.cnt c.cnt d.cnt 1 → (x + if 4611686018427387904 - x < b.cnt then 4611686018427387904 - x else b.cnt) = cs4 a.cnt b.cnt c.cnt d.cnt 2 from fun x hx => by rw [hx, sat_if]; rfl)
          obtain ⟨x, hxx⟩ : ∃ x, x = cs4 a.cnt b.cnt c.cnt d.cnt 1 := ⟨_, rfl⟩
          rw [← hxx] at q1 hcs
          have HXX := Lib.hid hxx
          have s0 : 0 ≤ x := hcs.1
          have s1 : x ≤ 4611686018427387904 := hcs.2
          have s2 : 0 ≤ b.cnt := hc.1
          have s3 : b.cnt ≤ 4611686018427387904 := hc.2
          clear hxx hcs hc HR
          unfold bq at *
          go_wp2
          go_roundw
          case rel => exact ⟨2, by omega, rfl, rfl, Lib.hid (HR1.out.add (hsum.out x HXX.out))⟩
          case measure => simp [intOf]
        · have hx := idx28_2 a b c d
          have HR1 := Lib.hid (HR.out.below (alX wr (bq c)))
          have v0 := cells28 HR1.out.j.h2 0 (v := .int .i64 a.lev) rfl
          obtain ⟨⟨q0, q1, q2, q3, q4, q5, q6⟩, f0, f1, f2, f3, f4, f5, f6⟩ := row7 HR1.out.q
          have e1 : (c.lev == a.lev) = true := beq_iff_eq.2 HQ.out.lc
          have e2 : (c.lev != a.lev) = false := bne_eq_false_iff_eq.2 HQ.out.lc
          have hcs := cs4_lo HQ.out.ca.1 HQ.out.cb.1 HQ.out.cc.1 HQ.out.cd.1 2
          have hc := HQ.out.cc
          have hsum := Lib.hid (show ∀ x, x = cs4 a.cnt b.cnt c.cnt d.cnt 2 → (x + if 4611686018427387904 - x < c.cnt then 4611686018427387904 - x else c.cnt) = cs4 a.cnt b.cnt c.cnt d.cnt 3 from fun x hx => by rw [hx, sat_if]; rfl)
          obtain ⟨x, hxx⟩ : ∃ x, x = cs4 a.cnt b.cnt c.cnt d.cnt 2 := ⟨_, rfl⟩
          rw [← hxx] at q1 hcs
          have HXX := Lib.hid hxx
          have s0 : 0 ≤ x := hcs.1
          have s1 : x ≤ 4611686018427387904 := hcs.2
          have s2 : 0 ≤ c.cnt := hc.1
          have s3 : c.cnt ≤ 4611686018427387904 := hc.2
          clear hxx hcs hc HR
          unfold bq at *
          go_wp2
          go_roundw
          case rel => exact ⟨3, by omega, rfl, rfl, Lib.hid (HR1.out.add (hsum.out x HXX.out))⟩
          case measure => simp [intOf]
        · have hx := idx28_3 a b c d
          have HR1 := Lib.hid (HR.out.below (alX wr (bq d)))
          have v0 := cells28 HR1.out.j.h2 0 (v := .int .i64 a.lev) rfl
          obtain ⟨⟨q0, q1, q2, q3, q4, q5, q6⟩, f0, f1, f2, f3, f4, f5, f6⟩ := row7 HR1.out.q
          have e1 : (d.lev == a.lev) = true := beq_iff_eq.2 HQ.out.ld
          have e2 : (d.lev != a.lev) = false := bne_eq_false_iff_eq.2 HQ.out.ld
          have hcs := cs4_lo HQ.out.ca.1 HQ.out.cb.1 HQ.out.cc.1 HQ.out.cd.1 3
          have hc := HQ.out.cd
          have hsum := Lib.hid (show ∀ x, x = cs4 a.cnt b.cnt c.cnt d.cnt 3 → (x + if 4611686018427387904 - x < d.cnt then 4611686018427387904 - x else d.cnt) = cs4 a.cnt b.cnt c.cnt d.cnt 4 from fun x hx => by rw [hx, sat_if]; rfl)
          obtain ⟨x, hxx⟩ : ∃ x, x = cs4 a.cnt b.cnt c.cnt d.cnt 3 := ⟨_, rfl⟩
          rw [← hxx] at q1 hcs
          have HXX := Lib.hid hxx
          have s0 : 0 ≤ x := hcs.1
          have s1 : x ≤ 4611686018427387904 := hcs.2
          have s2 : 0 ≤ d.cnt := hc.1
          have s3 : d.cnt ≤ 4611686018427387904 := hc.2
          clear hxx hcs hc HR
          unfold bq at *
          go_wp2
          go_roundw
          case rel => exact ⟨4, by omega, rfl, rfl, Lib.hid (HR1.out.add (hsum.out x HXX.out))⟩
          case measure => simp [intOf]
        · have l1 := hl
          obtain ⟨⟨q0, q1, q2, q3, q4, q5, q6⟩, _, _, _, _, _, _, _⟩ := row7 HR.out.q
          obtain ⟨⟨p0, p1, p2, p3, p4, p5, p6⟩, f0, f1, f2, f3, f4, f5, f6⟩ := row7 HR.out.j.h1
          have hne : ¬ g = w.heap.size + 1 := by have := HR.out.g3; omega
          have n40 : ¬ 40 < a.lev + 1 := by omega
          have HB := Lib.hid (below_set7 HR.out.j.bel (show w.heap.size ≤ w.heap.size + 1 by omega))
          go_wp2
          refine post_row_tmp Tryz.results56 (w.heap.size + 1) 95 #[.int .i64 (a.lev + 1), .int .i64 (cs4 a.cnt b.cnt c.cnt d.cnt 4), .int .u64 0, .int .i64 ka, .int .i64 kb, .int .i64 kc, .int .i64 kd] (0, 0) _ .nilIface Tryz.underlying95 rfl info_q7 ?_ ?_ (row_set7 HR.out.j.h1 _ _ _ _ _ _ _) ?_ ?_
          · rfl
          · rfl
          · rfl
          exact ⟨rfl, HB.out _ _ _ _ _ _ _⟩
end Go.Proofs.YtlejohclijjhnaaGreatDoor
namespace Go.Proofs.YtlejohclijjhnaaGreatDoor
open Go.RowKit Ti Qd Go.Maps Go.WideMaps

def Made (w : World) (room : Nat) (e : Ending) (w' : World) : Prop := ∃ P H, e = .returned (.tuple #[.pointer (some ⟨P, 0, none⟩), .nilIface]) ∧ St w.heap.size w' P [] room H ∧ Below w.heap.size w w'
set_option maxRecDepth 100000 in
set_option maxHeartbeats 1000000 in
theorem new_ok (room : Nat) (w : World) (h1 : 1 ≤ room) (h2 : room ≤ 65536) : Calls Tryz.prog 14 #[.int .i64 room] w (Made w room) := by
  have n1 : ¬ (room : Int) < 1 := by omega
  have n2 : ¬ (65536 : Int) < room := by omega
  have HM := Lib.hid (World.ownsMap_made (H := Unit) w Tryz.prog 95 (plainElem Tryz.prog 3))
  have HH := Lib.hid (And.intro h1 h2)
  clear h1 h2
  have hmm := @run_makeMap Tryz.prog
  go_enter Tryz.func14, Tryz.ntmps14
  go_wp2
  go_ret2
  have hb : ((w.alloc (.map #[] 0)).alloc (.cells #[.int .i64 room, .slice none 0 0, .map (some w.heap.size)] 87)).heap[w.heap.size + 1]? = some (.cells #[.int .i64 room, .slice none 0 0, .map (some w.heap.size)] 87 (0, 0)) := by
    have := heap_alloc_new (w.alloc (.map #[] 0)) (.cells #[.int .i64 room, .slice none 0 0, .map (some w.heap.size)] 87)
    simpa using this
  have c : ∀ i v, #[Value.int .i64 (room : Int), .slice none 0 0, .map (some w.heap.size)][i]? = some v → ((w.alloc (.map #[] 0)).alloc (.cells #[.int .i64 room, .slice none 0 0, .map (some w.heap.size)] 87)).cell? ⟨w.heap.size + 1, i, none⟩ = some v := fun i v hv => by
    rw [cell_of_row _ _ i _ _ _ hb]
    simpa using hv
  refine ⟨w.heap.size + 1, Hs (w.heap.size + 1) w.heap.size (.slice none 0 0), rfl, ⟨w.heap.size, .slice none 0 0, ⟨c 0 _ rfl, c 1 _ rfl, c 2 _ rfl, fun i => frozen_of_row _ _ i _ _ hb, World.ownsRow_nil _ _ _ _, ⟨_, HM.out.alloc _, mpQ_nil⟩, by omega, Nat.le_refl _, by omega, ?_, ?_, inv_nil, by simp, HH.out.2⟩, rfl⟩, ?_⟩
  · simp [Value.ownBlock]
  · simp [Value.ownBlock]
  · exact (alX _ _).trans ((alX _ _).mono (by simp))
theorem St.inv {B : Nat} {w : World} {P : Nat} {L : List Sq} {room : Nat} {H : Nat → Prop} (h : St B w P L room H) : Inv L := by
  obtain ⟨M, sv, hs, _⟩ := h
  exact hs.inv
theorem St.small {B : Nat} {w : World} {P : Nat} {L : List Sq} {room : Nat} {H : Nat → Prop} (h : St B w P L room H) : L.length ≤ 65536 := by
  obtain ⟨M, sv, hs, _⟩ := h
  have := hs.rm
  have := hs.r6
  omega
set_option maxRecDepth 100000 in
set_option maxHeartbeats 1000000 in
theorem leaf_ok {B : Nat} {w : World} {P : Nat} {L : List Sq} {room : Nat} {H : Nat → Prop} (h : St B w P L room H) (t : T6) (hr : (put L (leafQ t)).length ≤ room) :
    Calls Tryz.prog 47 #[.pointer (some ⟨P, 0, none⟩), .int .u64 (rg t)] w fun e w' => e = .returned (.tuple #[.int .i64 (nr L (leafQ t)), .nilIface]) ∧ Goes B w P room H (put L (leafQ t)) w' := by
  have HN := Lib.hid (number_any h (leafQ t) (leaf_bd L t) (.inl rfl) hr)
  clear h hr
  generalize nr L (leafQ t) = k at *
  go_enter Tryz.func47, Tryz.ntmps47
  go_wp2_with fail
  refine (count_any t _).mono ?_
  rintro e w1 ⟨rfl, rfl⟩
  go_wp2_with fail
  refine HN.out.mono ?_
  rintro e w1 ⟨rfl, hg⟩
  have HG := Lib.hid hg
  clear hg
  go_wp2
  go_ret2
  exact ⟨rfl, HG.out⟩
set_option maxRecDepth 100000 in
set_option maxHeartbeats 1000000 in
theorem node_ok {B : Nat} {w : World} {P : Nat} {L : List Sq} {room : Nat} {H : Nat → Prop} (h : St B w P L room H) (a b c d l : Int) (hf : Four L a b c d l) (hl : l < 40) (hr : (put L (joinQ L a b c d)).length ≤ room) :
    Calls Tryz.prog 36 #[.pointer (some ⟨P, 0, none⟩), .agg #[.int .i64 a, .int .i64 b, .int .i64 c, .int .i64 d]] w fun e w' => e = .returned (.tuple #[.int .i64 (nr L (joinQ L a b c d)), .nilIface]) ∧ Goes B w P room H (put L (joinQ L a b c d)) w' := by
  have hi := h.inv
  have h3 : 3 ≤ l := by have := (hi.bd hf.o0).l0; rw [hf.l0] at this; exact this
  have hfq : Fq L a b c d (at' L a) (at' L b) (at' L c) (at' L d) := ⟨rfl, rfl, rfl, rfl, by rw [hf.l0, hf.l1], by rw [hf.l0, hf.l2], by rw [hf.l0, hf.l3], by rw [hf.l0]; exact h3, by rw [hf.l0]; omega, ⟨(hi.bd hf.o0).c0, (hi.bd hf.o0).c1⟩, ⟨(hi.bd hf.o1).c0, (hi.bd hf.o1).c1⟩, ⟨(hi.bd hf.o2).c0, (hi.bd hf.o2).c1⟩, ⟨(hi.bd hf.o3).c0, (hi.bd hf.o3).c1⟩⟩
  have HJ := Lib.hid (fun (w' : World) (h' : St B w' P L room H) => joined_q h' a b c d l _ _ _ _ hf hfq (by rw [hf.l0]; exact hl))
  have HN := Lib.hid (fun (w' : World) (h' : St B w' P L room H) => number_any h' (joinQ L a b c d) (hf.bd hi h3 hl) (hf.gd h3 hl) hr)
  have HS := Lib.hid h
  clear h hf hr hi hfq
  generalize nr L (joinQ L a b c d) = k at *
  generalize put L (joinQ L a b c d) = L' at *
  generalize joinQ L a b c d = q at *
  go_enter Tryz.func36, Tryz.ntmps36
  go_wp2_with fail
  refine (HJ.out _ (HS.out.below (alX _ _) (Nat.le_refl _))).mono ?_
  rintro e w1 ⟨rfl, hb⟩
  have HB := Lib.hid ((alX _ _).trans (hb.mono (by simp)))
  clear hb
  unfold qv at *
  have HB2 := Lib.hid (HB.out.trans ((alX w1 (bq q)).mono HB.out.size))
  unfold bq at *
  go_wp2_with fail
  refine (HN.out _ (HS.out.below HB2.out (Nat.le_refl _))).mono ?_
  rintro e w2 ⟨rfl, hg⟩
  have HG := Lib.hid (Goes.trans (.of_below HB2.out) hg)
  clear hg
  go_wp2
  go_ret2
  exact ⟨rfl, HG.out⟩
set_option maxRecDepth 100000 in
set_option maxHeartbeats 1000000 in
theorem count_ok {B : Nat} {w : World} {P : Nat} {L : List Sq} {room : Nat} {H : Nat → Prop} (h : St B w P L room H) (id : Int) (ho : Ok L id) :
    Calls Tryz.prog 18 #[.pointer (some ⟨P, 0, none⟩), .int .i64 id] w fun e w' => e = .returned (.tuple #[.int .i64 (at' L id).cnt, .nilIface]) ∧ Below w.heap.size w w' := by
  have HQ := Lib.hid (square_ok h id ho)
  clear h
  unfold qv at *
  generalize at' L id = q at *
  go_enter Tryz.func18, Tryz.ntmps18
  go_wp2_with fail
  refine HQ.out.mono ?_
  rintro e w1 ⟨rfl, hb⟩
  have HB := Lib.hid (hb.trans ((alX w1 (bq q)).mono hb.size))
  clear hb
  unfold bq at *
  go_wp2
  go_ret2
  exact ⟨rfl, HB.out⟩
theorem emp_ext (L : List Sq) : ∀ k m, (emp L k).1 <+: (emp L (k + m)).1
  | _, 0 => List.prefix_rfl
  | k, m + 1 => (emp_ext L k m).trans (put_ext _ _)
set_option maxRecDepth 100000 in
set_option maxHeartbeats 2000000 in
theorem empty_ok {B : Nat} {w : World} {P : Nat} {L : List Sq} {room : Nat} {H : Nat → Prop} (h : St B w P L room H) (n : Nat) (lv : Int) (hlv : lv = n + 3) (hn : n ≤ 37) (hr : (emp L n).1.length ≤ room) :
    Calls Tryz.prog 29 #[.pointer (some ⟨P, 0, none⟩), .int .i64 lv] w fun e w' => e = .returned (.tuple #[.int .i64 (emp L n).2, .nilIface]) ∧ Goes B w P room H (emp L n).1 w' := by
  have hi := h.inv
  have HL0 := Lib.hid (leaf_ok h 0#64 (by
    have := (emp_ext L 0 n).length_le
    rw [Nat.zero_add] at this
    exact Nat.le_trans this hr))
  have HEX := Lib.hid (show ∀ k, k < n → ∀ {H' : Nat → Prop} {wr : World}, St B wr P (emp L k).1 room H' → Calls Tryz.prog 36 #[.pointer (some ⟨P, 0, none⟩), .agg #[.int .i64 (emp L k).2, .int .i64 (emp L k).2, .int .i64 (emp L k).2, .int .i64 (emp L k).2]] wr fun e w' => e = .returned (.tuple #[.int .i64 (emp L (k + 1)).2, .nilIface]) ∧ Goes B wr P room H' (emp L (k + 1)).1 w' from fun k hk H' wr hs => by
    have he := emp_ok hi k (by omega)
    refine node_ok hs _ _ _ _ (k + 3) ⟨he.lv.1, he.lv.1, he.lv.1, he.lv.1, he.lv.2, he.lv.2, he.lv.2, he.lv.2⟩ (by omega) ?_
    have := (emp_ext L (k + 1) (n - (k + 1))).length_le
    rw [show k + 1 + (n - (k + 1)) = n by omega] at this
    exact Nat.le_trans this hr)
  clear h hi hr
  have n1 : ¬ lv < 3 := by omega
  have n2 : ¬ 40 < lv := by omega
  have n3 : 0 ≤ lv - 3 := by omega
  have n4 : lv ≤ 40 := by omega
  have HLV := Lib.hid hlv
  clear hlv
  go_enter Tryz.func29, Tryz.ntmps29
  go_wp2_with fail
  refine HL0.out.mono ?_
  rintro e w1 ⟨rfl, hg⟩
  have HG := Lib.hid (show Goes B w P room H (emp L 0).1 w1 from hg)
  have HE0 := Lib.hid (show (emp L 0).2 = nr L (leafQ 0#64) from rfl)
  clear hg
  go_wp2
  go_loopw [4, 5, 6, 7, 25] (fun v4 v5 v6 v7 i wr => ∃ k : Nat, k ≤ n ∧ v4 = .int .i64 0 ∧ v5 = .nilIface ∧ v6 = .int .i64 (emp L k).2 ∧ v7 = .nilIface ∧ i = .int .i64 k ∧ Hid (Goes B w P room H (emp L k).1 wr)) (fun _ _ _ _ i _ => n - (intOf i).toNat)
  case atStart => exact ⟨0, by omega, rfl, rfl, rfl, rfl, rfl, HG⟩
  case round =>
    clear HG
    obtain ⟨k, hk, rfl, rfl, rfl, rfl, rfl, HR⟩ := hrel
    by_cases hlt : k < n
    · have k1 : (k : Int) < lv - 3 := by have := HLV.out; omega
      obtain ⟨H', hs, ht⟩ := HR.out
      have HT := Lib.hid ht
      have HX := Lib.hid (HEX.out k hlt hs)
      clear hs ht
      generalize he1 : (emp L k).2 = x at *
      have HX1 := Lib.hid he1
      clear he1
      obtain ⟨y, hy⟩ : ∃ y, y = (emp L (k + 1)).2 := ⟨_, rfl⟩
      rw [← hy] at HX
      have HY := Lib.hid hy
      clear hy
      go_wp2_with fail
      refine HX.out.mono ?_
      rintro e w2 ⟨rfl, hg⟩
      have HG2 := Lib.hid (Goes.trans HT.out hg)
      clear hg
      go_wp2
      go_roundw
      case rel => exact ⟨k + 1, by omega, rfl, rfl, by rw [HY.out], rfl, by go_num, HG2⟩
      case measure => simp [intOf]; omega
    · obtain rfl : k = n := by omega
      have k1 : ¬ (k : Int) < lv - 3 := by have := HLV.out; omega
      go_wp2
      go_ret2
      exact ⟨rfl, HR.out⟩
end Go.Proofs.YtlejohclijjhnaaGreatDoor
namespace Go.Proofs.YtlejohclijjhnaaGreatDoor
open Go.RowKit Ti Qd Go.Maps Go.WideMaps

theorem two40 {n : Nat} (h : n ≤ 37) : 2 ^ (n + 3) ≤ 1099511627776 := by
  calc 2 ^ (n + 3) ≤ 2 ^ 40 := Nat.pow_le_pow_right (by decide) (by omega)
    _ = 1099511627776 := by decide
theorem wrap_small {m : Nat} (h : m ≤ 1099511627776) : wrap64 (m : Int) = (m : Int) := by unfold wrap64; omega
theorem shl_run {n : Nat} (h : n ≤ 37) : wrap64 ((2 : Int) ^ (n + 3)) = ((2 ^ (n + 3) : Nat) : Int) := by
  have e : ((2 : Int) ^ (n + 3)) = ((2 ^ (n + 3) : Nat) : Int) := by simp
  rw [e]
  exact wrap_small (two40 h)
set_option maxRecDepth 100000 in
set_option maxHeartbeats 1000000 in
theorem about_ok {B : Nat} {w : World} {P : Nat} {L : List Sq} {room : Nat} {H : Nat → Prop} (h : St B w P L room H) (n : Nat) (id : Int) (x y : Nat) (hl : Lv L n id) (hn : n ≤ 37) (hx : x < 2 ^ (n + 3)) (hy : y < 2 ^ (n + 3)) :
    Calls Tryz.prog 48 #[.pointer (some ⟨P, 0, none⟩), .int .i64 id, .int .i64 x, .int .i64 y] w fun e w' => e = .returned (.tuple #[qv (at' L id), .nilIface]) ∧ Below w.heap.size w w' := by
  have HQ := Lib.hid (fun (w' : World) (h' : St B w' P L room H) => square_ok h' id hl.1)
  have HS := Lib.hid h
  have hlev := hl.2
  have hsh := shl_run hn
  have h40 := two40 hn
  clear h hl
  unfold qv at *
  generalize at' L id = q at *
  generalize 2 ^ (n + 3) = m at *
  obtain ⟨lev, cnt, til, k0, k1, k2, k3⟩ := q
  simp only at hlev
  subst hlev
  have x0 : decide ((x : Int) < 0) = false := decide_eq_false (by omega)
  have x1 : ¬ (m : Int) ≤ (x : Int) := by omega
  have y0 : decide ((y : Int) < 0) = false := decide_eq_false (by omega)
  have y1 : ¬ (m : Int) ≤ (y : Int) := by omega
  have n0 : (0 : Int) ≤ (n : Int) + 3 := by omega
  have hbx := heap_alloc_new w zq
  have HBX := Lib.hid hbx
  clear hbx hx hy
  go_enter Tryz.func48, Tryz.ntmps48
  go_wp2_with fail
  refine (HQ.out _ (HS.out.below (alX _ _) (Nat.le_refl _))).mono ?_
  rintro e w1 ⟨rfl, hb⟩
  have HB := Lib.hid ((alX w zq).trans ((hb.trans ((alX w1 (.cells #[.int .i64 ((n : Int) + 3), .int .i64 cnt, .int .u64 (rg til), .int .i64 k0, .int .i64 k1, .int .i64 k2, .int .i64 k3] 95)).mono hb.size)).mono (by simp)))
  have HZ := Lib.hid (show (w1.alloc (.cells #[.int .i64 ((n : Int) + 3), .int .i64 cnt, .int .u64 (rg til), .int .i64 k0, .int .i64 k1, .int .i64 k2, .int .i64 k3] 95)).heap[w.heap.size]? = some (.cells #[.int .i64 0, .int .i64 0, .int .u64 0, .int .i64 0, .int .i64 0, .int .i64 0, .int .i64 0] 95 (0, 0)) from
    ((hb.trans ((alX w1 _).mono hb.size)).block _ (lt_of_block HBX.out)).trans HBX.out)
  obtain ⟨⟨b0, b1, b2, b3, b4, b5, b6⟩, f0, f1, f2, f3, f4, f5, f6⟩ := row7 HZ.out
  clear hb b0 b1 b2 b3 b4 b5 b6 f0 f1 f2 f3 f4 f5 f6
  go_upto_region 5 with (fail)
  have hg := heap_alloc_new w1 (.cells #[.int .i64 ((n : Int) + 3), .int .i64 cnt, .int .u64 (rg til), .int .i64 k0, .int .i64 k1, .int .i64 k2, .int .i64 k3] 95)
  generalize w1.alloc (.cells #[.int .i64 ((n : Int) + 3), .int .i64 cnt, .int .u64 (rg til), .int .i64 k0, .int .i64 k1, .int .i64 k2, .int .i64 k3] 95) = W at HB HZ hg ⊢
  obtain ⟨⟨b0, b1, b2, b3, b4, b5, b6⟩, f0, f1, f2, f3, f4, f5, f6⟩ := row7 HZ.out
  obtain ⟨⟨c0, c1, c2, c3, c4, c5, c6⟩, _, _, _, _, _, _, _⟩ := row7 hg
  clear hg
  go_wp2
  refine post_row_tmp Tryz.results48 w.heap.size 95 #[.int .i64 ((n : Int) + 3), .int .i64 cnt, .int .u64 (rg til), .int .i64 k0, .int .i64 k1, .int .i64 k2, .int .i64 k3] (0, 0) _ .nilIface Tryz.underlying95 rfl info_q7 ?_ ?_ (row_set7 HZ.out _ _ _ _ _ _ _) ?_ ?_
  · rfl
  · rfl
  · rfl
  exact ⟨rfl, below_set7 HB.out (Nat.le_refl _) _ _ _ _ _ _ _⟩
theorem tdiv_nat (a b : Nat) : ((a : Int).tdiv (b : Int)) = ((a / b : Nat) : Int) := by
  rw [Int.tdiv_eq_ediv_of_nonneg (by omega)]
  simp
theorem tmod_nat (a b : Nat) : ((a : Int).tmod (b : Int)) = ((a % b : Nat) : Int) := by
  rw [Int.tmod_eq_emod_of_nonneg (by omega)]
  simp
set_option maxRecDepth 100000 in
set_option maxHeartbeats 1000000 in
theorem lead_ok (n : Nat) (q : Sq) (x y : Nat) (hl : q.lev = n + 4) (hn : n ≤ 36) (hx : x < 2 ^ (n + 4)) (hy : y < 2 ^ (n + 4)) (w : World) :
    Calls Tryz.prog 50 #[qv q, .int .i64 x, .int .i64 y] w fun e w' => e = .returned (.tuple #[.int .i64 (qd (2 ^ (n + 3)) x y : Nat), .int .i64 (x % 2 ^ (n + 3) : Nat), .int .i64 (y % 2 ^ (n + 3) : Nat)]) ∧ Below w.heap.size w w' := by
  have hsh := shl_run (n := n) (by omega)
  have h40 := two40 (n := n) (by omega)
  have hp := Nat.two_pow_pos (n + 3)
  rw [show n + 4 = (n + 3) + 1 by omega, Nat.pow_succ] at hx hy
  unfold qv qd at *
  obtain ⟨lev, cnt, til, k0, k1, k2, k3⟩ := q
  simp only at hl
  subst hl
  generalize 2 ^ (n + 3) = m at *
  have d1 : y / m < 2 := by rw [Nat.div_lt_iff_lt_mul hp]; omega
  have d2 : x / m < 2 := by rw [Nat.div_lt_iff_lt_mul hp]; omega
  have d3 := Nat.mod_lt x hp
  have d4 := Nat.mod_lt y hp
  have t1 := tdiv_nat y m
  have t2 := tdiv_nat x m
  have t3 := tmod_nat x m
  have t4 := tmod_nat y m
  generalize y / m = a at *
  generalize x / m = b at *
  generalize x % m = c at *
  generalize y % m = d at *
  have m0 : ¬ (m : Int) = 0 := by omega
  have n0 : (0 : Int) ≤ (n : Int) + 3 := by omega
  have e1 : IntKind.i64.wrap (a : Int) = (a : Int) := IntWalk.i64_in _ (by omega)
  have e2 : IntKind.i64.wrap (b : Int) = (b : Int) := IntWalk.i64_in _ (by omega)
  have e3 : IntKind.i64.wrap (c : Int) = (c : Int) := IntWalk.i64_in _ (by omega)
  have e4 : IntKind.i64.wrap (d : Int) = (d : Int) := IntWalk.i64_in _ (by omega)
  have e5 : IntKind.i64.wrap ((a : Int) * 2) = (a : Int) * 2 := IntWalk.i64_in _ (by omega)
  have e6 : IntKind.i64.wrap ((a : Int) * 2 + (b : Int)) = (a : Int) * 2 + (b : Int) := IntWalk.i64_in _ (by omega)
  have HR := Lib.hid (show ((a : Int) * 2 + (b : Int)) = ((a * 2 + b : Nat) : Int) by omega)
  have HB := Lib.hid (alX w (.cells #[.int .i64 ((n : Int) + 4), .int .i64 cnt, .int .u64 (rg til), .int .i64 k0, .int .i64 k1, .int .i64 k2, .int .i64 k3] 95))
  clear d1 d2 d3 d4 hp hx hy
  go_enter Tryz.func50, Tryz.ntmps50
  go_upto_region 2 with (fail)
  go_region
  go_wp2
  exact bodyPost_ret (v := .tuple #[.int .i64 ((a : Int) * 2 + (b : Int)), .int .i64 (c : Int), .int .i64 (d : Int)]) (by simp [results, Tryz.results50, go_sem]) rfl ⟨by rw [HR.out], HB.out.drew⟩
theorem kid_cell {w : World} {g : Nat} {q : Sq} {T : TypeId} (h : w.heap[g]? = some (.cells #[.int .i64 q.lev, .int .i64 q.cnt, .int .u64 (rg q.til), .int .i64 q.k0, .int .i64 q.k1, .int .i64 q.k2, .int .i64 q.k3] T (0, 0))) (i : Nat) (hi : i < 4) : w.cell? ⟨g, 3 + i, none⟩ = some (.int .i64 (kid q i)) := by
  rw [cell_of_row w g _ _ _ _ h]
  match i, hi with
  | 0, _ => rfl
  | 1, _ => rfl
  | 2, _ => rfl
  | 3, _ => rfl
end Go.Proofs.YtlejohclijjhnaaGreatDoor

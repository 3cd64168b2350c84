/-
  THE WALK of FramesErrors. Conditions: what came in could be read; what is laid, lies.
-/
import Derived.Test.YtkefjkfknegogaaGreatDoorE49
import Derived.Test.YtkefjkfknegogaaGreatDoorE50
namespace Go.Proofs.YtkefjkfknegogaaGreatDoor.Fm
open Go.RowKit Ti Qd Go.Maps Go.WideMaps Ru

/-- a rule in a box, since a world -/
structure RuAt (W w : World) (r l : Nat) : Prop where
  rule : w.heap[W.heap.size]? = some (.cells #[.int .u16 r, .int .u16 l] 24)
  below : Below W.heap.size W w
theorem RuAt.on {W w w2 : World} {r l : Nat} (h : RuAt W w r l) (k : Below w.heap.size w w2) : RuAt W w2 r l := ⟨(k.block _ (lt_of_block h.rule)).trans h.rule, h.below.trans (k.mono h.below.size)⟩
theorem ru_start (r l : Nat) (W : World) : RuAt W (W.alloc (.cells #[.int .u16 r, .int .u16 l] 24)) r l := ⟨heap_alloc_new W _, alX W _⟩
theorem lad_lv {m k : Nat} (h : k ≤ m) : Lv (lad m) k ((k : Int) + 1) := by
  obtain ⟨h1, h2⟩ := lad_at h
  exact ⟨h1, by rw [h2, laq_lev]; omega⟩
theorem lad_inv (m : Nat) (h : m ≤ 37) : Inv (lad m) := by
  have := (emp_ok inv_nil m h).inv
  rw [emp_lad] at this
  exact this
theorem run_zero {B P room b l G M : Nat} {s : MS} {w : World} {H : Nat → Prop} (h : Mc B P room b l G M s w H) (hB : B ≤ w.heap.size) (hok : SOk b l s) (hu : s.U ≠ []) (hm : mayR b l = true) (h6 : room ≤ 65536) (hr : s.L.length ≤ room) :
    Calls Tryz.prog 15 #[.pointer (some ⟨G, 0, none⟩), .int .i64 0] w fun e w' => e = .returned (.tuple #[.int .i64 0, .nilIface]) ∧ Goz (Mc B P room b l G M s) w H w' := by
  have e : runF b l ((0 : Int)).toNat s = (0, s) := by simp [runF]
  have := run_f h hB hok hu hm h6 0 (by decide) (by rw [e]; exact hr)
  rw [e] at this
  exact this
set_option maxRecDepth 100000 in
set_option maxHeartbeats 16000000 in
theorem errs_walk (r l : Nat) (id j : Int) (W : World) (w0 : r < 65536 ∧ l < 65536) (_w1 : (Lit.int .i64 id).wf = true) (_w2 : (Lit.int .i64 j).wf = true) (hlaid : Laid W) :
    Calls Tryz.prog 4 #[.agg #[.int .u16 r, .int .u16 l], .int .i64 id, .int .i64 j] W fun e w' => e = .returned (.bool true) ∧ Below W.heap.size W w' := by
  have HLD := Lib.hid hlaid
  have HR0 := Lib.hid (ru_start r l W)
  have HM := Lib.hid (show ∀ w, Calls Tryz.prog 7 #[.agg #[.int .u16 r, .int .u16 l]] w fun e w' => e = .returned (.bool (mayR r l)) ∧ Below w.heap.size w w' from fun w => may_ref r l w)
  have HW0 := Lib.hid w0
  clear hlaid w0 _w1 _w2
  go_enter Tryz.func4, Tryz.ntmps4
  go_wp2_with fail
  refine (run_nil 1 _).mono ?_
  rintro e wx ⟨rfl, rfl⟩
  go_wp2_with fail
  refine (out_nil _).mono ?_
  rintro e wx ⟨rfl, rfl⟩
  go_wp2_with fail
  refine (mnew_nil 0 0 _).mono ?_
  rintro e w1 ⟨rfl, hb⟩
  have HR1 := Lib.hid (HR0.out.on hb)
  clear hb HR0
  go_wp2_with fail
  refine (begin_nil id j _).mono ?_
  rintro e wx ⟨rfl, rfl⟩
  go_wp2_with fail
  refine (num_err 1 _ (HLD.out.below HR1.out.below)).mono ?_
  rintro e w2 ⟨rfl, hb⟩
  have HR2 := Lib.hid (HR1.out.on hb)
  clear hb HR1
  go_wp2_with fail
  refine (num_err 1 _ (HLD.out.below HR2.out.below)).mono ?_
  rintro e w3 ⟨rfl, hb⟩
  have HR3 := Lib.hid (HR2.out.on hb)
  clear hb HR2
  go_wp2_with fail
  refine (frames_nil _).mono ?_
  rintro e wx ⟨rfl, rfl⟩
  go_wp2_with fail
  refine (load_nil none 0 0 _).mono ?_
  rintro e wx ⟨rfl, rfl⟩
  go_wp2_with fail
  refine (num_err 1 _ (HLD.out.below HR3.out.below)).mono ?_
  rintro e w4 ⟨rfl, hb⟩
  have HR4 := Lib.hid (HR3.out.on hb)
  clear hb HR3
  go_wp2_with fail
  refine (num_err 1 _ (HLD.out.below HR4.out.below)).mono ?_
  rintro e w5 ⟨rfl, hb⟩
  have HR5 := Lib.hid (HR4.out.on hb)
  clear hb HR4
  have HN := Lib.hid (new_lit 100 100 rfl w5 (by decide) (by decide))
  go_wp2_with fail
  refine HN.out.mono ?_
  rintro e w6 ⟨P, H, rfl, hs, hb⟩
  have HR6 := Lib.hid (HR5.out.on hb)
  have HST := Lib.hid hs
  have HBB := Lib.hid (And.intro hb.size (lt_of_block HR5.out.rule))
  clear hs hb HN HR5
  generalize w5.heap.size = B at HST HBB
  obtain ⟨c0, c1⟩ := two_cells HR6.out.rule
  cases hm : mayR r l with
  | false =>
    rw [hm] at HM
    have HG := Lib.hid (show Calls Tryz.prog 17 #[.pointer (some ⟨P, 0, none⟩), .agg #[.int .u16 r, .int .u16 l]] w6 fun e w' => e = .returned (.tuple #[.pointer none, .iface 71 (.int .i64 11)]) ∧ Below w6.heap.size w6 w' from mnew_bad P r l HW0.out.1 HW0.out.2 hm w6)
    clear hm
    go_wp2_with fail
    refine HG.out.mono ?_
    rintro e v1 ⟨rfl, hb⟩
    have HE := Lib.hid (HR6.out.on hb)
    clear hb HR6 c0 c1 HG
    obtain ⟨c0, c1⟩ := two_cells HE.out.rule
    go_wp2_with fail
    refine (HM.out _).mono ?_
    rintro e v2 ⟨rfl, hb⟩
    have HF := Lib.hid (HE.out.on hb)
    clear hb HE c0 c1
    go_wp2_with fail
    refine (num_err 11 _ (HLD.out.below HF.out.below)).mono ?_
    rintro e v3 ⟨rfl, hb⟩
    have HB := Lib.hid (HF.out.on hb).below
    clear hb HF
    go_wp2_with (go_at_call 8; refine (sure_any _).mono ?_; rintro e v4 ⟨rfl, hb⟩; have HB2 := Lib.hid (HB.out.trans (hb.mono HB.out.size)); clear hb)
    go_ret
    exact ⟨rfl, HB2.out⟩
  | true =>
    rw [hm] at HM
    have HMY := Lib.hid hm
    have HG := Lib.hid (show Calls Tryz.prog 17 #[.pointer (some ⟨P, 0, none⟩), .agg #[.int .u16 r, .int .u16 l]] w6 (NewM w6 P r l) from mnew_f P r l hm w6)
    clear hm
    go_wp2_with fail
    refine HG.out.mono ?_
    rintro e v0 ⟨G, M, rfl, g1, g2, g3, g4⟩
    obtain ⟨H0, hmc⟩ : ∃ H0, Mc B P 100 r l G M ⟨[], K0, [], 0⟩ v0 H0 := ⟨_, Mc.made (HST.out.bel g3) (g4 B HBB.out.1) g1 g2 (fun x hx => (HST.out.lt x hx).2)⟩
    have HR := Lib.hid (HR6.out.on g3)
    have HBV := Lib.hid (Nat.le_trans HBB.out.1 g3.size)
    have HBL := Lib.hid (show ∀ (s : MS) (bx : List (Nat × Obj)) (w : World), Bs (Mc B P 100 r l G M s) v0 H0 bx w → Below W.heap.size W w ∧ B ≤ w.heap.size from by
      have h1 := HR.out.below
      have h2 := ((mc_fpt B P 100 r l G M ⟨[], K0, [], 0⟩).lt hmc)
      have h3 := HBV.out
      have h4 := Nat.le_of_lt HBB.out.2
      exact fun s bx w hs => ⟨h1.trans ((hs.lt (fun x hx => (h2 x hx).1) h3).mono h4), Nat.le_trans h3 (hs.lt (fun x hx => (h2 x hx).1) h3).size⟩)
    have HS0 := Lib.hid (Bs.start hmc)
    have HT := Lib.hid (fun s => mc_fpt B P 100 r l G M s)
    clear hmc g1 g2 g3 g4 HG c0 c1 HR6 HST HBB
    obtain ⟨c0, c1⟩ := two_cells HR.out.rule
    go_wp2_with fail
    refine (HM.out _).mono ?_
    rintro e v1 ⟨rfl, hb⟩
    have HS1 := Lib.hid (HS0.out.below (HT.out _) hb)
    clear hb HS0 c0 c1 HR HM
    obtain ⟨Hs, hst, _, hgo⟩ := HS1.out.store2
    have hC := empty_ok hst 2 5 rfl (by decide) (by show (emp [] 2).1.length ≤ 100; rw [emp_lad, lad_len]; decide)
    have hC : Calls Tryz.prog 20 #[.pointer (some ⟨P, 0, none⟩), .int .i64 5] v1 fun e w' => e = .returned (.tuple #[.int .i64 (emp [] 2).2, .nilIface]) ∧ Goes B v1 P 100 Hs (emp [] 2).1 w' := hC
    rw [emp_lad, show ((2 : Nat) : Int) + 1 = 3 from rfl] at hC
    have HC := Lib.hid hC
    have HX := Lib.hid hgo
    clear hst hgo hC
    go_wp2_with fail
    refine HC.out.mono ?_
    rintro e v2 ⟨rfl, hg⟩
    have HS2 := Lib.hid (HX.out _ _ hg)
    clear hg HC HX HS1
    clear HW0
    by_cases h1 : id < 1
    · obtain ⟨H1, h1, _, h3⟩ := HS2.out.call
      have HC := Lib.hid (begin_none h1 rfl id j (by intro q; have := q.1; have := q.2; rw [show (MS.L ⟨lad 2, K0, [], 0⟩).length = 3 from rfl] at this; omega))
      have HX := Lib.hid h3
      clear h1 h3
      go_wp2_with fail
      refine HC.out.mono ?_
      rintro e v3 ⟨rfl, hb⟩
      have HS3 := Lib.hid (HS2.out.below (HT.out _) hb)
      clear hb HC HX HS2
      go_wp2_with fail
      refine (num_err 8 _ (HLD.out.below (HBL.out _ _ _ HS3.out).1)).mono ?_
      rintro e v4 ⟨rfl, hb⟩
      have HS4 := Lib.hid (HS3.out.below (HT.out _) hb)
      clear hb HS3
      obtain ⟨H1, h1, _, h3⟩ := HS4.out.call
      have HC := Lib.hid (run_none h1 rfl 3)
      have HX := Lib.hid h3
      clear h1 h3
      go_wp2_with fail
      refine HC.out.mono ?_
      rintro e vx ⟨rfl, rfl⟩
      clear HC HX
      go_wp2_with fail
      refine (num_err 14 _ (HLD.out.below (HBL.out _ _ _ HS4.out).1)).mono ?_
      rintro e v5 ⟨rfl, hb⟩
      have HS5 := Lib.hid (HS4.out.below (HT.out _) hb)
      clear hb HS4
      obtain ⟨H1, h1, _, h3⟩ := HS5.out.call
      have HC := Lib.hid (load_empty h1 rfl)
      have HX := Lib.hid h3
      clear h1 h3
      go_wp2_with fail
      refine HC.out.mono ?_
      rintro e vx ⟨rfl, rfl⟩
      clear HC HX
      go_wp2_with fail
      refine (num_err 3 _ (HLD.out.below (HBL.out _ _ _ HS5.out).1)).mono ?_
      rintro e v6 ⟨rfl, hb⟩
      have HS6 := Lib.hid (HS5.out.below (HT.out _) hb)
      clear hb HS5
      obtain ⟨H1, h1, _, h3⟩ := HS6.out.call
      have HC := Lib.hid (frames_f h1 (by intro g hg; cases hg) (by decide))
      have HX := Lib.hid h3
      clear h1 h3
      go_wp2_with fail
      refine HC.out.mono ?_
      rintro e v9 ⟨ao9, cap9, nw, rfl, _, _, _, _, _, hb⟩
      have HS9 := Lib.hid (HS6.out.below (HT.out _) hb)
      clear hb HC HX HS6
      have HB := Lib.hid (HBL.out _ _ _ HS9.out).1
      go_wp2_with (go_at_call 8; refine (sure_any _).mono ?_; rintro e v99 ⟨rfl, hb⟩; have HB2 := Lib.hid (HB.out.trans (hb.mono HB.out.size)); clear hb)
      go_ret
      exact ⟨rfl, HB2.out⟩
    by_cases h3 : 3 < id
    · obtain ⟨H1, h1, _, h3⟩ := HS2.out.call
      have HC := Lib.hid (begin_none h1 rfl id j (by intro q; have := q.1; have := q.2; rw [show (MS.L ⟨lad 2, K0, [], 0⟩).length = 3 from rfl] at this; omega))
      have HX := Lib.hid h3
      clear h1 h3
      go_wp2_with fail
      refine HC.out.mono ?_
      rintro e v3 ⟨rfl, hb⟩
      have HS3 := Lib.hid (HS2.out.below (HT.out _) hb)
      clear hb HC HX HS2
      go_wp2_with fail
      refine (num_err 8 _ (HLD.out.below (HBL.out _ _ _ HS3.out).1)).mono ?_
      rintro e v4 ⟨rfl, hb⟩
      have HS4 := Lib.hid (HS3.out.below (HT.out _) hb)
      clear hb HS3
      obtain ⟨H1, h1, _, h3⟩ := HS4.out.call
      have HC := Lib.hid (run_none h1 rfl 3)
      have HX := Lib.hid h3
      clear h1 h3
      go_wp2_with fail
      refine HC.out.mono ?_
      rintro e vx ⟨rfl, rfl⟩
      clear HC HX
      go_wp2_with fail
      refine (num_err 14 _ (HLD.out.below (HBL.out _ _ _ HS4.out).1)).mono ?_
      rintro e v5 ⟨rfl, hb⟩
      have HS5 := Lib.hid (HS4.out.below (HT.out _) hb)
      clear hb HS4
      obtain ⟨H1, h1, _, h3⟩ := HS5.out.call
      have HC := Lib.hid (load_empty h1 rfl)
      have HX := Lib.hid h3
      clear h1 h3
      go_wp2_with fail
      refine HC.out.mono ?_
      rintro e vx ⟨rfl, rfl⟩
      clear HC HX
      go_wp2_with fail
      refine (num_err 3 _ (HLD.out.below (HBL.out _ _ _ HS5.out).1)).mono ?_
      rintro e v6 ⟨rfl, hb⟩
      have HS6 := Lib.hid (HS5.out.below (HT.out _) hb)
      clear hb HS5
      obtain ⟨H1, h1, _, h3⟩ := HS6.out.call
      have HC := Lib.hid (frames_f h1 (by intro g hg; cases hg) (by decide))
      have HX := Lib.hid h3
      clear h1 h3
      go_wp2_with fail
      refine HC.out.mono ?_
      rintro e v9 ⟨ao9, cap9, nw, rfl, _, _, _, _, _, hb⟩
      have HS9 := Lib.hid (HS6.out.below (HT.out _) hb)
      clear hb HC HX HS6
      have HB := Lib.hid (HBL.out _ _ _ HS9.out).1
      go_wp2_with (go_at_call 8; refine (sure_any _).mono ?_; rintro e v99 ⟨rfl, hb⟩; have HB2 := Lib.hid (HB.out.trans (hb.mono HB.out.size)); clear hb)
      go_ret
      exact ⟨rfl, HB2.out⟩
    obtain rfl | rfl | rfl : id = 1 ∨ id = 2 ∨ id = 3 := by omega
    · clear h1 h3
      obtain ⟨H1, h1, _, h3⟩ := HS2.out.call
      have HC := Lib.hid (begin_bad h1 rfl 1 j 0 (by decide) (lad_lv (m := 2) (k := 0) (by decide)) (decide_eq_false (by omega)))
      have HX := Lib.hid h3
      clear h1 h3
      go_wp2_with fail
      refine HC.out.mono ?_
      rintro e v3 ⟨rfl, hb⟩
      have HS3 := Lib.hid (HS2.out.below (HT.out _) hb)
      clear hb HC HX HS2
      go_wp2_with fail
      refine (num_err 1 _ (HLD.out.below (HBL.out _ _ _ HS3.out).1)).mono ?_
      rintro e v4 ⟨rfl, hb⟩
      have HS4 := Lib.hid (HS3.out.below (HT.out _) hb)
      clear hb HS3
      obtain ⟨H1, h1, _, h3⟩ := HS4.out.call
      have HC := Lib.hid (run_none h1 rfl 3)
      have HX := Lib.hid h3
      clear h1 h3
      go_wp2_with fail
      refine HC.out.mono ?_
      rintro e vx ⟨rfl, rfl⟩
      clear HC HX
      go_wp2_with fail
      refine (num_err 14 _ (HLD.out.below (HBL.out _ _ _ HS4.out).1)).mono ?_
      rintro e v5 ⟨rfl, hb⟩
      have HS5 := Lib.hid (HS4.out.below (HT.out _) hb)
      clear hb HS4
      obtain ⟨H1, h1, _, h3⟩ := HS5.out.call
      have HC := Lib.hid (load_empty h1 rfl)
      have HX := Lib.hid h3
      clear h1 h3
      go_wp2_with fail
      refine HC.out.mono ?_
      rintro e vx ⟨rfl, rfl⟩
      clear HC HX
      go_wp2_with fail
      refine (num_err 3 _ (HLD.out.below (HBL.out _ _ _ HS5.out).1)).mono ?_
      rintro e v6 ⟨rfl, hb⟩
      have HS6 := Lib.hid (HS5.out.below (HT.out _) hb)
      clear hb HS5
      obtain ⟨H1, h1, _, h3⟩ := HS6.out.call
      have HC := Lib.hid (frames_f h1 (by intro g hg; cases hg) (by decide))
      have HX := Lib.hid h3
      clear h1 h3
      go_wp2_with fail
      refine HC.out.mono ?_
      rintro e v9 ⟨ao9, cap9, nw, rfl, _, _, _, _, _, hb⟩
      have HS9 := Lib.hid (HS6.out.below (HT.out _) hb)
      clear hb HC HX HS6
      have HB := Lib.hid (HBL.out _ _ _ HS9.out).1
      go_wp2_with (go_at_call 8; refine (sure_any _).mono ?_; rintro e v99 ⟨rfl, hb⟩; have HB2 := Lib.hid (HB.out.trans (hb.mono HB.out.size)); clear hb)
      go_ret
      exact ⟨rfl, HB2.out⟩
    · clear h1 h3
      by_cases hj : j < 0
      · obtain ⟨H1, h1, _, h3⟩ := HS2.out.call
        have HC := Lib.hid (begin_bad h1 rfl 2 j 1 (by decide) (lad_lv (m := 2) (k := 1) (by decide)) (decide_eq_false (by omega)))
        have HX := Lib.hid h3
        clear h1 h3
        go_wp2_with fail
        refine HC.out.mono ?_
        rintro e v3 ⟨rfl, hb⟩
        have HS3 := Lib.hid (HS2.out.below (HT.out _) hb)
        clear hb HC HX HS2
        go_wp2_with fail
        refine (num_err 1 _ (HLD.out.below (HBL.out _ _ _ HS3.out).1)).mono ?_
        rintro e v4 ⟨rfl, hb⟩
        have HS4 := Lib.hid (HS3.out.below (HT.out _) hb)
        clear hb HS3
        obtain ⟨H1, h1, _, h3⟩ := HS4.out.call
        have HC := Lib.hid (run_none h1 rfl 3)
        have HX := Lib.hid h3
        clear h1 h3
        go_wp2_with fail
        refine HC.out.mono ?_
        rintro e vx ⟨rfl, rfl⟩
        clear HC HX
        go_wp2_with fail
        refine (num_err 14 _ (HLD.out.below (HBL.out _ _ _ HS4.out).1)).mono ?_
        rintro e v5 ⟨rfl, hb⟩
        have HS5 := Lib.hid (HS4.out.below (HT.out _) hb)
        clear hb HS4
        obtain ⟨H1, h1, _, h3⟩ := HS5.out.call
        have HC := Lib.hid (load_empty h1 rfl)
        have HX := Lib.hid h3
        clear h1 h3
        go_wp2_with fail
        refine HC.out.mono ?_
        rintro e vx ⟨rfl, rfl⟩
        clear HC HX
        go_wp2_with fail
        refine (num_err 3 _ (HLD.out.below (HBL.out _ _ _ HS5.out).1)).mono ?_
        rintro e v6 ⟨rfl, hb⟩
        have HS6 := Lib.hid (HS5.out.below (HT.out _) hb)
        clear hb HS5
        obtain ⟨H1, h1, _, h3⟩ := HS6.out.call
        have HC := Lib.hid (frames_f h1 (by intro g hg; cases hg) (by decide))
        have HX := Lib.hid h3
        clear h1 h3
        go_wp2_with fail
        refine HC.out.mono ?_
        rintro e v9 ⟨ao9, cap9, nw, rfl, _, _, _, _, _, hb⟩
        have HS9 := Lib.hid (HS6.out.below (HT.out _) hb)
        clear hb HC HX HS6
        have HB := Lib.hid (HBL.out _ _ _ HS9.out).1
        go_wp2_with (go_at_call 8; refine (sure_any _).mono ?_; rintro e v99 ⟨rfl, hb⟩; have HB2 := Lib.hid (HB.out.trans (hb.mono HB.out.size)); clear hb)
        go_ret
        exact ⟨rfl, HB2.out⟩
      by_cases hk : 2 < j
      · obtain ⟨H1, h1, _, h3⟩ := HS2.out.call
        have HC := Lib.hid (begin_bad h1 rfl 2 j 1 (by decide) (lad_lv (m := 2) (k := 1) (by decide)) (decide_eq_false (by omega)))
        have HX := Lib.hid h3
        clear h1 h3
        go_wp2_with fail
        refine HC.out.mono ?_
        rintro e v3 ⟨rfl, hb⟩
        have HS3 := Lib.hid (HS2.out.below (HT.out _) hb)
        clear hb HC HX HS2
        go_wp2_with fail
        refine (num_err 1 _ (HLD.out.below (HBL.out _ _ _ HS3.out).1)).mono ?_
        rintro e v4 ⟨rfl, hb⟩
        have HS4 := Lib.hid (HS3.out.below (HT.out _) hb)
        clear hb HS3
        obtain ⟨H1, h1, _, h3⟩ := HS4.out.call
        have HC := Lib.hid (run_none h1 rfl 3)
        have HX := Lib.hid h3
        clear h1 h3
        go_wp2_with fail
        refine HC.out.mono ?_
        rintro e vx ⟨rfl, rfl⟩
        clear HC HX
        go_wp2_with fail
        refine (num_err 14 _ (HLD.out.below (HBL.out _ _ _ HS4.out).1)).mono ?_
        rintro e v5 ⟨rfl, hb⟩
        have HS5 := Lib.hid (HS4.out.below (HT.out _) hb)
        clear hb HS4
        obtain ⟨H1, h1, _, h3⟩ := HS5.out.call
        have HC := Lib.hid (load_empty h1 rfl)
        have HX := Lib.hid h3
        clear h1 h3
        go_wp2_with fail
        refine HC.out.mono ?_
        rintro e vx ⟨rfl, rfl⟩
        clear HC HX
        go_wp2_with fail
        refine (num_err 3 _ (HLD.out.below (HBL.out _ _ _ HS5.out).1)).mono ?_
        rintro e v6 ⟨rfl, hb⟩
        have HS6 := Lib.hid (HS5.out.below (HT.out _) hb)
        clear hb HS5
        obtain ⟨H1, h1, _, h3⟩ := HS6.out.call
        have HC := Lib.hid (frames_f h1 (by intro g hg; cases hg) (by decide))
        have HX := Lib.hid h3
        clear h1 h3
        go_wp2_with fail
        refine HC.out.mono ?_
        rintro e v9 ⟨ao9, cap9, nw, rfl, _, _, _, _, _, hb⟩
        have HS9 := Lib.hid (HS6.out.below (HT.out _) hb)
        clear hb HC HX HS6
        have HB := Lib.hid (HBL.out _ _ _ HS9.out).1
        go_wp2_with (go_at_call 8; refine (sure_any _).mono ?_; rintro e v99 ⟨rfl, hb⟩; have HB2 := Lib.hid (HB.out.trans (hb.mono HB.out.size)); clear hb)
        go_ret
        exact ⟨rfl, HB2.out⟩
      obtain ⟨H1, h1, _, h3⟩ := HS2.out.call
      have HC := Lib.hid (show Calls Tryz.prog 10 #[.pointer (some ⟨G, 0, none⟩), .int .i64 2, .int .i64 j] v2 fun e w' => e = .returned .nilIface ∧ Goz (Mc B P 100 r l G M ⟨lad 2, K0, [nf 2 j], 0⟩) v2 H1 w' from begin_f h1 (HBL.out _ _ _ HS2.out).2 rfl 2 j 0 (by decide) (lad_lv (m := 2) (k := 1) (by decide)) (by omega) (by omega))
      have HX := Lib.hid h3
      clear h1 h3
      go_wp2_with fail
      refine HC.out.mono ?_
      rintro e v3 ⟨rfl, hg⟩
      have HS3 := Lib.hid (HX.out _ _ hg)
      clear hg HC HX HS2
      go_wp2_with fail
      refine (num_nil _).mono ?_
      rintro e v4 ⟨rfl, hb⟩
      have HS4 := Lib.hid (HS3.out.below (HT.out _) hb)
      clear hb HS3
      have hok : SOk r l ⟨lad 2, K0, [nf 2 j], 0⟩ := by
        obtain ⟨jn, rfl⟩ := Int.eq_ofNat_of_zero_le (show 0 ≤ j by omega)
        exact (start_ok (b := r) (l := l) (K := K0) (gok_new r l (lad_inv 2 (by decide))) (n := 0) (lad_lv (m := 2) (k := 1) (by decide)) (by decide) (j := jn) (by omega) (by omega) 0).1
      have HOK := Lib.hid hok
      clear hok
      obtain ⟨H1, h1, _, h3⟩ := HS4.out.call
      have HC := Lib.hid (run_zero h1 (HBL.out _ _ _ HS4.out).2 HOK.out (by simp) HMY.out (by decide) (by show (lad 2).length ≤ 100; rw [lad_len]; decide))
      have HX := Lib.hid h3
      clear h1 h3
      go_wp2_with fail
      refine HC.out.mono ?_
      rintro e v5 ⟨rfl, hg⟩
      have HS5 := Lib.hid (HX.out _ _ hg)
      clear hg HC HX HS4
      obtain ⟨H1, h1, _, h3⟩ := HS5.out.call
      have HC := Lib.hid (begin_on h1 (by simp) 2 j)
      have HX := Lib.hid h3
      clear h1 h3
      go_wp2_with fail
      refine HC.out.mono ?_
      rintro e vx ⟨rfl, rfl⟩
      clear HC HX
      go_wp2_with fail
      refine (num_err 14 _ (HLD.out.below (HBL.out _ _ _ HS5.out).1)).mono ?_
      rintro e v6 ⟨rfl, hb⟩
      have HS6 := Lib.hid (HS5.out.below (HT.out _) hb)
      clear hb HS5
      obtain ⟨H1, h1, _, h3⟩ := HS6.out.call
      have HC := Lib.hid (frames_f h1 (by intro g hg; simp at hg; subst hg; exact Nat.zero_le _) (by show 1 ≤ 1000; decide))
      have HX := Lib.hid h3
      clear h1 h3
      go_wp2_with fail
      refine HC.out.mono ?_
      rintro e v7 ⟨ao7, cap7, nw, rfl, _, _, _, _, _, hb⟩
      have HS7 := Lib.hid (HS6.out.below (HT.out _) hb)
      clear hb HC HX HS6
      obtain ⟨H1, h1, _, h3⟩ := HS7.out.call
      have HC := Lib.hid (load_on h1 (by simp) ao7 1 cap7)
      have HX := Lib.hid h3
      clear h1 h3
      go_wp2_with fail
      refine HC.out.mono ?_
      rintro e vx ⟨rfl, rfl⟩
      clear HC HX
      go_wp2_with fail
      refine (num_err 14 _ (HLD.out.below (HBL.out _ _ _ HS7.out).1)).mono ?_
      rintro e v8 ⟨rfl, hb⟩
      have HS8 := Lib.hid (HS7.out.below (HT.out _) hb)
      clear hb HS7
      obtain ⟨H1, h1, _, h3⟩ := HS8.out.call
      have HC := Lib.hid (frames_f h1 (by intro g hg; simp at hg; subst hg; exact Nat.zero_le _) (by show 1 ≤ 1000; decide))
      have HX := Lib.hid h3
      clear h1 h3
      go_wp2_with fail
      refine HC.out.mono ?_
      rintro e v9 ⟨ao9, cap9, nw, rfl, _, _, _, _, _, hb⟩
      have HS9 := Lib.hid (HS8.out.below (HT.out _) hb)
      clear hb HC HX HS8
      have HB := Lib.hid (HBL.out _ _ _ HS9.out).1
      go_wp2_with (go_at_call 8; refine (sure_any _).mono ?_; rintro e v99 ⟨rfl, hb⟩; have HB2 := Lib.hid (HB.out.trans (hb.mono HB.out.size)); clear hb)
      go_ret
      exact ⟨rfl, HB2.out⟩
    · clear h1 h3
      by_cases hj : j < 0
      · obtain ⟨H1, h1, _, h3⟩ := HS2.out.call
        have HC := Lib.hid (begin_bad h1 rfl 3 j 2 (by decide) (lad_lv (m := 2) (k := 2) (by decide)) (decide_eq_false (by omega)))
        have HX := Lib.hid h3
        clear h1 h3
        go_wp2_with fail
        refine HC.out.mono ?_
        rintro e v3 ⟨rfl, hb⟩
        have HS3 := Lib.hid (HS2.out.below (HT.out _) hb)
        clear hb HC HX HS2
        go_wp2_with fail
        refine (num_err 1 _ (HLD.out.below (HBL.out _ _ _ HS3.out).1)).mono ?_
        rintro e v4 ⟨rfl, hb⟩
        have HS4 := Lib.hid (HS3.out.below (HT.out _) hb)
        clear hb HS3
        obtain ⟨H1, h1, _, h3⟩ := HS4.out.call
        have HC := Lib.hid (run_none h1 rfl 3)
        have HX := Lib.hid h3
        clear h1 h3
        go_wp2_with fail
        refine HC.out.mono ?_
        rintro e vx ⟨rfl, rfl⟩
        clear HC HX
        go_wp2_with fail
        refine (num_err 14 _ (HLD.out.below (HBL.out _ _ _ HS4.out).1)).mono ?_
        rintro e v5 ⟨rfl, hb⟩
        have HS5 := Lib.hid (HS4.out.below (HT.out _) hb)
        clear hb HS4
        obtain ⟨H1, h1, _, h3⟩ := HS5.out.call
        have HC := Lib.hid (load_empty h1 rfl)
        have HX := Lib.hid h3
        clear h1 h3
        go_wp2_with fail
        refine HC.out.mono ?_
        rintro e vx ⟨rfl, rfl⟩
        clear HC HX
        go_wp2_with fail
        refine (num_err 3 _ (HLD.out.below (HBL.out _ _ _ HS5.out).1)).mono ?_
        rintro e v6 ⟨rfl, hb⟩
        have HS6 := Lib.hid (HS5.out.below (HT.out _) hb)
        clear hb HS5
        obtain ⟨H1, h1, _, h3⟩ := HS6.out.call
        have HC := Lib.hid (frames_f h1 (by intro g hg; cases hg) (by decide))
        have HX := Lib.hid h3
        clear h1 h3
        go_wp2_with fail
        refine HC.out.mono ?_
        rintro e v9 ⟨ao9, cap9, nw, rfl, _, _, _, _, _, hb⟩
        have HS9 := Lib.hid (HS6.out.below (HT.out _) hb)
        clear hb HC HX HS6
        have HB := Lib.hid (HBL.out _ _ _ HS9.out).1
        go_wp2_with (go_at_call 8; refine (sure_any _).mono ?_; rintro e v99 ⟨rfl, hb⟩; have HB2 := Lib.hid (HB.out.trans (hb.mono HB.out.size)); clear hb)
        go_ret
        exact ⟨rfl, HB2.out⟩
      by_cases hk : 3 < j
      · obtain ⟨H1, h1, _, h3⟩ := HS2.out.call
        have HC := Lib.hid (begin_bad h1 rfl 3 j 2 (by decide) (lad_lv (m := 2) (k := 2) (by decide)) (decide_eq_false (by omega)))
        have HX := Lib.hid h3
        clear h1 h3
        go_wp2_with fail
        refine HC.out.mono ?_
        rintro e v3 ⟨rfl, hb⟩
        have HS3 := Lib.hid (HS2.out.below (HT.out _) hb)
        clear hb HC HX HS2
        go_wp2_with fail
        refine (num_err 1 _ (HLD.out.below (HBL.out _ _ _ HS3.out).1)).mono ?_
        rintro e v4 ⟨rfl, hb⟩
        have HS4 := Lib.hid (HS3.out.below (HT.out _) hb)
        clear hb HS3
        obtain ⟨H1, h1, _, h3⟩ := HS4.out.call
        have HC := Lib.hid (run_none h1 rfl 3)
        have HX := Lib.hid h3
        clear h1 h3
        go_wp2_with fail
        refine HC.out.mono ?_
        rintro e vx ⟨rfl, rfl⟩
        clear HC HX
        go_wp2_with fail
        refine (num_err 14 _ (HLD.out.below (HBL.out _ _ _ HS4.out).1)).mono ?_
        rintro e v5 ⟨rfl, hb⟩
        have HS5 := Lib.hid (HS4.out.below (HT.out _) hb)
        clear hb HS4
        obtain ⟨H1, h1, _, h3⟩ := HS5.out.call
        have HC := Lib.hid (load_empty h1 rfl)
        have HX := Lib.hid h3
        clear h1 h3
        go_wp2_with fail
        refine HC.out.mono ?_
        rintro e vx ⟨rfl, rfl⟩
        clear HC HX
        go_wp2_with fail
        refine (num_err 3 _ (HLD.out.below (HBL.out _ _ _ HS5.out).1)).mono ?_
        rintro e v6 ⟨rfl, hb⟩
        have HS6 := Lib.hid (HS5.out.below (HT.out _) hb)
        clear hb HS5
        obtain ⟨H1, h1, _, h3⟩ := HS6.out.call
        have HC := Lib.hid (frames_f h1 (by intro g hg; cases hg) (by decide))
        have HX := Lib.hid h3
        clear h1 h3
        go_wp2_with fail
        refine HC.out.mono ?_
        rintro e v9 ⟨ao9, cap9, nw, rfl, _, _, _, _, _, hb⟩
        have HS9 := Lib.hid (HS6.out.below (HT.out _) hb)
        clear hb HC HX HS6
        have HB := Lib.hid (HBL.out _ _ _ HS9.out).1
        go_wp2_with (go_at_call 8; refine (sure_any _).mono ?_; rintro e v99 ⟨rfl, hb⟩; have HB2 := Lib.hid (HB.out.trans (hb.mono HB.out.size)); clear hb)
        go_ret
        exact ⟨rfl, HB2.out⟩
      obtain ⟨H1, h1, _, h3⟩ := HS2.out.call
      have HC := Lib.hid (show Calls Tryz.prog 10 #[.pointer (some ⟨G, 0, none⟩), .int .i64 3, .int .i64 j] v2 fun e w' => e = .returned .nilIface ∧ Goz (Mc B P 100 r l G M ⟨lad 2, K0, [nf 3 j], 0⟩) v2 H1 w' from begin_f h1 (HBL.out _ _ _ HS2.out).2 rfl 3 j 1 (by decide) (lad_lv (m := 2) (k := 2) (by decide)) (by omega) (by omega))
      have HX := Lib.hid h3
      clear h1 h3
      go_wp2_with fail
      refine HC.out.mono ?_
      rintro e v3 ⟨rfl, hg⟩
      have HS3 := Lib.hid (HX.out _ _ hg)
      clear hg HC HX HS2
      go_wp2_with fail
      refine (num_nil _).mono ?_
      rintro e v4 ⟨rfl, hb⟩
      have HS4 := Lib.hid (HS3.out.below (HT.out _) hb)
      clear hb HS3
      have hok : SOk r l ⟨lad 2, K0, [nf 3 j], 0⟩ := by
        obtain ⟨jn, rfl⟩ := Int.eq_ofNat_of_zero_le (show 0 ≤ j by omega)
        exact (start_ok (b := r) (l := l) (K := K0) (gok_new r l (lad_inv 2 (by decide))) (n := 1) (lad_lv (m := 2) (k := 2) (by decide)) (by decide) (j := jn) (by omega) (by omega) 0).1
      have HOK := Lib.hid hok
      clear hok
      obtain ⟨H1, h1, _, h3⟩ := HS4.out.call
      have HC := Lib.hid (run_zero h1 (HBL.out _ _ _ HS4.out).2 HOK.out (by simp) HMY.out (by decide) (by show (lad 2).length ≤ 100; rw [lad_len]; decide))
      have HX := Lib.hid h3
      clear h1 h3
      go_wp2_with fail
      refine HC.out.mono ?_
      rintro e v5 ⟨rfl, hg⟩
      have HS5 := Lib.hid (HX.out _ _ hg)
      clear hg HC HX HS4
      obtain ⟨H1, h1, _, h3⟩ := HS5.out.call
      have HC := Lib.hid (begin_on h1 (by simp) 3 j)
      have HX := Lib.hid h3
      clear h1 h3
      go_wp2_with fail
      refine HC.out.mono ?_
      rintro e vx ⟨rfl, rfl⟩
      clear HC HX
      go_wp2_with fail
      refine (num_err 14 _ (HLD.out.below (HBL.out _ _ _ HS5.out).1)).mono ?_
      rintro e v6 ⟨rfl, hb⟩
      have HS6 := Lib.hid (HS5.out.below (HT.out _) hb)
      clear hb HS5
      obtain ⟨H1, h1, _, h3⟩ := HS6.out.call
      have HC := Lib.hid (frames_f h1 (by intro g hg; simp at hg; subst hg; exact Nat.zero_le _) (by show 1 ≤ 1000; decide))
      have HX := Lib.hid h3
      clear h1 h3
      go_wp2_with fail
      refine HC.out.mono ?_
      rintro e v7 ⟨ao7, cap7, nw, rfl, _, _, _, _, _, hb⟩
      have HS7 := Lib.hid (HS6.out.below (HT.out _) hb)
      clear hb HC HX HS6
      obtain ⟨H1, h1, _, h3⟩ := HS7.out.call
      have HC := Lib.hid (load_on h1 (by simp) ao7 1 cap7)
      have HX := Lib.hid h3
      clear h1 h3
      go_wp2_with fail
      refine HC.out.mono ?_
      rintro e vx ⟨rfl, rfl⟩
      clear HC HX
      go_wp2_with fail
      refine (num_err 14 _ (HLD.out.below (HBL.out _ _ _ HS7.out).1)).mono ?_
      rintro e v8 ⟨rfl, hb⟩
      have HS8 := Lib.hid (HS7.out.below (HT.out _) hb)
      clear hb HS7
      obtain ⟨H1, h1, _, h3⟩ := HS8.out.call
      have HC := Lib.hid (frames_f h1 (by intro g hg; simp at hg; subst hg; exact Nat.zero_le _) (by show 1 ≤ 1000; decide))
      have HX := Lib.hid h3
      clear h1 h3
      go_wp2_with fail
      refine HC.out.mono ?_
      rintro e v9 ⟨ao9, cap9, nw, rfl, _, _, _, _, _, hb⟩
      have HS9 := Lib.hid (HS8.out.below (HT.out _) hb)
      clear hb HC HX HS8
      have HB := Lib.hid (HBL.out _ _ _ HS9.out).1
      go_wp2_with (go_at_call 8; refine (sure_any _).mono ?_; rintro e v99 ⟨rfl, hb⟩; have HB2 := Lib.hid (HB.out.trans (hb.mono HB.out.size)); clear hb)
      go_ret
      exact ⟨rfl, HB2.out⟩
end Go.Proofs.YtkefjkfknegogaaGreatDoor.Fm

/-
  THE WALK of GrowErrors. Conditions: what came in could be read; what is laid, lies.
-/
import Derived.Test.YtgimphkamjojpaaDoorE47
import Derived.Test.YtgimphkamjojpaaDoorE48
import Derived.Test.YtgimphkamjojpaaDoorE50
namespace Go.Proofs.YtgimphkamjojpaaDoor
open Go.RowKit Ti Qd Go.Maps Go.WideMaps Ru

/-- a rule in a box, since a world -/
structure RuAt (W w : World) (r l : Nat) : Prop where
  rule : w.heap[W.heap.size]? = some (.cells #[.int .u16 r, .int .u16 l] 24)
  below : Below W.heap.size W w
theorem RuAt.on {W w w2 : World} {r l : Nat} (h : RuAt W w r l) (k : Below w.heap.size w w2) : RuAt W w2 r l := ⟨(k.block _ (lt_of_block h.rule)).trans h.rule, h.below.trans (k.mono h.below.size)⟩
theorem RuAt.on2 {W w w2 : World} {r l B : Nat} (h : RuAt W w r l) (k : Below B w w2) (hB : W.heap.size < B) : RuAt W w2 r l := ⟨(k.block _ hB).trans h.rule, h.below.trans (k.mono (Nat.le_of_lt hB))⟩
theorem ru_start (r l : Nat) (W : World) : RuAt W (W.alloc (.cells #[.int .u16 r, .int .u16 l] 24)) r l := ⟨heap_alloc_new W _, alX W _⟩
/-- a rule in a box, and an empty store -/
structure Er (W w : World) (r l B P : Nat) (H : Nat → Prop) : Prop where
  ru : RuAt W w r l
  st : St B w P [] 100 H
  lo : W.heap.size < B
  le : B ≤ w.heap.size
theorem Er.on {W w w2 : World} {r l B P : Nat} {H : Nat → Prop} (h : Er W w r l B P H) (k : Below w.heap.size w w2) : Er W w2 r l B P H := ⟨h.ru.on k, h.st.below k (Nat.le_refl _), h.lo, Nat.le_trans h.le k.size⟩
/-- a store of one tile -/
theorem one_leaf : ∃ L, put [] (leafQ 5#64) = L ∧ nr [] (leafQ 5#64) = 1 ∧ (∀ id, Ok L id ↔ id = 1) ∧ Lv L 0 1 ∧ Inv L ∧ L.length = 1 := by
  refine ⟨_, rfl, by decide +kernel, fun id => ?_, ?_, ?_, by decide +kernel⟩
  · unfold Ok
    rw [show (put [] (leafQ 5#64)).length = 1 by decide +kernel]
    omega
  · refine ⟨?_, ?_⟩
    · unfold Ok
      rw [show (put [] (leafQ 5#64)).length = 1 by decide +kernel]
      omega
    · decide +kernel
  · exact inv_nil.leaf 5#64
theorem leaf_wide (r l : Nat) {L : List Sq} (hi : Inv L) (hl : Lv L 0 1) (h1 : L.length = 1) : (wideG (L, fun _ _ => none) 0 1).1.1.length ≤ 100 := by
  have ra := wide_res (s := (L, fun _ _ => none)) (gok_new r l hi) (n := 0) (by decide) (solo_wn hl) (solo_alone L 0 1)
  have := ra.len
  have e : ((L, fun _ _ => none) : GS).1.length = 1 := h1
  omega
set_option maxRecDepth 100000 in
set_option maxHeartbeats 16000000 in
theorem err_walk (r l : Nat) (id j : Int) (W : World) (w0 : r < 65536 ∧ l < 65536) (_w1 : (Lit.int .i64 id).wf = true) (_w2 : (Lit.int .i64 j).wf = true) (hlaid : Laid W) :
    Calls Tryd.prog 4 #[.agg #[.int .u16 r, .int .u16 l], .int .i64 id, .int .i64 j] W fun e w' => e = .returned (.bool true) ∧ Below W.heap.size W w' := by
  have HLD := Lib.hid hlaid
  have HR0 := Lib.hid (ru_start r l W)
  have HM := Lib.hid (show ∀ w, Calls Tryd.prog 5 #[.agg #[.int .u16 r, .int .u16 l]] w fun e w' => e = .returned (.bool (mayR r l)) ∧ Below w.heap.size w w' from fun w => may_ref r l w)
  have HW0 := Lib.hid w0
  clear hlaid w0 _w1 _w2
  go_enter Tryd.func4, Tryd.ntmps4
  go_wp2_with fail
  refine (center_nil id _).mono ?_
  rintro e wx ⟨rfl, rfl⟩
  go_wp2_with fail
  refine (growN_nil id j _).mono ?_
  rintro e wx ⟨rfl, rfl⟩
  go_wp2_with fail
  refine (wide_nil id _).mono ?_
  rintro e wx ⟨rfl, rfl⟩
  go_wp2_with fail
  refine (gnew_nil 0 0 _).mono ?_
  rintro e w1 ⟨rfl, hb⟩
  have HR1 := Lib.hid (HR0.out.on hb)
  clear hb HR0
  have HN := Lib.hid (new_lit 100 100 rfl w1 (by decide) (by decide))
  go_wp2_with fail
  refine HN.out.mono ?_
  rintro e w2 ⟨P, H, rfl, hs, hb⟩
  have HE2 := Lib.hid (show Er W w2 r l w1.heap.size P H from ⟨HR1.out.on hb, hs, lt_of_block HR1.out.rule, hb.size⟩)
  clear hs hb HN HR1
  generalize w1.heap.size = B at HE2
  go_wp2_with fail
  refine (num_err 1 _ (HLD.out.below HE2.out.ru.below)).mono ?_
  rintro e w3 ⟨rfl, hb⟩
  have HE3 := Lib.hid (HE2.out.on hb)
  clear hb HE2
  go_wp2_with fail
  refine (num_err 1 _ (HLD.out.below HE3.out.ru.below)).mono ?_
  rintro e w4 ⟨rfl, hb⟩
  have HE4 := Lib.hid (HE3.out.on hb)
  clear hb HE3
  go_wp2_with fail
  refine (num_err 1 _ (HLD.out.below HE4.out.ru.below)).mono ?_
  rintro e w5 ⟨rfl, hb⟩
  have HE5 := Lib.hid (HE4.out.on hb)
  clear hb HE4
  go_wp2_with fail
  refine (known_nil _).mono ?_
  rintro e wx ⟨rfl, rfl⟩
  go_wp2_with fail
  refine (num_err 1 _ (HLD.out.below HE5.out.ru.below)).mono ?_
  rintro e w6 ⟨rfl, hb⟩
  have HE6 := Lib.hid (HE5.out.on hb)
  clear hb HE5
  obtain ⟨c0, c1⟩ := two_cells HE6.out.ru.rule
  cases hm : mayR r l with
  | false =>
    rw [hm] at HM
    have HG := Lib.hid (show Calls Tryd.prog 8 #[.pointer (some ⟨P, 0, none⟩), .agg #[.int .u16 r, .int .u16 l]] w6 fun e w' => e = .returned (.tuple #[.pointer none, .iface 56 (.int .i64 11)]) ∧ Below w6.heap.size w6 w' from gnew_bad P r l HW0.out.1 HW0.out.2 hm w6)
    clear hm
    go_wp2_with fail
    refine HG.out.mono ?_
    rintro e v1 ⟨rfl, hb⟩
    have HE := Lib.hid (HE6.out.on hb)
    clear hb HE6 c0 c1 HG
    obtain ⟨c0, c1⟩ := two_cells HE.out.ru.rule
    go_wp2_with fail
    refine (HM.out _).mono ?_
    rintro e v2 ⟨rfl, hb⟩
    have HF := Lib.hid (HE.out.on hb)
    clear hb HE c0 c1
    go_wp2_with fail
    refine (num_err 11 _ (HLD.out.below HF.out.ru.below)).mono ?_
    rintro e v3 ⟨rfl, hb⟩
    have HB := Lib.hid (HF.out.on hb).ru.below
    clear hb HF
    go_wp2_with (go_at_call 6; refine (sure_any _).mono ?_; rintro e v4 ⟨rfl, hb⟩; have HB2 := Lib.hid (HB.out.trans (hb.mono HB.out.size)); clear hb)
    go_ret
    exact ⟨rfl, HB2.out⟩
  | true =>
    rw [hm] at HM
    have HMY := Lib.hid hm
    clear hm
    have HG := Lib.hid (show Calls Tryd.prog 8 #[.pointer (some ⟨P, 0, none⟩), .agg #[.int .u16 r, .int .u16 l]] w6 (GMade B w6 P r l 100 [] H) from gnew_ok HE6.out.st HE6.out.le r l HMY.out)
    go_wp2_with fail
    refine HG.out.mono ?_
    rintro e v0 ⟨G, M, H', rfl, hgr, hst⟩
    have HR := Lib.hid (HE6.out.ru.on2 (hst.below (fun x hx => (HE6.out.st.lt x hx).1) HE6.out.le) HE6.out.lo)
    have HBL := Lib.hid (show ∀ s bx w, Gs B v0 H' G P M r l 100 s bx w → Below W.heap.size W w from by
      have h1 := HR.out.below
      have h2 := fun x hx => (hgr.lt x hx).1
      have h3 := Nat.le_trans HE6.out.le hst.size
      have h4 := Nat.le_of_lt HE6.out.lo
      exact fun s bx w gs => h1.trans ((gs.bel h2 h3).mono h4))
    have HS := Lib.hid (Gs.start hgr)
    clear hgr hst HG c0 c1 HE6
    obtain ⟨c0, c1⟩ := two_cells HR.out.rule
    go_wp2_with fail
    refine (HM.out _).mono ?_
    rintro e v1 ⟨rfl, hb⟩
    have HS1 := Lib.hid (HS.out.below hb)
    clear hb HS c0 c1 HR
    obtain ⟨L, hL, hn, hok, hlv, hinv, hlen⟩ := one_leaf
    obtain ⟨Hs, hst, _, hgo⟩ := HS1.out.store2
    have hC : Calls Tryd.prog 19 #[.pointer (some ⟨P, 0, none⟩), .int .u64 5] v1 fun e w' => e = .returned (.tuple #[.int .i64 1, .nilIface]) ∧ Goes B v1 P 100 Hs L w' := by
      have := leaf_ok hst 5#64 (by show (put [] (leafQ 5#64)).length ≤ 100; rw [hL, hlen]; decide)
      rw [show put _ (leafQ 5#64) = L from hL, show nr _ (leafQ 5#64) = 1 from hn] at this
      exact this
    have HC := Lib.hid hC
    have HX := Lib.hid hgo
    have HL := Lib.hid (And.intro hok (And.intro hlv (And.intro hinv hlen)))
    clear hL hn hok hlv hinv hlen hst hgo hC
    go_wp2_with fail
    refine HC.out.mono ?_
    rintro e v2 ⟨rfl, hg⟩
    have HS2 := Lib.hid (HX.out _ _ hg)
    clear hg HC HX HS1
    obtain ⟨H1, h1, _⟩ := HS2.out.call
    have HC := Lib.hid (known_zero h1)
    clear h1
    go_wp2_with fail
    refine HC.out.mono ?_
    rintro e wx ⟨rfl, rfl⟩
    clear HC
    obtain ⟨H1, h1, _⟩ := HS2.out.call
    have HC := Lib.hid (center_leaf h1 1 HL.out.2.1)
    clear h1
    go_wp2_with fail
    refine HC.out.mono ?_
    rintro e v3 ⟨rfl, hb⟩
    have HS3 := Lib.hid (HS2.out.below hb)
    clear hb HC HS2
    obtain ⟨H1, h1, _⟩ := HS3.out.call
    have HC := Lib.hid (growN_leaf h1 1 j HL.out.2.1)
    clear h1
    go_wp2_with fail
    refine HC.out.mono ?_
    rintro e v4 ⟨rfl, hb⟩
    have HS4 := Lib.hid (HS3.out.below hb)
    clear hb HC HS3
    by_cases hid : id = 1
    · subst hid
      obtain ⟨H1, h1, _⟩ := HS4.out.call
      have HC := Lib.hid (center_leaf h1 1 HL.out.2.1)
      clear h1
      go_wp2_with fail
      refine HC.out.mono ?_
      rintro e v5 ⟨rfl, hb⟩
      have HS5 := Lib.hid (HS4.out.below hb)
      clear hb HC HS4
      obtain ⟨H1, h1, _⟩ := HS5.out.call
      have HC := Lib.hid (growN_leaf h1 1 j HL.out.2.1)
      clear h1
      go_wp2_with fail
      refine HC.out.mono ?_
      rintro e v6 ⟨rfl, hb⟩
      have HS6 := Lib.hid (HS5.out.below hb)
      clear hb HC HS5
      obtain ⟨A, hA⟩ : ∃ A, A = wideG (L, fun _ _ => none) 0 1 := ⟨_, rfl⟩
      have lA := leaf_wide r l HL.out.2.2.1 HL.out.2.1 HL.out.2.2.2
      obtain ⟨H1, h1, h2⟩ := HS6.out.call
      have HC := Lib.hid (show Calls Tryd.prog 17 #[.pointer (some ⟨G, 0, none⟩), .int .i64 1] v6 fun e w' => e = .returned (.tuple #[.int .i64 A.2, .nilIface]) ∧ Gt B v6 G P M r l 100 H1 A.1 w' from by
        rw [hA]
        exact wideP_ok h1 (gok_new r l HL.out.2.2.1) 0 (by decide) 1 HL.out.2.1 lA)
      have HX := Lib.hid h2
      clear h1 h2 hA lA
      go_wp2_with fail
      refine HC.out.mono ?_
      rintro e v7 ⟨rfl, hg⟩
      have HS7 := Lib.hid (HX.out _ _ hg)
      clear hg HC HX HS6
      go_wp2_with fail
      refine (num_err 1 _ (HLD.out.below (HBL.out _ _ _ HS7.out))).mono ?_
      rintro e v8 ⟨rfl, hb⟩
      have HS8 := Lib.hid (HS7.out.below hb)
      clear hb HS7
      go_wp2_with fail
      refine (num_err 1 _ (HLD.out.below (HBL.out _ _ _ HS8.out))).mono ?_
      rintro e v9 ⟨rfl, hb⟩
      have HS9 := Lib.hid (HS8.out.below hb)
      clear hb HS8
      have HB := Lib.hid (HBL.out _ _ _ HS9.out)
      go_wp2_with (go_at_call 6; refine (sure_any _).mono ?_; rintro e v99 ⟨rfl, hb⟩; have HB2 := Lib.hid (HB.out.trans (hb.mono HB.out.size)); clear hb)
      go_ret
      exact ⟨rfl, HB2.out⟩
    · have hno : ¬ Ok L id := fun q => hid ((HL.out.1 id).1 q)
      have HNO := Lib.hid hno
      clear hno
      obtain ⟨H1, h1, _⟩ := HS4.out.call
      have HC := Lib.hid (center_none h1 id HNO.out)
      clear h1
      go_wp2_with fail
      refine HC.out.mono ?_
      rintro e v5 ⟨rfl, hb⟩
      have HS5 := Lib.hid (HS4.out.below hb)
      clear hb HC HS4
      obtain ⟨H1, h1, _⟩ := HS5.out.call
      have HC := Lib.hid (growN_none h1 id j HNO.out)
      clear h1
      go_wp2_with fail
      refine HC.out.mono ?_
      rintro e v6 ⟨rfl, hb⟩
      have HS6 := Lib.hid (HS5.out.below hb)
      clear hb HC HS5
      obtain ⟨H1, h1, _⟩ := HS6.out.call
      have HC := Lib.hid (wide_none h1 id HNO.out)
      clear h1
      go_wp2_with fail
      refine HC.out.mono ?_
      rintro e v7 ⟨rfl, hb⟩
      have HS7 := Lib.hid (HS6.out.below hb)
      clear hb HC HS6
      go_wp2_with fail
      refine (num_err 1 _ (HLD.out.below (HBL.out _ _ _ HS7.out))).mono ?_
      rintro e v8 ⟨rfl, hb⟩
      have HS8 := Lib.hid (HS7.out.below hb)
      clear hb HS7
      go_wp2_with fail
      refine (num_err 1 _ (HLD.out.below (HBL.out _ _ _ HS8.out))).mono ?_
      rintro e v9 ⟨rfl, hb⟩
      have HS9 := Lib.hid (HS8.out.below hb)
      clear hb HS8
      go_wp2_with fail
      refine (num_err 8 _ (HLD.out.below (HBL.out _ _ _ HS9.out))).mono ?_
      rintro e v10 ⟨rfl, hb⟩
      have HS10 := Lib.hid (HS9.out.below hb)
      clear hb HS9
      go_wp2_with fail
      refine (num_err 8 _ (HLD.out.below (HBL.out _ _ _ HS10.out))).mono ?_
      rintro e v11 ⟨rfl, hb⟩
      have HS11 := Lib.hid (HS10.out.below hb)
      clear hb HS10
      go_wp2_with fail
      refine (num_err 8 _ (HLD.out.below (HBL.out _ _ _ HS11.out))).mono ?_
      rintro e v12 ⟨rfl, hb⟩
      have HS12 := Lib.hid (HS11.out.below hb)
      clear hb HS11
      have HB := Lib.hid (HBL.out _ _ _ HS12.out)
      go_wp2_with (go_at_call 6; refine (sure_any _).mono ?_; rintro e v99 ⟨rfl, hb⟩; have HB2 := Lib.hid (HB.out.trans (hb.mono HB.out.size)); clear hb)
      go_ret
      exact ⟨rfl, HB2.out⟩
end Go.Proofs.YtgimphkamjojpaaDoor

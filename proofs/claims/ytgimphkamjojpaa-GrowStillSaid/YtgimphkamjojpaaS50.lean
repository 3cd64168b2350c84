/-
  THE WALK of GrowStill. Conditions: what came in could be read.
-/
import Derived.Test.YtgimphkamjojpaaS48
import Derived.Test.YtgimphkamjojpaaS49
namespace Go.Proofs.Ytgimphkamjojpaa
open Go.RowKit Ti Qd Go.Maps Go.WideMaps Ru

theorem set_int {B : Nat} {P : Nat} {room : Nat} (n : Nat) (L : List Sq) (H : Nat → Prop) (id : Int) (x y : Nat) (xi yi : Int) (ex : xi = x) (ey : yi = y) (w : World) (h : St B w P L room H) (hl : Lv L n id) (hn : n ≤ 37) (hx : x < 2 ^ (n + 3)) (hy : y < 2 ^ (n + 3)) (hr : (setQ L n id x y true).1.length ≤ room) :
    Calls Try.prog 17 #[.pointer (some ⟨P, 0, none⟩), .int .i64 id, .int .i64 xi, .int .i64 yi, .bool true] w fun e w' => e = .returned (.tuple #[.int .i64 (setQ L n id x y true).2, .nilIface]) ∧ Goes B w P room H (setQ L n id x y true).1 w' := by
  subst ex ey
  exact set_is true n L H id x y w h hl hn hx hy hr
theorem growP_int {B : Nat} {w : World} {G P M b l : Nat} {s : GS} {room : Nat} {H : Nat → Prop} (hm : mayR b l = true) (h : Gr B w G P M b l s room H) (hk : GOk b l s) (m : Nat) (h36 : m ≤ 36) (id : Int) (hl : Lv s.1 (m + 1) id) (j : Nat) (ji : Int) (ej : ji = j) (hj : j ≤ m + 2) (hr : (growQ b l m s id j).1.1.length ≤ room) :
    Calls Try.prog 15 #[.pointer (some ⟨G, 0, none⟩), .int .i64 id, .int .i64 ji] w fun e w' => e = .returned (.tuple #[.int .i64 (growQ b l m s id j).2, .nilIface]) ∧ Gt B w G P M b l room H (growQ b l m s id j).1 w' := by
  subst ej
  exact growP_ok hm h hk m h36 id hl j hj hr
/-- a block is laid, so far -/
structure LyI (n X Y : Nat) (none_ : Int) (k : Nat) (L : List Sq) (id : Int) : Prop where
  inv : Inv L
  win : Wn L n id (Qd.bq X Y k) 0 0
  zr : Wn L n none_ zr 0 0
  len : L.length ≤ (k + 1) * (n + 1)
theorem LyI.next {n X Y : Nat} {none_ : Int} {k : Nat} {L : List Sq} {id : Int} (h : LyI n X Y none_ k L id) (hn : n ≤ 37) (hx : X + 1 < 2 ^ (n + 3)) (hy : Y + 1 < 2 ^ (n + 3)) (hk : k < 4) : LyI n X Y none_ (k + 1) (setQ L n id (X + k % 2) (Y + k / 2) true).1 (setQ L n id (X + k % 2) (Y + k / 2) true).2 := by
  have so := Qd.set_ok h.inv n id (X + k % 2) (Y + k / 2) true h.win.1 hn (by omega) (by omega)
  exact ⟨so.inv, set_wn h.inv hn h.win _ _ (by omega) (by omega), h.zr.ext h.inv so.ext, by have := so.len; have := h.len; rw [Nat.succ_mul]; omega⟩
/-- boxes of the statement's own, since a world -/
structure AtAt (W w : World) (r l : Nat) (u v : Int) : Prop where
  rule : w.heap[W.heap.size]? = some (.cells #[.int .u16 r, .int .u16 l] 24)
  at_ : w.heap[W.heap.size + 1]? = some (.cells #[.int .i64 u, .int .i64 v] 45)
  below : Below W.heap.size W w
theorem AtAt.on {W w w2 : World} {r l B : Nat} {u v : Int} (h : AtAt W w r l u v) (k : Below B w w2) (hB : W.heap.size + 1 < B) : AtAt W w2 r l u v := ⟨(k.block _ (by omega)).trans h.rule, (k.block _ hB).trans h.at_, h.below.trans (k.mono (by omega))⟩
theorem at_start (r l : Nat) (u v : Int) (W : World) : AtAt W ((W.alloc (.cells #[.int .u16 r, .int .u16 l] 24)).alloc (.cells #[.int .i64 u, .int .i64 v] 45)) r l u v := by
  have h := two_boxes W (.cells #[.int .u16 r, .int .u16 l] 24) (.cells #[.int .i64 u, .int .i64 v] 45)
  exact ⟨h.1, h.2.1, h.2.2.1⟩
set_option maxRecDepth 100000 in
set_option maxHeartbeats 16000000 in
theorem still_walk (r l : Nat) (c : Int × Int) (k : Int) (W : World) (_w0 : r < 65536 ∧ l < 65536) (w1 : (-9223372036854775808 ≤ c.1 ∧ c.1 ≤ 9223372036854775807) ∧ (-9223372036854775808 ≤ c.2 ∧ c.2 ≤ 9223372036854775807)) (_w2 : (Lit.int .i64 k).wf = true) :
    Calls Try.prog 4 #[.agg #[.int .u16 r, .int .u16 l], .agg #[.int .i64 c.1, .int .i64 c.2], .int .i64 k] W fun e w' => e = .returned (.bool true) ∧ Below W.heap.size W w' := by
  obtain ⟨cu, cv⟩ := c
  obtain ⟨p, hp, ep⟩ := red_nat k 20 (by decide) (by decide)
  obtain ⟨N, hN⟩ : ∃ N, N = p + 1 := ⟨_, rfl⟩
  obtain ⟨lv, hlv⟩ : ∃ lv : Int, lv = (N : Int) + 4 := ⟨_, rfl⟩
  have HEP := Lib.hid (show wrap64 (5 + wrap64 ((IntKind.u64.wrap k).tmod 20)) = lv from by
    have ep2 : wrap64 ((IntKind.u64.wrap k).tmod 20) = (p : Int) := ep
    rw [ep2, hlv]
    unfold wrap64
    omega)
  have HLV := Lib.hid (And.intro hlv (show N ≤ 20 ∧ 1 ≤ N by omega))
  have HU := Lib.hid (show ∃ q : Nat, q < 12 ∧ wrap64 ((IntKind.u64.wrap cu).tmod 12) = (q : Int) from red_nat cu 12 (by decide) (by decide))
  have HV := Lib.hid (show ∃ q : Nat, q < 12 ∧ wrap64 ((IntKind.u64.wrap cv).tmod 12) = (q : Int) from red_nat cv 12 (by decide) (by decide))
  have HMAY := Lib.hid (fun w => may_ref r l w)
  have HA0 := Lib.hid (at_start r l cu cv W)
  have HSZ0 := Lib.hid (show ((W.alloc (.cells #[.int .u16 r, .int .u16 l] 24)).alloc (.cells #[.int .i64 cu, .int .i64 cv] 45)).heap.size = W.heap.size + 2 by simp)
  have lv0 : (5 : Int) ≤ lv := by omega
  have lv1 : lv ≤ 24 := by omega
  clear hp ep hN hlv _w0 w1 _w2
  go_enter Try.func4, Try.ntmps4
  go_upto_region 2 with (fail)
  generalize ((W.alloc (.cells #[.int .u16 r, .int .u16 l] 24)).alloc (.cells #[.int .i64 cu, .int .i64 cv] 45)) = W0 at HA0 HSZ0 ⊢
  rw [HEP.out]
  have HN := Lib.hid (new_lit 3000 3000 rfl W0 (by decide) (by decide))
  go_wp2_with fail
  refine HN.out.mono ?_
  rintro e w1 ⟨P, H, rfl, hs, hb⟩
  have HR1 := Lib.hid (HA0.out.on hb (by have := HSZ0.out; omega))
  have HB1 := Lib.hid hb
  have HG := Lib.hid (show Calls Try.prog 9 #[.pointer (some ⟨P, 0, none⟩), .agg #[.int .u16 8, .int .u16 12]] w1 (GMade W0.heap.size w1 P 8 12 3000 [] H) from gnew_ok hs hb.size 8 12 (by decide))
  have HS1 := Lib.hid (fun x hx => (hs.lt x hx).1)
  clear hs hb HN HA0
  go_wp2_with fail
  refine HG.out.mono ?_
  rintro e w2 ⟨G, M, H', rfl, hgr, hst⟩
  have HR2 := Lib.hid (HR1.out.on (hst.below HS1.out HB1.out.size) (by have := HSZ0.out; omega))
  have HH := Lib.hid (show (∀ x, H' x → W0.heap.size ≤ x) ∧ W0.heap.size ≤ w2.heap.size ∧ W.heap.size + 1 < W0.heap.size from ⟨fun x hx => (hgr.lt x hx).1, Nat.le_trans HB1.out.size hst.size, by have := HSZ0.out; omega⟩)
  have HS := Lib.hid (Gs.start hgr)
  clear hgr hst HG HS1 HB1 HR1 HSZ0
  generalize W0.heap.size = B at *
  obtain ⟨u, hu, eu⟩ := HU.out
  obtain ⟨v, hv, ev⟩ := HV.out
  obtain ⟨D, hD⟩ : ∃ D, D = 2 ^ (N + 3) := ⟨_, rfl⟩
  have hD16 : 16 ≤ D := by
    have : 2 ^ 4 ≤ 2 ^ (N + 3) := Nat.pow_le_pow_right (by decide) (by have := HLV.out.2; omega)
    omega
  have hDl : D ≤ 2 ^ 23 := by
    rw [hD]
    exact Nat.pow_le_pow_right (by decide) (by have := HLV.out.2; omega)
  have hD2 : 2 ^ (N + 1 + 3) = 2 * D := by rw [hD, show N + 1 + 3 = (N + 3) + 1 by omega, Nat.pow_succ]; omega
  have HUV := Lib.hid (And.intro hu (And.intro eu (And.intro hv ev)))
  have HD := Lib.hid (And.intro hD (And.intro hD16 (And.intro hDl hD2)))
  obtain ⟨E, hE⟩ : ∃ E : List Sq × Int, E = emp [] (N + 1) := ⟨_, rfl⟩
  have he := Qd.emp_ok inv_nil (N + 1) (by have := HLV.out.2; omega)
  have hw := emp_wn inv_nil (n := N + 1) (by have := HLV.out.2; omega)
  rw [← hE] at he hw
  have hY0 : LyI (N + 1) (D - 8 + u) (D - 8 + v) E.2 0 E.1 E.2 := ⟨he.inv, hw, hw, by have := he.len; simp only [List.length_nil] at this; omega⟩
  have HY0 := Lib.hid hY0
  obtain ⟨Hs, hst, hno, hgo⟩ := HS.out.store2
  have hC := empty_ok hst (N + 1) lv (by have := HLV.out.1; omega) (by have := HLV.out.2; omega) (by rw [← hE]; have := hY0.len; have := HLV.out.2; omega)
  rw [← hE] at hC
  have HC := Lib.hid hC
  have HX := Lib.hid hgo
  have HSH := Lib.hid (show wrap64 (2 ^ (lv.toNat - 1)) = (D : Int) from by
    rw [show lv.toNat - 1 = N + 3 by have := HLV.out.1; omega, hD]
    have : ((2 ^ (N + 3) : Nat) : Int) = (2 : Int) ^ (N + 3) := by push_cast; rfl
    rw [← this, ← hD]
    exact wrap_small (by omega))
  clear hu eu hv ev hD hD16 hDl hD2 he hw hY0 hst hno hgo hC HU HV hE
  go_wp2_with fail
  refine HC.out.mono ?_
  rintro e w3 ⟨rfl, hg⟩
  have HS3 := Lib.hid (HX.out _ _ hg)
  clear hg HC HX HS
  go_upto_region 9 with (fail)
  rw [HSH.out]
  have HR3 := Lib.hid (HR2.out.on (HS3.out.bel HH.out.1 HH.out.2.1) HH.out.2.2)
  obtain ⟨c0, c1⟩ := two_cells HR3.out.at_
  have d1 : (16 : Int) ≤ (D : Int) := by have := HD.out.2.1; omega
  have d2 : (D : Int) ≤ 8388608 := by have := HD.out.2.2.1; omega
  go_quiet (fail)
  go_upto_region 10 with (fail)
  have HS4 := Lib.hid (HS3.out.below (Below.drewN' (Below.refl _ _) nq))
  generalize w3.drewN nq = w4 at HS4 ⊢
  obtain ⟨X, hX⟩ : ∃ X, X = D - 8 + u := ⟨_, rfl⟩
  obtain ⟨Y, hY⟩ : ∃ Y, Y = D - 8 + v := ⟨_, rfl⟩
  rw [← hX, ← hY] at HY0
  have HXY := Lib.hid (show X + 1 < 2 * D ∧ Y + 1 < 2 * D from by have := HUV.out; have := HD.out.2.1; omega)
  rw [show wrap64 ((D : Int) - 8 + wrap64 ((IntKind.u64.wrap cu).tmod 12)) = (X : Int) from by rw [HUV.out.2.1]; have := HUV.out.1; unfold wrap64; omega, show wrap64 ((D : Int) - 8 + wrap64 ((IntKind.u64.wrap cv).tmod 12)) = (Y : Int) from by rw [HUV.out.2.2.2]; have := HUV.out.2.2.1; unfold wrap64; omega]
  have x0 : (X : Int) ≤ 16777216 := by have := HXY.out.1; omega
  have y0 : (Y : Int) ≤ 16777216 := by have := HXY.out.2; omega
  clear hX hY c0 c1 HUV HS3 HR3 HSH
  go_wp2
  go_loopw [12, 13, 18] (fun a c i wr => ∃ (kk : Nat) (L : List Sq) (id : Int), kk ≤ 4 ∧ a = .int .i64 id ∧ c = .nilIface ∧ i = .int .i64 kk ∧ Hid (LyI (N + 1) X Y E.2 kk L id) ∧ Hid (Gs B w2 H' G P M 8 12 3000 (L, fun _ _ => none) [] wr)) (fun _ _ i _ => 4 - (intOf i).toNat)
  case atStart => exact ⟨0, E.1, E.2, by omega, rfl, rfl, rfl, HY0, HS4⟩
  case round =>
    clear HS4 HY0
    obtain ⟨kk, L, id, hk, rfl, rfl, rfl, HY, HS⟩ := hrel
    have k0 : (0 : Int) ≤ (kk : Int) := by omega
    by_cases hlt : kk < 4
    · have k1 : (kk : Int) < 4 := by omega
      have HLT := Lib.hid hlt
      have hy := HY.out.next (by have := HLV.out.2; omega) (by rw [HD.out.2.2.2]; exact HXY.out.1) (by rw [HD.out.2.2.2]; exact HXY.out.2) hlt
      obtain ⟨Hs, hst, hno, hgo⟩ := HS.out.store2
      have ex : (kk : Int).tmod 2 = ((kk % 2 : Nat) : Int) := by rw [Int.tmod_eq_emod_of_nonneg (by omega)]; omega
      have ey : (kk : Int).tdiv 2 = ((kk / 2 : Nat) : Int) := by rw [Int.tdiv_eq_ediv_of_nonneg (by omega)]; omega
      have hle := hy.len
      have hC := fun xi yi hx hy => set_int (N + 1) L Hs id (X + kk % 2) (Y + kk / 2) xi yi hx hy wr hst HY.out.win.1 (by have := HLV.out.2; omega) (by have := HXY.out.1; have := HD.out.2.2.2; omega) (by have := HXY.out.2; have := HD.out.2.2.2; omega) (by
        have h1 : (kk + 1 + 1) * (N + 1 + 1) ≤ 5 * 22 := Nat.mul_le_mul (by omega) (by have := HLV.out.2; omega)
        omega)
      obtain ⟨R, hR⟩ : ∃ R, R = setQ L (N + 1) id (X + kk % 2) (Y + kk / 2) true := ⟨_, rfl⟩
      rw [← hR] at hy hC
      obtain ⟨p2, hp2⟩ : ∃ p2, p2 = kk % 2 := ⟨_, rfl⟩
      obtain ⟨q2, hq2⟩ : ∃ q2, q2 = kk / 2 := ⟨_, rfl⟩
      rw [← hp2] at ex hC
      rw [← hq2] at ey hC
      have HC := Lib.hid (hC ((X : Int) + p2) ((Y : Int) + q2) (by omega) (by omega))
      have HYN := Lib.hid hy
      have HX := Lib.hid hgo
      have p3 : (p2 : Int) ≤ 1 := by omega
      have q3 : (q2 : Int) ≤ 1 := by omega
      clear hlt hy hst hno hgo hle hC hR hp2 hq2 HY HS
      go_wp2_with fail
      refine HC.out.mono ?_
      rintro e w5 ⟨rfl, hg⟩
      have HS5 := Lib.hid (HX.out _ _ hg)
      clear hg HC HX
      go_wp2
      go_roundw
      case rel => exact ⟨kk + 1, R.1, R.2, by have := HLT.out; omega, rfl, rfl, by go_num, HYN, HS5⟩
      case measure => have := HLT.out; simp [intOf]; omega
    · obtain rfl : kk = 4 := by omega
      rw [show ((4 : Nat) : Int) = 4 by decide]
      clear hlt hk k0
      go_wp2_with fail
      have hy := HY.out
      have hst0 : StI (N + 1) L X Y id E.2 L := ⟨hy.inv, List.prefix_rfl, New.refl _ _, by have := hy.win; rwa [bq_4] at this, hy.zr⟩
      have hL : L.length ≤ 110 := by
        have h1 := hy.len
        have h2 : (4 + 1) * (N + 1 + 1) ≤ 5 * 22 := Nat.mul_le_mul (by omega) (by have := HLV.out.2; omega)
        omega
      have HST := Lib.hid (And.intro hst0 (And.intro hL (gok_new 8 12 hy.inv)))
      clear hy hst0 hL HY
      go_loopw [19] (fun a wr => ∃ (j : Nat) (S : GS), j ≤ N + 3 ∧ a = .int .i64 j ∧ Hid (GOk 8 12 S) ∧ Hid (StI (N + 1) L X Y id E.2 S.1) ∧ Hid (Gs B w2 H' G P M 8 12 3000 S [] wr)) (fun a _ => (N + 3) - (intOf a).toNat)
      case atStart => exact ⟨0, (L, fun _ _ => none), by omega, rfl, Lib.hid HST.out.2.2, Lib.hid HST.out.1, HS⟩
      case round =>
        clear HS
        obtain ⟨j, S, hj, rfl, HK, HI, HS⟩ := hrel
        have j0 : (0 : Int) ≤ (j : Int) := by omega
        by_cases hlt : j ≤ N + 2
        · have j1 : (j : Int) ≤ lv - 2 := by have := HLV.out.1; omega
          have HLT := Lib.hid hlt
          obtain ⟨A, hA⟩ : ∃ A, A = growQ 8 12 N S id j := ⟨_, rfl⟩
          obtain ⟨Cc, hCc⟩ : ∃ C, C = ctrG A.1 id := ⟨_, rfl⟩
          obtain ⟨kA, iA, kC, iC, eC⟩ := still_step HI.out HK.out (by have := HLV.out.2; omega) j hlt A Cc hA hCc
          have lA := iA.len
          have lC := iC.len
          have hN := HLV.out.2
          have hL := HST.out.2.1
          have lA3 : A.1.1.length ≤ 3000 := by omega
          have lC3 : Cc.1.1.length ≤ 3000 := by omega
          obtain ⟨H1, h1, h2⟩ := HS.out.call
          have HC := Lib.hid (show Calls Try.prog 15 #[.pointer (some ⟨G, 0, none⟩), .int .i64 id, .int .i64 j] wr fun e w' => e = .returned (.tuple #[.int .i64 A.2, .nilIface]) ∧ Gt B wr G P M 8 12 3000 H1 A.1 w' from by
            rw [hA] at lA3 ⊢
            exact growP_ok (by decide) h1 HK.out N (by omega) id HI.out.blk.1 j (by omega) lA3)
          have HX := Lib.hid h2
          have HCC := Lib.hid (fun (wx : World) (Hx : Nat → Prop) (hx : Gr B wx G P M 8 12 A.1 3000 Hx) => (show Calls Try.prog 13 #[.pointer (some ⟨G, 0, none⟩), .int .i64 id] wx fun e w' => e = .returned (.tuple #[.int .i64 A.2, .nilIface]) ∧ Gt B wx G P M 8 12 3000 Hx Cc.1 w' from by
            rw [← eC]
            rw [hCc] at lC3 ⊢
            exact center_ok hx N (by omega) id iA.blk.1 lC3))
          have HKN := Lib.hid kC
          have HIN := Lib.hid iC
          have b1 : (A.2 != A.2) = false := by simp
          clear hlt hj hA hCc kA iA kC iC eC lA lC hN hL lA3 lC3 h1 h2 HK HI HS
          go_upto_region 17 with (fail)
          go_wp2_with fail
          refine HC.out.mono ?_
          rintro e w5 ⟨rfl, hg⟩
          have HS5 := Lib.hid (HX.out _ _ hg)
          clear hg HC HX
          obtain ⟨H1, h1, h2⟩ := HS5.out.call
          have HC := Lib.hid (HCC.out _ _ h1)
          have HX := Lib.hid h2
          clear h1 h2 HCC
          go_wp2_with fail
          refine HC.out.mono ?_
          rintro e w6 ⟨rfl, hg⟩
          have HS6 := Lib.hid (HX.out _ _ hg)
          clear hg HC HX HS5
          go_wp2
          go_roundw
          case rel => exact ⟨j + 1, Cc.1, by have := HLT.out; omega, by go_num, HKN, HIN, HS6⟩
          case measure => have := HLT.out; simp [intOf]; omega
        · have j1 : ¬ (j : Int) ≤ lv - 2 := by have := HLV.out.1; omega
          have HR5 := Lib.hid (HR2.out.on (HS.out.bel HH.out.1 HH.out.2.1) HH.out.2.2)
          obtain ⟨c0, c1⟩ := two_cells HR5.out.rule
          have HM := Lib.hid (show Calls Try.prog 6 #[.agg #[.int .u16 r, .int .u16 l]] wr fun e w' => e = .returned (.bool (mayR r l)) ∧ Below wr.heap.size wr w' from HMAY.out wr)
          clear hlt hj HK
          cases hm : mayR r l with
          | false =>
            rw [hm] at HM
            clear HI HS
            go_upto_region 21 with (fail)
            go_wp2_with fail
            refine HM.out.mono ?_
            rintro e w5 ⟨rfl, hb⟩
            have HB := Lib.hid (HR5.out.below.trans (hb.mono HR5.out.below.size))
            clear hb
            go_wp2_with (go_at_call 7; refine (sure_any _).mono ?_; rintro e w6 ⟨rfl, hb⟩; have HB2 := Lib.hid (HB.out.trans (hb.mono HB.out.size)); clear hb)
            go_ret
            exact ⟨rfl, HB2.out⟩
          | true =>
            rw [hm] at HM
            have HMY := Lib.hid hm
            clear hm
            go_upto_region 21 with (fail)
            go_wp2_with fail
            refine HM.out.mono ?_
            rintro e w5 ⟨rfl, hb⟩
            have HS5 := Lib.hid (HS.out.below hb)
            have HR6 := Lib.hid (HR5.out.on hb (lt_of_block HR5.out.at_))
            have HB5 := Lib.hid (show B ≤ w5.heap.size from Nat.le_trans HH.out.2.1 (HS5.out.bel HH.out.1 HH.out.2.1).size)
            clear hb c0 c1 HR5 HS HM
            obtain ⟨c0, c1⟩ := two_cells HR6.out.rule
            obtain ⟨Hs, hst, hno, hgo⟩ := HS5.out.store2
            have HG := Lib.hid (show Calls Try.prog 9 #[.pointer (some ⟨P, 0, none⟩), .agg #[.int .u16 r, .int .u16 l]] w5 (GMade B w5 P r l 3000 S.1 Hs) from gnew_ok hst HB5.out r l HMY.out)
            have HS1 := Lib.hid (fun x hx => (hst.lt x hx).1)
            clear hst hno hgo HS5
            go_wp2_with fail
            refine HG.out.mono ?_
            rintro e w6 ⟨G2, M2, H2, rfl, hgr, hst2⟩
            have HR7 := Lib.hid (HR6.out.on (hst2.below HS1.out HB5.out) HH.out.2.2)
            have HH2 := Lib.hid (show (∀ x, H2 x → B ≤ x) ∧ B ≤ w6.heap.size from ⟨fun x hx => (hgr.lt x hx).1, Nat.le_trans HB5.out hst2.size⟩)
            have HS6 := Lib.hid (Gs.start hgr)
            obtain ⟨A, hA⟩ : ∃ A, A = growQ r l N (S.1, fun _ _ => none) E.2 (N + 2) := ⟨_, rfl⟩
            obtain ⟨kA, iA, oA, cA⟩ := none_step (s := (S.1, fun _ _ => none)) HMY.out HI.out (gok_new r l HI.out.inv) (by have := HLV.out.2; omega) (N + 2) (Nat.le_refl _) A hA
            have lA3 : A.1.1.length ≤ 3000 := by
              have := iA.len
              have := HLV.out.2
              have := HST.out.2.1
              omega
            obtain ⟨H1, h1, h2⟩ := HS6.out.call
            have HC := Lib.hid (show Calls Try.prog 15 #[.pointer (some ⟨G2, 0, none⟩), .int .i64 E.2, .int .i64 (lv - 2)] w6 fun e w' => e = .returned (.tuple #[.int .i64 A.2, .nilIface]) ∧ Gt B w6 G2 P M2 r l 3000 H1 A.1 w' from by
              rw [hA] at lA3 ⊢
              exact growP_int HMY.out h1 (gok_new r l HI.out.inv) N (by have := HLV.out.2; omega) E.2 HI.out.zr.1 (N + 2) (lv - 2) (by have := HLV.out.1; omega) (Nat.le_refl _) lA3)
            have HX := Lib.hid h2
            have HOC := Lib.hid (And.intro oA cA)
            clear hgr hst2 hA kA iA oA cA lA3 h1 h2 HG HS1 HR6 HS6 c0 c1
            go_wp2_with fail
            refine HC.out.mono ?_
            rintro e w7 ⟨rfl, hg⟩
            have HS7 := Lib.hid (HX.out _ _ hg)
            clear hg HC HX
            obtain ⟨Hs1, hst1, _⟩ := HS7.out.store
            have HC := Lib.hid (count_is hst1 A.2 HOC.out.1 0 HOC.out.2)
            clear hst1
            go_wp2_with fail
            refine HC.out.mono ?_
            rintro e w8 ⟨rfl, hb⟩
            have HS8 := Lib.hid (HS7.out.below hb)
            clear hb HC HS7
            have HB := Lib.hid (HR7.out.below.trans ((HS8.out.bel HH2.out.1 HH2.out.2).mono (Nat.le_trans (Nat.le_of_lt (Nat.lt_of_succ_lt HH.out.2.2)) (Nat.le_refl _))))
            go_wp2_with (go_at_call 7; refine (sure_any _).mono ?_; rintro e w9 ⟨rfl, hb⟩; have HB2 := Lib.hid (HB.out.trans (hb.mono HB.out.size)); clear hb)
            go_ret
            exact ⟨rfl, HB2.out⟩
end Go.Proofs.Ytgimphkamjojpaa

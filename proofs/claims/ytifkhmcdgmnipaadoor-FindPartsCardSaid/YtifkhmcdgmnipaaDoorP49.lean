/-
  THE WALK of FindParts. Conditions: the library's table and the near sides lie as the texts lay them.
-/
import Derived.Test.YtifkhmcdgmnipaaDoorP48
namespace Go.Proofs.YtifkhmcdgmnipaaDoor
open Go.RowKit Ti Qd Ce Cl Go.Maps Go.WideMaps

set_option maxRecDepth 100000 in
set_option maxHeartbeats 4000000 in
theorem parts_walk (t0 t1 t2 t3 : T6) (ox oy ou lv : Int) (w : World) (hT : TabZ w) (hZ : NearZ w) :
    Calls Tryd.prog 4 #[.agg #[.int .u64 (rg t0), .int .u64 (rg t1), .int .u64 (rg t2), .int .u64 (rg t3)], .agg #[.int .i64 ox, .int .i64 oy, .int .i64 ou], .int .i64 lv] w fun e w' => e = .returned (.bool true) ∧ Below w.heap.size w w' := by
  have HT := Lib.hid (And.intro hT hZ)
  have hbx := row_keep (heap_alloc_new w (.cells #[.int .u64 (rg t0), .int .u64 (rg t1), .int .u64 (rg t2), .int .u64 (rg t3)] 46)) (alX _ (.cells #[.int .i64 ox, .int .i64 oy, .int .i64 ou] 47)) (Nat.le_refl _)
  have hby : ((w.alloc (.cells #[.int .u64 (rg t0), .int .u64 (rg t1), .int .u64 (rg t2), .int .u64 (rg t3)] 46)).alloc (.cells #[.int .i64 ox, .int .i64 oy, .int .i64 ou] 47)).heap[w.heap.size + 1]? = some (.cells #[.int .i64 ox, .int .i64 oy, .int .i64 ou] 47) := by
    have := heap_alloc_new (w.alloc (.cells #[.int .u64 (rg t0), .int .u64 (rg t1), .int .u64 (rg t2), .int .u64 (rg t3)] 46)) (.cells #[.int .i64 ox, .int .i64 oy, .int .i64 ou] 47)
    rw [World.size_alloc] at this
    exact this
  have hbl : Below w.heap.size w ((w.alloc (.cells #[.int .u64 (rg t0), .int .u64 (rg t1), .int .u64 (rg t2), .int .u64 (rg t3)] 46)).alloc (.cells #[.int .i64 ox, .int .i64 oy, .int .i64 ou] 47)) := bstep (alX w _) (alX _ _)
  have HSZ := Lib.hid (show ((w.alloc (.cells #[.int .u64 (rg t0), .int .u64 (rg t1), .int .u64 (rg t2), .int .u64 (rg t3)] 46)).alloc (.cells #[.int .i64 ox, .int .i64 oy, .int .i64 ou] 47)).heap.size = w.heap.size + 2 by simp)
  have HN := Lib.hid (new_lit 300 300 rfl ((w.alloc (.cells #[.int .u64 (rg t0), .int .u64 (rg t1), .int .u64 (rg t2), .int .u64 (rg t3)] 46)).alloc (.cells #[.int .i64 ox, .int .i64 oy, .int .i64 ou] 47)) (by decide) (by decide))
  have HW := Lib.hid (And.intro hbx (And.intro hby hbl))
  clear hbx hby hbl hT hZ
  go_enter Tryd.func4, Tryd.ntmps4
  go_wp2_with fail
  generalize (w.alloc (.cells #[.int .u64 (rg t0), .int .u64 (rg t1), .int .u64 (rg t2), .int .u64 (rg t3)] 46)).alloc (.cells #[.int .i64 ox, .int .i64 oy, .int .i64 ou] 47) = W0 at HW HSZ HN ⊢
  refine HN.out.mono ?_
  rintro e w1 ⟨P, H, rfl, hs, hb⟩
  have hz := heap_alloc_new w1 (.cells #[.int .i64 0, .int .i64 0, .int .i64 0, .int .i64 0] 48)
  have HQ := Lib.hid (show Qg W0.heap.size W0 P [] 300 w1.heap.size (.cells #[.int .i64 0, .int .i64 0, .int .i64 0, .int .i64 0] 48) (w1.alloc (.cells #[.int .i64 0, .int .i64 0, .int .i64 0, .int .i64 0] 48)) from
    ⟨H, ⟨hs.below (alX _ _) (Nat.le_refl _), hb.trans ((alX _ _).mono hb.size)⟩, fun e => by have := (hs.lt _ e).2; omega, hz, Nat.le_trans hb.size (by simp)⟩)
  have HBG := Lib.hid hb.size
  clear hs hb HN hz
  go_wp2
  obtain ⟨g, hg⟩ : ∃ g, g = w1.heap.size := ⟨_, rfl⟩
  rw [← hg] at HQ HBG ⊢
  generalize w1.alloc (.cells #[.int .i64 0, .int .i64 0, .int .i64 0, .int .i64 0] 48) = W1 at HQ ⊢
  clear hg
  go_loopw [6, 10] (fun v i wr => ∃ k : Nat, k ≤ 4 ∧ v = .bool false ∧ i = .int .i64 k ∧ Hid (Qg W0.heap.size W0 P (fo t0 t1 t2 t3 k) 300 g (.cells #[.int .i64 (kv t0 t1 t2 t3 k 0), .int .i64 (kv t0 t1 t2 t3 k 1), .int .i64 (kv t0 t1 t2 t3 k 2), .int .i64 (kv t0 t1 t2 t3 k 3)] 48) wr)) (fun _ i _ => 4 - (intOf i).toNat)
  case atStart => exact ⟨0, by omega, rfl, rfl, HQ⟩
  case round =>
    clear HQ
    obtain ⟨k, hk, rfl, rfl, HR⟩ := hrel
    have k0 : (0 : Int) ≤ (k : Int) := by omega
    by_cases hlt : k < 4
    · have k1 : (k : Int) < 4 := by omega
      have HLT := Lib.hid hlt
      obtain ⟨H, h1, h2, h3, h4⟩ := HR.out
      have HTB := Lib.hid (fun (W : World) (hW : Below W0.heap.size W0 W) => tl_cell ((hW.block _ (by have := HSZ.out; omega)).trans HW.out.1) k hlt)
      have ct := HTB.out _ h1.2
      have HP := Lib.hid (And.intro h1 (And.intro h2 (And.intro h3 h4)))
      have HLF := Lib.hid (leaf_ok h1.1 (foT t0 t1 t2 t3 k) (by rw [← fo_succ _ _ _ _ _ hlt]; exact Nat.le_trans (fo_len _ _ _ _ _ (by omega)) (by omega)))
      clear h1 h2 h3 h4
      go_wp2_with fail
      refine HLF.out.mono ?_
      rintro e w2 ⟨rfl, hgo⟩
      rw [← fo_succ _ _ _ _ _ HLT.out] at hgo
      rw [show nr (fo t0 t1 t2 t3 k) (leafQ (foT t0 t1 t2 t3 k)) = foN t0 t1 t2 t3 k from rfl]
      have HQ2 := Lib.hid (Qg.goes HP.out.1 HP.out.2.1 HP.out.2.2.1 HP.out.2.2.2 hgo)
      obtain ⟨_, _, _, h3, _⟩ := HQ2.out
      have cg := kv_cell HLT.out h3
      have fg := frozen_of_row _ _ k _ _ h3
      have HN3 := Lib.hid (kv_row HLT.out h3)
      clear h3 hgo ct HLF HP HR
      generalize foN t0 t1 t2 t3 k = nk at HN3 ⊢
      go_wp2
      go_roundw
      case rel => exact ⟨k + 1, by have := HLT.out; omega, rfl, by go_num, Lib.hid (HQ2.out.set HBG.out HN3.out)⟩
      case measure => have := HLT.out; simp [intOf]; omega
    · obtain rfl : k = 4 := by omega
      obtain ⟨H4, h1, h2, h3, h4⟩ := HR.out
      have HP := Lib.hid (And.intro h1 (And.intro h2 (And.intro h3 h4)))
      have HND := Lib.hid (node_ok h1.1 (foN t0 t1 t2 t3 0) (foN t0 t1 t2 t3 1) (foN t0 t1 t2 t3 2) (foN t0 t1 t2 t3 3) 3 (fo_four t0 t1 t2 t3) (by decide) (Nat.le_trans (foL_len t0 t1 t2 t3) (by decide)))
      obtain ⟨c0, c1, c2, c3⟩ := row4 h3
      clear h1 h2 h3 h4 HR
      rw [show kv t0 t1 t2 t3 4 0 = foN t0 t1 t2 t3 0 from rfl] at c0
      rw [show kv t0 t1 t2 t3 4 1 = foN t0 t1 t2 t3 1 from rfl] at c1
      rw [show kv t0 t1 t2 t3 4 2 = foN t0 t1 t2 t3 2 from rfl] at c2
      rw [show kv t0 t1 t2 t3 4 3 = foN t0 t1 t2 t3 3 from rfl] at c3
      go_wp2_with fail
      refine HND.out.mono ?_
      rintro e w2 ⟨rfl, hgo⟩
      have HQ2 := Lib.hid (Qg.goes HP.out.1 HP.out.2.1 HP.out.2.2.1 HP.out.2.2.2 (show Goes _ _ _ _ _ (foL t0 t1 t2 t3) _ from hgo))
      rw [show nr (fo t0 t1 t2 t3 4) (joinQ (fo t0 t1 t2 t3 4) (foN t0 t1 t2 t3 0) (foN t0 t1 t2 t3 1) (foN t0 t1 t2 t3 2) (foN t0 t1 t2 t3 3)) = foI t0 t1 t2 t3 from rfl]
      clear hgo HND HP c0 c1 c2 c3
      have HQH := Lib.hid HQ2.out.qh
      have hlen : (lst (foL t0 t1 t2 t3) 1 (foI t0 t1 t2 t3)).length ≤ 256 := by
        have h1 := cnt_lst (foL_inv t0 t1 t2 t3) 1 _ (foI_lv t0 t1 t2 t3)
        rw [foI_at, foQ_cnt] at h1
        have h2 := sN_le t0 t1 t2 t3 4
        unfold big at h1
        omega
      have HI := Lib.hid (And.intro (foL_inv t0 t1 t2 t3) (And.intro (foL_len t0 t1 t2 t3) (And.intro (foI_lv t0 t1 t2 t3) hlen)))
      clear hlen
      clear HQ2
      generalize foL t0 t1 t2 t3 = L0 at *
      generalize foI t0 t1 t2 t3 = I0 at *
      obtain ⟨H5, h1, h4⟩ := HQH.out
      have hrow := (h1.2.block (w.heap.size + 1) (by have := HSZ.out; omega)).trans HW.out.2.1
      have b0 := cell_of_row _ _ 0 _ _ _ hrow
      have b1 := cell_of_row _ _ 1 _ _ _ hrow
      have b2 := cell_of_row _ _ 2 _ _ _ hrow
      clear h1 h4 hrow
      obtain ⟨xp, hxp, exp⟩ := red_nat ox 18 (by decide) (by decide)
      obtain ⟨lx, hlx, elx⟩ := red_nat oy 16 (by decide) (by decide)
      obtain ⟨ly, hly, ely⟩ := red_nat ou 16 (by decide) (by decide)
      have HE := Lib.hid (And.intro exp (And.intro elx (And.intro ely (And.intro hxp (And.intro hlx hly)))))
      clear exp elx ely hxp hlx hly
      go_upto_region 15 with (fail)
      rw [show wrap64 ((IntKind.u64.wrap ox).tmod 18) = (xp : Int) from HE.out.1, show wrap64 ((IntKind.u64.wrap oy).tmod 16) = (lx : Int) from HE.out.2.1, show wrap64 ((IntKind.u64.wrap ou).tmod 16) = (ly : Int) from HE.out.2.2.1, wrap_pred HE.out.2.2.2.1 (by decide)]
      obtain ⟨x, hx⟩ : ∃ x : Int, x = (xp : Int) - 1 := ⟨_, rfl⟩
      rw [← hx]
      have HX := Lib.hid (show -1 ≤ x ∧ x ≤ 16 by have := HE.out.2.2.2.1; omega)
      have HQ3 := Lib.hid (HQH.out.below (bstep (alX w2 (ca2 ((lx : Int), (ly : Int)))) (alX _ (ca2 (15, 12)))))
      have hr16 := row_keep (heap_alloc_new w2 (ca2 ((lx : Int), (ly : Int)))) (alX _ (ca2 (15, 12))) (Nat.le_refl _)
      have hr17 : ((w2.alloc (ca2 ((lx : Int), (ly : Int)))).alloc (ca2 (15, 12))).heap[w2.heap.size + 1]? = some (ca2 (15, 12)) := by
        have := heap_alloc_new (w2.alloc (ca2 ((lx : Int), (ly : Int)))) (ca2 (15, 12))
        rw [World.size_alloc] at this
        exact this
      unfold ca2 at *
      simp only at *
      obtain ⟨g16, hg16⟩ : ∃ g, g = w2.heap.size := ⟨_, rfl⟩
      rw [← hg16] at hr16 hr17 ⊢
      generalize (w2.alloc (.cells #[.int .i64 lx, .int .i64 ly] 33)).alloc (.cells #[.int .i64 15, .int .i64 12] 33) = W3 at *
      clear hx b0 b1 b2 hg16 HQH
      have HR := Lib.hid (And.intro hr16 hr17)
      obtain ⟨H6, h1, h4⟩ := HQ3.out
      have HIN := Lib.hid (fun (W : World) (h : Below W3.heap.size W3 W) (lo hi : Cel) => in_ok (h1.1.below h (Nat.le_refl _)) (HT.out.1.below ((HW.out.2.2.trans (h1.2.mono (by have := HSZ.out; omega))).trans (h.mono (by have := HSZ.out; omega)))) 1 (by decide) I0 HI.out.2.2.1 lo hi)
      unfold cv at HIN
      obtain ⟨c0, c1, _, _⟩ := row_cl hr16
      obtain ⟨d0, d1, _, _⟩ := row_cl hr17
      clear h1 h4 hr16 hr17
      go_wp2_with fail
      refine (HIN.out _ (Below.refl _ _) ((lx : Int), (ly : Int)) (15, 12)).mono ?_
      rintro e w4 ⟨rfl, hb⟩
      have HB4 := Lib.hid hb
      obtain ⟨c0, c1, _, _⟩ := row_cl (row_keep HR.out.1 hb (Nat.le_refl _))
      obtain ⟨d0, d1, _, _⟩ := row_cl (row_keep HR.out.2 hb (Nat.le_refl _))
      clear hb
      go_wp2_with fail
      refine (HIN.out _ HB4.out ((lx : Int), (ly : Int)) (min x 15, 12)).mono ?_
      rintro e w5 ⟨rfl, hb⟩
      have HB5 := Lib.hid (HB4.out.trans (hb.mono HB4.out.size))
      clear c0 c1 d0 d1
      obtain ⟨c0, c1, _, _⟩ := row_cl (row_keep HR.out.1 HB5.out (Nat.le_refl _))
      obtain ⟨d0, d1, _, _⟩ := row_cl (row_keep HR.out.2 HB5.out (Nat.le_refl _))
      have hx1 : wrap64 (min x 15 + 1) = min x 15 + 1 := by have := HX.out; unfold wrap64; omega
      clear hb
      go_wp2_with fail
      refine (HIN.out _ HB5.out (max (min x 15 + 1) (lx : Int), (ly : Int)) (15, 12)).mono ?_
      rintro e w6 ⟨rfl, hb⟩
      have HQ6 := Lib.hid (HQ3.out.below (HB5.out.trans (hb.mono HB5.out.size)))
      clear hb hx1 c0 c1 d0 d1
      rw [inV_nat (Nat.le_trans (cin_le L0 1 I0 ((lx : Int), (ly : Int)) (15, 12)) HI.out.2.2.2) (by decide), inV_nat (Nat.le_trans (cin_le L0 1 I0 ((lx : Int), (ly : Int)) (min x 15, 12)) HI.out.2.2.2) (by decide), inV_nat (Nat.le_trans (cin_le L0 1 I0 (max (min x 15 + 1) (lx : Int), (ly : Int)) (15, 12)) HI.out.2.2.2) (by decide)]
      have HS := Lib.hid (And.intro (cin_split L0 1 I0 x (lx : Int) (ly : Int) 15 12) (Nat.le_trans (cin_le L0 1 I0 ((lx : Int), (ly : Int)) (15, 12)) HI.out.2.2.2))
      generalize cin L0 1 I0 ((lx : Int), (ly : Int)) (15, 12) = A at *
      generalize cin L0 1 I0 ((lx : Int), (ly : Int)) (min x 15, 12) = B at *
      generalize cin L0 1 I0 (max (min x 15 + 1) (lx : Int), (ly : Int)) (15, 12) = C at *
      clear HIN HB4 HB5 HQ3 HR HX HE
      obtain ⟨p, hp, ep⟩ := red_nat lv 9 (by decide) (by decide)
      have HF := Lib.hid (fun k (hk : k ≤ 37) => ful_ok HI.out.1 k hk)
      obtain ⟨H6, h1, h4⟩ := HQ6.out
      have HLF := Lib.hid (leaf_lit h1.1 full 18446744073709551615 rfl (Nat.le_trans (show (put L0 (leafQ full)).length ≤ L0.length + 1 from (Qd.put_len _ _).2) (by have := HI.out.2.1; omega)))
      have HP := Lib.hid (And.intro h1 h4)
      clear h1 h4
      have HPP := Lib.hid (And.intro hp ep)
      clear hp ep
      go_wp2_with fail
      refine HLF.out.mono ?_
      rintro e w7 ⟨rfl, hgo⟩
      have HQ7 := Lib.hid (Qh.goes HP.out.1 HP.out.2 (show Goes _ _ _ _ _ (ful L0 0).1 _ from hgo))
      rw [show nr L0 (leafQ full) = (ful L0 0).2 from rfl]
      clear hgo HLF HP HQ6
      go_upto_region 20 with (fail)
      rw [show wrap64 (3 + wrap64 ((IntKind.u64.wrap lv).tmod 9)) = (p : Int) + 3 from by rw [show wrap64 ((IntKind.u64.wrap lv).tmod 9) = (p : Int) from HPP.out.2]; exact lvl_k (by have := HPP.out.1; omega)]
      have p0 : (0 : Int) ≤ (p : Int) := by omega
      go_upto_region 21 with (fail)
      go_loopw [24, 25, 27] (fun v24 v25 i wr => ∃ k j : Nat, k ≤ p ∧ v24 = .int .i64 (ful L0 k).2 ∧ v25 = .nilIface ∧ i = .int .i64 j ∧ Hid (j = 3 + k) ∧ Hid (Qh W0.heap.size W0 P (ful L0 k).1 300 wr)) (fun _ _ i _ => (p + 3) - (intOf i).toNat)
      case atStart => exact ⟨0, 3, by omega, rfl, rfl, rfl, Lib.hid rfl, HQ7⟩
      case round =>
        clear HQ7
        obtain ⟨k, j, hk, rfl, rfl, rfl, HJ, HR⟩ := hrel
        have hj := HJ.out
        have k0 : (0 : Int) ≤ (j : Int) := by omega
        by_cases hlt : k < p
        · have k1 : (j : Int) < (p : Int) + 3 := by omega
          have k2 : (j : Int) < 12 := by have := HPP.out.1; omega
          have hf := HF.out k (by have := HPP.out.1; omega)
          have hf1 := HF.out (k + 1) (by have := HPP.out.1; omega)
          obtain ⟨H7, h1, h4⟩ := HR.out
          have HND := Lib.hid (node_ok h1.1 _ _ _ _ (k + 3) hf.lv.four (by have := HPP.out.1; omega) (Nat.le_trans (show (ful L0 (k + 1)).1.length ≤ _ from hf1.len) (by have := HI.out.2.1; have := HPP.out.1; omega)))
          have HP := Lib.hid (And.intro h1 h4)
          have HX := Lib.hid (show nr (ful L0 k).1 (joinQ (ful L0 k).1 (ful L0 k).2 (ful L0 k).2 (ful L0 k).2 (ful L0 k).2) = (ful L0 (k + 1)).2 from rfl)
          have HLT := Lib.hid hlt
          clear h1 h4 hf hf1 HR hj hlt
          go_wp2_with fail
          refine HND.out.mono ?_
          rintro e w8 ⟨rfl, hgo⟩
          have HQ8 := Lib.hid (Qh.goes HP.out.1 HP.out.2 (show Goes _ _ _ _ _ (ful L0 (k + 1)).1 _ from hgo))
          rw [HX.out]
          clear hgo HND HP
          go_wp2
          go_roundw
          case rel => exact ⟨k + 1, j + 1, by have := HLT.out; omega, rfl, rfl, by go_num, Lib.hid (by have := HJ.out; omega), HQ8⟩
          case measure => have := HJ.out; have := HLT.out; simp [intOf]; omega
        · obtain rfl : k = p := by omega
          have k1 : ¬ (j : Int) < (k : Int) + 3 := by have := HJ.out; omega
          clear hj hk hlt
          have n0 : ¬ ((k : Int) + 3 < 0) := by omega
          obtain ⟨H7, h1, h4⟩ := HR.out
          have hrow := (h1.2.block (w.heap.size + 1) (by have := HSZ.out; omega)).trans HW.out.2.1
          have b0 := cell_of_row _ _ 0 _ _ _ hrow
          have b1 := cell_of_row _ _ 1 _ _ _ hrow
          clear h1 h4 hrow
          go_upto_region 25 with (fail)
          rw [shl_lit (show k < 38 by have := HPP.out.1; omega)]
          obtain ⟨M, hM⟩ : ∃ M, M = 2 ^ (k + 3) := ⟨_, rfl⟩
          rw [← hM]
          have HM := Lib.hid hM
          have hM2 : M ≤ 2048 := by
            rw [hM]
            exact Nat.le_trans (Nat.pow_le_pow_right (by decide) (show k + 3 ≤ 11 by have := HPP.out.1; omega)) (by decide)
          have hM0 : 0 < M := by rw [hM]; exact Nat.two_pow_pos _
          have hM1 : M ≤ 1099511627776 := by omega
          have hu := u64_small hM1
          have hz : ¬ ((M : Int) = 0) := by omega
          obtain ⟨px, hx, ex⟩ := red_nat ox M hM0 hM1
          obtain ⟨py, hy, ey⟩ := red_nat oy M hM0 hM1
          have hu2 : ¬ (IntKind.u64.wrap (M : Int) = 0) := by rw [hu]; exact hz
          have HY := Lib.hid (And.intro hx (And.intro hy (And.intro ex (And.intro ey hM2))))
          clear hM hx hy ex ey hM1 hM0 hM2
          go_region
          rw [show wrap64 ((IntKind.u64.wrap ox).tmod (M : Int)) = (px : Int) from HY.out.2.2.1, show wrap64 ((IntKind.u64.wrap oy).tmod (M : Int)) = (py : Int) from HY.out.2.2.2.1]
          clear hu hu2 hz b0 b1
          obtain ⟨H8, h1, h4⟩ := HR.out
          have hf := HF.out k (by have := HPP.out.1; omega)
          have hc : cin (ful L0 k).1 k (ful L0 k).2 ((px : Int), (py : Int)) ((M : Int) + 5, (M : Int)) = (M - px) * (M - py) := by
            have := ful_cin HI.out.1 (n := k) (by have := HPP.out.1; omega) (p := px) (q := py) (by rw [← HM.out]; exact Nat.le_of_lt HY.out.1) (by rw [← HM.out]; exact Nat.le_of_lt HY.out.2.1) ((M : Int) + 5) (M : Int) (by rw [← HM.out]; omega) (by rw [← HM.out]; omega)
            rw [← HM.out] at this
            exact this
          have hmul := mul_small (M := M) (a := M - px) (b := M - py) (by have := HY.out.2.2.2.2; omega) (Nat.sub_le _ _) (Nat.sub_le _ _)
          have hin := in_ok (h1.1.below (Below.refl wr.heap.size wr).drew (Nat.le_refl _)) (HT.out.1.below ((HW.out.2.2.trans (h1.2.mono (by have := HSZ.out; omega))).drew)) k (by have := HPP.out.1; omega) (ful L0 k).2 hf.lv ((px : Int), (py : Int)) ((M : Int) + 5, (M : Int))
          rw [inV_nat (m := 1099511627776) (by rw [hc]; exact hmul) (by decide), hc] at hin
          have HIN := Lib.hid hin
          unfold cv at HIN
          have HMU := Lib.hid hmul
          have hw5 : wrap64 ((M : Int) + 5) = (M : Int) + 5 := by have := HY.out.2.2.2.2; unfold wrap64; omega
          clear h1 h4 hf hc hmul hin
          go_wp2_with fail
          refine HIN.out.mono ?_
          rintro e w8 ⟨rfl, hb⟩
          have HQ9 := Lib.hid (HR.out.below ((Below.refl wr.heap.size wr).drew.trans hb))
          have hsa := sub_wrap (M := M) (x := px) HY.out.1 (by have := HY.out.2.2.2.2; omega)
          have hsb := sub_wrap (M := M) (x := py) HY.out.2.1 (by have := HY.out.2.2.2.2; omega)
          have hsm : wrap64 (((M - px : Nat) : Int) * ((M - py : Nat) : Int)) = (((M - px) * (M - py) : Nat) : Int) := by
            have h0 : ((M - px : Nat) : Int) * ((M - py : Nat) : Int) = (((M - px) * (M - py) : Nat) : Int) := (Int.natCast_mul _ _).symm
            rw [h0]
            exact wrap_small HMU.out
          have hab : wrap64 ((B : Int) + (C : Int)) = (A : Int) := by
            have h1 := HS.out.1
            have h2 := HS.out.2
            unfold wrap64
            omega
          obtain ⟨H9, h1, h4⟩ := HQ9.out
          have HSU := Lib.hid (sure_any w8 (HT.out.1.below ((HW.out.2.2.trans (h1.2.mono (by have := HSZ.out; omega))))) (HT.out.2.below ((HW.out.2.2.trans (h1.2.mono (by have := HSZ.out; omega))))))
          have HB9 := Lib.hid (HW.out.2.2.trans (h1.2.mono (by have := HSZ.out; omega)))
          clear hb h1 h4 hw5 HR HIN
          go_wp2_with fail
          refine HSU.out.mono ?_
          rintro e w10 ⟨rfl, hb⟩
          have HB10 := Lib.hid (HB9.out.trans (hb.mono HB9.out.size))
          clear hb HSU
          go_wp2
          go_ret
          exact ⟨rfl, HB10.out⟩
end Go.Proofs.YtifkhmcdgmnipaaDoor

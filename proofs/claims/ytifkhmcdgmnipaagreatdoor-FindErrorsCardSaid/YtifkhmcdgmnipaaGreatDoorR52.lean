/-
  THE WALK of FindErrors. Conditions: the library's table and the near sides lie as the texts lay them; the library's one laid variable.
-/
import Derived.Test.YtifkhmcdgmnipaaGreatDoorR49
import Derived.Test.YtifkhmcdgmnipaaGreatDoorR51
namespace Go.Proofs.YtifkhmcdgmnipaaGreatDoor
open Go.RowKit Ti Qd Ce Cl Go.Maps Go.WideMaps

set_option maxRecDepth 100000 in
set_option maxHeartbeats 4000000 in
theorem errors_walk (id nn : Int) (w : World) (hT : TabZ w) (hZ : NearZ w) (hL : Laid w) :
    Calls Tryz.prog 3 #[.int .i64 id, .int .i64 nn] w fun e w' => e = .returned (.bool true) ∧ Below w.heap.size w w' := by
  have HT := Lib.hid (And.intro hT (And.intro hZ hL))
  obtain ⟨q, hq, eq⟩ := red_nat nn 12 (by decide) (by decide)
  have HQ := Lib.hid (And.intro hq eq)
  have HOB := Lib.hid (of_bad none 4 (.slice none 0 0) 1 w (check_nil 4 (.slice none 0 0) w))
  have HLK := Lib.hid (fun (W : World) => (show LkBad none id 1 W from look_nil id W))
  have HNE := Lib.hid (fun (k : Int) (W : World) (hb : Below w.heap.size w W) => num_err k W (hL.below hb))
  clear hT hZ hL hq eq
  go_enter Tryz.func3, Tryz.ntmps3
  go_wp2_with fail
  refine HOB.out.mono ?_
  rintro e w1 ⟨rfl, hb⟩
  have HB1 := Lib.hid hb
  have HC1 := Lib.hid (cells_bad (HLK.out w1))
  clear hb HOB
  go_wp2_with fail
  refine HC1.out.mono ?_
  rintro e w2 ⟨rfl, hb⟩
  have HB2 := Lib.hid (HB1.out.trans (hb.mono HB1.out.size))
  have HX1 := Lib.hid (box_bad (w := w2) (fun W _ => HLK.out W))
  clear hb HC1 HB1
  unfold cv at HX1
  go_wp2_with fail
  refine HX1.out.mono ?_
  rintro e w3 ⟨rfl, hb⟩
  have HB3 := Lib.hid (bstep (bstep (bstep HB2.out hb) (alX w3 (ca2 (0, 0)))) (alX (w3.alloc (ca2 (0, 0))) (ca2 (0, 0))))
  have HI1 := Lib.hid (in_bad (w := (w3.alloc (ca2 (0, 0))).alloc (ca2 (0, 0))) (fun W _ => HLK.out W) (0, 0) (0, 0))
  clear hb HX1 HB2
  unfold cv ca2 at *
  simp only at *
  go_wp2_with fail
  refine HI1.out.mono ?_
  rintro e w4 ⟨rfl, hb⟩
  have HB4 := Lib.hid (bstep HB3.out hb)
  have HN := Lib.hid (new_lit 900 900 rfl w4 (by decide) (by decide))
  clear hb HI1 HB3 HLK
  go_wp2_with fail
  refine HN.out.mono ?_
  rintro e w5 ⟨P, H, rfl, hs, hb⟩
  have HS5 := Lib.hid (show Sx w w4.heap.size P [] w5 from ⟨H, hs, bstep HB4.out hb, HB4.out.size⟩)
  clear hs hb HN HB4
  go_wp2_with fail
  refine (HNE.out 1 w5 HS5.out.bel).mono ?_
  rintro e w6 ⟨rfl, hb⟩
  have HS6 := Lib.hid (HS5.out.on hb)
  clear hb HS5
  go_wp2_with fail
  refine (HNE.out 1 w6 HS6.out.bel).mono ?_
  rintro e w7 ⟨rfl, hb⟩
  have HS7 := Lib.hid (HS6.out.on hb)
  clear hb HS6
  go_wp2_with fail
  refine (HNE.out 1 w7 HS7.out.bel).mono ?_
  rintro e w8 ⟨rfl, hb⟩
  have HS8 := Lib.hid (HS7.out.on hb)
  clear hb HS7
  go_wp2_with fail
  refine (HNE.out 1 w8 HS8.out.bel).mono ?_
  rintro e w9 ⟨rfl, hb⟩
  have HS9 := Lib.hid (HS8.out.on hb)
  clear hb HS8
  have HLK := Lib.hid (fun (W : World) (h : Sx w w4.heap.size P [] W) => h.lk id)
  have HC2 := Lib.hid (cells_bad (HLK.out _ HS9.out))
  go_wp2_with fail
  refine HC2.out.mono ?_
  rintro e w10 ⟨rfl, hb⟩
  have HS10 := Lib.hid (HS9.out.on hb)
  have HX2 := Lib.hid (box_bad (w := w10) (fun W hW => HLK.out W (HS10.out.on hW)))
  clear hb HC2 HS9
  unfold cv at HX2
  go_wp2_with fail
  refine HX2.out.mono ?_
  rintro e w11 ⟨rfl, hb⟩
  have HS11 := Lib.hid (((HS10.out.on hb).on (alX w11 (ca2 (0, 0)))).on (alX (w11.alloc (ca2 (0, 0))) (ca2 (0, 0))))
  have HI2 := Lib.hid (in_bad (w := (w11.alloc (ca2 (0, 0))).alloc (ca2 (0, 0))) (fun W hW => HLK.out W (HS11.out.on hW)) (0, 0) (0, 0))
  clear hb HX2 HS10
  unfold cv ca2 at *
  simp only at *
  go_wp2_with fail
  refine HI2.out.mono ?_
  rintro e w12 ⟨rfl, hb⟩
  have HS12 := Lib.hid (HS11.out.on hb)
  clear hb HI2 HS11 HLK
  go_upto_region 12 with (fail)
  rw [show wrap64 ((IntKind.u64.wrap nn).tmod 12) = (q : Int) from HQ.out.2, err_k HQ.out.1]
  obtain ⟨K, hK⟩ : ∃ K, K = 4090 + q := ⟨_, rfl⟩
  rw [← hK]
  have hK2 : K ≤ 5000 := by have := HQ.out.1; omega
  obtain ⟨Z, hZ⟩ : ∃ Z, Z = madeCells #[.int .i64 0, .int .i64 0] (K * 2) := ⟨_, rfl⟩
  have hmk := makeL K hK2 w12
  obtain ⟨H12, h1, h2, h3⟩ := HS12.out
  have hom := of_made (K := K) (h1.below (alX w12 (.cells Z 30)) (Nat.le_refl _)) (bstep h2 (alX w12 (.cells Z 30))) h3 (g := w12.heap.size) (by rw [← hZ]; exact heap_alloc_new w12 _) (fun h => by have := (h1.lt _ h).2; omega)
  rw [← hZ] at hmk
  have HOM := Lib.hid hom
  have k0 : (0 : Int) ≤ (K : Int) := by omega
  clear hK hK2 hZ h1 h2 h3 hom HS12
  go_wp2_with fail
  refine HOM.out.mono ?_
  rintro e w13 ⟨i, L, rfl, hl, hi, hs⟩
  have HS13 := Lib.hid hs
  have HLI := Lib.hid (And.intro hi hl)
  obtain ⟨er, her⟩ : ∃ er, er = erK K := ⟨_, rfl⟩
  rw [← her]
  have HER := Lib.hid her
  clear hs hl hi her hmk HOM
  have HF := Lib.hid (fun k (hk : k ≤ 37) => ful_ok HLI.out.1 k hk)
  obtain ⟨H13, h1, h2, h3⟩ := HS13.out
  have HLF := Lib.hid (leaf_l h1 full 18446744073709551615 rfl (Nat.le_trans (show (put L (leafQ full)).length ≤ L.length + 1 from (Qd.put_len _ _).2) (by have := HLI.out.2; omega)))
  have HP := Lib.hid (And.intro h1 (And.intro h2 h3))
  clear h1 h2 h3 HS13
  go_wp2_with fail
  refine HLF.out.mono ?_
  rintro e w14 ⟨rfl, hgo⟩
  have HS14 := Lib.hid (Sx.goes HP.out.1 HP.out.2.1 HP.out.2.2 (show Goes _ _ _ _ _ (ful L 0).1 _ from hgo))
  rw [show nr L (leafQ full) = (ful L 0).2 from rfl]
  clear hgo HLF HP
  go_upto_region 16 with (fail)
  go_loopw [29, 30, 31] (fun v29 v30 i wr => ∃ k j : Nat, k ≤ 3 ∧ v29 = .int .i64 (ful L k).2 ∧ v30 = .nilIface ∧ i = .int .i64 j ∧ Hid (j = 3 + k) ∧ Hid (Sx w w4.heap.size P (ful L k).1 wr)) (fun _ _ i _ => 6 - (intOf i).toNat)
  case atStart => exact ⟨0, 3, by omega, rfl, rfl, rfl, Lib.hid rfl, HS14⟩
  case round =>
    clear HS14
    obtain ⟨k, j, hk, rfl, rfl, rfl, HJ, HR⟩ := hrel
    have hj := HJ.out
    have j0 : (0 : Int) ≤ (j : Int) := by omega
    by_cases hlt : k < 3
    · have j1 : (j : Int) < 6 := by omega
      have hf := HF.out k (by omega)
      have hf1 := HF.out (k + 1) (by omega)
      obtain ⟨H7, h1, h2, h3⟩ := HR.out
      have HND := Lib.hid (node_ok h1 _ _ _ _ (k + 3) hf.lv.four (by omega) (Nat.le_trans (show (ful L (k + 1)).1.length ≤ _ from hf1.len) (by have := HLI.out.2; omega)))
      have HP := Lib.hid (And.intro h1 (And.intro h2 h3))
      have HX := Lib.hid (show nr (ful L k).1 (joinQ (ful L k).1 (ful L k).2 (ful L k).2 (ful L k).2 (ful L k).2) = (ful L (k + 1)).2 from rfl)
      have HLT := Lib.hid hlt
      clear h1 h2 h3 hf hf1 HR hj hlt
      go_wp2_with fail
      refine HND.out.mono ?_
      rintro e w8 ⟨rfl, hgo⟩
      have HS8 := Lib.hid (Sx.goes HP.out.1 HP.out.2.1 HP.out.2.2 (show Goes _ _ _ _ _ (ful L (k + 1)).1 _ from hgo))
      rw [HX.out]
      clear hgo HND HP
      go_wp2
      go_roundw
      case rel => exact ⟨k + 1, j + 1, by have := HLT.out; omega, rfl, rfl, by go_num, Lib.hid (by have := HJ.out; omega), HS8⟩
      case measure => have := HJ.out; have := HLT.out; simp [intOf]; omega
    · obtain rfl : k = 3 := by omega
      obtain rfl : j = 6 := by have := HJ.out; omega
      have hf := HF.out 3 (by decide)
      have hf4 := HF.out 4 (by decide)
      obtain ⟨H7, h1, h2, h3⟩ := HR.out
      have HCL := Lib.hid (cells_ok h1 3 (by decide) (ful L 3).2 hf.lv (by rw [ful_six HLI.out.1]; decide) (HT.out.1.below h2))
      have HMY := Lib.hid (ful_many HLI.out.1)
      clear h1 h2 h3 hk hlt
      go_wp2_with fail
      refine HCL.out.mono ?_
      rintro e w15 ⟨v, rfl, hown, hb⟩
      obtain ⟨a15, c15, rfl, _, _⟩ := own_lyc hown
      rw [HMY.out]
      have HS15 := Lib.hid (HR.out.on hb)
      clear hb hown HCL HMY HR
      obtain ⟨H8, h1, h2, h3⟩ := HS15.out
      have HND := Lib.hid (node_ok h1 _ _ _ _ 6 hf.lv.four (by decide) (Nat.le_trans (show (ful L 4).1.length ≤ _ from hf4.len) (by have := HLI.out.2; omega)))
      have HP := Lib.hid (And.intro h1 (And.intro h2 h3))
      clear h1 h2 h3 hf HS15
      go_wp2_with fail
      refine HND.out.mono ?_
      rintro e w16 ⟨rfl, hgo⟩
      have HS16 := Lib.hid (Sx.goes HP.out.1 HP.out.2.1 HP.out.2.2 (show Goes _ _ _ _ _ (ful L 4).1 _ from hgo))
      rw [show nr (ful L 3).1 (joinQ (ful L 3).1 (ful L 3).2 (ful L 3).2 (ful L 3).2 (ful L 3).2) = (ful L 4).2 from rfl]
      clear hgo HND HP
      obtain ⟨H9, h1, h2, h3⟩ := HS16.out
      have HCO := Lib.hid (cells_over h1 (ful L 4).2 hf4.lv.1 (ful_seven HLI.out.1))
      clear h1 h2 h3 hf4
      go_wp2_with fail
      refine HCO.out.mono ?_
      rintro e w17 ⟨rfl, hb⟩
      have HS17 := Lib.hid (HS16.out.on hb)
      clear hb HCO HS16
      go_wp2_with fail
      refine (HNE.out 8 w17 HS17.out.bel).mono ?_
      rintro e w18 ⟨rfl, hb⟩
      have HS18 := Lib.hid (HS17.out.on hb)
      clear hb HS17
      go_wp2_with fail
      refine (HNE.out 8 w18 HS18.out.bel).mono ?_
      rintro e w19 ⟨rfl, hb⟩
      have HS19 := Lib.hid (HS18.out.on hb)
      clear hb HS18
      go_wp2_with fail
      refine (HNE.out 8 w19 HS19.out.bel).mono ?_
      rintro e w20 ⟨rfl, hb⟩
      have HS20 := Lib.hid (HS19.out.on hb)
      clear hb HS19
      by_cases hbig : 4096 < K
      · obtain rfl : er = .iface 54 (.int .i64 2) := by rw [HER.out]; unfold erK; exact if_pos hbig
        have b1 : (4096 : Int) < (K : Int) := by omega
        go_wp2_with fail
        refine (HNE.out 2 w20 HS20.out.bel).mono ?_
        rintro e w21 ⟨rfl, hb⟩
        have HS21 := Lib.hid (HS20.out.on hb)
        clear hb HS20
        go_wp2_with fail
        refine (HNE.out 6 w21 HS21.out.bel).mono ?_
        rintro e w22 ⟨rfl, hb⟩
        have HS22 := Lib.hid (HS21.out.on hb)
        have HSU := Lib.hid (sure_any w22 (HT.out.1.below HS22.out.bel) (HT.out.2.1.below HS22.out.bel))
        clear hb HS21
        go_wp2_with fail
        refine HSU.out.mono ?_
        rintro e w23 ⟨rfl, hb⟩
        have HB23 := Lib.hid (HS22.out.on hb).bel
        clear hb HSU HS22
        go_wp2
        go_ret
        exact ⟨rfl, HB23.out⟩
      · obtain rfl : er = .nilIface := by rw [HER.out]; unfold erK; exact if_neg hbig
        have b1 : decide ((4096 : Int) < (K : Int)) = false := decide_eq_false (by omega)
        have HNN := Lib.hid (num_nil w20)
        go_wp2_with fail
        refine HNN.out.mono ?_
        rintro e w21 ⟨rfl, hb⟩
        have HS21 := Lib.hid (HS20.out.on hb)
        clear hb HS20
        go_wp2_with fail
        refine (HNE.out 6 w21 HS21.out.bel).mono ?_
        rintro e w22 ⟨rfl, hb⟩
        have HS22 := Lib.hid (HS21.out.on hb)
        have HSU := Lib.hid (sure_any w22 (HT.out.1.below HS22.out.bel) (HT.out.2.1.below HS22.out.bel))
        clear hb HS21
        go_wp2_with fail
        refine HSU.out.mono ?_
        rintro e w23 ⟨rfl, hb⟩
        have HB23 := Lib.hid (HS22.out.on hb).bel
        clear hb HSU HS22
        go_wp2
        go_ret
        exact ⟨rfl, HB23.out⟩
end Go.Proofs.YtifkhmcdgmnipaaGreatDoor

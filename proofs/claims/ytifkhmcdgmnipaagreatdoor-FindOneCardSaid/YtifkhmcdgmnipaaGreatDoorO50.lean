/-
  THE WALK of FindOne. Conditions: the library's table and the near sides lie as the texts lay them; the library's one laid variable.
-/
import Derived.Test.YtifkhmcdgmnipaaGreatDoorO47
import Derived.Test.YtifkhmcdgmnipaaGreatDoorO49
namespace Go.Proofs.YtifkhmcdgmnipaaGreatDoor
open Go.RowKit Ti Qd Ce Cl Go.Maps Go.WideMaps

set_option maxRecDepth 100000 in
set_option maxHeartbeats 2000000 in
theorem one_walk (lv ax ay : Int) (w : World) (hT : TabZ w) (hZ : NearZ w) (hL : Laid w) :
    Calls Tryz.prog 4 #[.int .i64 lv, .int .i64 ax, .int .i64 ay] w fun e w' => e = .returned (.bool true) ∧ Below w.heap.size w w' := by
  obtain ⟨p, hp, ep⟩ := red_nat lv 38 (by decide) (by decide)
  have HT := Lib.hid (And.intro hT (And.intro hZ hL))
  have HP := Lib.hid hp
  have HK := Lib.hid (lvl_k hp)
  clear hT hZ hp
  go_enter Tryz.func4, Tryz.ntmps4
  go_upto_region 2 with (fail)
  have EP := Lib.hid ep
  rw [show wrap64 (3 + wrap64 ((IntKind.u64.wrap lv).tmod 38)) = (p : Int) + 3 from by rw [show wrap64 ((IntKind.u64.wrap lv).tmod 38) = (p : Int) from EP.out]; exact HK.out]
  clear ep EP
  have n0 : ¬ ((p : Int) + 3 < 0) := by omega
  go_upto_region 3 with (fail)
  rw [shl_lit HP.out]
  obtain ⟨M, hM⟩ : ∃ M, M = 2 ^ (p + 3) := ⟨_, rfl⟩
  rw [← hM]
  have HM := Lib.hid hM
  have hM1 : M ≤ 1099511627776 := by rw [hM]; exact pow_le HP.out
  have hM0 : 0 < M := by rw [hM]; exact Nat.two_pow_pos _
  have hu := u64_small hM1
  have hz : ¬ ((M : Int) = 0) := by omega
  obtain ⟨px, hx, ex⟩ := red_nat ax M hM0 hM1
  obtain ⟨py, hy, ey⟩ := red_nat ay M hM0 hM1
  have HX := Lib.hid (And.intro hx (And.intro hy (And.intro ex (And.intro ey (And.intro hu hM1)))))
  clear hM hx hy ex ey hM1 hM0
  have hu2 : ¬ (IntKind.u64.wrap (M : Int) = 0) := by rw [hu]; exact hz
  have HN := Lib.hid (new_lit 200 200 rfl w.drew (by omega) (by omega))
  go_region
  rw [show wrap64 ((IntKind.u64.wrap ax).tmod (M : Int)) = (px : Int) from HX.out.2.2.1, show wrap64 ((IntKind.u64.wrap ay).tmod (M : Int)) = (py : Int) from HX.out.2.2.2.1]
  clear hu hu2 hz
  go_wp2_with fail
  refine HN.out.mono ?_
  rintro e w1 ⟨P, H, rfl, hs, hb⟩
  have hin : InS p ((px : Int), (py : Int)) := by
    have h1 := HX.out.1
    have h2 := HX.out.2.1
    rw [HM.out] at h1 h2
    unfold InS
    refine ⟨?_, ?_, ?_, ?_⟩ <;> simp only <;> omega
  have hal := alX w1 (ca2 ((px : Int), (py : Int)))
  have hof0 : ∀ d ∈ [((px : Int), (py : Int)), ((px : Int), (py : Int))], InS p d := fun d hd => by
    simp at hd
    subst hd
    exact hin
  have HO := Lib.hid (of_lit ((hs.below hal (Nat.le_refl _)).below (alX (w1.alloc (ca2 ((px : Int), (py : Int)))) (.cells #[.int .i64 px, .int .i64 py, .int .i64 px, .int .i64 py] 30)) (Nat.le_refl _)) p (by have := HP.out; omega) ((p : Int) + 3) rfl (some ⟨w1.heap.size + 1, 0, none⟩) [((px : Int), (py : Int)), ((px : Int), (py : Int))] 2 2 rfl (by omega)
    (lyc_new2 (w1.alloc (ca2 ((px : Int), (py : Int)))) _ _ _ (by rw [World.size_alloc]))
    (fun b o e hb => by
      cases e
      have := (hs.lt _ hb).2
      omega) hof0 (of_room hs.inv (by have := HP.out; omega) hof0 (by have := HP.out; simp; omega)))
  have hb0 : Below w.heap.size w w1 := (Below.refl _ _).drew.trans hb
  have hbA : Below w1.heap.size w1 ((w1.alloc (ca2 ((px : Int), (py : Int)))).alloc (.cells #[.int .i64 px, .int .i64 py, .int .i64 px, .int .i64 py] 30)) := bstep (alX w1 _) (alX _ _)
  have HS := Lib.hid (And.intro hs (And.intro hof0 (And.intro hb0 hbA)))
  have R13 := Lib.hid (row_keep (heap_alloc_new w1 (ca2 ((px : Int), (py : Int)))) (alX (w1.alloc (ca2 ((px : Int), (py : Int)))) (.cells #[.int .i64 px, .int .i64 py, .int .i64 px, .int .i64 py] 30)) (Nat.le_refl _))
  clear hs hof0 hb0 hbA hb hal HN
  go_wp2_with fail
  refine HO.out.mono ?_
  rintro e w2 ⟨rfl, hg⟩
  have hsA := HS.out.1.below HS.out.2.2.2 (Nat.le_refl _)
  have hof := of_goes hsA (by have := HP.out; omega) HS.out.2.1 hg
  obtain ⟨H2, hs2, hb2, hst⟩ := goes_bel (n := w.heap.size) hsA (Nat.le_refl _) (by have := HS.out.2.2.1.size; simp; omega) hg
  have hr13 := hst.row R13.out (fun hh => absurd (HS.out.1.lt _ hh).2 (Nat.lt_irrefl _))
  have hbw2 : Below w.heap.size w w2 := (HS.out.2.2.1.trans (HS.out.2.2.2.mono HS.out.2.2.1.size)).trans hb2
  generalize ofL p [((px : Int), (py : Int)), ((px : Int), (py : Int))] (emp [] p) = r at *
  have hl1 : lst r.1 p r.2 = [((px : Int), (py : Int))] := list_one (lst_nodup hof.inv p r.2 hof.lv) (fun c => by rw [hof.mem]; simp)
  have HBX := Lib.hid (box_some hs2 (HT.out.1.below hbw2) (HT.out.2.1.below hbw2) p (by have := HP.out; omega) r.2 hof.lv ((cnt_pos hof.inv hof.lv).2 ⟨((px : Int), (py : Int)), by rw [hl1]; simp⟩))
  have HX2 := Lib.hid (And.intro hs2 (And.intro hof (And.intro hl1 (And.intro hbw2 hr13))))
  clear hg hof hs2 hb2 hst hl1 hbw2 hr13 hsA HO HS R13
  go_wp2_with fail
  refine HBX.out.mono ?_
  rintro e w3 ⟨lo, hi, rfl, hbx, hb3⟩
  obtain ⟨rfl, rfl⟩ := box_one HX2.out.2.2.1 hbx
  have hb4 : Below w2.heap.size w2 ((w3.alloc (ca2 ((px : Int), (py : Int)))).alloc (ca2 ((px : Int), (py : Int)))) := hb3.trans ((bstep (alX w3 _) (alX _ _)).mono hb3.size)
  have hbw4 : Below w.heap.size w ((w3.alloc (ca2 ((px : Int), (py : Int)))).alloc (ca2 ((px : Int), (py : Int)))) := HX2.out.2.2.2.1.trans (hb4.mono HX2.out.2.2.2.1.size)
  have hz1 : (at' r.1 r.2).cnt ≤ 4096 := by
    rw [cnt_lst HX2.out.2.1.inv p r.2 HX2.out.2.1.lv, HX2.out.2.2.1]
    show min ((1 : Nat) : Int) big ≤ 4096
    omega
  have hcs := cells_ok (HX2.out.1.below hb4 (Nat.le_refl _)) p (by have := HP.out; omega) r.2 HX2.out.2.1.lv hz1 (HT.out.1.below hbw4)
  rw [HX2.out.2.2.1] at hcs
  have HC := Lib.hid hcs
  have hsb := HX2.out.1.below hb4 (Nat.le_refl _)
  have R3 := Lib.hid (And.intro (row_keep HX2.out.2.2.2.2 hb4 (Nat.le_refl _)) (And.intro (row_keep (heap_alloc_new w3 (ca2 ((px : Int), (py : Int)))) (alX _ (ca2 ((px : Int), (py : Int)))) (Nat.le_refl _)) (show ((w3.alloc (ca2 ((px : Int), (py : Int)))).alloc (ca2 ((px : Int), (py : Int)))).heap[w3.heap.size + 1]? = some (ca2 ((px : Int), (py : Int))) from by have := heap_alloc_new (w3.alloc (ca2 ((px : Int), (py : Int)))) (ca2 ((px : Int), (py : Int))); rw [World.size_alloc] at this; exact this)))
  have HX3 := Lib.hid (And.intro hsb (And.intro HX2.out.2.1 (And.intro HX2.out.2.2.1 hbw4)))
  clear hbx hb3 hb4 hbw4 hz1 hcs hsb HX2 HBX
  unfold cv at *
  unfold ca2 at *
  simp only at *
  go_wp2_with fail
  refine HC.out.mono ?_
  rintro e w4 ⟨v, rfl, hown, hb4⟩
  obtain ⟨a4, cap4, rfl, hly, _⟩ := own_lyc hown
  have es : srt [((px : Int), (py : Int))] = [((px : Int), (py : Int))] := rfl
  rw [es] at *
  obtain ⟨b4, o4, rfl, k0, k1⟩ := hly 0 _ rfl
  obtain ⟨c0, c1, _, _⟩ := row_cl (row_keep R3.out.1 hb4 (Nat.le_refl _))
  obtain ⟨d0, d1, _, _⟩ := row_cl (row_keep R3.out.2.1 hb4 (Nat.le_refl _))
  obtain ⟨e0, e1, _, _⟩ := row_cl (row_keep R3.out.2.2 hb4 (Nat.le_refl _))
  have q1 := eql_c ((px : Int), (py : Int)) ((px : Int), (py : Int))
  rw [decide_eq_true rfl] at q1
  simp only [List.length_cons, List.length_nil, Nat.zero_add, Nat.zero_mul, Nat.add_zero] at q1 k0 k1 ⊢
  have HB4 := Lib.hid hb4
  clear hb4 hown hly HC
  go_upto_region 11 with (fail)
  go_region
  have hw1 := wrap_pred HX.out.1 HX.out.2.2.2.2.2
  have hw2 := wrap_pred HX.out.2.1 HX.out.2.2.2.2.2
  clear q1
  have HIN := Lib.hid (fun (W : World) (h : Below w4.heap.size w4 W) (lo hi : Cel) => in_ok (HX3.out.1.below (HB4.out.trans (h.mono HB4.out.size)) (Nat.le_refl _)) (HT.out.1.below (HX3.out.2.2.2.trans ((HB4.out.trans (h.mono HB4.out.size)).mono HX3.out.2.2.2.size))) p (by have := HP.out; omega) r.2 HX3.out.2.1.lv lo hi)
  unfold cv at HIN
  go_wp2_with fail
  refine (HIN.out _ ((Below.refl _ _).drew) (0, 0) ((px : Int) - 1, (M : Int))).mono ?_
  rintro e w5 ⟨rfl, hb5⟩
  rw [inV_out HX3.out.2.2.1 (inb_left _ _ _ _ _)]
  have HB5 := Lib.hid (show Below w4.heap.size w4 w5 from (Below.refl _ _).drew.trans hb5)
  clear hb5
  go_wp2_with fail
  refine (HIN.out _ HB5.out (0, 0) ((M : Int), (py : Int) - 1)).mono ?_
  rintro e w6 ⟨rfl, hb6⟩
  rw [inV_out HX3.out.2.2.1 (inb_up _ _ _ _ _)]
  have HB6 := Lib.hid (show Below w4.heap.size w4 w6 from HB5.out.trans (hb6.mono HB5.out.size))
  clear hb6 c0 c1
  obtain ⟨c0, c1, _, _⟩ := row_cl (row_keep (row_keep R3.out.1 HB4.out (Nat.le_refl _)) HB6.out (Nat.le_refl _))
  go_wp2_with fail
  refine (HIN.out _ HB6.out ((px : Int), (py : Int)) ((px : Int), (py : Int))).mono ?_
  rintro e w7 ⟨rfl, hb7⟩
  rw [inV_one HX3.out.2.2.1]
  have HB7 := Lib.hid (show Below w4.heap.size w4 w7 from HB6.out.trans (hb7.mono HB6.out.size))
  have HCB := Lib.hid (of_bad (some ⟨P, 0, none⟩) ((p : Int) + 3) (.slice (some ⟨w7.heap.size, 0, none⟩) 1 1) 4 (w7.alloc (ca2 ((M : Int), (py : Int)))) (by
    obtain ⟨x0, x1, _, _⟩ := row_cl (heap_alloc_new w7 (ca2 ((M : Int), (py : Int))))
    exact check_range ⟨P, 0, none⟩ p (by have := HP.out; omega) w7.heap.size 0 1 ((M : Int), (py : Int)) _ x0 x1 (by rw [← HM.out])))
  clear hb7 c0 c1 HIN
  go_wp2_with fail
  refine HCB.out.mono ?_
  rintro e w8 ⟨rfl, hb8⟩
  have HB8 := Lib.hid (show Below w.heap.size w w8 from by
    have h1 : Below w4.heap.size w4 w8 := HB7.out.trans (((alX w7 (ca2 ((M : Int), (py : Int)))).trans (hb8.mono (alX w7 (ca2 ((M : Int), (py : Int)))).size)).mono HB7.out.size)
    have h2 := HB4.out.trans (h1.mono HB4.out.size)
    exact HX3.out.2.2.2.trans (h2.mono HX3.out.2.2.2.size))
  have HNU := Lib.hid (num_err 4 w8 (HT.out.2.2.below HB8.out))
  clear hb8 HCB
  go_wp2_with fail
  refine HNU.out.mono ?_
  rintro e w9 ⟨rfl, hb9⟩
  have HB9 := Lib.hid (HB8.out.trans (hb9.mono HB8.out.size))
  have HSU := Lib.hid (sure_any w9 (HT.out.1.below HB9.out) (HT.out.2.1.below HB9.out))
  clear hb9 HNU
  go_wp2_with fail
  refine HSU.out.mono ?_
  rintro e w10 ⟨rfl, hb10⟩
  have HB10 := Lib.hid (HB9.out.trans (hb10.mono HB9.out.size))
  clear hb10 HSU
  go_wp2
  go_ret
  exact ⟨rfl, HB10.out⟩
end Go.Proofs.YtifkhmcdgmnipaaGreatDoor

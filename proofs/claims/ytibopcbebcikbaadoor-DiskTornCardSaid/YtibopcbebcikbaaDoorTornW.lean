/-
  THE WALK of DiskTorn: it is true of all texts and all numbers. Conditions: the texts' lengths and the number are Go's; errors.errorType is as the program's text lays it.
-/
import Derived.Test.YtibopcbebcikbaaDoorNil
namespace Go.Proofs.YtibopcbebcikbaaDoor
open Go.RowKit

/-- int(uint(a) % m) -/
theorem red_bd (a m : Int) (hm : 0 < m) (hm2 : m ≤ 9223372036854775807) : 0 ≤ wrap64 ((IntKind.u64.wrap a).tmod m) ∧ wrap64 ((IntKind.u64.wrap a).tmod m) < m := by
  have h0 := wrap_u64_nonneg a
  rw [Int.tmod_eq_emod_of_nonneg h0]
  have h1 := Int.emod_nonneg (IntKind.u64.wrap a) (show m ≠ 0 by omega)
  have h2 := Int.emod_lt_of_pos (IntKind.u64.wrap a) hm
  rw [IntWalk.wrap64_in _ ⟨by omega, by omega⟩]
  exact ⟨h1, h2⟩
theorem crash_n (s : St) (ks : List Int) (t : Int) (q : Nat) : (s.crash ks t q).n = s.n := by
  show ((s.kept ks).torn t q).n = s.n
  unfold St.torn
  by_cases e : t = -1
  · rw [if_pos e]; rfl
  · rw [if_neg e]; rfl
theorem extract_list (t : ByteArray) (a b : Nat) : (t.extract a b).data.toList = (t.data.toList.take b).drop a := by
  rw [ByteArray.data_extract, Array.toList_extract, List.extract_eq_take_drop, List.drop_take]
theorem torn_txt {t1 t2 : ByteArray} (h1 : t1.size = 512) (h2 : t2.size = 512) (k : Nat) (hk : k ≤ 512) {f : Nat → Int} (hf : ∀ j, j < 512 → f j = if j < k then txt t1 j else txt t2 j) : strOfNums (rowOf f) = t1.extract 0 k ++ t2.extract k 512 := by
  have l1 : (nums t1).length = 512 := by rw [nums_len, h1]
  have l2 : (nums t2).length = 512 := by rw [nums_len, h2]
  have e : rowOf f = (nums t1).take k ++ (nums t2).drop k := by
    apply List.ext_getElem
    · rw [rowOf_len, List.length_append, List.length_take, List.length_drop]; omega
    · intro i i1 i2
      rw [rowOf_get]
      have hi : i < 512 := by rwa [rowOf_len] at i1
      rw [hf i hi]
      by_cases c : i < k
      · rw [if_pos c, List.getElem_append_left (by rw [List.length_take]; omega), List.getElem_take]
        unfold txt
        rw [List.getD_eq_getElem?_getD, List.getElem?_eq_getElem (by omega)]
        rfl
      · have lt : ((nums t1).take k).length = k := by rw [List.length_take]; omega
        rw [if_neg c, List.getElem_append_right (by rw [lt]; omega), List.getElem_drop]
        unfold txt
        rw [List.getD_eq_getElem?_getD, List.getElem?_eq_getElem (by omega)]
        simp only [lt, Option.getD_some]
        congr 1
        omega
  have d2 : t2.data.toList.take 512 = t2.data.toList := List.take_of_length_le (by rw [Array.length_toList]; exact Nat.le_of_eq h2)
  have b : ∀ t : ByteArray, (nums t).map (fun n => UInt8.ofNat n.toNat) = t.data.toList := fun t => by
    have := congrArg (fun s => s.data.toList) (str_nums t)
    rw [← this]
    rfl
  apply ByteArray.ext
  apply Array.ext'
  rw [ByteArray.data_append, Array.toList_append, extract_list, extract_list, d2, List.drop_zero, strOfNums_data, e, List.map_append, List.map_take, List.map_drop, b, b]
theorem flush_pend (s : St) : s.flush.pend = [] := rfl
theorem flush_late (s : St) (i : Nat) : s.flush.late i = none := rfl
theorem one_int (w : World) (x : Int) : Ints (w.alloc (.cells #[.int .i64 x] 3)) (some ⟨w.heap.size, 0, none⟩) [x] := by
  intro i hi
  obtain rfl : i = 0 := by simpa using hi
  refine ⟨w.heap.size, 0, rfl, ?_⟩
  rw [cell_of_row _ _ _ _ _ _ (heap_alloc_new w _)]
  rfl
set_option maxRecDepth 100000 in
set_option maxHeartbeats 2000000 in
theorem torn_walk (a b : ByteArray) (z : Int) (W : World) (wa : a.size ≤ maxLen) (wb : b.size ≤ maxLen) (_wz : (Lit.int .i64 z).wf = true) (hl : Laid W) :
    Calls Tryd.prog 5 #[.string a, .string b, .int .i64 z] W fun e w' => e = .returned (.bool true) ∧ Below W.heap.size W w' := by
  unfold maxLen at wa wb
  by_cases hbig : 512 < a.size
  · go_enter Tryd.func5, Tryd.ntmps5
    go_wp2_with (go_at_call 9; refine (sure_any _).mono ?_; rintro e wk ⟨rfl, hb2⟩)
    go_ret
    exact ⟨rfl, hb2⟩
  by_cases hbig2 : 512 < b.size
  · go_enter Tryd.func5, Tryd.ntmps5
    go_wp2_with (go_at_call 9; refine (sure_any _).mono ?_; rintro e wk ⟨rfl, hb2⟩)
    go_ret
    exact ⟨rfl, hb2⟩
  have cA := conv_512 (sec a) (sec_size (by omega))
  have cB := conv_512 (sec b) (sec_size (by omega))
  have cX := conv_512 (sec ⟨#[120]⟩) (sec_size (by decide))
  have HLD := Lib.hid hl
  clear hl
  go_enter Tryd.func5, Tryd.ntmps5
  go_upto_region 6 with (first | (go_at_call 7; refine (new_at 1 1 _ rfl (by omega) (by omega)).mono ?_; rintro e wa ⟨p, s0, rfl, ha, hn⟩; have HA := Lib.hid ha; have HN := Lib.hid hn; clear ha hn) | (go_at_call 22; refine (sector_at s0 _ _ HA.out (by omega)).mono ?_; rintro e wb ⟨rfl, hb, _⟩; have HB := Lib.hid hb; clear hb HA) | (go_at_call 14; refine (write_at s0 0 _ _ _ _ (sec_size (by omega)) HB.out rfl (by rw [HN.out.n]; omega) (by rw [HN.out.left]; omega) (by rw [HN.out.writes]; omega) (by rw [HN.out.writes]; omega)).mono ?_; rintro e wc ⟨rfl, s1, h1, k1, _⟩; have HC := Lib.hid h1; have K1 := Lib.hid k1; clear h1 k1 HB) | (go_at_call 15; refine (flush_at s1 _ HC.out).mono ?_; rintro e wd ⟨rfl, h1, _⟩; have HD := Lib.hid h1; clear h1) | (go_at_call 22; refine (sector_at s1.flush _ _ HD.out (by decide)).mono ?_; rintro e we ⟨rfl, hb, _⟩; have HE := Lib.hid hb; clear hb HD) | (go_at_call 14; refine (write_at s1.flush 0 _ _ _ _ (sec_size (by decide)) HE.out rfl (by show 0 < s1.n; rw [K1.out.n, HN.out.n]; omega) (by show s1.left ≠ 0; rw [K1.out.left, HN.out.left]; decide) (by show 0 ≤ s1.writes; rw [K1.out.writes, HN.out.writes]; omega) (by show s1.writes < _; rw [K1.out.writes, HN.out.writes]; omega)).mono ?_; rintro e wf ⟨rfl, s3, h1, k1, _⟩; have HF := Lib.hid h1; have K3 := Lib.hid k1; clear h1 k1 HE) | (go_at_call 22; refine (sector_at s3 _ _ HF.out (by omega)).mono ?_; rintro e wg ⟨rfl, hb, _⟩; have HG := Lib.hid hb; clear hb HF) | (go_at_call 14; refine (write_at s3 0 _ _ _ _ (sec_size (by omega)) HG.out rfl (by rw [K3.out.n]; show 0 < s1.n; rw [K1.out.n, HN.out.n]; omega) (by rw [K3.out.left]; show (if 0 < s1.left then s1.left - 1 else s1.left) ≠ 0; rw [K1.out.left, HN.out.left]; decide) (by rw [K3.out.writes]; show 0 ≤ s1.writes + 1; rw [K1.out.writes, HN.out.writes]; omega) (by rw [K3.out.writes]; show s1.writes + 1 < _; rw [K1.out.writes, HN.out.writes]; omega)).mono ?_; rintro e wh ⟨rfl, s4, h1, k1, _⟩; have HH := Lib.hid h1; have K4 := Lib.hid k1; clear h1 k1 HG))
  have hk := red_bd z 513 (by omega) (by omega)
  obtain ⟨k, hk2⟩ : ∃ k : Nat, wrap64 ((IntKind.u64.wrap z).tmod 513) = k := ⟨(wrap64 ((IntKind.u64.wrap z).tmod 513)).toNat, by omega⟩
  have hk3 : k ≤ 512 := by omega
  have P3 : s3.pend = [0] := by rw [K3.out.pend, if_pos (flush_late s1 0)]; rfl
  have P4 : s4.pend = [0] := by rw [K4.out.pend, if_neg K3.out.late, P3]
  have PL : s4.pend.length = 1 := by rw [P4]; rfl
  have HI := Lib.hid (show s4.ints = [0] by unfold St.ints; rw [P4]; rfl)
  have HPL := Lib.hid PL
  have HK2 := Lib.hid hk2
  have HP4 := Lib.hid P4
  clear P3 P4 hk2 hk
  have NF := Lib.hid (show ¬ (fitOk s4.pend.length [0] 0 ∧ 0 ≤ (k : Int) ∧ (k : Int) ≤ 512) by
    rintro ⟨⟨_, h2⟩, _⟩
    rcases h2 with h2 | h2
    · omega
    · exact h2.2.2 (by simp))
  have FT := Lib.hid (show fitOk s4.pend.length [] 0 from ⟨⟨by simp, by simp⟩, .inr ⟨by omega, by rw [PL]; decide, by simp⟩⟩)
  have CN := Lib.hid (show 0 < (s4.crash [] 0 k).n by rw [crash_n, K4.out.n, K3.out.n]; show 0 < s1.n; rw [K1.out.n, HN.out.n]; omega)
  have k0 : (0 : Int) ≤ (k : Int) := by omega
  have k1 : (k : Int) ≤ 512 := by omega
  clear PL
  go_wp2_with (fail)
  rw [HK2.out]
  go_wp2_with (first | (go_at_call 21; refine (pending_at s4 _ HH.out).mono ?_; rintro e wi ⟨ao, cap, rfl, hi, h1, _⟩; rw [HI.out] at hi; rw [HPL.out]; have LI := Lib.hid hi; have HJ := Lib.hid h1; clear h1 hi HH) | (go_at_call 23; refine (ints_any _ _ 1 _ _ [0] _ (LI.out.below ((Below.refl _ _).alloc (Nat.le_refl _) _)) (one_int _ _) rfl (by omega)).mono ?_; rintro e wj ⟨rfl, hb⟩; have HK := Lib.hid ((HJ.out.below ((Below.refl _ _).alloc (Nat.le_refl _) _)).below hb); clear hb HJ) | (go_at_call 16; refine (crash_err s4 _ 1 _ [0] 0 _ _ (HK.out.below ((Below.refl _ _).alloc (Nat.le_refl _) _)) (one_int _ _) rfl (by omega) NF.out).mono ?_; rintro e wk ⟨rfl, h1, _⟩; have HL := Lib.hid h1; clear h1 HK) | (go_at_call 13; refine (num_err 1 _ (HLD.out.below HL.out.b)).mono ?_; rintro e wl ⟨rfl, hb⟩; have HM := Lib.hid (HL.out.below hb); clear hb HL) | (go_at_call 16; refine (crash_at s4 none 0 0 [] 0 _ k _ HM.out (ints_nil _ _) rfl (by omega) (fun b off e => by cases e) rfl hk3 FT.out).mono ?_; rintro e wm ⟨rfl, h1, _⟩; have HO := Lib.hid h1; clear h1 HM) | (go_at_call 12; refine (read_at (s4.crash [] 0 k) 0 _ _ HO.out rfl CN.out).mono ?_; rintro e w0 ⟨g, cap2, rfl, hl, _, hng, h1, _⟩; have LA := Lib.hid hl; have HP := Lib.hid h1; have HNG := Lib.hid hng; clear h1 hl hng HO))
  have N0 : Now W p w0 (s4.crash [] 0 k) w0.drew (s4.crash [] 0 k) := (Now.first HP.out).drew
  have sA := sec_size (s := a) (by omega)
  have sB := sec_size (s := b) (by omega)
  have EC := Lib.hid (show strOfNums (rowOf ((s4.crash [] 0 k).cur 0)) = (sec b).extract 0 k ++ (sec a).extract k 512 from torn_txt sB sA k hk3 (fun j hj => by
    show ((s4.kept []).torn 0 k).sure 0 j = _
    unfold St.torn
    rw [if_neg (by decide), kept_nil]
    show upd s4.sure (s4.pend.getD 0 0) (fun j => if j < k then s4.now (s4.pend.getD 0 0) j else s4.sure (s4.pend.getD 0 0) j) 0 j = _
    rw [HP4.out]
    show (if j < k then s4.now 0 j else s4.sure 0 j) = _
    rw [K4.out.now, K4.out.sure, K3.out.sure, flush_sure HC.out.d.ok 0 j hj, K1.out.cur, if_pos rfl]))
  go_region_held3 (fun w' => (convert 40 9 (.slice (some ⟨g, 0, none⟩) 512 cap2)).run Tryd.prog w' = .ok (.string ((sec b).extract 0 k ++ (sec a).extract k 512)) w') (exact (conv_any (Now.lies (by assumption) LA.out HNG.out) (rowOf_len _)).trans (by rw [EC.out])) (first | (go_at_call 22; refine (sector_now (by assumption) _ (by omega)).mono ?_; rintro e w12 ⟨rfl, n12⟩) | (go_at_call 9; refine (sure_now (by assumption)).mono ?_; rintro e w14 ⟨rfl, n14⟩))
  go_wp2
  go_ret
  exact ⟨rfl, n14.a.b⟩
end Go.Proofs.YtibopcbebcikbaaDoor

/-
  THE WALK of FramesAgain. Conditions: what came in could be read.
-/
import Derived.Test.YtkefjkfknegogaaA48
import Derived.Test.YtkefjkfknegogaaA49
import Derived.Test.YtkefjkfknegogaaA50
namespace Go.Proofs.Ytkefjkfknegogaa.Fm
open Go.RowKit Ti Qd Go.Maps Go.WideMaps Ru

set_option maxRecDepth 100000 in
set_option maxHeartbeats 16000000 in
theorem again_walk (r l : Nat) (a : Option Addr) (len cap : Nat) (zs : List Int) (c : Int × Int × Int) (W : World) (_w0 : r < 65536 ∧ l < 65536) (w1 : IsRow .u64 W a len cap zs) (_w2 : True) :
    Calls Try.prog 3 #[.agg #[.int .u16 r, .int .u16 l], .slice a len cap, .agg #[.int .i64 c.1, .int .i64 c.2.1, .int .i64 c.2.2]] W fun e w' => e = .returned (.bool true) ∧ Below W.heap.size W w' := by
  obtain ⟨K, J, N⟩ := c
  obtain ⟨X, hx, hlen⟩ := isrow_x w1
  have HX := Lib.hid (And.intro hx hlen)
  have HR0 := Lib.hid (ak_start r l K J N W)
  have HM := Lib.hid (show ∀ w, Calls Try.prog 4 #[.agg #[.int .u16 r, .int .u16 l]] w fun e w' => e = .returned (.bool (mayR r l)) ∧ Below w.heap.size w w' from fun w => may_ref r l w)
  obtain ⟨c0, c1⟩ := two_cells HR0.out.rule
  clear w1 hx hlen
  go_enter Try.func3, Try.ntmps3
  go_wp2_with fail
  refine (HM.out _).mono ?_
  rintro e w1 ⟨rfl, hb⟩
  have HR1 := Lib.hid (HR0.out.on hb)
  clear hb HR0 c0 c1
  cases hm : mayR r l with
  | false =>
    clear HM
    have HB := Lib.hid HR1.out.below
    go_wp2_with (go_at_call 5; refine (sure_any _).mono ?_; rintro e v4 ⟨rfl, hb⟩; have HB2 := Lib.hid (HB.out.trans (hb.mono HB.out.size)); clear hb)
    go_ret
    exact ⟨rfl, HB2.out⟩
  | true =>
    clear HM
    have HMY := Lib.hid hm
    clear hm
    obtain ⟨c0, c1⟩ := two_cells HR1.out.rule
    obtain ⟨d0, d1, d2⟩ := three_cells HR1.out.ask
    have HS := Lib.hid (show Calls Try.prog 6 #[.agg #[.int .u16 r, .int .u16 l], .slice a len cap, .agg #[.int .i64 K, .int .i64 J, .int .i64 N]] w1 (Scene w1 r l K) from scene_any r l a len cap X K J N w1 HMY.out (HX.out.1.below HR1.out.below) HX.out.2)
    go_wp2_with fail
    refine HS.out.mono ?_
    rintro e v0 ⟨B, P, G, M, p, j, L, id, H0, rfl, _, h2, h3, h4, h5, h6, h7, h8, h9, h10⟩
    obtain ⟨⟨k, T⟩, hT⟩ := whole_ok r l h9 h8 h2 h3 h10
    have HTW := Lib.hid hT
    have HBV := Lib.hid (show (∀ x, H0 x → B ≤ x) ∧ B ≤ v0.heap.size ∧ w1.heap.size ≤ B from ⟨fun x hx => ((mc_fpt B P 40000 r l G M ⟨L, K0, [], 0⟩).lt h4 x hx).1, h6, h5⟩)
    have HR3 := Lib.hid (HR1.out.on h7)
    have HAT := Lib.hid (fun (T : World → (Nat → Prop) → Prop) (bx : List (Nat × Obj)) (w : World) (hs : Bs T v0 H0 bx w) => show AkAt W w r l K J N ∧ B ≤ w.heap.size from ⟨HR3.out.on2 (hs.lt HBV.out.1 HBV.out.2.1) (by have := lt_of_block HR1.out.ask; have := HBV.out.2.2; omega), Nat.le_trans HBV.out.2.1 (hs.lt HBV.out.1 HBV.out.2.1).size⟩)
    have HS0 := Lib.hid (Bs.start h4)
    have HI := Lib.hid (And.intro h2 (And.intro h3 (And.intro h8 (And.intro h9 h10))))
    clear h2 h3 h4 h5 h6 h7 h8 h9 h10 hT HS c0 c1 d0 d1 d2 HR1 HR3 HX
    obtain ⟨H1, h1, _, h3⟩ := HS0.out.call
    have HC := Lib.hid (begin_f h1 (HAT.out _ _ _ HS0.out).2 rfl id j p (by have := HI.out.1; omega) HI.out.2.2.1 (by omega) (by have := HI.out.2.1; omega))
    have HN := Lib.hid h3
    clear h1 h3
    go_wp2_with fail
    refine HC.out.mono ?_
    rintro e v1 ⟨rfl, hg⟩
    have HS1 := Lib.hid (HN.out _ _ hg)
    clear hg HC HN HS0
    obtain ⟨H1, h1, _, h3⟩ := HS1.out.call
    have HC := Lib.hid (show Calls Try.prog 8 #[.pointer (some ⟨G, 0, none⟩), .int .i64 16777216] v1 fun e w' => e = .returned (.tuple #[.int .i64 (k : Int), .nilIface]) ∧ Goz (Mc B P 40000 r l G M T) v1 H1 w' from by
      have e : runF r l ((16777216 : Int)).toNat ⟨L, K0, [nf id j], 0⟩ = (k, T) := HTW.out.eq _ (by decide)
      have := run_f h1 (HAT.out _ _ _ HS1.out).2 HTW.out.ok0 (by simp) HMY.out (by decide) 16777216 (by decide) (by show (runF r l ((16777216 : Int)).toNat ⟨L, K0, [nf id j], 0⟩).2.L.length ≤ 40000; rw [e]; exact Nat.le_trans HTW.out.len (by decide))
      have this : Calls Try.prog 8 #[.pointer (some ⟨G, 0, none⟩), .int .i64 16777216] v1 fun e w' => e = .returned (.tuple #[.int .i64 ((runF r l ((16777216 : Int)).toNat ⟨L, K0, [nf id j], 0⟩).1 : Nat), .nilIface]) ∧ Goz (Mc B P 40000 r l G M (runF r l ((16777216 : Int)).toNat ⟨L, K0, [nf id j], 0⟩).2) v1 H1 w' := this
      rw [e] at this
      exact this)
    have HN := Lib.hid h3
    clear h1 h3
    go_wp2_with fail
    refine HC.out.mono ?_
    rintro e v2 ⟨rfl, hg⟩
    have HS2 := Lib.hid (HN.out _ _ hg)
    clear hg HC HN HS1
    have HTT := Lib.hid (fun s => mc_fpt B P 40000 r l G M s)
    obtain ⟨H1, h1, _, _⟩ := HS2.out.call
    have HO := Lib.hid (show Calls Try.prog 9 #[.pointer (some ⟨G, 0, none⟩)] v2 fun e w' => e = .returned (.tuple #[.int .i64 T.out, .bool true]) ∧ Below v2.heap.size v2 w' from out_f h1 true HTW.out.z)
    clear h1
    go_wp2_with fail
    refine HO.out.mono ?_
    rintro e v3 ⟨rfl, hb⟩
    have HS3 := Lib.hid (HS2.out.below (HTT.out _) hb)
    clear hb HO HS2
    have hlv := HI.out.2.2.1.ext HTW.out.ext
    have HLV := Lib.hid hlv
    obtain ⟨H1, h1, _, h3⟩ := HS3.out.call
    have HC := Lib.hid (begin_f h1 (HAT.out _ _ _ HS3.out).2 HTW.out.u id j p (by have := HI.out.1; omega) hlv (by omega) (by have := HI.out.2.1; omega))
    have HN := Lib.hid h3
    clear h1 h3 hlv
    go_wp2_with fail
    refine HC.out.mono ?_
    rintro e v4 ⟨rfl, hg⟩
    have HS4 := Lib.hid (HN.out _ _ hg)
    clear hg HC HN HS3
    obtain ⟨H1, h1, _, _⟩ := HS4.out.call
    have HO := Lib.hid (show Calls Try.prog 9 #[.pointer (some ⟨G, 0, none⟩)] v4 fun e w' => e = .returned (.tuple #[.int .i64 0, .bool false]) ∧ Below v4.heap.size v4 w' from out_f h1 false rfl)
    clear h1
    go_wp2_with fail
    refine HO.out.mono ?_
    rintro e v5 ⟨rfl, hb⟩
    have HS5 := Lib.hid (HS4.out.below (HTT.out _) hb)
    clear hb HO HS4
    have hlow : Low r l id j T := by
      have f0 : FOk r l L ⟨id, (j : Int), 0, []⟩ p := FOk.new r l HI.out.2.2.1 (by have := HI.out.1; omega) (by omega) (by have := HI.out.2.1; omega)
      have := low_run 4759 HTW.out.ok0 (low_start r l (K := K0) f0 0)
      have e : runF r l 4759 ⟨L, K0, [nf id j], 0⟩ = (k, T) := HTW.out.eq _ (by decide)
      have this : Low r l id j (runF r l 4759 ⟨L, K0, [nf id j], 0⟩).2 := this
      rw [e] at this
      exact this
    obtain ⟨t, t1, t2, t3, t4, t5⟩ := again_run HTW.out.ok hlow HTW.out.u HLV.out (by omega) (by have := HI.out.2.1; omega) (by have := HI.out.1; omega) HTW.out.kn ((16777216 : Int)).toNat (by decide)
    obtain ⟨N2, hN⟩ : ∃ N2, N2 = if p = 0 then 1 else 14 := ⟨_, rfl⟩
    rw [← hN] at t1
    obtain ⟨H1, h1, _, h3⟩ := HS5.out.call
    have HC := Lib.hid (show Calls Try.prog 8 #[.pointer (some ⟨G, 0, none⟩), .int .i64 16777216] v5 fun e w' => e = .returned (.tuple #[.int .i64 (N2 : Int), .nilIface]) ∧ Goz (Mc B P 40000 r l G M t) v5 H1 w' from by
      have := run_f h1 (HAT.out _ _ _ HS5.out).2 t3 (by simp) HMY.out (by decide) 16777216 (by decide) (by show (runF r l ((16777216 : Int)).toNat ⟨T.L, T.K, [nf id j], 0⟩).2.L.length ≤ 40000; rw [t1]; have := HTW.out.len; show t.L.length ≤ 40000; exact Nat.le_trans t5 (by show T.L.length + 28 ≤ 40000; have : T.L.length ≤ 10000 := this; omega))
      have this : Calls Try.prog 8 #[.pointer (some ⟨G, 0, none⟩), .int .i64 16777216] v5 fun e w' => e = .returned (.tuple #[.int .i64 ((runF r l ((16777216 : Int)).toNat ⟨T.L, T.K, [nf id j], 0⟩).1 : Nat), .nilIface]) ∧ Goz (Mc B P 40000 r l G M (runF r l ((16777216 : Int)).toNat ⟨T.L, T.K, [nf id j], 0⟩).2) v5 H1 w' := this
      rw [t1] at this
      exact this)
    have HN := Lib.hid h3
    have ro := run_ok ((16777216 : Int)).toNat t3
    have r3 : (⟨T.L, T.K, [nf id j], 0⟩ : MS).L <+: (runF r l ((16777216 : Int)).toNat ⟨T.L, T.K, [nf id j], 0⟩).2.L := ro.ext
    rw [t1] at r3
    have HLV2 := Lib.hid (show Lv t.L (p + 1) id from HLV.out.ext r3)
    have HE := Lib.hid (And.intro hN t2)
    clear h1 h3 t1 t2 t3 t4 t5 hlow hN ro r3
    go_wp2_with fail
    refine HC.out.mono ?_
    rintro e v6 ⟨rfl, hg⟩
    have HS6 := Lib.hid (HN.out _ _ hg)
    clear hg HC HN HS5
    obtain ⟨H1, h1, _, _⟩ := HS6.out.call
    have HO := Lib.hid (show Calls Try.prog 9 #[.pointer (some ⟨G, 0, none⟩)] v6 fun e w' => e = .returned (.tuple #[.int .i64 T.out, .bool true]) ∧ Below v6.heap.size v6 w' from by
      have := out_f h1 true (by rw [HE.out.2]; exact HTW.out.z)
      rw [HE.out.2] at this
      exact this)
    clear h1
    go_wp2_with fail
    refine HO.out.mono ?_
    rintro e v7 ⟨rfl, hb⟩
    have HS7 := Lib.hid (HS6.out.below (HTT.out _) hb)
    clear hb HO HS6
    obtain ⟨Hs, k1, _⟩ := HS7.out.store
    have hlev : (at' t.L id).lev = (p : Int) + 4 := by have := HLV2.out.2; omega
    have HL := Lib.hid (level_is k1 id HLV2.out.1 _ hlev)
    clear k1 hlev
    by_cases hp : p = 0
    · have hN := HE.out.1
      rw [if_pos hp] at hN
      subst hN hp
      have HL : Hid (Calls Try.prog 10 #[.pointer (some ⟨P, 0, none⟩), .int .i64 id] v7 fun e w' => e = .returned (.tuple #[.int .i64 4, .nilIface]) ∧ Below v7.heap.size v7 w') := HL
      go_wp2_with fail
      refine HL.out.mono ?_
      rintro e v8 ⟨rfl, hb⟩
      have HB := Lib.hid (HAT.out _ _ _ (HS7.out.below (HTT.out _) hb)).1.below
      clear hb HL HS7
      generalize T.out = o at *
      go_wp2_with (go_at_call 5; refine (sure_any _).mono ?_; rintro e v99 ⟨rfl, hb⟩; have HB2 := Lib.hid (HB.out.trans (hb.mono HB.out.size)); clear hb)
      go_ret
      exact ⟨rfl, HB2.out⟩
    · have hN := HE.out.1
      rw [if_neg hp] at hN
      subst hN
      have hz : ((p : Int) + 4 == 4) = false := by rw [beq_eq_false_iff_ne]; omega
      generalize (p : Int) + 4 = lv at *
      clear hp
      go_wp2_with fail
      refine HL.out.mono ?_
      rintro e v8 ⟨rfl, hb⟩
      have HB := Lib.hid (HAT.out _ _ _ (HS7.out.below (HTT.out _) hb)).1.below
      clear hb HL HS7
      generalize T.out = o at *
      go_wp2_with (go_at_call 5; refine (sure_any _).mono ?_; rintro e v99 ⟨rfl, hb⟩; have HB2 := Lib.hid (HB.out.trans (hb.mono HB.out.size)); clear hb)
      go_ret
      exact ⟨rfl, HB2.out⟩
end Go.Proofs.Ytkefjkfknegogaa.Fm

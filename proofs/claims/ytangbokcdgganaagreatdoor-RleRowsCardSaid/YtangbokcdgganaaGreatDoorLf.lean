/-
  RLE: readHead: the rule of a head; behindNotes.
-/
import Derived.Test.YtangbokcdgganaaGreatDoorLd
import Derived.Test.YtangbokcdgganaaGreatDoorRc
namespace Go.Proofs.YtangbokcdgganaaGreatDoor
open Go.RowKit Ru Ce
open Go.Lib (indexByte hasPrefix)

namespace Rl
set_option maxRecDepth 100000 in
set_option maxHeartbeats 1000000 in
theorem readHead_any (s : ByteArray) (w : World) (hs : s.size ≤ 100000) : Calls Tryz.prog 20 #[.string s] w fun e w' => e = .returned (.tuple #[Rv (headL (bl s)).1.1 (headL (bl s)).1.2, ev (headL (bl s)).2]) ∧ Below w.heap.size w w' := by
  have HL := Lib.hid (fun W => lawOf_any s W hs)
  obtain ⟨r, hr⟩ : ∃ r, headL (bl s) = r := ⟨_, rfl⟩
  rw [hr]
  unfold headL at hr
  cases hlaw : lawL (bl s) with
  | none =>
    rw [hlaw] at HL hr
    rw [law_none] at HL
    subst hr
    clear hlaw
    go_enter Tryz.func20, Tryz.ntmps20
    go_wp2_with (go_at_call 37; refine (HL.out _).mono ?_; rintro e w1 ⟨rfl, hb1⟩; have HV := Lib.hid (res_of hb1); obtain ⟨z0, z1, g0, g1, hz⟩ := (res_of hb1).res; clear hb1)
    have hx := HV.out.outs (.int .u16 0) (.int .u16 0)
    refine bodyPost_ret (v := .tuple #[Rv 0 0, .iface 48 (.int .i64 3)]) (by simp [results, Tryz.results20, go_sem, Rv, hx.2.1, hx.2.2.1]) rfl ⟨rfl, hx.2.2.2⟩
  | some t =>
    rw [hlaw] at HL hr
    dsimp only at hr
    rw [law_some] at HL
    have HP := Lib.hid (fun W => parse_any (st t) W)
    have hlb : lb (st t) = t.map UInt8.toNat := rfl
    rw [hlb] at HP
    clear hlaw hlb
    cases hp : P (t.map UInt8.toNat) with
    | none =>
      rw [hp] at hr HP
      subst hr
      clear hp
      generalize st t = T at *
      have HP' : Hid (∀ W : World, Calls Tryz.prog 38 #[.string T] W fun e w' => e = .returned (.tuple #[.agg #[.int .u16 0, .int .u16 0], .iface 48 (.int .i64 3)]) ∧ Below W.heap.size W w') := HP
      clear HP
      go_enter Tryz.func20, Tryz.ntmps20
      go_wp2_with (first | (go_at_call 37; refine (HL.out _).mono ?_; rintro e w1 ⟨rfl, hb1⟩; have HV := Lib.hid (res_of hb1); clear hb1) | (go_at_call 38; refine (HP'.out _).mono ?_; rintro e w2 ⟨rfl, hb2⟩; have HV2 := Lib.hid ((HV.out.below hb2).below (alX w2 (.cells #[.int .u16 0, .int .u16 0] 32))); obtain ⟨z0, z1, g0, g1, hz⟩ := HV2.out.res; clear hb2))
      have hx := HV2.out.outs (.int .u16 0) (.int .u16 0)
      refine bodyPost_ret (v := .tuple #[Rv 0 0, .iface 48 (.int .i64 11)]) (by simp [results, Tryz.results20, go_sem, Rv, hx.2.1, hx.2.2.1]) rfl ⟨rfl, hx.2.2.2⟩
    | some q =>
      obtain ⟨b, l⟩ := q
      rw [hp] at hr HP
      cases hm : mayR b l
      · have hr' : ((0, 0), (11 : Int)) = r := by rw [← hr]; simp [hm]
        subst hr'
        have hpr : prs (some (b, l)) = (0, 0, 11) := by simp [prs, hm]
        rw [hpr] at HP
        clear hp hm hpr hr
        generalize st t = T at *
        have HP' : Hid (∀ W : World, Calls Tryz.prog 38 #[.string T] W fun e w' => e = .returned (.tuple #[.agg #[.int .u16 0, .int .u16 0], .iface 48 (.int .i64 11)]) ∧ Below W.heap.size W w') := HP
        clear HP
        go_enter Tryz.func20, Tryz.ntmps20
        go_wp2_with (first | (go_at_call 37; refine (HL.out _).mono ?_; rintro e w1 ⟨rfl, hb1⟩; have HV := Lib.hid (res_of hb1); clear hb1) | (go_at_call 38; refine (HP'.out _).mono ?_; rintro e w2 ⟨rfl, hb2⟩; have HV2 := Lib.hid ((HV.out.below hb2).below (alX w2 (.cells #[.int .u16 0, .int .u16 0] 32))); obtain ⟨z0, z1, g0, g1, hz⟩ := HV2.out.res; clear hb2))
        have hx := HV2.out.outs (.int .u16 0) (.int .u16 0)
        refine bodyPost_ret (v := .tuple #[Rv 0 0, .iface 48 (.int .i64 11)]) (by simp [results, Tryz.results20, go_sem, Rv, hx.2.1, hx.2.2.1]) rfl ⟨rfl, hx.2.2.2⟩
      · have hr' : ((b, l), (0 : Int)) = r := by rw [← hr]; simp [hm]
        subst hr'
        have hpr : prs (some (b, l)) = (b, l, 0) := by simp [prs, hm]
        rw [hpr] at HP
        clear hp hm hpr hr
        generalize st t = T at *
        have HP' : Hid (∀ W : World, Calls Tryz.prog 38 #[.string T] W fun e w' => e = .returned (.tuple #[.agg #[.int .u16 (b : Nat), .int .u16 (l : Nat)], .nilIface]) ∧ Below W.heap.size W w') := HP
        clear HP
        go_enter Tryz.func20, Tryz.ntmps20
        go_wp2_with (first | (go_at_call 37; refine (HL.out _).mono ?_; rintro e w1 ⟨rfl, hb1⟩; have HV := Lib.hid (res_of hb1); clear hb1) | (go_at_call 38; refine (HP'.out _).mono ?_; rintro e w2 ⟨rfl, hb2⟩; have HV2 := Lib.hid ((HV.out.below hb2).below (alX w2 (.cells #[.int .u16 b, .int .u16 l] 32))); have hn := heap_alloc_new w2 (.cells #[.int .u16 b, .int .u16 l] 32); have c0 := cell_of_row _ _ 0 _ _ _ hn; have c1 := cell_of_row _ _ 1 _ _ _ hn; obtain ⟨z0, z1, g0, g1, hz⟩ := HV2.out.res; clear hb2 hn))
        have hx := HV2.out.outs (.int .u16 (b : Int)) (.int .u16 (l : Int))
        refine bodyPost_ret (v := .tuple #[Rv b l, .nilIface]) (by simp [results, Tryz.results20, go_sem, Rv, hx.2.1, hx.2.2.1]) rfl ⟨rfl, hx.2.2.2⟩
theorem beh_lt {l : List UInt8} {k : Nat} (h : l.head? = some 35) (hi : indexByte l 10 = k) : behL l = k + 1 + behL (l.drop (k + 1)) := by
  rw [beh_eq, if_pos h, hi, if_pos (by omega)]; rfl
theorem notes_any (s : ByteArray) (w : World) (hs : s.size ≤ 100000) : Calls Tryz.prog 18 #[.string s] w fun e w' => e = .returned (.int .i64 (behL (bl s))) ∧ w' = w := by
  obtain ⟨r, hr⟩ : ∃ r, behL (bl s) = r := ⟨_, rfl⟩
  rw [hr]
  go_enter Tryz.func18, Tryz.ntmps18
  go_wp2
  go_loopw [3] (fun x wr => ∃ k : Nat, k ≤ s.size ∧ x = .int .i64 k ∧ wr = w ∧ Hid (k + behL ((bl s).drop k) = r)) (fun x _ => s.size - (RowKit.intOf x).toNat)
  case atStart => exact ⟨0, by omega, rfl, rfl, Lib.hid (by rw [List.drop_zero]; omega)⟩
  case round =>
    obtain ⟨k, hk, rfl, rfl, HK⟩ := hrel
    have k0 : (0 : Int) ≤ (k : Int) := by omega
    have hk' : (k : Int) ≤ (s.size : Int) := by omega
    have hcut : s.extract k s.size = st ((bl s).drop k) := st_drop s k
    have HH := Lib.hid (fun W => hasp_any (s.extract k s.size) 35 W)
    have HI := Lib.hid (fun W => ixb_any (s.extract k s.size) 10 10 rfl W)
    rw [hcut, bl_st] at HH HI
    rw [← hcut] at HH HI
    have hlen : ((bl s).drop k).length = s.size - k := by rw [List.length_drop, bl_size]
    by_cases hh : ((bl s).drop k).head? = some 35
    · rw [decide_eq_true hh] at HH
      have hge := ib_ge ((bl s).drop k) 10
      have hlt := Rl.ib_lt 10 ((bl s).drop k)
      by_cases hi : 0 ≤ indexByte ((bl s).drop k) 10
      · obtain ⟨j, hj⟩ : ∃ j : Nat, indexByte ((bl s).drop k) 10 = j := ⟨(indexByte ((bl s).drop k) 10).toNat, by omega⟩
        have HB := Lib.hid (beh_lt hh hj)
        rw [hj] at HI hlt
        have hj2 : k + j + 1 ≤ s.size := by omega
        rw [List.drop_drop, ← Nat.add_assoc] at HB
        clear hh hge hi hj hcut hlen hlt
        go_wp2_with (first | (go_at_call 34; refine (HH.out _).mono ?_; rintro e w' ⟨rfl, rfl⟩) | (go_at_call 35; refine (HI.out _).mono ?_; rintro e w' ⟨rfl, rfl⟩))
        go_roundw
        case rel => exact ⟨k + j + 1, hj2, by go_num, trivial, Lib.hid (by rw [← HK.out, HB.out]; omega)⟩
        case measure => simp [RowKit.intOf]; omega
      · have hj : indexByte ((bl s).drop k) 10 = -1 := by omega
        have hr : r = s.size := by
          rw [← HK.out, beh_eq, if_pos hh, if_neg hi, hlen]; omega
        rw [hj] at HI
        subst hr
        clear hh hge hi hj hcut hlen hlt
        go_wp2_with (first | (go_at_call 34; refine (HH.out _).mono ?_; rintro e w' ⟨rfl, rfl⟩) | (go_at_call 35; refine (HI.out _).mono ?_; rintro e w' ⟨rfl, rfl⟩))
        go_ret
        exact ⟨rfl, rfl⟩
    · rw [decide_eq_false hh] at HH
      have hr : r = k := by rw [← HK.out, beh_eq, if_neg hh]; rfl
      subst hr
      clear hh hcut hlen
      go_wp2_with (first | (go_at_call 34; refine (HH.out _).mono ?_; rintro e w' ⟨rfl, rfl⟩) | (go_at_call 35; refine (HI.out _).mono ?_; rintro e w' ⟨rfl, rfl⟩))
      go_ret
      exact ⟨rfl, rfl⟩
end Rl
end Go.Proofs.YtangbokcdgganaaGreatDoor

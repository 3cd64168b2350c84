/-
  RLE: the statements' own give; a text without its end (plain).
-/
import Derived.Test.YtangbokcdgganaaGreatDoorMq
namespace Go.Proofs.YtangbokcdgganaaGreatDoor
open Go.RowKit Ru Ce

set_option maxRecDepth 100000 in
set_option maxHeartbeats 1000000 in
theorem give_any (a : Option Addr) (n c : Nat) (L : List Cel) (w : World) (ha : Cls w a L) (hn : L.length = n) (hm : n ≤ 100000) :
    Calls Tryz.prog 9 #[.slice a n c] w (NewC 25 w L) := by
  have HA := Lib.hid ha
  have HL := Lib.hid hn
  have HM := Lib.hid hm
  obtain ⟨i0, hi, hz0, hz1, hz2⟩ := info_parts info_a
  have HI := Lib.hid hi
  have HI0 := Lib.hid hz0
  have HI1 := Lib.hid hz1
  have HI2 := Lib.hid hz2
  clear ha hn hi hz0 hz1 hz2
  go_enter Tryz.func9, Tryz.ntmps9
  go_wp2
  go_loopw [4, 3] (fun i v wr => ∃ k : Nat, k ≤ n ∧ i = .int .i64 k ∧ Hid (OwnC 25 wr w.heap.size v k (L.take k)) ∧ Hid (Below w.heap.size w wr)) (fun i _ _ => n - (RowKit.intOf i).toNat)
  case atStart => exact ⟨0, by omega, rfl, Lib.hid (by rw [List.take_zero]; exact World.ownsRow_nil _ _ _ _), Lib.hid (Below.refl _ _)⟩
  case round =>
    obtain ⟨k, hk, rfl, HO, HB⟩ := hrel
    by_cases hlt : k < n
    · have hkl : k < L.length := by rw [HL.out]; exact hlt
      obtain ⟨b, off, rfl, c0, c1⟩ := (HA.out.below HB.out (Nat.le_refl _)) k hkl
      have j0 : (0 : Int) ≤ (k : Int) := by omega
      have j1 : (k : Int) < (n : Int) := by omega
      have HS := Lib.hid (show L.take (k + 1) = L.take k ++ [L[k]] from List.take_succ_eq_append_getElem hkl)
      obtain ⟨y, hy⟩ : ∃ y, y = L[k] := ⟨_, rfl⟩
      rw [← hy] at c0 c1 HS
      clear hy
      have HK := Lib.hid (And.intro hlt hm)
      have HBS := Lib.hid HB.out.size
      go_wp2_with (at_builtin; refine wpList_append_own _ rfl (.tmp 11) (.tmp 16) 23 rfl w.heap.size 25 i0 (cv (0, 0)) 2 16 Tryz.underlying23 HI.out HI0.out HI1.out HI2.out rfl (by decide) _ k (cl (L.take k)) rfl (HO.out.alloc _) ⟨wr.heap.size, 0, none⟩ 1 1 (cc y) rfl rfl (cells2 _ _ y) (cc_one _) (by have := HK.out; unfold maxLen; omega) (by have := HK.out; omega) (by have := HBS.out; simp; omega) ?_; intro v2 w5 hown hgrow _; have HO5 := Lib.hid (show OwnC 25 w5 w.heap.size v2 (k + 1) (L.take (k + 1)) by have h9 := hown; rw [cl_snoc] at h9; rw [HS.out]; exact h9); have HB5 := Lib.hid ((HB.out.alloc HB.out.size (.cells #[.int .i64 y.1, .int .i64 y.2] 25)).grown hgrow (by have := HBS.out; simp; omega) (fun j hj => (HO.out.lt j hj).1)); clear hown hgrow)
      go_roundw
      case rel => exact ⟨k + 1, by omega, by go_num, HO5, HB5⟩
      case measure => simp [RowKit.intOf]; omega
    · obtain rfl : k = n := by omega
      have HT := Lib.hid (show L.take k = L from List.take_of_length_le (by rw [HL.out]; exact Nat.le_refl _))
      have HO2 := Lib.hid (show OwnC 25 wr w.heap.size _ k L from (congrArg (fun z => OwnC 25 wr w.heap.size _ k z) HT.out).mp HO.out)
      obtain ⟨ao, cap, rfl, _⟩ := own_cls HO2.out
      go_wp2
      go_ret
      exact ⟨_, rfl, by rw [HL.out]; exact HO2.out, HB.out⟩
namespace Rl
theorem law_b3 : bl (str (txt 8 12)) = lawB3 := by decide +kernel
theorem runs_end (a x y : Nat) (cs : List Cel) (c : UInt8) (h1 : isNum c = false) (h2 : isTag c = false) (h3 : btw.contains c = false) (h4 : ¬ c = 33) (t : List UInt8) : runsL (c :: t) a x y cs = .err a 3 := by
  have hz : numL (c :: t) 0 0 = (0, 0) := by unfold numL; rw [if_neg (by rw [h1]; decide)]
  have hc : ¬ c = 48 := fun e => by subst e; revert h1; decide
  have hr : runL (c :: t) = (0, 0, false) := by
    unfold runL
    rw [if_neg (by simpa using hc), hz]
    simp [h2]
  rw [runs_eq, tl_num h3, if_neg (by simpa using h4), hr]
  simp
/-- a text without its end -/
theorem ends_parse (S : List Cel) (hs : Srt S) (hk : ∀ x ∈ S, okc x = true) (h4 : S.length ≤ 4096) (hW : (dims S).2.1 ≤ 274877906944) (hH : (dims S).2.2 ≤ 274877906944) (hl : (wT lawB3 S).1.length ≤ 65536) :
    2 ≤ (wT lawB3 S).1.length ∧ parseL ((wT lawB3 S).1.take ((wT lawB3 S).1.length - 2)) = ⟨(0, 0), [], (wT lawB3 S).1.length - 2, 3⟩ ∧
      ∀ c : UInt8, isNum c = false → isTag c = false → btw.contains c = false → ¬ c = 33 → parseL ((wT lawB3 S).1.take ((wT lawB3 S).1.length - 2) ++ [c, 33]) = ⟨(0, 0), [], (wT lawB3 S).1.length - 2, 3⟩ := by
  obtain ⟨d1, d2, _⟩ := dims_ok S hs hk
  obtain ⟨X, Z, x', y', e, hz, ha⟩ := wT_parts S hs hk h4 hW hH
  have hW' : (dims S).2.1.toNat ≤ 274877906944 := by omega
  have hH' : (dims S).2.2.toNat ≤ 274877906944 := by omega
  generalize (dims S).2.1.toNat = W at *
  generalize (dims S).2.2.toNat = H at *
  obtain ⟨C, hC⟩ : ∃ C, hdL W H lawB3 ++ 10 :: (X ++ Z) = C := ⟨_, rfl⟩
  have e1 : (wT lawB3 S).1 = C ++ [33, 10] := by rw [e, ← hC]; simp
  have hcl : C.length = (hdL W H lawB3).length + ([10] ++ X ++ Z).length := by rw [← hC]; simp
  rw [e1] at hl ⊢
  have hlen : (C ++ [33, 10]).length - 2 = C.length := by simp
  have hl2 : C.length + 2 ≤ 65536 := by simpa using hl
  have htk : (C ++ [33, 10]).take ((C ++ [33, 10]).length - 2) = C := by rw [hlen]; simp
  have hA := ((Adv.nl 0 0 []).app ha).app (adv_z hz x' y' _)
  rw [htk, hlen]
  refine ⟨by simp, ?_, fun c h1 h2 h3 h5 => ?_⟩
  · have hr := hA [] (hdL W H lawB3).length
    have e3 : [10] ++ X ++ Z ++ [] = 10 :: (X ++ Z) := by simp
    rw [e3, runs_nil, ← hcl] at hr
    rw [← hC, parse_head W H hW' hH' _ (by rw [hC]; omega), hr, ← hC]
    rfl
  · have hr := hA [c, 33] (hdL W H lawB3).length
    have e3 : [10] ++ X ++ Z ++ [c, 33] = 10 :: (X ++ Z ++ [c, 33]) := by simp
    rw [e3, runs_end _ _ _ _ c h1 h2 h3 h5, ← hcl] at hr
    have e4 : C ++ [c, 33] = hdL W H lawB3 ++ 10 :: (X ++ Z ++ [c, 33]) := by rw [← hC]; simp
    rw [e4, parse_head W H hW' hH' _ (by rw [← e4]; simp; omega), hr]
    rfl
/-- a text, whole -/
theorem whole_parse (S : List Cel) (hs : Srt S) (hk : ∀ x ∈ S, okc x = true) (h4 : S.length ≤ 4096) (hW : (dims S).2.1 ≤ 274877906944) (hH : (dims S).2.2 ≤ 274877906944) (hl : (wT lawB3 S).1.length ≤ 65536) :
    parseL (wT lawB3 S).1 = ⟨(8, 12), S.map (mv (dims S).1.1 (dims S).1.2), 0, 0⟩ := by
  obtain ⟨d1, d2, _⟩ := dims_ok S hs hk
  obtain ⟨X, Z, x', y', e, hz, ha⟩ := wT_parts S hs hk h4 hW hH
  have hW' : (dims S).2.1.toNat ≤ 274877906944 := by omega
  have hH' : (dims S).2.2.toNat ≤ 274877906944 := by omega
  generalize (dims S).2.1.toNat = W at *
  generalize (dims S).2.2.toNat = H at *
  rw [e] at hl
  have e2 : hdL W H lawB3 ++ [10] ++ X ++ Z ++ [33, 10] = hdL W H lawB3 ++ 10 :: (X ++ Z ++ [33, 10]) := by simp
  rw [e2] at hl e
  rw [e, parse_head W H hW' hH' _ hl]
  have h1 := (((Adv.nl 0 0 []).app ha).app (adv_z hz x' y' _)) [33, 10] (hdL W H lawB3).length
  have e3 : [10] ++ X ++ Z ++ [33, 10] = 10 :: (X ++ Z ++ [33, 10]) := by simp
  rw [e3] at h1
  rw [h1, runs_eq, tl_num (by decide), if_pos (show ([33, 10] : List UInt8).head? = some 33 from rfl)]
  rfl
end Rl
end Go.Proofs.YtangbokcdgganaaGreatDoor

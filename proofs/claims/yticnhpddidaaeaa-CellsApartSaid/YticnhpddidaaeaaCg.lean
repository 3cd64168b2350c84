/-
  THE WALKS of slices.Clone, IndexFunc and ContainsFunc by isBeyond, check; Index, Contains, Has. Conditions: the cells lie in memory.
-/

import Derived.Test.YticnhpddidaaeaaCf
import Derived.Laws.AppendOwn
namespace Go.Proofs.Yticnhpddidaaeaa
open Go.RowKit Ru Ce

theorem own_empty (T : TypeId) (w : World) : OwnC T (w.alloc (.cells #[] T)) w.heap.size (.slice (some ⟨w.heap.size, 0, none⟩) 0 0) 0 [] :=
  ⟨rfl, .inr ⟨w.heap.size, 0, #[], rfl, Nat.le_refl _, heap_alloc_new w _, Nat.le_refl _, by unfold maxLen; omega, rfl, rfl⟩⟩
theorem cls_cells {w w' : World} {ad : Addr} {L : List Cel} (h : Cls w (some ad) L) (hb : Below w.heap.size w w') : ∀ j u, (cl L)[j]? = some u → w'.cell? (ad.add j) = some u := by
  intro j u hu
  have hj : j < L.length * 2 := by
    have := (List.getElem?_eq_some_iff.1 hu).1
    rwa [cl_len] at this
  have e := cl_at L (j / 2) (by omega) (j % 2) (by omega)
  rw [show j / 2 * 2 + j % 2 = j by omega, hu] at e
  obtain ⟨b, off, ha, h0, h1⟩ := (h.below hb (Nat.le_refl _)) (j / 2) (by omega)
  obtain rfl : ad = ⟨b, off, none⟩ := by simpa using ha
  rw [Addr.add_mid]
  rcases (show j % 2 = 0 ∨ j % 2 = 1 by omega) with q | q
  · rw [q] at e
    rw [show off + j = off + j / 2 * 2 by omega, h0]
    simpa [cc] using e.symm
  · rw [q] at e
    rw [show off + j = off + j / 2 * 2 + 1 by omega, h1]
    simpa [cc] using e.symm
set_option maxRecDepth 100000 in
theorem clone_any (a : Option Addr) (n c : Nat) (L : List Cel) (w : World) (ha : Cls w a L) (hn : L.length = n) (hz : a = none → n = 0) (hm : n ≤ 1000000) :
    Calls Try.prog 17 #[.slice a n c] w (NewC 31 w L) := by
  cases a with
  | none =>
    have h0 := hz rfl
    subst h0
    have hL := Lib.hid (List.eq_nil_of_length_eq_zero hn)
    clear hz ha hn hm
    have he : ∀ W : World, (binOp .eql 28 (.slice none 0 c) (.slice none 0 0)).run Try.prog W = .ok (.bool true) W := fun _ => rfl
    go_enter Try.func17, Try.ntmps17
    go_wp2
    go_ret
    exact ⟨_, rfl, by rw [hL.out]; exact World.ownsRow_nil _ _ _ _, Below.refl _ _⟩
  | some ad =>
    have HC := Lib.hid (cls_cells ha (alX w (.cells #[] 31)))
    have HL := Lib.hid (show (cl L).length = n * 2 by rw [cl_len, hn])
    have HN := Lib.hid hn
    have HM := Lib.hid hm
    obtain ⟨i0, hi, hz0, hz1, hz2⟩ := info_parts info_a
    have HI := Lib.hid hi
    have HI0 := Lib.hid hz0
    have HI1 := Lib.hid hz1
    have HI2 := Lib.hid hz2
    clear ha hn hi hz0 hz1 hz2 hz hm
    have he : ∀ W : World, (binOp .eql 28 (.slice (some ad) n c) (.slice none 0 0)).run Try.prog W = .ok (.bool false) W := fun _ => rfl
    go_enter Try.func17, Try.ntmps17
    go_wp2_with (at_builtin; refine wpList_append_own _ rfl (.tmp 5) (.tmp 6) 28 rfl w.heap.size 31 i0 (cv (0, 0)) 2 16 Try.underlying28 HI.out HI0.out HI1.out HI2.out rfl (by decide) _ 0 [] rfl (own_empty _ _) ad n c (cl L) rfl HL.out HC.out (cl_one L) (by have := HM.out; unfold maxLen; omega) (by have := HM.out; omega) (by simp) ?_; intro v2 w5 hown hgrow _; have HO := Lib.hid (show OwnC 31 w5 w.heap.size v2 n L by simpa using hown); have HB := Lib.hid ((alX w (.cells #[] 31)).grown hgrow (by simp) (fun j hj => by cases hj; exact Nat.le_refl _)); clear hown hgrow)
    obtain ⟨ao, cap, rfl, _⟩ := own_cls HO.out
    go_ret
    exact ⟨_, rfl, by rw [HN.out]; exact HO.out, HB.out⟩
set_option maxRecDepth 100000 in
set_option maxHeartbeats 1000000 in
theorem ixf_any (a : Option Addr) (n c : Nat) (L : List Cel) (w : World) (ha : Cls w a L) (hn : L.length = n) (hm : n ≤ 9223372036854775807) :
    Calls Try.prog 41 #[.slice a n c, .func (.func 21) #[] #[]] w
      fun e w' => ∃ k : Int, e = .returned (.int .i64 k) ∧ decide (0 ≤ k) = !L.all okc ∧ Below w.heap.size w w' := by
  have HA := Lib.hid ha
  have HL := Lib.hid hn
  clear ha hn
  go_enter Try.func41, Try.ntmps41
  go_wp2
  go_loopw [8, 5] (fun i _ wr => ∃ k : Nat, k ≤ n ∧ i = .int .i64 k ∧ Hid ((L.take k).all okc = true) ∧ Hid (Below w.heap.size w wr)) (fun i _ _ => n - (intOf i).toNat)
  case atStart => exact ⟨0, by omega, rfl, Lib.hid (by simp), Lib.hid (Below.refl _ _)⟩
  case round =>
    obtain ⟨k, hk, rfl, HT, HB⟩ := hrel
    by_cases hlt : k < n
    · have hkl : k < L.length := by rw [HL.out]; exact hlt
      obtain ⟨b, off, rfl, c0, c1⟩ := (HA.out.below HB.out (Nat.le_refl _)) k hkl
      have i0 : (0 : Int) ≤ (k : Int) := by omega
      have i1 : (k : Int) < (n : Int) := by omega
      have HS := Lib.hid (show (L.take (k + 1)).all okc = okc L[k] by
        rw [List.take_succ_eq_append_getElem hkl, List.all_append, HT.out]; simp)
      have HMem := Lib.hid (show L[k] ∈ L from List.getElem_mem hkl)
      obtain ⟨y, hy⟩ : ∃ y, y = L[k] := ⟨_, rfl⟩
      rw [← hy] at c0 c1 HS HMem
      clear hy
      have HV := Lib.hid (fun W => beyond_any y W)
      unfold cv at HV
      cases hq : okc y
      · rw [hq] at HV
        have HE := Lib.hid (show decide (0 ≤ (k : Int)) = !L.all okc by
          have : L.all okc = false := by
            rw [Bool.eq_false_iff]
            intro q
            rw [List.all_eq_true] at q
            rw [q y HMem.out] at hq
            cases hq
          rw [this]; simp)
        clear hq
        go_wp2_with (go_at_call 21; refine (HV.out _).mono ?_; rintro e w1 ⟨rfl, hb1⟩; have HB1 := Lib.hid (HB.out.trans (hb1.mono HB.out.size)); clear hb1)
        go_ret
        exact ⟨k, rfl, HE.out, HB1.out⟩
      · rw [hq] at HV HS
        clear hq
        go_wp2_with (go_at_call 21; refine (HV.out _).mono ?_; rintro e w1 ⟨rfl, hb1⟩; have HB1 := Lib.hid (HB.out.trans (hb1.mono HB.out.size)); clear hb1)
        go_roundw
        case rel => exact ⟨k + 1, by omega, by go_num, HS, HB1⟩
        case measure => simp [intOf]; omega
    · obtain rfl : k = n := by omega
      have HE := Lib.hid (show decide (0 ≤ (-1 : Int)) = !L.all okc by
        have e : L.take k = L := List.take_of_length_le (by rw [HL.out]; exact Nat.le_refl _)
        have := HT.out
        rw [e] at this
        rw [this]; rfl)
      go_wp2
      go_ret
      exact ⟨-1, rfl, HE.out, HB.out⟩
theorem ctf_any (a : Option Addr) (n c : Nat) (L : List Cel) (w : World) (ha : Cls w a L) (hn : L.length = n) (hm : n ≤ 9223372036854775807) :
    Calls Try.prog 27 #[.slice a n c, .func (.func 21) #[] #[]] w
      fun e w' => e = .returned (.bool (!L.all okc)) ∧ Below w.heap.size w w' := by
  have HI := Lib.hid (ixf_any a n c L w ha hn hm)
  clear ha hn
  go_enter Try.func27, Try.ntmps27
  go_wp2_with (go_at_call 41; refine HI.out.mono ?_; rintro e w' ⟨k, rfl, hk, hb⟩; have HK := Lib.hid hk; have HB := Lib.hid hb; clear hk hb)
  go_ret
  exact ⟨by rw [← HK.out]; rfl, HB.out⟩
/-- what check answers, as a number -/
def chkN (L : List Cel) : Nat := if 4096 < L.length then 2 else if L.all okc = true then 0 else 4
def errv (n : Nat) : Value := if n = 0 then .nilIface else .iface 41 (.int .i64 n)
theorem check_any (a : Option Addr) (n c : Nat) (L : List Cel) (w : World) (ha : Cls w a L) (hn : L.length = n) (hm : n ≤ 9223372036854775807) :
    Calls Try.prog 16 #[.slice a n c] w fun e w' => e = .returned (errv (chkN L)) ∧ Below w.heap.size w w' := by
  have HC := Lib.hid (fun w (ha : Cls w a L) => ctf_any a n c L w ha hn hm)
  have HA := Lib.hid ha
  by_cases h1 : 4096 < n
  · have HV := Lib.hid (show errv (chkN L) = .iface 41 (.int .i64 2) by unfold chkN; rw [if_pos (by omega)]; rfl)
    rw [HV.out]
    have i1 : (4096 : Int) < (n : Int) := by omega
    clear ha hn hm h1
    go_enter Try.func16, Try.ntmps16
    go_wp2
    go_ret
    exact ⟨rfl, Below.refl _ _⟩
  · have i1 : ¬ (4096 : Int) < (n : Int) := by omega
    have e1 : chkN L = if L.all okc = true then 0 else 4 := by unfold chkN; rw [if_neg (by omega)]
    cases h2 : L.all okc
    · have HV := Lib.hid (show errv (chkN L) = .iface 41 (.int .i64 4) by rw [e1, h2]; rfl)
      rw [HV.out]
      rw [h2] at HC
      clear ha hn hm h1 h2 e1
      go_enter Try.func16, Try.ntmps16
      go_wp2_with (go_at_call 27; refine (HC.out _ HA.out).mono ?_; rintro e w' ⟨rfl, hb⟩; have HB := Lib.hid hb; clear hb)
      go_ret
      exact ⟨rfl, HB.out⟩
    · have HV := Lib.hid (show errv (chkN L) = .nilIface by rw [e1, h2]; rfl)
      rw [HV.out]
      rw [h2] at HC
      clear ha hn hm h1 h2 e1
      go_enter Try.func16, Try.ntmps16
      go_wp2_with (go_at_call 27; refine (HC.out _ HA.out).mono ?_; rintro e w' ⟨rfl, hb⟩; have HB := Lib.hid hb; clear hb)
      go_ret
      exact ⟨rfl, HB.out⟩
end Go.Proofs.Yticnhpddidaaeaa

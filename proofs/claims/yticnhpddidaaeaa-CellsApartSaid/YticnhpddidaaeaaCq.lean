/-
  THE WALKS of the statements' sameCells and sure. Conditions: the cells lie in memory.
-/

import Derived.Test.YticnhpddidaaeaaCp
namespace Go.Proofs.Yticnhpddidaaeaa
open Go.RowKit Ru Ce

set_option maxRecDepth 100000 in
set_option maxHeartbeats 1000000 in
theorem same_any (a : Option Addr) (n c : Nat) (A : List Cel) (a' : Option Addr) (n' c' : Nat) (B : List Cel) (w : World) (ha : Cls w a A) (hb : Cls w a' B) (hn : A.length = n) (hn' : B.length = n') (hm : n ≤ 9223372036854775807) (hm' : n' ≤ 9223372036854775807) :
    Calls Try.prog 8 #[.slice a n c, .slice a' n' c'] w fun e w' => e = .returned (.bool (decide (A = B))) ∧ ∃ q, w' = w.drewN q := by
  have HA := Lib.hid ha
  have HB := Lib.hid hb
  have HL := Lib.hid hn
  have HM := Lib.hid hn'
  by_cases hnn : n = n'
  · subst hnn
    have hne : ((n : Int) != (n : Int)) = false := by simp
    clear ha hb hn hn'
    go_enter Try.func8, Try.ntmps8
    go_wp2
    go_loopw [5] (fun i wr => ∃ k : Nat, k ≤ n ∧ i = .int .i64 k ∧ Hid (A.take k = B.take k) ∧ Hid (∃ q, wr = w.drewN q)) (fun i _ => n - (intOf i).toNat)
    case atStart => exact ⟨0, by omega, rfl, Lib.hid (by simp), Lib.hid ⟨0, rfl⟩⟩
    case round =>
      obtain ⟨k, hk, rfl, HT, HQ⟩ := hrel
      obtain ⟨q, hq⟩ := HQ.out
      have i0 : (0 : Int) ≤ (k : Int) := by omega
      have HQ1 := Lib.hid (show ∀ m, ∃ q, wr.drewN m = w.drewN q from fun m => ⟨q + m, by rw [hq, World.drewN_drewN]⟩)
      have HCA := Lib.hid (show Cls wr a A by rw [hq]; exact HA.out)
      have HCB := Lib.hid (show Cls wr a' B by rw [hq]; exact HB.out)
      clear hq
      by_cases hlt : k < n
      · have i1 : (k : Int) < (n : Int) := by omega
        have hka : k < A.length := by rw [HL.out]; exact hlt
        have hkb : k < B.length := by rw [HM.out]; exact hlt
        obtain ⟨g, off, rfl, c0, c1⟩ := HCA.out k hka
        obtain ⟨g', off', rfl, c2, c3⟩ := HCB.out k hkb
        obtain ⟨x, hx⟩ : ∃ x, x = A[k] := ⟨_, rfl⟩
        obtain ⟨y, hy⟩ : ∃ y, y = B[k] := ⟨_, rfl⟩
        rw [← hx] at c0 c1
        rw [← hy] at c2 c3
        have HX := Lib.hid (show A.take (k + 1) = A.take k ++ [x] by rw [List.take_succ_eq_append_getElem hka, hx])
        have HY := Lib.hid (show B.take (k + 1) = B.take k ++ [y] by rw [List.take_succ_eq_append_getElem hkb, hy])
        clear hx hy hka hkb
        have hneq := neq_a x y
        by_cases hxy : x = y
        · have hd : (!decide (x = y)) = false := by simpa using hxy
          rw [hd] at hneq
          have HT2 := Lib.hid (show A.take (k + 1) = B.take (k + 1) by rw [HX.out, HY.out, HT.out, hxy])
          clear hd hxy
          go_wp2
          go_quiet (fail)
          go_wp2
          go_roundw
          case rel => exact ⟨k + 1, by omega, by go_num, HT2, Lib.hid (HQ1.out _)⟩
          case measure => simp [intOf]; omega
        · have hd : (!decide (x = y)) = true := by simpa using hxy
          rw [hd] at hneq
          have HF := Lib.hid (show decide (A = B) = false from decide_eq_false (fun e => hxy (by
            have h1 := HX.out
            rw [e, HY.out] at h1
            have := congrArg List.getLast? h1
            simpa using this.symm)))
          clear hd hxy
          go_wp2
          go_quiet (fail)
          go_wp2
          go_ret
          rw [HF.out]
          exact ⟨rfl, HQ1.out _⟩
      · obtain rfl : k = n := by omega
        have HF := Lib.hid (show decide (A = B) = true from decide_eq_true (by
          have := HT.out
          rwa [List.take_of_length_le (by rw [HL.out]; exact Nat.le_refl _), List.take_of_length_le (by rw [HM.out]; exact Nat.le_refl _)] at this))
        go_wp2
        go_ret
        rw [HF.out]
        exact ⟨rfl, by obtain ⟨q, hq⟩ := HQ1.out 0; exact ⟨q, hq⟩⟩
  · have hne : ((n : Int) != (n' : Int)) = true := by simp; omega
    have HF := Lib.hid (show decide (A = B) = false from decide_eq_false (fun e => hnn (by rw [← hn, ← hn', e])))
    clear ha hb hn hn'
    go_enter Try.func8, Try.ntmps8
    go_wp2
    go_ret
    rw [HF.out]
    exact ⟨rfl, 0, rfl⟩
/-- three cells in a block -/
theorem cls3 (T : TypeId) (w : World) (a b c : Cel) : Cls (w.alloc (.cells #[.int .i64 a.1, .int .i64 a.2, .int .i64 b.1, .int .i64 b.2, .int .i64 c.1, .int .i64 c.2] T)) (some ⟨w.heap.size, 0, none⟩) [a, b, c] := by
  have hh := heap_alloc_new w (.cells #[.int .i64 a.1, .int .i64 a.2, .int .i64 b.1, .int .i64 b.2, .int .i64 c.1, .int .i64 c.2] T)
  intro i hi
  refine ⟨w.heap.size, 0, rfl, ?_⟩
  rw [cell_of_row _ _ _ _ _ _ hh, cell_of_row _ _ _ _ _ _ hh]
  match i, hi with
  | 0, _ => exact ⟨rfl, rfl⟩
  | 1, _ => exact ⟨rfl, rfl⟩
  | 2, _ => exact ⟨rfl, rfl⟩
theorem life_may : mayR 8 12 = true := by decide
theorem sure_step : stepN 8 12 [(2, 0), (0, 0), (1, 0)] 1 = 0 ∧ stepV 8 12 [(2, 0), (0, 0), (1, 0)] 1 = [(1, -1), (1, 0), (1, 1)] := by decide +kernel
def SureR (w : World) (e : Ending) (w' : World) : Prop := e = .returned (.bool true) ∧ Below w.heap.size w w'
set_option maxRecDepth 100000 in
set_option maxHeartbeats 1000000 in
theorem sure_any (w : World) : Calls Try.prog 5 #[] w (SureR w) := by
  have HS := Lib.hid (fun w => step_any 8 12 (by decide) (by decide) (some ⟨w.heap.size, 0, none⟩) 3 3 [(2, 0), (0, 0), (1, 0)] 1 (w.alloc (.cells #[.int .i64 2, .int .i64 0, .int .i64 0, .int .i64 0, .int .i64 1, .int .i64 0] 31)) (cls3 _ w (2, 0) (0, 0) (1, 0)) rfl (fun e => by cases e) (by omega))
  have HR := Lib.hid (show ∀ w1 e w', StepR w1 8 12 [(2, 0), (0, 0), (1, 0)] 1 e w' → ∃ v, e = .returned (.tuple #[v, .nilIface]) ∧ OwnC 31 w' w1.heap.size v 3 [(1, -1), (1, 0), (1, 1)] ∧ Below w1.heap.size w1 w' from fun w1 e w' h => by
    unfold StepR at h
    rw [if_pos sure_step.1, sure_step.2] at h
    exact h)
  unfold Rv at HS
  go_enter Try.func5, Try.ntmps5
  go_wp2_with (first
    | (go_at_call 6; refine (HS.out _).mono ?_; intro e w1 h1; obtain ⟨v1, rfl, ho1, hb1⟩ := HR.out _ _ _ h1; have HO1 := Lib.hid ho1; have HB1 := Lib.hid ((alX w _).trans (hb1.mono (by simp))); clear h1 ho1 hb1; obtain ⟨ao, cap, rfl, hc1, _, _, _, hq1, _⟩ := own_cls HO1.out; have HC1 := Lib.hid hc1; clear hc1 hq1)
    | (go_at_call 8; refine (same_any _ _ _ [(1, -1), (1, 0), (1, 1)] _ _ _ [(1, -1), (1, 0), (1, 1)] _ (HC1.out.below (alX _ _) (Nat.le_refl _)) (cls3 _ _ (1, -1) (1, 0) (1, 1)) rfl rfl (by omega) (by omega)).mono ?_; rintro e w2 ⟨rfl, q, rfl⟩))
  go_ret
  exact ⟨rfl, bdn (HB1.out.alloc HB1.out.size _) _⟩
end Go.Proofs.Yticnhpddidaaeaa

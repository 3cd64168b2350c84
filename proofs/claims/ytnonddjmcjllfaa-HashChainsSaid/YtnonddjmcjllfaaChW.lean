/-
  THE WALK of the statement on one number more. Conditions: what came in could be read.
-/
import Derived.Test.YtnonddjmcjllfaaOnW
import Derived.Laws.AppendOwnNone
namespace Go.Proofs.Ytnonddjmcjllfaa
open Go.RowKit Hb

set_option maxRecDepth 100000 in
set_option maxHeartbeats 1000000 in
theorem chains_walk (a0 : Option Addr) (len cap : Nat) (zs : List Int) (n : Int) (w : World) (w0 : IsRow .u64 w a0 len cap zs) (w1 : (Lit.int .u64 n).wf = true) :
    Calls Try.prog 7 #[.slice a0 len cap, .int .u64 n] w fun e w' => e = .returned (.bool true) ∧ Below w.heap.size w w' := by
  obtain ⟨Y, rfl⟩ := u64_open w1
  obtain ⟨xs, hn, hx, hlc, hcm⟩ := isrow_open w0
  have hcap : a0 = none → cap = 0 := by
    intro e
    rcases w0 with ⟨_, _, h, _⟩ | ⟨x, h, _⟩
    · exact h
    · rw [e] at h; cases h
  clear w0 w1
  by_cases hbad : 200 < len
  · have hz3 : (200 : Int) < (len : Int) := by omega
    go_enter Try.func7, Try.ntmps7
    go_wp2_with (go_at_call 9; refine (sure_any _).mono ?_; rintro e w' ⟨rfl, rfl⟩)
    go_ret
    exact ⟨rfl, Below.refl _ _⟩
  · have hz3 : ¬ (200 : Int) < (len : Int) := by omega
    have hs : (xs ++ [Y]).length = len + 1 := by rw [List.length_append, hn]; rfl
    have hq := of_snoc xs Y
    have HQ := Lib.hid hq
    have HX := Lib.hid hx
    have HN := Lib.hid hn
    have HS := Lib.hid hs
    obtain ⟨i0, hi, hz0, hz1, hz2⟩ := info_parts info_q
    have HI := Lib.hid hi
    have HI0 := Lib.hid hz0
    have HI1 := Lib.hid hz1
    have HI2 := Lib.hid hz2
    clear hx hn hs hi hz0 hz1 hz2 hq
    rcases a0 with _ | ad
    · have hn0 : xs = [] := by
        apply List.eq_nil_of_length_eq_zero
        by_cases e : 0 < xs.length
        · obtain ⟨b, off, h, _⟩ := HX.out 0 e
          cases h
        · omega
      subst hn0
      obtain rfl : len = 0 := HN.out.symm
      obtain rfl : cap = 0 := hcap rfl
      have HB := Lib.hid (Below.refl w.heap.size w)
      clear hcap
      go_enter Try.func7, Try.ntmps7
      go_upto_region 5 with (first | (at_builtin; refine wpList_append_own_none rfl (.tmp 10) (.tmp 11) 23 rfl w.heap.size 22 i0 1 Try.underlying23 HI.out (.slice none 0 0) 0 [] rfl (World.ownsRow_nil _ _ _ _) rfl ?_) | (at_builtin; refine wpList_append_lies _ rfl (.tmp 12) (.tmp 14) 23 rfl w.heap.size 22 i0 (.int .u64 0) 1 8 Try.underlying23 HI.out HI0.out HI1.out HI2.out rfl (by decide) (.slice none 0 0) 0 [] rfl (World.ownsRow_nil _ _ _ _) ⟨w.heap.size, 0, none⟩ 1 1 [Value.int .u64 (rg Y)] rfl rfl (cell_one_new _ _ _) (by simp [Value.oneCell']) (by decide) (by unfold maxLen; omega) (by omega) (by simp) _ rfl ?_; intro g cp w5 hown hgrow hat hglt; simp only [Nat.zero_add, List.nil_append] at hown; have HO5 := Lib.hid hown; have HB5 := Lib.hid ((HB.out.alloc HB.out.size _).grown hgrow (by simp) (fun j hj => by cases hj)); clear hown hgrow hat hglt))
      have HL5 := Lib.hid (own_q (xs := [Y]) HO5.out).1
      go_wp2_with fail
      refine (of_any _ _ _ [Y] _ HL5.out rfl (show 1 ≤ 9223372036854775807 by decide)).mono ?_; rintro e w' ⟨rfl, rfl⟩
      go_wp2_with fail
      refine (of_nil _).mono ?_; rintro e w' ⟨rfl, rfl⟩
      go_wp2_with fail
      refine (of_nil _).mono ?_; rintro e w' ⟨rfl, rfl⟩
      go_wp2_with fail
      refine (mix_any ((ofB [] ^^^ Y) + gold) _ (by rw [gold_rg, xor_rg, add_rg]; rfl) _).mono ?_; rintro e w' ⟨rfl, rfl⟩
      have hq : ofB [Y] = mixB ((ofB [] ^^^ Y) + gold) := HQ.out
      go_wp2_with (go_at_call 9; refine (sure_any _).mono ?_; rintro e w' ⟨rfl, rfl⟩)
      go_ret
      exact ⟨rfl, HB5.out⟩
    · have HNW := Lib.hid (show ∀ j u, (ql xs)[j]? = some u → w.cell? (ad.add j) = some u from fun j u hu => by
        have hj : j < xs.length := by
          have := (List.getElem?_eq_some_iff.1 hu).1
          simpa [ql] using this
        obtain ⟨b, off, ha, _⟩ := HX.out j hj
        obtain rfl := Option.some.inj ha
        exact ql_lies HX.out j u hu)
      go_enter Try.func7, Try.ntmps7
      go_upto_region 5 with (first | (at_builtin; refine wpList_append_own _ rfl (.tmp 10) (.tmp 11) 23 rfl w.heap.size 22 i0 (.int .u64 0) 1 8 Try.underlying23 HI.out HI0.out HI1.out HI2.out rfl (by decide) (.slice none 0 0) 0 [] rfl (World.ownsRow_nil _ _ _ _) ad len cap (ql xs) rfl (by rw [ql_len, HN.out, Nat.mul_one]) HNW.out (ql_one _) (by unfold maxLen; omega) (by omega) (Nat.le_refl _) ?_; intro v1 w4 hown hgrow _; simp only [Nat.zero_add, List.nil_append] at hown; have HO := Lib.hid hown; have HB := Lib.hid ((Below.refl w.heap.size w).grown hgrow (Nat.le_refl _) (fun j hj => by cases hj)); clear hown hgrow) | (at_builtin; refine wpList_append_lies _ rfl (.tmp 12) (.tmp 14) 23 rfl w.heap.size 22 i0 (.int .u64 0) 1 8 Try.underlying23 HI.out HI0.out HI1.out HI2.out rfl (by decide) v1 len (ql xs) rfl (HO.out.alloc _) ⟨w4.heap.size, 0, none⟩ 1 1 [Value.int .u64 (rg Y)] rfl rfl (cell_one_new _ _ _) (by simp [Value.oneCell']) (by decide) (by unfold maxLen; omega) (by omega) (by have := HB.out.size; simp; omega) _ rfl ?_; intro g cp w5 hown hgrow hat hglt; have HO5 := Lib.hid hown; have HB5 := Lib.hid ((HB.out.alloc HB.out.size _).grown hgrow (by have := HB.out.size; simp; omega) (fun j hj => (HO.out.lt j hj).1)); clear hown hgrow hat hglt))
      have HL5 := Lib.hid (own_q (xs := xs ++ [Y]) (by have h := HO5.out; rw [show ql xs ++ [Value.int .u64 (rg Y)] = ql (xs ++ [Y]) by simp [ql]] at h; exact h)).1
      have HX5 := Lib.hid (HX.out.below HB5.out)
      have hl : len ≤ 9223372036854775807 := by omega
      have hl1 : len + 1 ≤ 9223372036854775807 := by omega
      go_wp2_with fail
      refine (of_any _ _ _ _ _ HL5.out HS.out hl1).mono ?_; rintro e w' ⟨rfl, rfl⟩
      go_wp2_with fail
      refine (of_any _ _ _ _ _ HX5.out HN.out hl).mono ?_; rintro e w' ⟨rfl, rfl⟩
      go_wp2_with fail
      refine (of_nil _).mono ?_; rintro e w' ⟨rfl, rfl⟩
      go_wp2_with fail
      refine (mix_any ((ofB xs ^^^ Y) + gold) _ (by rw [xor_rg, ← add_gold, IntKind.wrap_u64]) _).mono ?_; rintro e w' ⟨rfl, rfl⟩
      have hq : ofB (xs ++ [Y]) = mixB ((ofB xs ^^^ Y) + gold) := HQ.out
      go_wp2_with (go_at_call 9; refine (sure_any _).mono ?_; rintro e w' ⟨rfl, rfl⟩)
      go_ret
      exact ⟨rfl, HB5.out⟩
end Go.Proofs.Ytnonddjmcjllfaa

/-
  RuleMixed's plain side: numbers in the other order, one of them twice; texts put together. No condition.
-/
import Derived.Test.YtcgpjfcfokiagaaDoorRc
namespace Go.Proofs.YtcgpjfcfokiagaaDoor
open Go.RowKit Ru

theorem red_bd (a m : Int) (hm : 0 < m) (hm2 : m ≤ 9223372036854775807) : 0 ≤ wrap64 ((IntKind.u64.wrap a).tmod m) ∧ wrap64 ((IntKind.u64.wrap a).tmod m) < m := by
  have h0 : 0 ≤ IntKind.u64.wrap a := by rw [IntKind.wrap_u64]; omega
  rw [Int.tmod_eq_emod_of_nonneg h0]
  have h1 := Int.emod_nonneg (IntKind.u64.wrap a) (show m ≠ 0 by omega)
  have h2 := Int.emod_lt_of_pos (IntKind.u64.wrap a) hm
  rw [IntWalk.wrap64_in _ ⟨by omega, by omega⟩]
  exact ⟨h1, h2⟩
theorem red_nat (a m : Int) (hm : 0 < m) (hm2 : m ≤ 9223372036854775807) : ∃ k : Nat, wrap64 ((IntKind.u64.wrap a).tmod m) = k ∧ (k : Int) < m := by
  have := red_bd a m hm hm2
  exact ⟨(wrap64 ((IntKind.u64.wrap a).tmod m)).toNat, by omega, by omega⟩
/-- the numbers below k, descending -/
def rv (b k : Nat) : List Nat := (dgs b k).reverse
theorem rv_succ (b k : Nat) : rv b (k + 1) = if hs b k then (48 + k) :: rv b k else rv b k := by
  unfold rv
  rw [dgs_succ]
  cases hs b k <;> simp
theorem rv_len (b k : Nat) : (rv b k).length ≤ k := by unfold rv; rw [List.length_reverse]; exact dgs_len b k
theorem nums_rv (b : Nat) (h : b < 512) : nums (rv b 9) 0 = some (b, []) := nums_rev b h
theorem nums_tw (b n : Nat) (h : b < 512) (hn : n < 9) (hh : hs b n = true) : nums ((48 + n) :: rv b 9) 0 = none := nums_twice b h n hn hh
/-- the number that stands twice, once it has been gone over -/
def tw (b m k : Nat) : List Nat := if hs b m = true ∧ m < k then [48 + m] else []
theorem tw_len (b m k : Nat) : (tw b m k).length ≤ 1 := by unfold tw; split <;> simp
theorem tw_same (b m k : Nat) (h : hs b k = false ∨ m ≠ k) : tw b m (k + 1) = tw b m k := by
  unfold tw
  by_cases e : m = k
  · subst e
    rcases h with h | h
    · simp [h]
    · exact absurd rfl h
  · have : m < k + 1 ↔ m < k := by omega
    simp [this]
theorem tw_new (b k : Nat) (h : hs b k = true) : tw b k (k + 1) = [48 + k] := by
  unfold tw; simp [h]
/-- two texts, one behind the other -/
theorem add_str {P : Program} (a b : List Nat) (h : a.length + b.length ≤ 100000) (w : World) : (Op.stringOp .add (str a) (str b)).run P w = .ok (.string (str (a ++ b))) w := by
  rw [run_string_add_sum w _ _ (by rw [str_size, str_size]; omega), str_app]
theorem cut_nine (k : Nat) (h : k < 9) : (⟨#[48, 49, 50, 51, 52, 53, 54, 55, 56]⟩ : ByteArray).extract k (k + 1) = str [48 + k] := by
  have : ∀ k < 9, (⟨#[48, 49, 50, 51, 52, 53, 54, 55, 56]⟩ : ByteArray).extract k (k + 1) = str [48 + k] := by decide +kernel
  exact this k h
theorem low_lt (b k : Nat) (h : k ≤ 9) : ∀ c ∈ rv b k, c < 256 := fun c hc => by
  have := dgs_lt b k h c (List.mem_reverse.1 hc); omega
theorem dg_lt (b : Nat) : ∀ c ∈ dg b, c < 256 := fun c hc => by
  have := dgs_lt b 9 (by decide) c hc; omega
/-- what Parse answers of the first text -/
theorem mixed_one (b l : Nat) (hm : mayR b l = true) : prs (P (lb (str ([98] ++ rv b 9 ++ [47, 115] ++ rv l 9)))) = (b, l, 0) := by
  have h := mayR_true hm
  rw [lb_str]
  · have e : [98] ++ rv b 9 ++ [47, 115] ++ rv l 9 = 98 :: (rv b 9 ++ 47 :: 115 :: rv l 9) := by simp
    rw [e, P_of 98 115 (.inr rfl) (.inr rfl) b l _ _ (nums_rv b h.1) (nums_rv l h.2.1)]
    show (if mayR b l then _ else _) = _
    rw [if_pos hm]
  · intro c hc
    simp only [List.mem_append, List.mem_cons, List.not_mem_nil, or_false] at hc
    rcases hc with ((rfl | hc) | rfl | rfl) | hc
    · decide
    · exact low_lt b 9 (by decide) c hc
    · decide
    · decide
    · exact low_lt l 9 (by decide) c hc
theorem mixed_mem (b l m : Nat) (hm9 : m < 9) : ∀ c ∈ [66] ++ tw b m 9 ++ rv b 9 ++ [47, 83] ++ rv l 9, c < 256 := by
  intro c hc
  simp only [List.mem_append, List.mem_cons, List.not_mem_nil, or_false] at hc
  rcases hc with (((rfl | hc) | hc) | rfl | rfl) | hc
  · decide
  · unfold tw at hc
    split at hc
    · rw [List.mem_singleton.1 hc]; omega
    · cases hc
  · exact low_lt b 9 (by decide) c hc
  · decide
  · decide
  · exact low_lt l 9 (by decide) c hc
theorem mixed_two (b l m : Nat) (hm : mayR b l = true) (hm9 : m < 9) : prs (P (lb (str ([66] ++ tw b m 9 ++ rv b 9 ++ [47, 83] ++ rv l 9)))) = if hs b m then (0, 0, 3) else (b, l, 0) := by
  have h := mayR_true hm
  rw [lb_str _ (mixed_mem b l m hm9)]
  cases hh : hs b m
  · have e : tw b m 9 = [] := by unfold tw; simp [hh]
    have e2 : [66] ++ tw b m 9 ++ rv b 9 ++ [47, 83] ++ rv l 9 = 66 :: (rv b 9 ++ 47 :: 83 :: rv l 9) := by rw [e]; simp
    rw [e2, P_of 66 83 (.inl rfl) (.inl rfl) b l _ _ (nums_rv b h.1) (nums_rv l h.2.1)]
    show (if mayR b l then _ else _) = _
    rw [if_pos hm]; rfl
  · have e : tw b m 9 = [48 + m] := by unfold tw; simp [hh, hm9]
    have e2 : [66] ++ tw b m 9 ++ rv b 9 ++ [47, 83] ++ rv l 9 = 66 :: (((48 + m) :: rv b 9) ++ 47 :: 83 :: rv l 9) := by rw [e]; simp
    rw [e2, P_none 66 _ _ (nums_tw b m h.1 hm9 hh)]
    rfl
/-- the bit, in the walk's words -/
theorem bit_eq (b k : Nat) (hb : b < 65536) : (bits .and .u16 ((b : Int) / 2 ^ k) 1 == 1) = hs b k := by
  have h := and_one b k hb
  rw [show ((b / 2 ^ k : Nat) : Int) = (b : Int) / 2 ^ k by simp] at h
  exact h
end Go.Proofs.YtcgpjfcfokiagaaDoor

/-
  FOUR, AND NINE NUMBERS THAT CAME IN AS AN ARRAY: their form. No conditions.
-/
import Derived.Test.YtgdcedlmndkfiaaSu
import Derived.OpenShut
import Derived.ChangeSame
import Derived.Laws.IdiomArrays
import Derived.WideShapes
import Derived.Lib.SmallJoins
namespace Go.Proofs.Ytgdcedlmndkfiaa
open Go.ChangeShapes Go.WideShapes Go.RowKit Ti

theorem list4 {α : Type} (l : List α) (h : (⟨l⟩ : Array α).size = 4) : ∃ a b c d, l = [a, b, c, d] := by
  match l, h with
  | [a, b, c, d], _ => exact ⟨a, b, c, d, rfl⟩
theorem list9 {α : Type} (l : List α) (h : (⟨l⟩ : Array α).size = 9) : ∃ c0 c1 c2 c3 c4 c5 c6 c7 c8, l = [c0, c1, c2, c3, c4, c5, c6, c7, c8] := by
  match l, h with
  | [c0, c1, c2, c3, c4, c5, c6, c7, c8], _ => exact ⟨c0, c1, c2, c3, c4, c5, c6, c7, c8, rfl⟩
section
variable {H : Type} {enc : TypeId × Value → H} {P : Program} {w : World} {base : Nat} {spare : Nat → Bool} {held : Bool}
theorem trod_nine {t e : TypeId} {fuel : Nat} {c0 c1 c2 c3 c4 c5 c6 c7 c8 : Value} {x : DataW H × List MemPlace} (ht : P.underlying t = some (.array 9 e)) (hce : P.cellsOf e = 1)
    (h : DataW.trod enc P w base spare held fuel t [c0, c1, c2, c3, c4, c5, c6, c7, c8] = some x) :
    ∃ y0 y1 y2 y3 y4 y5 y6 y7 y8 n, DataW.trod enc P w base spare held n e [c0] = some y0 ∧ DataW.trod enc P w base spare held n e [c1] = some y1 ∧ DataW.trod enc P w base spare held n e [c2] = some y2 ∧ DataW.trod enc P w base spare held n e [c3] = some y3 ∧ DataW.trod enc P w base spare held n e [c4] = some y4 ∧ DataW.trod enc P w base spare held n e [c5] = some y5 ∧ DataW.trod enc P w base spare held n e [c6] = some y6 ∧ DataW.trod enc P w base spare held n e [c7] = some y7 ∧ DataW.trod enc P w base spare held n e [c8] = some y8 := by
  cases fuel with
  | zero => simp [DataW.trod] at h
  | succ n =>
    unfold DataW.trod at h
    rw [ht] at h
    have r9 : List.range 9 = [0, 1, 2, 3, 4, 5, 6, 7, 8] := rfl
    simp [r9, hce] at h
    obtain ⟨_, h⟩ := h
    cases h0 : DataW.trod enc P w base spare held n e [c0] with
    | none => simp [h0] at h
    | some y0 =>
      cases h1 : DataW.trod enc P w base spare held n e [c1] with
      | none => simp [h0, h1] at h
      | some y1 =>
        cases h2 : DataW.trod enc P w base spare held n e [c2] with
        | none => simp [h0, h1, h2] at h
        | some y2 =>
          cases h3 : DataW.trod enc P w base spare held n e [c3] with
          | none => simp [h0, h1, h2, h3] at h
          | some y3 =>
            cases h4 : DataW.trod enc P w base spare held n e [c4] with
            | none => simp [h0, h1, h2, h3, h4] at h
            | some y4 =>
              cases h5 : DataW.trod enc P w base spare held n e [c5] with
              | none => simp [h0, h1, h2, h3, h4, h5] at h
              | some y5 =>
                cases h6 : DataW.trod enc P w base spare held n e [c6] with
                | none => simp [h0, h1, h2, h3, h4, h5, h6] at h
                | some y6 =>
                  cases h7 : DataW.trod enc P w base spare held n e [c7] with
                  | none => simp [h0, h1, h2, h3, h4, h5, h6, h7] at h
                  | some y7 =>
                    cases h8 : DataW.trod enc P w base spare held n e [c8] with
                    | none => simp [h0, h1, h2, h3, h4, h5, h6, h7, h8] at h
                    | some y8 =>
                      simp [h0, h1, h2, h3, h4, h5, h6, h7, h8] at h
                      exact ⟨y0, y1, y2, y3, y4, y5, y6, y7, y8, n, h0, h1, h2, h3, h4, h5, h6, h7, h8⟩

theorem open_four {W : World} {r : Reach} {b0 : Nat} {t e : TypeId} {v : Value} {d : DataW H} {p : List MemPlace}
    (ht : P.underlying t = some (.array 4 e)) (he : P.underlying e = some (.int .u64)) (hce : P.cellsOf e = 1) (hct : P.cellsOf t = 4) (hv : Value.okWide P W r b0 t v) (h : DataW.Trod enc P w base spare held t v d p) :
    ∃ A B C D : T6, v = .agg #[.int .u64 (rg A), .int .u64 (rg B), .int .u64 (rg C), .int .u64 (rg D)] := by
  obtain ⟨cs, rfl, hsz, _⟩ : ∃ cs, v = .agg cs ∧ cs.size = P.cellsOf t ∧ Row.okWide P W r b0 t cs := by
    simpa [Value.okWide, ht] using hv
  rw [hct] at hsz
  obtain ⟨l⟩ := cs
  obtain ⟨c0, c1, c2, c3, rfl⟩ := list4 l hsz
  obtain ⟨fuel, hf⟩ := h
  obtain ⟨y0, y1, y2, y3, m, hx, hy0, hy1, hy2, hy3⟩ := trod_array4 ht hce hf
  obtain ⟨x0, e0, _, w0⟩ := DataW.trod_int he hy0
  obtain ⟨x1, e1, _, w1⟩ := DataW.trod_int he hy1
  obtain ⟨x2, e2, _, w2⟩ := DataW.trod_int he hy2
  obtain ⟨x3, e3, _, w3⟩ := DataW.trod_int he hy3
  simp at e0 e1 e2 e3
  subst e0 e1 e2 e3
  obtain ⟨X0, rfl⟩ := one_open w0
  obtain ⟨X1, rfl⟩ := one_open w1
  obtain ⟨X2, rfl⟩ := one_open w2
  obtain ⟨X3, rfl⟩ := one_open w3
  exact ⟨_, _, _, _, rfl⟩
theorem open_nine {W : World} {r : Reach} {b0 : Nat} {t e : TypeId} {v : Value} {d : DataW H} {p : List MemPlace}
    (ht : P.underlying t = some (.array 9 e)) (he : P.underlying e = some (.int .u64)) (hce : P.cellsOf e = 1) (hct : P.cellsOf t = 9) (hv : Value.okWide P W r b0 t v) (h : DataW.Trod enc P w base spare held t v d p) :
    ∃ A0 A1 A2 A3 A4 A5 A6 A7 A8 : T6, v = .agg #[.int .u64 (rg A0), .int .u64 (rg A1), .int .u64 (rg A2), .int .u64 (rg A3), .int .u64 (rg A4), .int .u64 (rg A5), .int .u64 (rg A6), .int .u64 (rg A7), .int .u64 (rg A8)] := by
  obtain ⟨cs, rfl, hsz, _⟩ : ∃ cs, v = .agg cs ∧ cs.size = P.cellsOf t ∧ Row.okWide P W r b0 t cs := by
    simpa [Value.okWide, ht] using hv
  rw [hct] at hsz
  obtain ⟨l⟩ := cs
  obtain ⟨c0, c1, c2, c3, c4, c5, c6, c7, c8, rfl⟩ := list9 l hsz
  obtain ⟨fuel, hf⟩ := h
  obtain ⟨y0, y1, y2, y3, y4, y5, y6, y7, y8, m, hy0, hy1, hy2, hy3, hy4, hy5, hy6, hy7, hy8⟩ := trod_nine ht hce hf
  obtain ⟨x0, e0, _, w0⟩ := DataW.trod_int he hy0
  obtain ⟨x1, e1, _, w1⟩ := DataW.trod_int he hy1
  obtain ⟨x2, e2, _, w2⟩ := DataW.trod_int he hy2
  obtain ⟨x3, e3, _, w3⟩ := DataW.trod_int he hy3
  obtain ⟨x4, e4, _, w4⟩ := DataW.trod_int he hy4
  obtain ⟨x5, e5, _, w5⟩ := DataW.trod_int he hy5
  obtain ⟨x6, e6, _, w6⟩ := DataW.trod_int he hy6
  obtain ⟨x7, e7, _, w7⟩ := DataW.trod_int he hy7
  obtain ⟨x8, e8, _, w8⟩ := DataW.trod_int he hy8
  simp at e0 e1 e2 e3 e4 e5 e6 e7 e8
  subst e0 e1 e2 e3 e4 e5 e6 e7 e8
  obtain ⟨X0, rfl⟩ := one_open w0
  obtain ⟨X1, rfl⟩ := one_open w1
  obtain ⟨X2, rfl⟩ := one_open w2
  obtain ⟨X3, rfl⟩ := one_open w3
  obtain ⟨X4, rfl⟩ := one_open w4
  obtain ⟨X5, rfl⟩ := one_open w5
  obtain ⟨X6, rfl⟩ := one_open w6
  obtain ⟨X7, rfl⟩ := one_open w7
  obtain ⟨X8, rfl⟩ := one_open w8
  exact ⟨_, _, _, _, _, _, _, _, _, rfl⟩
end
end Go.Proofs.Ytgdcedlmndkfiaa

/-
  A LIST OF PAIRS OF NUMBERS that came in. Conditions: that it could be read.
-/
import Derived.Test.YtgdcedlmndkfiaaFo
import Derived.OpenShut
import Derived.Deep.Slices
import Derived.Deep.MidRow
import Derived.ChangeSlices
import Derived.ChangeArms
import Derived.ChangeSame
import Derived.Laws.IdiomArrays
import Derived.WideShapes
namespace Go.Proofs.Ytgdcedlmndkfiaa
open Go.RowKit Go.ChangeShapes Go.WideShapes Go.Deep

/-- pairs that came in -/
structure IsP (w : World) (a : Option Addr) (n : Nat) (L : List (Int × Int)) : Prop where
  at' : ∀ i (h : i < L.length), ∃ b off, a = some ⟨b, off, none⟩ ∧ w.cell? ⟨b, off + i * 2, none⟩ = some (.int .i64 L[i].1) ∧ w.cell? ⟨b, off + i * 2 + 1, none⟩ = some (.int .i64 L[i].2)
  len : L.length = n
  max : n ≤ 9223372036854775807
theorem trod_two {H : Type} {enc : TypeId × Value → H} {P : Program} {w : World} {base : Nat} {spare : Nat → Bool} {held : Bool} {t e : TypeId} {fuel : Nat} {c0 c1 : Value} {x : DataW H × List MemPlace} (ht : P.underlying t = some (.array 2 e)) (hce : P.cellsOf e = 1)
    (h : DataW.trod enc P w base spare held fuel t [c0, c1] = some x) : ∃ y0 y1 n, DataW.trod enc P w base spare held n e [c0] = some y0 ∧ DataW.trod enc P w base spare held n e [c1] = some y1 := by
  cases fuel with
  | zero => simp [DataW.trod] at h
  | succ n =>
    unfold DataW.trod at h
    rw [ht] at h
    have r2 : List.range 2 = [0, 1] := rfl
    simp [r2, hce] at h
    obtain ⟨_, h⟩ := h
    cases h0 : DataW.trod enc P w base spare held n e [c0] with
    | none => simp [h0] at h
    | some y0 =>
      cases h1 : DataW.trod enc P w base spare held n e [c1] with
      | none => simp [h0, h1] at h
      | some y1 => exact ⟨y0, y1, n, h0, h1⟩
section
variable {H : Type} {enc : TypeId × Value → H} {w : World} {base : Nat} {spare : Nat → Bool} {held : Bool}
set_option maxRecDepth 100000 in
theorem pairs_open {fuel : Nat} {a : Option Addr} {len cap : Nat} {x : DataW H × List MemPlace} (h : DataW.trod enc Try.prog w base spare held fuel 22 [.slice a len cap] = some x) : ∃ L, IsP w a len L := by
  have ce : Try.prog.cellsOf 31 = 2 := by kernel_rfl
  have ci : Try.prog.cellsOf 3 = 1 := by kernel_rfl
  rcases open_slice Try.underlying22 h with ⟨hcs, _⟩ | ⟨ad, len', cap', m, n, D, Pl, hcs, _, hl, hm, hmm, _, hi⟩
  · simp at hcs
    obtain ⟨rfl, rfl, rfl⟩ := hcs
    exact ⟨[], fun i hi => absurd hi (by simp), rfl, by omega⟩
  · simp at hcs
    obtain ⟨rfl, rfl, rfl⟩ := hcs
    have hlm : len ≤ m := by rw [hmm]; split <;> omega
    unfold maxLen at hm
    have two : ∀ i, i < len → ∃ c : Int × Int, w.cell? (ad.add (i * 2)) = some (.int .i64 c.1) ∧ w.cell? (ad.add (i * 2 + 1)) = some (.int .i64 c.2) := fun i hlt => by
      obtain ⟨cs', hc, ht⟩ := hi i (by omega)
      rw [ce] at hc
      obtain ⟨_, hlen, hat⟩ := World.cells?_some hc
      obtain ⟨c0, c1, rfl⟩ : ∃ a b, cs' = [a, b] := by
        match cs', hlen with
        | [a, b], _ => exact ⟨a, b, rfl⟩
      obtain ⟨y0, y1, k, t0, t1⟩ := trod_two Try.underlying31 ci ht
      obtain ⟨x0, e0, _, w0⟩ := DataW.trod_int Try.underlying3 t0
      obtain ⟨x1, e1, _, w1⟩ := DataW.trod_int Try.underlying3 t1
      simp at e0 e1
      subst e0 e1
      have h0 := hat 0 (by decide)
      have h1 := hat 1 (by decide)
      rw [Go.Deep.add_add] at h0 h1
      exact ⟨(x0, x1), by simpa using h0, by simpa using h1⟩
    have hspot : 0 < len → ad.spot = none := by
      intro h0
      obtain ⟨c, c0, _⟩ := two 0 h0
      have e : ad.add (0 * 2) = ad := by simp [Addr.add]
      rw [e] at c0
      exact World.cell?_spot c0
    have each : ∀ i, ∃ c : Int × Int, i < len → ∃ b o, some ad = some (⟨b, o, none⟩ : Addr) ∧ w.cell? ⟨b, o + i * 2, none⟩ = some (.int .i64 c.1) ∧ w.cell? ⟨b, o + i * 2 + 1, none⟩ = some (.int .i64 c.2) := by
      intro i
      by_cases hlt : i < len
      · obtain ⟨c, c0, c1⟩ := two i hlt
        have hs := hspot (by omega)
        obtain ⟨b, o, spot⟩ := ad
        change spot = none at hs
        subst hs
        rw [Addr.add_mid] at c0 c1
        exact ⟨c, fun _ => ⟨b, o, rfl, c0, by rw [Nat.add_assoc]; exact c1⟩⟩
      · exact ⟨(0, 0), fun h => absurd h hlt⟩
    refine ⟨(List.range len).map fun i => (each i).choose, fun i hi2 => ?_, by simp, by omega⟩
    have hlt : i < len := by simpa using hi2
    obtain ⟨b, o, e, c0, c1⟩ := (each i).choose_spec hlt
    exact ⟨b, o, e, by simpa using c0, by simpa using c1⟩
end
end Go.Proofs.Ytgdcedlmndkfiaa

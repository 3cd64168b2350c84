/-
  WHAT A SLICE OF BYTES THAT CAME IN GIVES A WALK. Conditions: that it could be read.
-/
import Derived.OpenShut
import Derived.Test.YtokikeenfpligaaGreatDoorU05
namespace Go.Proofs.YtokikeenfpligaaGreatDoor.Sm
open Go.RowKit Crc

/-- A slice of integers that came in: nil; or it leads to a row of 'cap' cells, the numbers 'zs' (the first 'len' are its elements, the rest its spare room), each fitting its kind. -/
def IsRow (k : IntKind) (w : World) (a : Option Addr) (len cap : Nat) (zs : List Int) : Prop :=
  (a = none ∧ len = 0 ∧ cap = 0 ∧ zs = []) ∨
  ∃ x, a = some x ∧ len ≤ cap ∧ cap ≤ maxLen ∧ zs.length = cap ∧ (∀ i, i < zs.length → w.cell? (x.add i) = some (.int k (zs.getD i 0))) ∧ ∀ n ∈ zs, (Lit.int k n).wf = true
theorem isrow_open {w : World} {a : Option Addr} {len cap : Nat} {zs : List Int} (h : IsRow .u8 w a len cap zs) :
    ∃ xs : List Int, xs.length = len ∧ Lies w a xs ∧ len ≤ cap ∧ cap ≤ 9223372036854775807 := by
  rcases h with ⟨rfl, rfl, rfl, rfl⟩ | ⟨x, rfl, hl, hm, hz, hc, hw⟩
  · exact ⟨[], rfl, fun i hi => absurd hi (by simp), Nat.le_refl _, by omega⟩
  · unfold maxLen at hm
    refine ⟨zs.take len, by rw [List.length_take]; omega, ?_, hl, hm⟩
    intro i hi
    have hi' : i < len := by rw [List.length_take] at hi; omega
    have hiz : i < zs.length := by omega
    obtain ⟨b, off, spot⟩ := x
    have c := hc i hiz
    have hspot : spot = none := by
      have c0 := hc 0 (by omega)
      simpa [Addr.add] using World.cell?_spot c0
    subst hspot
    have e : zs.getD i 0 = (zs.take len)[i] := by rw [List.getElem_take]; simp [hiz]
    rw [e, Addr.add_mid] at c
    have hb := bounds_u8 (hw (zs.take len)[i] (List.mem_of_mem_take (List.getElem_mem hi)))
    exact ⟨b, off, rfl, c, hb.1, by omega⟩
theorem Lies.take {w : World} {a : Option Addr} {xs : List Int} (h : Lies w a xs) (n : Nat) : Lies w a (xs.take n) := by
  have e : xs = xs.take n ++ xs.drop n := (List.take_append_drop _ _).symm
  rw [e] at h
  exact h.front
theorem isrow_addr {k : IntKind} {w : World} {a : Option Addr} {len cap : Nat} {zs : List Int} (h : IsRow k w a len cap zs) : cap = 0 ∨ ∃ b off, a = some ⟨b, off, none⟩ := by
  rcases h with ⟨_, _, h, _⟩ | ⟨x, rfl, _, _, hz, hc, _⟩
  · exact .inl h
  · by_cases h0 : cap = 0
    · exact .inl h0
    · obtain ⟨b, off, spot⟩ := x
      have c0 := hc 0 (by omega)
      have hspot : spot = none := by simpa [Addr.add] using World.cell?_spot c0
      subst hspot
      exact .inr ⟨b, off, rfl⟩
theorem Lies.drop {w : World} {b off : Nat} {xs : List Int} (h : Lies w (some ⟨b, off, none⟩) xs) (k : Nat) : Lies w (some ⟨b, off + k, none⟩) (xs.drop k) := by
  intro i hi
  have hi' : k + i < xs.length := by rw [List.length_drop] at hi; omega
  obtain ⟨b', off', ha, h1, h2, h3⟩ := h (k + i) hi'
  obtain ⟨rfl, rfl⟩ : b = b' ∧ off = off' := by simpa using ha
  rw [List.getElem_drop]
  exact ⟨b, off + k, rfl, by rw [Nat.add_assoc]; exact h1, h2, h3⟩
theorem lies_nil (w : World) (a : Option Addr) : Lies w a [] := fun i hi => absurd hi (by simp)
end Go.Proofs.YtokikeenfpligaaGreatDoor.Sm

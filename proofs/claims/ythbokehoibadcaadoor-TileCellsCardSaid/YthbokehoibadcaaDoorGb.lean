/-
  THE WALKS of the document's grids: at, Cut. Conditions: the grid's cells lie there.
-/
import Derived.Test.YthbokehoibadcaaDoorGa
import Derived.Test.YthbokehoibadcaaDoorTu
namespace Go.Proofs.YthbokehoibadcaaDoor
open Go.RowKit Ti

/-- a grid's cells as a plane -/
def gpl (N : Nat) (L : Nat → Bool) : Pl := fun x y => decide (0 ≤ x) && decide (0 ≤ y) && (decide (x < (N : Int)) && decide (y < (N : Int))) && L (N * y.toNat + x.toNat)
theorem gpl_nat (N : Nat) (L : Nat → Bool) (x y : Nat) (hx : x < N) (hy : y < N) : gpl N L x y = L (N * y + x) := by
  unfold gpl
  rw [decide_eq_true (show (0 : Int) ≤ (x : Int) by omega), decide_eq_true (show (0 : Int) ≤ (y : Int) by omega), decide_eq_true (show (x : Int) < (N : Int) by omega), decide_eq_true (show (y : Int) < (N : Int) by omega)]
  simp
theorem gpl_out (N : Nat) (L : Nat → Bool) (x y : Int) (h : x < 0 ∨ y < 0 ∨ (N : Int) ≤ x ∨ (N : Int) ≤ y) : gpl N L x y = false := by
  unfold gpl
  rcases h with q | q | q | q
  · rw [decide_eq_false (show ¬ 0 ≤ x by omega)]; simp
  · rw [decide_eq_false (show ¬ 0 ≤ y by omega)]; simp
  · rw [decide_eq_false (show ¬ x < (N : Int) by omega)]; simp
  · rw [decide_eq_false (show ¬ y < (N : Int) by omega)]; simp
/-- a grid of four tiles, or of nine -/
def isN (N M : Nat) (I : Int) : Prop := (N = 16 ∧ M = 256 ∧ I = 16) ∨ (N = 24 ∧ M = 576 ∧ I = 24)
abbrev Gv (I : Int) (v : Value) : Value := .agg #[.int .i64 I, v]
theorem at_start {w : World} {N M : Nat} {I : Int} (v : Value) (_hN : isN N M I) : Below w.heap.size w (w.alloc (.cells #[.int .i64 I, v] 48)) := alX w _
theorem wrapn (n : Nat) (h : n < 1000) : IntKind.i64.wrap (n : Int) = (n : Int) := by
  have q : ∀ n < 1000, IntKind.i64.wrap ((n : Nat) : Int) = (n : Int) := by decide +kernel
  exact q n h
set_option maxRecDepth 100000 in
theorem at_ref (N M g cp : Nat) (I : Int) (L : Nat → Bool) (x y : Int) (hN : isN N M I) (w : World) (hg : g < w.heap.size) (h : ∀ i, i < M → w.cell? ⟨g, i, none⟩ = some (.bool (L i))) :
    Calls Tryd.prog 35 #[Gv I (.slice (some ⟨g, 0, none⟩) M cp), .int .i64 x, .int .i64 y] w fun e w' => e = .returned (.bool (gpl N L x y)) ∧ Below w.heap.size w w' := by
  have HB := Lib.hid (at_start (w := w) (.slice (some ⟨g, 0, none⟩) M cp) hN)
  by_cases h1 : 0 ≤ x ∧ 0 ≤ y ∧ x < I ∧ y < I
  · obtain ⟨x0, y0, x1, y1⟩ := h1
    obtain ⟨a, rfl⟩ := Int.eq_ofNat_of_zero_le x0
    obtain ⟨b, rfl⟩ := Int.eq_ofNat_of_zero_le y0
    rcases hN with ⟨rfl, rfl, rfl⟩ | ⟨rfl, rfl, rfl⟩
    · have HG := Lib.hid (gpl_nat 16 L a b (by omega) (by omega))
      obtain ⟨n, hn⟩ : ∃ n, n = 16 * b + a := ⟨_, rfl⟩
      have hc := (HB.out.cell (p := ⟨g, n, none⟩) hg).trans (h n (by omega))
      have E : (16 : Int) * (b : Int) + (a : Int) = (n : Int) := by omega
      have n0 : (0 : Int) ≤ (n : Int) := by omega
      have n1 : (n : Int) < 256 := by omega
      have hw := wrapn n (by omega)
      rw [← hn] at HG
      clear hn h hg
      generalize gpl 16 L a b = q at HG ⊢
      have HQ := HG.out
      rw [← HQ] at hc
      clear HQ HG
      go_enter Tryd.func35, Tryd.ntmps35
      go_wp2
      go_ret
      exact ⟨rfl, HB.out⟩
    · have HG := Lib.hid (gpl_nat 24 L a b (by omega) (by omega))
      obtain ⟨n, hn⟩ : ∃ n, n = 24 * b + a := ⟨_, rfl⟩
      have hc := (HB.out.cell (p := ⟨g, n, none⟩) hg).trans (h n (by omega))
      have E : (24 : Int) * (b : Int) + (a : Int) = (n : Int) := by omega
      have n0 : (0 : Int) ≤ (n : Int) := by omega
      have n1 : (n : Int) < 576 := by omega
      have hw := wrapn n (by omega)
      rw [← hn] at HG
      clear hn h hg
      generalize gpl 24 L a b = q at HG ⊢
      have HQ := HG.out
      rw [← HQ] at hc
      clear HQ HG
      go_enter Tryd.func35, Tryd.ntmps35
      go_wp2
      go_ret
      exact ⟨rfl, HB.out⟩
  · have HG := Lib.hid (gpl_out N L x y (by rcases hN with ⟨rfl, rfl, rfl⟩ | ⟨rfl, rfl, rfl⟩ <;> omega))
    rw [HG.out]
    clear HG h hg hN
    by_cases h2 : 0 ≤ x
    · by_cases h3 : 0 ≤ y
      · by_cases h4 : x < I
        · have h5 : ¬ y < I := fun q => h1 ⟨h2, h3, h4, q⟩
          clear h1
          go_enter Tryd.func35, Tryd.ntmps35
          go_wp2
          go_ret
          exact ⟨rfl, HB.out⟩
        · clear h1
          go_enter Tryd.func35, Tryd.ntmps35
          go_wp2
          go_ret
          exact ⟨rfl, HB.out⟩
      · clear h1
        go_enter Tryd.func35, Tryd.ntmps35
        go_wp2
        go_ret
        exact ⟨rfl, HB.out⟩
    · clear h1
      go_enter Tryd.func35, Tryd.ntmps35
      go_wp2
      go_ret
      exact ⟨rfl, HB.out⟩
end Go.Proofs.YthbokehoibadcaaDoor

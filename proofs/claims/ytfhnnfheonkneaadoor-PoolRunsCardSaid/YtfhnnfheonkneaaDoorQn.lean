/-
  THE WALKS of the pool's clean and giveWay. Conditions: a pool lies in memory.
-/
import Derived.Test.YtfhnnfheonkneaaDoorQm
namespace Go.Proofs.YtfhnnfheonkneaaDoor
open Go.RowKit Go.Maps

/-- the first frame that is not held, or -1 -/
def freeAt (fr : Nat → Fr) (k : Nat) : Prop := ∀ j, j < k → 0 < (fr j).h
theorem free_next {fr : Nat → Fr} {k : Nat} (h : freeAt fr k) (hh : ¬ (fr k).h = 0) : freeAt fr (k + 1) := fun j hj => by
  by_cases e : j = k
  · rw [e]; omega
  · exact h j (by omega)
set_option maxRecDepth 100000 in
theorem idx_any (F m c : Nat) (fr : Nat → Fr) (a : Nat → Option Addr) (cp : Nat → Nat) (w : World) (hm : m ≤ 1024) (hr : Row w F m fr a cp) :
    Calls Tryd.prog 80 #[.slice (some ⟨F, 0, none⟩) m c, .func (.func 71) #[] #[]] w
      fun e w' => ∃ k : Int, e = .returned (.int .i64 k) ∧ ((0 ≤ k ∧ ∃ j, j < m ∧ (fr j).h = 0) ∨ (k < 0 ∧ freeAt fr m)) ∧ Below w.heap.size w w' := by
  have HR := Lib.hid hr
  clear hr
  go_enter Tryd.func80, Tryd.ntmps80
  go_wp2
  go_loopw [8, 5] (fun i _ wr => ∃ k : Nat, k ≤ m ∧ i = .int .i64 k ∧ Hid (freeAt fr k) ∧ Hid (Below w.heap.size w wr)) (fun i _ _ => m - (intOf i).toNat)
  case atStart => exact ⟨0, by omega, rfl, Lib.hid (fun j hj => absurd hj (by omega)), Lib.hid (Below.refl _ _)⟩
  case round =>
    obtain ⟨k, hk, rfl, HA, HB⟩ := hrel
    by_cases hlt : k < m
    · have R := HR.out.same (w' := wr) HB.out.size (HB.out.block _ HR.out.lt)
      have g0 := R.at0 hlt
      have g1 := R.at1 hlt
      have g2 := R.at2 hlt
      have g3 := R.at3 hlt
      have g4 := R.at4 hlt
      have i0 : (0 : Int) ≤ (k : Int) := by omega
      have i1 : (k : Int) < (m : Int) := by omega
      clear R
      by_cases hh : (fr k).h = 0
      · have hb : (((fr k).h : Int) == 0) = true := by simp [hh]
        go_wp2
        go_ret
        exact ⟨k, rfl, .inl ⟨i0, k, hlt, hh⟩, HB.out.alloc HB.out.size _⟩
      · have hb : (((fr k).h : Int) == 0) = false := by simp [hh]
        go_wp2
        go_roundw
        case rel => exact ⟨k + 1, by omega, by go_num, Lib.hid (free_next HA.out hh), Lib.hid (HB.out.alloc HB.out.size _)⟩
        case measure => simp [intOf]; omega
    · obtain rfl : k = m := by omega
      go_wp2
      go_ret
      exact ⟨-1, rfl, .inr ⟨by omega, HA.out⟩, HB.out⟩
theorem held_of {X : Px} (h : freeAt X.fr X.m) : X.held = true := by
  unfold Px.held
  rw [List.all_eq_true]
  intro k hk
  exact decide_eq_true (h k (by simpa using hk))
theorem held_not {X : Px} {j : Nat} (hj : j < X.m) (h : (X.fr j).h = 0) : X.held = false := by
  unfold Px.held
  rw [List.all_eq_false]
  exact ⟨j, by simpa using hj, by simp [h]⟩
set_option maxRecDepth 100000 in
theorem contains_any (F c : Nat) (X : Px) (a : Nat → Option Addr) (cp : Nat → Nat) (w : World) (hm : X.m ≤ 1024) (hr : Row w F X.m X.fr a cp) :
    Calls Tryd.prog 72 #[.slice (some ⟨F, 0, none⟩) X.m c, .func (.func 71) #[] #[]] w
      fun e w' => e = .returned (.bool (!X.held)) ∧ Below w.heap.size w w' := by
  have HR := Lib.hid hr
  clear hr
  go_enter Tryd.func72, Tryd.ntmps72
  go_wp2_with (go_at_call 80; refine (idx_any _ _ _ X.fr a cp _ hm HR.out).mono ?_; rintro e w' ⟨k, rfl, hk, hb⟩; have HK := Lib.hid hk; have HB := Lib.hid hb; clear hk hb)
  go_ret
  refine ⟨?_, HB.out⟩
  congr 2
  rcases HK.out with ⟨h1, j, hj, h2⟩ | ⟨h1, h2⟩
  · rw [held_not hj h2]; simp [h1]
  · rw [held_of h2]; simp; omega
end Go.Proofs.YtfhnnfheonkneaaDoor

/-
  TILES IN A ROW OF A BLOCK; what one generation of four has of nine. No condition but those that each names.
-/
import Derived.Test.YthbokehoibadcaaDoorTin
import Derived.Test.YthbokehoibadcaaDoorTu
namespace Go.Proofs.YthbokehoibadcaaDoor
open Go.RowKit Ti Ru

/-- so many tiles in a row -/
def trow (F : Nat → T6) (n : Nat) : Array Value := ((List.range n).map (fun i => Value.int .u64 (rg (F i)))).toArray
theorem trow_size (F : Nat → T6) (n : Nat) : (trow F n).size = n := by simp [trow]
theorem trow_get (F : Nat → T6) (n i : Nat) (h : i < n) : (trow F n)[i]? = some (.int .u64 (rg (F i))) := by simp [trow, h]
theorem trow_set (F : Nat → T6) (n i : Nat) (x : T6) : (trow F n).setIfInBounds i (.int .u64 (rg x)) = trow (upd F i x) n := by
  apply Array.ext_getElem?
  intro j
  rw [Array.getElem?_setIfInBounds]
  by_cases e : i = j
  · subst e
    rw [if_pos rfl, trow_size]
    by_cases h : i < n
    · rw [if_pos h, trow_get _ _ _ h]; simp [upd]
    · rw [if_neg h]; simp [trow, h]
  · rw [if_neg e]
    have e2 : ¬ j = i := fun q => e q.symm
    by_cases h : j < n
    · rw [trow_get _ _ _ h, trow_get _ _ _ h]; simp [upd, e2]
    · simp [trow, h]
theorem tr_cell {w : World} {g n i : Nat} {F : Nat → T6} {T : TypeId} (h : w.heap[g]? = some (.cells (trow F n) T)) (hi : i < n) : w.cell? ⟨g, i, none⟩ = some (.int .u64 (rg (F i))) ∧ w.frozen? ⟨g, i, none⟩ = false :=
  ⟨by rw [cell_of_row _ _ i _ _ _ h]; exact trow_get F n i hi, frozen_of_row _ _ i _ _ h⟩
theorem tr_set {w : World} {g n i : Nat} {F : Nat → T6} {T : TypeId} (h : w.heap[g]? = some (.cells (trow F n) T)) (x : T6) : (w.setCell ⟨g, i, none⟩ (.int .u64 (rg x))).heap[g]? = some (.cells (trow (upd F i x) n) T) := by
  rw [heap_setCell_same _ _ i _ _ _ h, trow_set]
/-- the first k are copied -/
def cpF (q : Nat → T6) (k : Nat) : Nat → T6 := fun j => if j < k then q j else 0#64
theorem cp_step (q : Nat → T6) (k : Nat) : upd (cpF q k) k (q k) = cpF q (k + 1) := by
  funext j
  unfold upd cpF
  by_cases e : j = k
  · subst e; simp
  · rw [if_neg e]
    by_cases h : j < k
    · rw [if_pos h, if_pos (by omega)]
    · rw [if_neg h, if_neg (by omega)]
theorem cp_all (q : Nat → T6) (n : Nat) : trow (cpF q n) n = trow q n := by
  apply Array.ext_getElem?
  intro i
  by_cases h : i < n
  · rw [trow_get _ _ _ h, trow_get _ _ _ h]; simp [cpF, h]
  · simp [trow, h]
/-- the four tiles about a corner of nine go on as these -/
theorem four_nine (a b c d e f g h i : T6) : Ag (tp 2 (q4 a b d e)) (tp 3 (q9 a b c d e f g h i)) 0 15 0 15 := by
  intro x y x0 x1 y0 y1
  obtain ⟨x, rfl⟩ := Int.eq_ofNat_of_zero_le x0
  obtain ⟨y, rfl⟩ := Int.eq_ofNat_of_zero_le y0
  have hx : x < 16 := by omega
  have hy : y < 16 := by omega
  rw [tp_nat, tp_nat, decide_eq_true (show x < 8 * 2 by omega), decide_eq_true (show y < 8 * 2 by omega), decide_eq_true (show x < 8 * 3 by omega), decide_eq_true (show y < 8 * 3 by omega)]
  rcases two_of (x / 8) (by omega) with h1 | h1 <;> rcases two_of (y / 8) (by omega) with h2 | h2 <;> rw [h1, h2] <;> rfl
theorem corner_bit (r l : Nat) (a b c d e f g h i : T6) (k : Nat) (hk : k < 16) :
    (growB r l 1 (q4 a b d e)).getLsbD (8 * (4 + k / 4) + (4 + k % 4)) = (nextB r l (q9 a b c d e f g h i)).getLsbD (8 * (k / 4) + k % 4) := by
  unfold growB nextB
  rw [cutB_cuts _ _ _ _ (by omega), cutB_cuts _ _ _ _ (by omega)]
  have ha := gen_ag r l (four_nine a b c d e f g h i)
  have e1 : (8 * (4 + k / 4) + (4 + k % 4)) % 8 = 4 + k % 4 := by omega
  have e2 : (8 * (4 + k / 4) + (4 + k % 4)) / 8 = 4 + k / 4 := by omega
  have e3 : (8 * (k / 4) + k % 4) % 8 = k % 4 := by omega
  have e4 : (8 * (k / 4) + k % 4) / 8 = k / 4 := by omega
  rw [e1, e2, e3, e4, show (4 : Int) + ((4 + k % 4 : Nat) : Int) = 8 + ((k % 4 : Nat) : Int) by omega, show (4 : Int) + ((4 + k / 4 : Nat) : Int) = 8 + ((k / 4 : Nat) : Int) by omega]
  exact ha _ _ (by omega) (by omega) (by omega) (by omega)
theorem far_bits : ∀ i < 64, 2 ≤ i % 8 → 2 ≤ i / 8 → (217020518514294783#64).getLsbD i = false := by decide +kernel
theorem far_ag (a b c d s : T6) : Ag (tp 2 (q4 (a ^^^ (s &&& 217020518514294783#64)) b c d)) (tp 2 (q4 a b c d)) 2 15 2 15 := by
  intro x y x0 x1 y0 y1
  obtain ⟨x, rfl⟩ := Int.eq_ofNat_of_zero_le (show 0 ≤ x by omega)
  obtain ⟨y, rfl⟩ := Int.eq_ofNat_of_zero_le (show 0 ≤ y by omega)
  have hx : x < 16 := by omega
  have hy : y < 16 := by omega
  rw [tp_nat, tp_nat, decide_eq_true (show x < 8 * 2 by omega), decide_eq_true (show y < 8 * 2 by omega)]
  rcases two_of (x / 8) (by omega) with h1 | h1 <;> rcases two_of (y / 8) (by omega) with h2 | h2 <;> rw [h1, h2]
  · show (true && true && (a ^^^ (s &&& 217020518514294783#64)).getLsbD (8 * (y % 8) + x % 8)) = (true && true && a.getLsbD (8 * (y % 8) + x % 8))
    rw [BitVec.getLsbD_xor, BitVec.getLsbD_and, far_bits _ (by omega) (by omega) (by omega)]
    simp
  · rfl
  · rfl
  · rfl
theorem grow_far (r l : Nat) (a b c d s : T6) : growB r l 1 (q4 (a ^^^ (s &&& 217020518514294783#64)) b c d) = growB r l 1 (q4 a b c d) := by
  apply BitVec.eq_of_getLsbD_eq
  intro i hi
  unfold growB
  rw [cutB_cuts _ _ _ _ hi, cutB_cuts _ _ _ _ hi]
  exact gen_ag r l (far_ag a b c d s) _ _ (by omega) (by omega) (by omega) (by omega)
theorem grow_nought (r l : Nat) (t : Nat → T6) : growB r l 0 t = growB 0 0 0 t := rfl
theorem get_a (t : T6) (k : Nat) (hk : k < 16) (w : World) : Calls Tryd.prog 6 #[.int .u64 (rg t), .int .i64 (4 + (k : Int) % 4), .int .i64 (4 + (k : Int) / 4)] w fun e w' => e = .returned (.tuple #[.bool (t.getLsbD (8 * (4 + k / 4) + (4 + k % 4))), .nilIface]) ∧ w = w' := by
  have h := get_ok t (4 + k % 4) (4 + k / 4) (by omega) (by omega) w
  rw [show ((4 + k % 4 : Nat) : Int) = 4 + (k : Int) % 4 by omega, show ((4 + k / 4 : Nat) : Int) = 4 + (k : Int) / 4 by omega] at h
  exact h
theorem get_m (t : T6) (k : Nat) (hk : k < 16) (w : World) : Calls Tryd.prog 6 #[.int .u64 (rg t), .int .i64 ((k : Int) % 4), .int .i64 ((k : Int) / 4)] w fun e w' => e = .returned (.tuple #[.bool (t.getLsbD (8 * (k / 4) + k % 4)), .nilIface]) ∧ w = w' := by
  have h := get_ok t (k % 4) (k / 4) (by omega) (by omega) w
  rw [show ((k % 4 : Nat) : Int) = (k : Int) % 4 by omega, show ((k / 4 : Nat) : Int) = (k : Int) / 4 by omega] at h
  exact h
end Go.Proofs.YthbokehoibadcaaDoor

/-
  The lowest bit of a number, and a tile's bits one by one; bits.TrailingZeros64. Condition: the library's table lies as its text lays it.
-/
import Derived.Lib.TrailingZeros
import Derived.Laws.Bits64b
import Derived.Test.YtifkhmcdgmnipaaDoorE24
import Derived.Test.YtifkhmcdgmnipaaDoorE10
namespace Go.Proofs.YtifkhmcdgmnipaaDoor.Qd
open Ti Ce

def ones (x : Nat) : List Nat := (List.range 64).filter fun i => x.testBit i
theorem testBit_odd (m j : Nat) (h : 0 < j) : (2 * m + 1).testBit j = (2 * m).testBit j := by
  obtain ⟨j, rfl⟩ : ∃ i, j = i + 1 := ⟨j - 1, by omega⟩
  rw [Nat.testBit_succ, Nat.testBit_succ, show (2 * m + 1) / 2 = m by omega, show 2 * m / 2 = m by omega]
theorem low_bits {x k m : Nat} (h : x = 2 ^ k * (2 * m + 1)) : (∀ i, i < k → x.testBit i = false) ∧ x.testBit k = true ∧ ∀ i, (x &&& (x - 1)).testBit i = (x.testBit i && !decide (i = k)) := by
  have hp : 0 < 2 ^ k := Nat.pow_pos (by omega)
  have b1 : ∀ i, x.testBit i = if i < k then false else (2 * m + 1).testBit (i - k) := by
    intro i
    have := Nat.testBit_two_pow_mul_add (2 * m + 1) (b := 0) (i := k) hp i
    rw [Nat.add_zero, ← h] at this
    rw [this]
    simp
  have e2 : x - 1 = 2 ^ k * (2 * m) + (2 ^ k - 1) := by rw [h, Nat.mul_add, Nat.mul_one]; omega
  have b2 : ∀ i, (x - 1).testBit i = if i < k then (2 ^ k - 1).testBit i else (2 * m).testBit (i - k) := fun i => by
    rw [e2]
    exact Nat.testBit_two_pow_mul_add (2 * m) (b := 2 ^ k - 1) (i := k) (by omega) i
  refine ⟨fun i hi => by rw [b1, if_pos hi], by rw [b1, if_neg (by omega), Nat.sub_self]; simp, fun i => ?_⟩
  rw [Nat.testBit_and, b1, b2]
  by_cases h1 : i < k
  · rw [if_pos h1]
    simp
  · rw [if_neg h1, if_neg h1]
    by_cases h2 : i = k
    · subst h2
      simp
    · have : (2 * m).testBit (i - k) = (2 * m + 1).testBit (i - k) := (testBit_odd m _ (by omega)).symm
      rw [this]
      simp [h2]
theorem lt_list : ∀ {a b : List Nat}, a.Pairwise (· < ·) → b.Pairwise (· < ·) → (∀ x, x ∈ a ↔ x ∈ b) → a = b := by
  intro a b ha hb h
  have na : a.Nodup := ha.imp (fun {x y} h => by omega)
  have nb : b.Nodup := hb.imp (fun {x y} h => by omega)
  exact ((List.perm_ext_iff_of_nodup na nb).2 h).eq_of_pairwise (fun x y _ _ h k => absurd h (by omega)) ha hb
theorem ones_step {x : Nat} (h0 : x ≠ 0) (hx : x < 18446744073709551616) : Go.Lib.ctz 64 x < 64 ∧ ones x = Go.Lib.ctz 64 x :: ones (x &&& (x - 1)) ∧ x &&& (x - 1) < x := by
  obtain ⟨m, hm, hk⟩ := Go.Lib.ctzFrom_spec 64 x (by omega) (by omega)
  have e : Go.Lib.ctz 64 x = Go.Lib.ctzFrom 64 x := by simp [Go.Lib.ctz, h0]
  rw [e]
  generalize Go.Lib.ctzFrom 64 x = k at *
  obtain ⟨h1, h2, h3⟩ := low_bits hm
  refine ⟨hk, ?_, ?_⟩
  · refine lt_list ((List.pairwise_lt_range (n := 64)).filter _) (List.pairwise_cons.2 ⟨fun i hi => ?_, (List.pairwise_lt_range (n := 64)).filter _⟩) (fun i => ?_)
    · have := (List.mem_filter.1 hi).2
      rw [h3, Bool.and_eq_true] at this
      have h4 : ¬ i < k := fun g => by rw [h1 i g] at this; exact absurd this.1 (by simp)
      have h5 : ¬ i = k := by simpa using this.2
      omega
    · unfold ones
      rw [List.mem_cons, List.mem_filter, List.mem_filter, List.mem_range, h3]
      constructor
      · rintro ⟨h4, h5⟩
        by_cases g : i = k
        · exact .inl g
        · exact .inr ⟨h4, by simp [h5, g]⟩
      · rintro (rfl | ⟨h4, h5⟩)
        · exact ⟨hk, h2⟩
        · rw [Bool.and_eq_true] at h5
          exact ⟨h4, h5.1⟩
  · have := Nat.and_le_right (n := x) (m := x - 1)
    omega
def tlN (x : Nat) : List Cel := (ones x).map fun i => (((i % 8 : Nat) : Int), ((i / 8 : Nat) : Int))
theorem tl_tlN (t : T6) : tl t = tlN t.toNat := rfl
theorem tlN_zero : tlN 0 = [] := by
  unfold tlN ones
  simp
theorem tlN_step {x : Nat} (h0 : x ≠ 0) (hx : x < 18446744073709551616) : tlN x = (((Go.Lib.ctz 64 x % 8 : Nat) : Int), ((Go.Lib.ctz 64 x / 8 : Nat) : Int)) :: tlN (x &&& (x - 1)) := by
  unfold tlN
  rw [(ones_step h0 hx).2.1, List.map_cons]
end Go.Proofs.YtifkhmcdgmnipaaDoor.Qd
namespace Go.Proofs.YtifkhmcdgmnipaaDoor
open Go.RowKit Ti Qd Ce

/-- the library's table as its text lays it -/
def TabZ (w : World) : Prop := ∀ j, j < 64 → w.cell? ⟨1, j, none⟩ = some (.int .u8 ((Go.Lib.deBruijn64tab.getD j 0 : Nat) : Int))
theorem TabZ.lt {w : World} (h : TabZ w) : 1 < w.heap.size := World.block_lt_of_cell? w _ (h 0 (by omega))
theorem TabZ.same {w w' : World} (h : TabZ w) (hb : w'.heap[(1 : Nat)]? = w.heap[(1 : Nat)]?) : TabZ w' := fun j hj => (World.cell?_of_block hb).trans (h j hj)
theorem TabZ.below {w w' : World} (h : TabZ w) (hb : Below w.heap.size w w') : TabZ w' := h.same (hb.block _ h.lt)
theorem tz_key (x a : Nat) (hx : x < 18446744073709551616) (hx0 : x ≠ 0) (hlow : x &&& (18446744073709551616 - x) = a) :
    IntKind.u64.wrap (bits BinOp.and IntKind.u64 (x : Int) (IntKind.u64.wrap (-(x : Int))) * 285870213051353865) / 288230376151711744 = ((a * 285870213051353865 % 18446744073709551616 / 288230376151711744 : Nat) : Int) := by
  have e1 : IntKind.u64.wrap (-(x : Int)) = ((18446744073709551616 - x : Nat) : Int) := by rw [IntKind.wrap_u64]; omega
  rw [e1, Go.bits_and_u64_nat x _ hx (by omega), hlow, IntKind.wrap_u64]
  omega
theorem tz_core (x k idx : Nat) (w : World) (hx0 : ((x : Int) == 0) = false)
    (key : IntKind.u64.wrap (bits BinOp.and IntKind.u64 (x : Int) (IntKind.u64.wrap (-(x : Int))) * 285870213051353865) / 288230376151711744 = (idx : Int))
    (hi : idx < 64) (hk : k < 64) (hcell : w.cell? ⟨1, idx, none⟩ = some (.int .u8 (k : Int))) :
    Calls Tryd.prog 52 #[.int .u64 (x : Int)] w fun e w' => e = .returned (.int .i64 (k : Int)) ∧ w = w' := by
  go_enter Tryd.func52, Tryd.ntmps52
  go_wp2_with (simp only [key])
  go_ret
  exact ⟨rfl, rfl⟩
theorem tz_any (x : Nat) (hx : x < 18446744073709551616) (h0 : x ≠ 0) (w : World) (hT : TabZ w) :
    Calls Tryd.prog 52 #[.int .u64 (x : Int)] w fun e w' => e = .returned (.int .i64 ((Go.Lib.ctz 64 x : Nat) : Int)) ∧ w = w' := by
  obtain ⟨hlow, hk⟩ := Go.Lib.lowest_bit 64 x h0 hx
  obtain ⟨hi, htab⟩ := Go.Lib.deBruijn64_at _ hk
  have hcell := hT _ hi
  rw [htab] at hcell
  exact tz_core x _ _ w (by simp; omega) (tz_key x _ hx h0 hlow) hi hk hcell
end Go.Proofs.YtifkhmcdgmnipaaDoor

/-
  THE WALKS of the document's Cell and Made. Conditions: the cell is one of the tile's; sixty-four lie there.
-/
import Derived.Test.YthbokehoibadcaaDoorTd
import Derived.Maps.AppendAt
import Derived.Laws.AppendOwn
namespace Go.Proofs.YthbokehoibadcaaDoor
open Go.RowKit Ti

theorem half_rg (t : T6) (k : Nat) : rg (t >>> k) / 2 = rg (t >>> (k + 1)) := by
  have h := shr_rg (t >>> k) 1
  rw [show (2 : Int) ^ 1 = 2 from rfl] at h
  rw [h, ← BitVec.shiftRight_add]
theorem low_rg (t : T6) (k : Nat) : (rg (t >>> k) % 2 == 1) = t.getLsbD k := by
  have h : (t >>> k).getLsbD 0 = t.getLsbD k := by rw [BitVec.getLsbD_ushiftRight, Nat.add_zero]
  rw [← h]
  generalize t >>> k = x
  have e : x.getLsbD 0 = decide (x.toNat % 2 = 1) := by
    show x.toNat.testBit 0 = _
    rw [Nat.testBit_zero]
  rw [e]
  unfold rg
  rw [Bool.eq_iff_iff, beq_iff_eq, decide_eq_true_iff]
  omega
set_option maxRecDepth 100000 in
theorem cell_ref (t : T6) (x y : Nat) (hx : x < 8) (hy : y < 8) (w : World) :
    Calls Tryd.prog 8 #[.int .u64 (rg t), .int .i64 x, .int .i64 y] w fun e w' => e = .returned (.bool (t.getLsbD (8 * y + x))) ∧ w = w' := by
  obtain ⟨n, hn⟩ : ∃ n, n = 8 * y + x := ⟨_, rfl⟩
  rw [← hn]
  have HL := Lib.hid (show 8 * (y : Int) + (x : Int) = (n : Int) by omega)
  have x0 : (0 : Int) ≤ (x : Int) := by omega
  have x1 : (x : Int) < 8 := by omega
  have y0 : (0 : Int) ≤ (y : Int) := by omega
  have y1 : (y : Int) < 8 := by omega
  have hn64 : n < 64 := by omega
  have HLast := Lib.hid (low_rg t n)
  clear hn hx hy
  generalize t.getLsbD n = q at HLast ⊢
  go_enter Tryd.func8, Tryd.ntmps8
  go_wp2
  go_loop [0, 7] (fun s i => ∃ k : Nat, k ≤ n ∧ i = .int .i64 (k : Int) ∧ s = .int .u64 (rg (t >>> k))) (fun _ i => n - (intOf i).toNat)
  case atStart => exact ⟨0, by omega, rfl, by rw [BitVec.ushiftRight_zero]⟩
  case round =>
    obtain ⟨k, hk, rfl, rfl⟩ := hrel
    have k0 : (0 : Int) ≤ (k : Int) := by omega
    have HH := Lib.hid (half_rg t k)
    have r0 := rg_lo (t >>> k)
    have r1 := rg_lt (t >>> k)
    by_cases hlt : k < n
    · generalize rg (t >>> k) = z at r0 r1 HH ⊢
      have k1 : (k : Int) < 8 * (y : Int) + (x : Int) := by rw [HL.out]; omega
      go_wp2
      go_round
      case rel => exact ⟨k + 1, by omega, by go_num, by rw [HH.out]⟩
      case measure => simp [intOf]; omega
    · obtain rfl : k = n := by omega
      have k1 : ¬ (k : Int) < 8 * (y : Int) + (x : Int) := by rw [HL.out]; omega
      generalize rg (t >>> k) = z at r0 r1 HLast ⊢
      go_wp2
      go_ret
      exact ⟨by rw [← HLast.out]; rfl, rfl⟩
/-- the bits from the top, so many -/
def topN (f : Nat → Bool) : Nat → Nat
  | 0 => 0
  | k + 1 => 2 * topN f k + (f (63 - k)).toNat
theorem topN_lt (f : Nat → Bool) : ∀ k, topN f k < 2 ^ k
  | 0 => by simp [topN]
  | k + 1 => by
    have := topN_lt f k
    rw [topN, Nat.pow_succ]
    cases f (63 - k) <;> simp <;> omega
theorem topN_bit (f : Nat → Bool) : ∀ k j, k ≤ 64 → (topN f k).testBit j = (decide (j < k) && f (64 - k + j))
  | 0, j, _ => by simp [topN]
  | k + 1, j, hk => by
    rw [topN]
    cases j with
    | zero =>
      rw [Nat.testBit_zero, show 64 - (k + 1) + 0 = 63 - k by omega]
      cases f (63 - k) <;> simp <;> omega
    | succ j =>
      rw [Nat.testBit_succ, show (2 * topN f k + (f (63 - k)).toNat) / 2 = topN f k by cases f (63 - k) <;> simp <;> omega, topN_bit f k j (by omega), show 64 - (k + 1) + (j + 1) = 64 - k + j by omega]
      simp
theorem topN_all (f : Nat → Bool) : ((topN f 64 : Nat) : Int) = rg (mkT f) := by
  have h : mkT f = BitVec.ofNat 64 (topN f 64) := by
    symm
    apply eq_mkT
    intro i hi
    rw [BitVec.getLsbD_ofNat, topN_bit f 64 i (by omega)]
    simp [hi]
  rw [h]
  unfold rg
  rw [BitVec.toNat_ofNat, Nat.mod_eq_of_lt (topN_lt f 64)]
/-- so many truths in a row -/
def bls (L : Nat → Bool) (n : Nat) : List Value := (List.range n).map (fun i => Value.bool (L i))
theorem bls_length (L : Nat → Bool) (n : Nat) : (bls L n).length = n := by simp [bls]
theorem bls_get (L : Nat → Bool) (n i : Nat) (h : i < n) : (bls L n)[i]? = some (.bool (L i)) := by simp [bls, h]
theorem bls_succ (L : Nat → Bool) (n : Nat) : bls L n ++ [.bool (L n)] = bls L (n + 1) := by simp [bls, List.range_succ]
theorem bls_congr {L M : Nat → Bool} {n : Nat} (h : ∀ i, i < n → L i = M i) : bls L n = bls M n := by
  unfold bls
  apply List.map_congr_left
  intro i hi
  rw [h i (List.mem_range.1 hi)]
/-- a row of truths that one owns, as cells -/
theorem own_bls {w : World} {B n : Nat} {v : Value} {L : Nat → Bool} (h : w.ownsRow B 4 1 v n (bls L n)) (hn : 0 < n) : ∃ g cap, v = .slice (some ⟨g, 0, none⟩) n cap ∧ B ≤ g ∧ g < w.heap.size ∧ ∀ i, i < n → w.cell? ⟨g, i, none⟩ = some (.bool (L i)) := by
  obtain ⟨_, ⟨_, h0⟩ | ⟨g, cap, cur, hv, hb, hg, h1, _, hs, ht⟩⟩ := h
  · omega
  · refine ⟨g, cap, hv, hb, lt_of_block hg, fun i hi => ?_⟩
    rw [cell_of_row _ _ i _ _ _ hg]
    have h2 := bls_get L n i hi
    rw [← ht, Nat.mul_one, List.getElem?_take_of_lt hi] at h2
    simpa using h2
theorem bls_keep {A C : World} {B n n₀ : Nat} {v : Value} {L : Nat → Bool} (h : A.ownsRow B 4 1 v n (bls L n)) (k : Below n₀ A C) (hk : A.heap.size ≤ n₀) : C.ownsRow B 4 1 v n (bls L n) := by
  obtain ⟨e, h0 | ⟨g, cap, cur, hv, hb, hg, h2⟩⟩ := h
  · exact ⟨e, .inl h0⟩
  · exact ⟨e, .inr ⟨g, cap, cur, hv, hb, (k.block g (by have := lt_of_block hg; omega)).trans hg, h2⟩⟩
set_option maxRecDepth 100000 in
theorem made_ref (g cap : Nat) (L : Nat → Bool) (w : World) (h : ∀ i, i < 64 → w.cell? ⟨g, i, none⟩ = some (.bool (L i))) :
    Calls Tryd.prog 11 #[.slice (some ⟨g, 0, none⟩) 64 cap] w fun e w' => e = .returned (.int .u64 (rg (mkT L))) ∧ w = w' := by
  have HC := Lib.hid h
  clear h
  go_enter Tryd.func11, Tryd.ntmps11
  go_wp2
  go_loop [3, 4] (fun s i => ∃ k : Nat, k ≤ 64 ∧ i = .int .i64 (63 - (k : Int)) ∧ s = .int .u64 ((topN L k : Nat) : Int)) (fun _ i => ((intOf i) + 1).toNat)
  case atStart => exact ⟨0, by omega, rfl, rfl⟩
  case round =>
    obtain ⟨k, hk, rfl, rfl⟩ := hrel
    by_cases hlt : k < 64
    · obtain ⟨j, hj⟩ : ∃ j, j = 63 - k := ⟨_, rfl⟩
      have c0 := HC.out j (by omega)
      have hT := Lib.hid (show topN L (k + 1) = 2 * topN L k + (L j).toNat by rw [hj]; rfl)
      have hb := Lib.hid (topN_lt L k)
      have hb2 := Lib.hid (Nat.pow_le_pow_right (n := 2) (by decide) (show k ≤ 63 by omega))
      have t0 : (0 : Int) ≤ ((topN L k : Nat) : Int) := by omega
      have t1 : ((topN L k : Nat) : Int) < 9223372036854775808 := by have h1 := hb.out; have h2 := hb2.out; have : topN L k < 9223372036854775808 := by omega
                                                                     omega
      have e1 : (63 : Int) - (k : Int) = (j : Int) := by omega
      have j0 : (0 : Int) ≤ (j : Int) := by omega
      have j1 : (j : Int) < 64 := by omega
      have hjk := Lib.hid hj
      clear hj hb hb2
      generalize topN L k = T at t0 t1 hT ⊢
      rw [e1]
      cases hL : L j
      all_goals
        rw [hL] at c0 hT
        clear hL
        go_wp2
        go_round
        case rel => exact ⟨k + 1, by omega, by have := hjk.out; simp; omega, by rw [hT.out]; simp⟩
        case measure => simp [intOf]
    · obtain rfl : k = 64 := by omega
      go_wp2
      go_ret
      exact ⟨by rw [← topN_all]; rfl, rfl⟩
end Go.Proofs.YthbokehoibadcaaDoor

/-
  THE CONTRACTS OF THE SUMS AS THE STATEMENTS MEET THEM, and small laws on bytes that lie in memory. Conditions: those that each lemma names.
-/
import Derived.Test.YtkmedlbokneegaaDoorIn
import Derived.IntWalk
import Derived.Deep.AppendLies
import Derived.Laws.BytesArg
import Derived.Laws.OwnMore
namespace Go.Proofs.YtkmedlbokneegaaDoor.Sm
open Go.RowKit Crc

theorem beq_of {a b : Int} (h : a = b) : (a == b) = true := by rw [h]; exact beq_self_eq_true b
/-- int(uint(a) % m) -/
theorem red_bd (a m : Int) (hm : 0 < m) (hm2 : m ≤ 9223372036854775807) : 0 ≤ wrap64 ((IntKind.u64.wrap a).tmod m) ∧ wrap64 ((IntKind.u64.wrap a).tmod m) < m := by
  have h0 := wrap_u64_nonneg a
  rw [Int.tmod_eq_emod_of_nonneg h0]
  have h1 := Int.emod_nonneg (IntKind.u64.wrap a) (show m ≠ 0 by omega)
  have h2 := Int.emod_lt_of_pos (IntKind.u64.wrap a) hm
  rw [IntWalk.wrap64_in _ ⟨by omega, by omega⟩]
  exact ⟨h1, h2⟩

theorem xor8_b8 (a b : Int) (a0 : 0 ≤ a) (a1 : a < 256) (b0 : 0 ≤ b) (b1 : b < 256) : b8 (bits .xor .u8 a b) = b8 a ^^^ b8 b ∧ 0 ≤ bits .xor .u8 a b ∧ bits .xor .u8 a b < 256 := by
  obtain ⟨A, rfl⟩ := Int.eq_ofNat_of_zero_le a0
  obtain ⟨B, rfl⟩ := Int.eq_ofNat_of_zero_le b0
  have hA : A < 2 ^ 8 := by omega
  have hB : B < 2 ^ 8 := by omega
  have h := u8_xor_nat A B (by omega) (by omega)
  have hlt : A ^^^ B < 2 ^ 8 := Nat.xor_lt_two_pow hA hB
  rw [h]
  refine ⟨?_, by omega, by omega⟩
  unfold b8
  show BitVec.ofInt 32 ((A ^^^ B : Nat) : Int) = BitVec.ofInt 32 ((A : Nat) : Int) ^^^ BitVec.ofInt 32 ((B : Nat) : Int)
  rw [BitVec.ofInt_natCast, BitVec.ofInt_natCast, BitVec.ofInt_natCast]
  apply BitVec.eq_of_toNat_eq
  simp only [BitVec.toNat_ofNat, BitVec.toNat_xor]
  rw [Nat.mod_eq_of_lt (show A ^^^ B < 2 ^ 32 by omega), Nat.mod_eq_of_lt (show A < 2 ^ 32 by omega), Nat.mod_eq_of_lt (show B < 2 ^ 32 by omega)]
theorem getD_byte {xs : List Int} (h : Byte xs) (i : Nat) : 0 ≤ xs.getD i 0 ∧ xs.getD i 0 < 256 := by
  by_cases hi : i < xs.length
  · have := h i hi
    simpa [List.getD_eq_getElem?_getD, hi] using this
  · simp [List.getD_eq_getElem?_getD, hi]
theorem own_lies {w : World} {B n : Nat} {v : Value} {xs : List Int} (h : w.ownsRow B 5 1 v n (bl xs)) (hb : Byte xs) : ∃ ao cap, v = .slice ao n cap ∧ Lies w ao xs ∧ n ≤ cap ∧ xs.length = n := by
  obtain ⟨hl, h⟩ := h
  have hn : xs.length = n := by rw [bl_len] at hl; omega
  rcases h with ⟨rfl, h0⟩ | ⟨g, cap, cur, rfl, _, hg, hnc, _, hcs, ht⟩
  · obtain rfl : xs = [] := List.eq_nil_of_length_eq_zero (by omega)
    exact ⟨none, 0, by rw [h0], fun i hi => absurd hi (by simp), by omega, by omega⟩
  · refine ⟨_, cap, rfl, ?_, by omega, hn⟩
    intro i hi
    refine ⟨g, 0, rfl, ?_, (hb i hi).1, (hb i hi).2⟩
    rw [Nat.zero_add, cell_of_row w g i _ _ _ hg]
    have e : (bl xs)[i]? = some (Value.int .u8 xs[i]) := by simp [bl, hi]
    rw [← ht, List.getElem?_take] at e
    have hi' : i < n * 1 := by omega
    rw [if_pos hi'] at e
    simpa using e
theorem sum_n (a : Option Addr) (c n : Nat) (xs : List Int) (w : World) (hx : Lies w a xs) (hn : xs.length = n) (hm : n ≤ 9223372036854775807) :
    Calls Tryd.prog 62 #[.slice a n c] w fun e w' => e = .returned (.int .u32 (rg (more 0#32 xs))) ∧ w = w' := by
  subst hn
  exact sum_any a c xs w hx hm
theorem more_n (s : BitVec 32) (a : Option Addr) (c n : Nat) (xs : List Int) (w : World) (hx : Lies w a xs) (hn : xs.length = n) (hm : n ≤ 9223372036854775807) :
    Calls Tryd.prog 77 #[.int .u32 (rg s), .slice a n c] w fun e w' => e = .returned (.int .u32 (rg (more s xs))) ∧ w = w' := by
  subst hn
  exact more_any s a c xs w hx hm
theorem ref_n (s : BitVec 32) (a : Option Addr) (c n : Nat) (xs : List Int) (w : World) (hx : Lies w a xs) (hn : xs.length = n) (hm : n ≤ 9223372036854775807) :
    Calls Tryd.prog 67 #[.int .u32 (rg s), .slice a n c] w fun e w' => e = .returned (.int .u32 (rg (more s xs))) ∧ w = w' := by
  subst hn
  exact ref_any s a c xs w hx hm
theorem ref_0 (a : Option Addr) (c n : Nat) (xs : List Int) (w : World) (hx : Lies w a xs) (hn : xs.length = n) (hm : n ≤ 9223372036854775807) :
    Calls Tryd.prog 67 #[.int .u32 0, .slice a n c] w fun e w' => e = .returned (.int .u32 (rg (more 0#32 xs))) ∧ w = w' :=
  ref_n 0#32 a c n xs w hx hn hm
theorem lies_zeros (w : World) (n : Nat) : Lies (w.alloc (.cells (List.replicate n (Value.int .u8 0)).toArray 5)) (some ⟨w.heap.size, 0, none⟩) (List.replicate n 0) := by
  have e : List.replicate n (Value.int .u8 0) = bl (List.replicate n 0) := by simp [bl]
  rw [e]
  exact lies_block (heap_alloc_new _ _) (by intro i hi; simp)

theorem good_n (a : Option Addr) (c n : Nat) (xs : List Int) (w : World) (hn : xs.length = n) (h4 : 4 ≤ n) (hx : Lies w a xs) (hm : n ≤ 9223372036854775807) (hc : n ≤ c) :
    Calls Tryd.prog 39 #[.slice a n c] w fun e w' => e = .returned (.bool (isGood xs)) ∧ Below w.heap.size w w' := by
  subst hn
  exact good_any a c xs w h4 hx hm hc
theorem mkd_take {xs : List Int} (h : 4 ≤ xs.length) : (mkd xs).take (xs.length - 4) = xs.take (xs.length - 4) := by
  unfold mkd mk
  rw [List.take_append_of_le_length (by rw [List.length_take]; omega), List.take_of_length_le (by rw [List.length_take]; omega)]
theorem mkd_mkd {xs : List Int} (h : 4 ≤ xs.length) : mkd (mkd xs) = mkd xs := by
  have e : mkd (mkd xs) = mk ((mkd xs).take ((mkd xs).length - 4)) := rfl
  rw [e, mkd_len h, mkd_take h]
  rfl
theorem conv_lies {w : World} {b off n c : Nat} {xs : List Int} (h : Lies w (some ⟨b, off, none⟩) xs) (hn : xs.length = n) :
    (convert 48 9 (.slice (some ⟨b, off, none⟩) n c)).run Tryd.prog w = .ok (.string (strOfNums xs)) w := by
  refine run_convert_bytes_arg w 48 5 Tryd.underlying48 Tryd.underlying5 b off n c xs hn (fun i hi => ?_) 9 Tryd.underlying9
  obtain ⟨b', off', ha, h1, _⟩ := h i (by omega)
  obtain ⟨rfl, rfl⟩ : b = b' ∧ off = off' := by simpa using ha
  rw [h1]
  simp [show i < xs.length by omega]
theorem lies_set {w : World} {g off : Nat} {xs : List Int} (h : Lies w (some ⟨g, off, none⟩) xs) (k : Nat) (v : Int) (v0 : 0 ≤ v) (v1 : v < 256) : Lies (w.setCell ⟨g, off + k, none⟩ (.int .u8 v)) (some ⟨g, off, none⟩) (xs.set k v) := by
  intro i hi
  have hi' : i < xs.length := by simpa using hi
  obtain ⟨b', off', ha, h1, h2, h3⟩ := h i hi'
  obtain ⟨rfl, rfl⟩ : g = b' ∧ off = off' := by simpa using ha
  refine ⟨g, off, rfl, ?_, ?_⟩
  · by_cases e : k = i
    · subst e
      rw [World.cell?_setCell_same _ _ _ h1]
      simp
    · rw [World.cell?_setCell_other _ _ _ _ (by intro q; simp only [Addr.mk.injEq] at q; omega), h1]
      simp [e]
  · by_cases e : k = i
    · subst e; simp [v0, v1]
    · simp [e, h2, h3]
theorem own_lies_at {w : World} {B n g cap : Nat} {xs : List Int} (h : w.ownsRow B 5 1 (.slice (some ⟨g, 0, none⟩) n cap) n (bl xs)) (hb : Byte xs) : Lies w (some ⟨g, 0, none⟩) xs ∧ n ≤ cap := by
  obtain ⟨ao, c, hv, hl, hc, _⟩ := own_lies h hb
  simp at hv
  obtain ⟨rfl, rfl⟩ := hv
  exact ⟨hl, hc⟩

theorem lies_cell {w : World} {g : Nat} {xs : List Int} (h : Lies w (some ⟨g, 0, none⟩) xs) {k : Nat} {x : Int} (hx : xs[k]? = some x) : w.cell? ⟨g, k, none⟩ = some (.int .u8 x) := by
  obtain ⟨hk, rfl⟩ := List.getElem?_eq_some_iff.1 hx
  obtain ⟨b', off', ha, h1, _⟩ := h k hk
  obtain ⟨rfl, rfl⟩ : g = b' ∧ 0 = off' := by simpa using ha
  rw [Nat.zero_add] at h1
  exact h1

end Go.Proofs.YtkmedlbokneegaaDoor.Sm

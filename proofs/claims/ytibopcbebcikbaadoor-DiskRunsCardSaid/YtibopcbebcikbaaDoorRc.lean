/-
  THE REFERENCE's turned: a text with a byte turned. Conditions: the place is in the text.
-/
import Derived.Test.YtibopcbebcikbaaDoorRb
namespace Go.Proofs.YtibopcbebcikbaaDoor
open Go.RowKit

/-- a byte of a text -/
theorem idx_at (t : ByteArray) (k : Nat) (hk : k < t.size) (W : World) : (Instr.index 9 (.string t) (.int .i64 (k : Int))).run Tryd.prog W = .ok (.int .u8 (txt t k)) W := by
  rw [run_index_string (P := Tryd.prog) (w := W) 9 t .i64 (k : Int) Tryd.underlying9]
  have e : k < t.data.size := hk
  have h0 : (0 : Int) ≤ (k : Int) := by omega
  have h1 : (k : Int) < (t.size : Int) := by omega
  unfold txt nums
  simp [h0, h1, List.getD_eq_getElem?_getD]
  rw [Array.getElem?_eq_getElem e]
  rfl
theorem ext_list (t : ByteArray) (a b : Nat) : (t.extract a b).data.toList = (t.data.toList.take b).drop a := by
  rw [ByteArray.data_extract, Array.toList_extract, List.extract_eq_take_drop, List.drop_take]
theorem nums_back (t : ByteArray) : (nums t).map (fun n => UInt8.ofNat n.toNat) = t.data.toList := by
  have := congrArg (fun s => s.data.toList) (str_nums t)
  rw [← this]
  rfl
theorem turned_txt {t : ByteArray} {q : Nat} {y : Int} (ht : t.size = 512) (hq : q < 512) : t.extract 0 q ++ strOfNums [bits .xor .u8 (txt t q) y] ++ t.extract (q + 1) 512 = strOfNums (rowOf (turn (txt t) q y)) := by
  have l1 : (nums t).length = 512 := by rw [nums_len, ht]
  have e : rowOf (turn (txt t) q y) = (nums t).take q ++ [bits .xor .u8 (txt t q) y] ++ (nums t).drop (q + 1) := by
    apply List.ext_getElem
    · rw [rowOf_len]; simp; omega
    · intro i i1 i2
      rw [rowOf_get]
      have hi : i < 512 := by rwa [rowOf_len] at i1
      have lt : ((nums t).take q).length = q := by rw [List.length_take]; omega
      unfold turn
      by_cases c : i = q
      · subst c
        rw [if_pos rfl, List.getElem_append_left (by simp; omega), List.getElem_append_right (by rw [lt]; omega)]
        simp
      · rw [if_neg c]
        by_cases d : i < q
        · rw [List.getElem_append_left (by simp; omega), List.getElem_append_left (by rw [lt]; exact d), List.getElem_take]
          unfold txt
          rw [List.getD_eq_getElem?_getD, List.getElem?_eq_getElem (by omega)]
          rfl
        · rw [List.getElem_append_right (by simp; omega), List.getElem_drop]
          unfold txt
          rw [List.getD_eq_getElem?_getD, List.getElem?_eq_getElem (by omega)]
          simp only [Option.getD_some]
          congr 1
          simp
          omega
  have d2 : t.data.toList.take 512 = t.data.toList := List.take_of_length_le (by rw [Array.length_toList]; exact Nat.le_of_eq ht)
  apply ByteArray.ext
  apply Array.ext'
  rw [ByteArray.data_append, ByteArray.data_append, Array.toList_append, Array.toList_append, ext_list, ext_list, d2, List.drop_zero, strOfNums_data, strOfNums_data, e, List.map_append, List.map_append, List.map_take, List.map_drop, nums_back]
theorem one_byte (w : World) (x : Int) (hx : 0 ≤ x ∧ x < 256) : Lies ((w.alloc (.cells #[.int .u8 x] 5)).drew) (some ⟨w.heap.size, 0, none⟩) [x] := by
  intro i hi
  obtain rfl : i = 0 := by simpa using hi
  refine ⟨w.heap.size, 0, rfl, ?_, hx.1, hx.2⟩
  show (w.alloc _).cell? ⟨w.heap.size, 0, none⟩ = _
  rw [cell_of_row _ _ _ _ _ _ (heap_alloc_new w _)]
  rfl
set_option maxRecDepth 100000 in
theorem turned_any (t : ByteArray) (q : Nat) (y : Int) (w : World) (ht : t.size = 512) (hq : q < 512) (y0 : 0 ≤ y) (y1 : y < 256) :
    Calls Tryd.prog 39 #[.string t, .int .i64 q, .int .u8 y] w fun e w' => e = .returned (.string (strOfNums (rowOf (turn (txt t) q y)))) ∧ Below w.heap.size w w' := by
  have hx := idx_at t q (by omega)
  have q0 : (0 : Int) ≤ (q : Int) := by omega
  have q1 : (q : Int) + 1 ≤ 512 := by omega
  have q2 : (q : Int) ≤ 512 := by omega
  have hw := IntWalk.i64_in ((q : Int) + 1) (by omega)
  have hcv : (convert 40 9 (.slice (some ⟨w.heap.size, 0, none⟩) 1 1)).run Tryd.prog ((w.alloc (.cells #[.int .u8 (bits .xor .u8 (txt t q) y)] 5)).drew) = .ok (.string (strOfNums [bits .xor .u8 (txt t q) y])) ((w.alloc (.cells #[.int .u8 (bits .xor .u8 (txt t q) y)] 5)).drew) :=
    conv_lies (one_byte w _ (xor8_bd _ _ (txt_bd t q).1 (txt_bd t q).2 y0 y1)) rfl
  have m1 : min q 512 = q := by omega
  have m2 : (strOfNums [bits .xor .u8 (txt t q) y]).size = 1 := strOfNums_size _
  have m3 : q + 1 ≤ 9223372036854775807 := by omega
  have m4 : q + 1 + (512 - (q + 1)) ≤ 9223372036854775807 := by omega
  go_enter Tryd.func39, Tryd.ntmps39
  go_wp2
  go_region
  go_wp2
  go_ret
  exact ⟨congrArg (fun s => Ending.returned (.string s)) (turned_txt ht hq), ((Below.refl _ _).alloc (Nat.le_refl _) _).drew⟩
end Go.Proofs.YtibopcbebcikbaaDoor

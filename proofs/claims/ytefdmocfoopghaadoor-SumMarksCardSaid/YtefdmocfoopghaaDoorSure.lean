/-
  WHAT MUST COME WHATEVER THE INPUT IS: the statements' own fixed examples hold. No conditions.
-/
import Derived.Test.YtefdmocfoopghaaDoorWalkC
import Derived.Lib.SlBytesConst
namespace Go.Proofs.YtefdmocfoopghaaDoor
open Go.RowKit Crc

def Byte (xs : List Int) : Prop := ∀ i (h : i < xs.length), 0 ≤ xs[i] ∧ xs[i] < 256
theorem lies_block {w : World} {g : Nat} {xs : List Int} {fr : Nat × Nat} (h : w.heap[g]? = some (.cells (bl xs).toArray 5 fr)) (hb : Byte xs) : Lies w (some ⟨g, 0, none⟩) xs := by
  intro i hi
  refine ⟨g, 0, rfl, ?_, (hb i hi).1, (hb i hi).2⟩
  rw [Nat.zero_add, cell_of_row w g i _ _ _ h]
  simp [bl, hi]
theorem Lies.front {w : World} {a : Option Addr} {xs ys : List Int} (h : Lies w a (xs ++ ys)) : Lies w a xs := by
  intro i hi
  obtain ⟨b', off', ha, h1, h2, h3⟩ := h i (by simp; omega)
  rw [List.getElem_append_left hi] at h1 h2 h3
  exact ⟨b', off', ha, h1, h2, h3⟩
theorem Lies.byte {w : World} {a : Option Addr} {xs : List Int} (h : Lies w a xs) : Byte xs := by
  intro i hi
  obtain ⟨_, _, _, _, h2, h3⟩ := h i hi
  exact ⟨h2, h3⟩
theorem Byte.append {xs ys : List Int} (h : Byte xs) (h' : Byte ys) : Byte (xs ++ ys) := by
  intro i hi
  by_cases e : i < xs.length
  · rw [List.getElem_append_left e]; exact h i e
  · rw [List.getElem_append_right (by omega)]; exact h' _ (by simp at hi; omega)
theorem Byte.front {xs ys : List Int} (h : Byte (xs ++ ys)) : Byte xs := by
  intro i hi
  have := h i (by simp; omega)
  rwa [List.getElem_append_left hi] at this
theorem tb_small (s : BitVec 32) (i : Nat) : 0 ≤ rg (tb s i) ∧ rg (tb s i) < 256 := by
  rw [← tb_int]
  omega
theorem byte_tls (ys : List Int) : Byte (tls ys) := by
  intro i hi
  have hi' : i < 4 := hi
  match i, hi' with
  | 0, _ => exact tb_small _ _
  | 1, _ => exact tb_small _ _
  | 2, _ => exact tb_small _ _
  | 3, _ => exact tb_small _ _
/-- bytes, marked in the place of their last four -/
def mkd (xs : List Int) : List Int := mk (xs.take (xs.length - 4))
theorem byte_mkd {xs : List Int} (h : Byte xs) : Byte (mkd xs) := by
  refine Byte.append ?_ (byte_tls _)
  have e : xs = xs.take (xs.length - 4) ++ xs.drop (xs.length - 4) := (List.take_append_drop _ _).symm
  rw [e] at h
  exact h.front
theorem mk_len (ys : List Int) : (mk ys).length = ys.length + 4 := by simp [mk, tls]
theorem mkd_len {xs : List Int} (h : 4 ≤ xs.length) : (mkd xs).length = xs.length := by unfold mkd; rw [mk_len, List.length_take]; omega
theorem good_mkd (xs : List Int) : isGood (mkd xs) = true := good_mk _
theorem mark_any (a : Option Addr) (c : Nat) (xs : List Int) (w : World) (h4 : 4 ≤ xs.length) (hx : Lies w a xs) (hm : xs.length ≤ 281474976710656) (hc : xs.length ≤ c) :
    Calls Tryd.prog 5 #[.slice a xs.length c] w fun e w' => e = .returned (.tuple #[.slice (some ⟨w.heap.size, 0, none⟩) xs.length xs.length, .nilIface]) ∧ w'.heap[w.heap.size]? = some (.cells (bl (mkd xs)).toArray 5 (0, 0)) ∧ Below w.heap.size w w' := by
  obtain ⟨b, off, rfl, _⟩ := hx 0 (by omega)
  have e : xs = xs.take (xs.length - 4) ++ xs.drop (xs.length - 4) := (List.take_append_drop _ _).symm
  have hy : Lies w (some ⟨b, off, none⟩) (xs.take (xs.length - 4)) := by
    rw [e] at hx
    exact hx.front
  have := mark_at b off (xs.length - 4) c (xs.take (xs.length - 4)) w (by rw [List.length_take]; omega) hy (by omega) (by omega)
  have e2 : xs.length - 4 + 4 = xs.length := by omega
  rw [e2] at this
  exact this

/-- the example's bytes -/
def xab : List Int := [97, 98, 120, 120, 120, 120]
def xnum : List Int := [49, 50, 51, 52, 53, 54, 55, 56, 57]
theorem byte_xab : Byte xab := by unfold Byte xab; decide
theorem byte_xnum : Byte xnum := by unfold Byte xnum; decide
theorem sum_xnum : rg (more 0#32 xnum) = 3808858755 := by
  unfold rg
  have : (more 0#32 xnum).toNat = 3808858755 := by decide +kernel
  omega
theorem good_xab : isGood xab = false := by decide +kernel
theorem sure_mark (w : World) :
    Calls Tryd.prog 5 #[.slice (some ⟨w.heap.size, 0, none⟩) 6 6] (w.alloc (.cells #[.int .u8 97, .int .u8 98, .int .u8 120, .int .u8 120, .int .u8 120, .int .u8 120] 5 (6, 7))) fun e w' => e = .returned (.tuple #[.slice (some ⟨w.heap.size + 1, 0, none⟩) 6 6, .nilIface]) ∧ Lies w' (some ⟨w.heap.size + 1, 0, none⟩) (mkd xab) ∧ Below w.heap.size w w' := by
  have hl : Lies (w.alloc (.cells (bl xab).toArray 5 (6, 7))) (some ⟨w.heap.size, 0, none⟩) xab := lies_block (heap_alloc_new _ _) byte_xab
  have h := mark_any _ 6 xab _ (by decide) hl (by decide) (by decide)
  refine h.mono fun e w' ⟨h1, h2, h3⟩ => ⟨?_, ?_, ((Below.refl _ _).alloc (Nat.le_refl _) _).trans (h3.mono (by simp))⟩
  · rw [h1, World.size_alloc]
    rfl
  · rw [World.size_alloc] at h2
    exact lies_block h2 (byte_mkd byte_xab)
theorem sure_sum (w : World) :
    Calls Tryd.prog 9 #[.slice (some ⟨w.heap.size, 0, none⟩) 9 9] (w.alloc (.cells #[.int .u8 49, .int .u8 50, .int .u8 51, .int .u8 52, .int .u8 53, .int .u8 54, .int .u8 55, .int .u8 56, .int .u8 57] 5 (9, 10))) fun e w' => e = .returned (.int .u32 3808858755) ∧ (w.alloc (.cells #[.int .u8 49, .int .u8 50, .int .u8 51, .int .u8 52, .int .u8 53, .int .u8 54, .int .u8 55, .int .u8 56, .int .u8 57] 5 (9, 10))) = w' := by
  have hl : Lies (w.alloc (.cells (bl xnum).toArray 5 (9, 10))) (some ⟨w.heap.size, 0, none⟩) xnum := lies_block (heap_alloc_new _ _) byte_xnum
  have h := sum_any _ 9 xnum _ hl (by decide)
  refine h.mono fun e w' ⟨h1, h2⟩ => ⟨?_, h2⟩
  rw [h1, sum_xnum]
theorem sure_bad (w : World) :
    Calls Tryd.prog 8 #[.slice (some ⟨w.heap.size, 0, none⟩) 6 6] (w.alloc (.cells #[.int .u8 97, .int .u8 98, .int .u8 120, .int .u8 120, .int .u8 120, .int .u8 120] 5 (6, 7))) fun e w' => e = .returned (.bool false) ∧ Below w.heap.size w w' := by
  have hl : Lies (w.alloc (.cells (bl xab).toArray 5 (6, 7))) (some ⟨w.heap.size, 0, none⟩) xab := lies_block (heap_alloc_new _ _) byte_xab
  have h := good_any _ 6 xab _ (by decide) hl (by decide) (by decide)
  refine h.mono fun e w' ⟨h1, h3⟩ => ⟨?_, ((Below.refl _ _).alloc (Nat.le_refl _) _).trans (h3.mono (by simp))⟩
  rw [h1, good_xab]
theorem sure_good (g : Nat) (w : World) (hl : Lies w (some ⟨g, 0, none⟩) (mkd xab)) :
    Calls Tryd.prog 8 #[.slice (some ⟨g, 0, none⟩) 6 6] w fun e w' => e = .returned (.bool true) ∧ Below w.heap.size w w' := by
  have hn : (mkd xab).length = 6 := mkd_len (by decide)
  have h := good_any _ 6 (mkd xab) _ (by omega) hl (by omega) (by omega)
  rw [hn, good_mkd] at h
  exact h

theorem sure_any (w : World) :
    Calls Tryd.prog 4 #[] w fun e w' => e = .returned (.bool true) ∧ Below w.heap.size w w' := by
  have kc := fun (w : World) (C : Array Value) (n c : Nat) => Lib.run_convert_bytes_const (P := Tryd.prog) w 22 5 C n c Tryd.underlying22 Tryd.underlying5
  go_enter Tryd.func4, Tryd.ntmps4
  go_wp2_with (first | (go_at_call 5; refine (sure_mark _).mono ?_; rintro e w1 ⟨rfl, hl1, hb1⟩) | (go_at_call 9; refine (sure_sum _).mono ?_; rintro e w2 ⟨rfl, rfl⟩))
  refine (sure_good _ _ (hl1.below ((Below.refl _ _).alloc (Nat.le_refl _) _))).mono ?_
  rintro e w3 ⟨rfl, hb3⟩
  have HB3 := Lib.hid (hb1.trans (((Below.refl _ _).alloc (Nat.le_refl w1.heap.size) _).trans (hb3.mono (by simp)) |>.mono hb1.size))
  clear hb1 hb3 hl1
  go_wp2_with (first | (go_at_call 8; refine (sure_bad _).mono ?_; rintro e w4 ⟨rfl, hb4⟩))
  go_ret
  exact ⟨rfl, HB3.out.trans (hb4.mono HB3.out.size)⟩
end Go.Proofs.YtefdmocfoopghaaDoor

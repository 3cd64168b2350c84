/-
  RLE, the library's calls: HasPrefix, IndexByte, Cut at one byte, TrimLeft, Trim, as contracts over lists of bytes.
-/
import Derived.Test.YtangbokcdgganaaGreatDoorSq
import Derived.Test.YtangbokcdgganaaGreatDoorRq
import Derived.Test.YtangbokcdgganaaGreatDoorCc
import Derived.Lib.IndexBytes
namespace Go.Proofs.YtangbokcdgganaaGreatDoor
open Go.RowKit Go.Shelf Go.Lib Ru Ce

namespace Rl
def bl (s : ByteArray) : List UInt8 := s.data.toList
def st (l : List UInt8) : ByteArray := ⟨l.toArray⟩
theorem bl_st (l : List UInt8) : bl (st l) = l := rfl
theorem st_bl (s : ByteArray) : st (bl s) = s := rfl
theorem bl_size (s : ByteArray) : (bl s).length = s.size := (Lib.size_eq s).symm
theorem st_size (l : List UInt8) : (st l).size = l.length := by rw [← bl_size, bl_st]
theorem bl_inj {s t : ByteArray} (h : bl s = bl t) : s = t := by rw [← st_bl s, ← st_bl t, h]
theorem bl_cut (s : ByteArray) (a b : Nat) : bl (s.extract a b) = ((bl s).drop a).take (b - a) := Lib.extract_data s a b
theorem st_drop (s : ByteArray) (a : Nat) : s.extract a s.size = st ((bl s).drop a) := bl_inj (by
  rw [bl_cut, bl_st, List.take_of_length_le]
  rw [List.length_drop, bl_size]; omega)
theorem st_take (s : ByteArray) (a : Nat) : s.extract 0 a = st ((bl s).take a) := bl_inj (by
  rw [bl_cut, bl_st]; simp)
theorem hp_one (l : List UInt8) (c : UInt8) : hasPrefix l [c] = decide (l.head? = some c) := by
  cases l with
  | nil => rfl
  | cons a t =>
    simp only [hasPrefix, List.isPrefixOf, List.head?_cons, Option.some.injEq, Bool.and_true]
    by_cases h : c = a
    · subst h; simp
    · simp [h, show ¬ a = c from fun e => h e.symm]
theorem hasp_any (s : ByteArray) (c : UInt8) (w : World) : Calls Tryz.prog 34 #[.string s, .string ⟨#[c]⟩] w fun e w' => e = .returned (.bool (decide ((bl s).head? = some c))) ∧ w' = w := by
  have h := Any.strings_HasPrefix Tryz.l99 s ⟨#[c]⟩ w
  have e : hasPrefix s.data.toList [c] = decide ((bl s).head? = some c) := hp_one _ c
  exact h.mono fun e' w' q => ⟨by rw [q.1]; exact congrArg (fun b => Ending.returned (.bool b)) e, q.2⟩
theorem ixb_any (s : ByteArray) (c : Int) (k : UInt8) (hc : c.toNat.toUInt8 = k) (w : World) : Calls Tryz.prog 35 #[.string s, .int .u8 c] w fun e w' => e = .returned (.int .i64 (indexByte (bl s) k)) ∧ w' = w := by
  subst hc
  exact Any.strings_IndexByte Tryz.l137 s c w
theorem ix1_any (s : ByteArray) (c : UInt8) (w : World) : Calls Tryz.prog 56 #[.string s, .string ⟨#[c]⟩] w fun e w' => e = .returned (.int .i64 (indexByte (bl s) c)) ∧ w' = w :=
  Any.stringslite_Index_one Tryz.l219 s c w
theorem triml_any (s : ByteArray) (w : World) : Calls Tryz.prog 39 #[.string s, .string ⟨#[32, 9, 13, 10]⟩] w fun e w' => e = .returned (.string (st (tl (bl s)))) ∧ Below w.heap.size w w' :=
  Any.strings_TrimLeft_laid Tryz.l161 (by kernel_rfl) s ⟨#[32, 9, 13, 10]⟩ w (by decide) (ascii_of_all (by decide))
theorem trim_any (s : ByteArray) (w : World) (hs : s.size ≤ 9223372036854775807) : Calls Tryz.prog 86 #[.string s, .string ⟨#[32, 9, 13]⟩] w fun e w' => e = .returned (.string (st (bareL (bl s)))) ∧ Below w.heap.size w w' :=
  Any.strings_Trim_laid Tryz.l160 (by kernel_rfl) s ⟨#[32, 9, 13]⟩ w hs (by decide) (ascii_of_all (by decide))
theorem bdr (w : World) : Below w.heap.size w w.drew := (Below.refl _ _).drew
def cutV (l : List UInt8) (c : UInt8) : Value := .tuple #[.string (st (cutL l c).1), .string (st (cutL l c).2.1), .bool (cutL l c).2.2]
theorem cutS_any (s : ByteArray) (c : UInt8) (w : World) (hs : s.size ≤ 9223372036854775807) : Calls Tryz.prog 36 #[.string s, .string ⟨#[c]⟩] w fun e w' => e = .returned (cutV (bl s) c) ∧ Below w.heap.size w w' := by
  by_cases hi : 0 ≤ indexByte (bl s) c
  · have e : cutV (bl s) c = .tuple #[.string (s.extract 0 (indexByte (bl s) c).toNat), .string (s.extract ((indexByte (bl s) c).toNat + 1) s.size), .bool true] := by
      unfold cutV cutL; rw [if_pos hi, st_take, st_drop]
    have hlt := ib_lt c (bl s)
    rw [bl_size] at hlt
    have hI := fun W => ix1_any s c W
    rw [e]
    obtain ⟨i, hi'⟩ : ∃ i : Nat, indexByte (bl s) c = i := ⟨(indexByte (bl s) c).toNat, by omega⟩
    rw [hi'] at hlt hI ⊢
    have HI := Lib.hid hI
    clear hI hi hi' e
    obtain ⟨sep, hsep⟩ : ∃ sep : ByteArray, (⟨#[c]⟩ : ByteArray) = sep := ⟨_, rfl⟩
    have hz := Lib.hid (show sep.size = 1 by rw [← hsep]; rfl)
    rw [hsep] at HI ⊢
    have c1 : (0 : Int) ≤ ↑i := by omega
    have c2 : (↑i : Int) ≤ ↑s.size := by omega
    have c3 : (0 : Int) ≤ ↑i + ↑sep.size := by omega
    have c4 : (↑i + ↑sep.size : Int) ≤ ↑s.size := by rw [hz.out]; omega
    have c5 : (↑i + ↑sep.size : Int) ≤ 9223372036854775807 := by rw [hz.out]; omega
    clear hsep hs
    go_enter Tryz.func36, Tryz.ntmps36
    go_wp2_with (go_at_call 56; refine (HI.out _).mono ?_; rintro e w' ⟨rfl, rfl⟩)
    go_region
    go_wp2
    go_ret3
    refine ⟨?_, bdr _⟩
    have hzz := hz.out
    show Ending.returned (Value.tuple #[Value.string (s.extract 0 i), Value.string (s.extract (i + sep.size) s.size), Value.bool true]) = _
    rw [hzz]; rfl
  · have e : cutV (bl s) c = .tuple #[.string s, .string ⟨#[]⟩, .bool false] := by
      unfold cutV cutL; rw [if_neg hi]; rfl
    have hi' : indexByte (bl s) c = -1 := by have := ib_ge (bl s) c; omega
    have HI := Lib.hid (fun W => ix1_any s c W)
    rw [hi'] at HI
    rw [e]
    clear hi hi' e
    go_enter Tryz.func36, Tryz.ntmps36
    go_wp2_with (go_at_call 56; refine (HI.out _).mono ?_; rintro e w' ⟨rfl, rfl⟩)
    go_ret3
    exact ⟨rfl, Below.refl _ _⟩
theorem cut_any (s : ByteArray) (c : UInt8) (w : World) (hs : s.size ≤ 9223372036854775807) : Calls Tryz.prog 19 #[.string s, .string ⟨#[c]⟩] w fun e w' => e = .returned (cutV (bl s) c) ∧ Below w.heap.size w w' := by
  have HI := Lib.hid (fun W => cutS_any s c W hs)
  unfold cutV at HI ⊢
  go_enter Tryz.func19, Tryz.ntmps19
  go_wp2_with (go_at_call 36; refine (HI.out _).mono ?_; rintro e w' ⟨rfl, hb⟩)
  go_ret3
  exact ⟨rfl, hb⟩
theorem bare_any (s : ByteArray) (w : World) (hs : s.size ≤ 9223372036854775807) : Calls Tryz.prog 58 #[.string s] w fun e w' => e = .returned (.string (st (bareL (bl s)))) ∧ Below w.heap.size w w' := by
  have HI := Lib.hid (fun W => trim_any s W hs)
  go_enter Tryz.func58, Tryz.ntmps58
  go_wp2_with (go_at_call 86; refine (HI.out _).mono ?_; rintro e w' ⟨rfl, hb⟩)
  go_ret
  exact ⟨rfl, hb⟩
end Rl
end Go.Proofs.YtangbokcdgganaaGreatDoor

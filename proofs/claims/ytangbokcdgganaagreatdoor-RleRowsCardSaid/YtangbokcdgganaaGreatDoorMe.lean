/-
  RLE: head, measure, Write.
-/
import Derived.Test.YtangbokcdgganaaGreatDoorMf
import Derived.Test.YtangbokcdgganaaGreatDoorBx
import Derived.Test.YtangbokcdgganaaGreatDoorRc
import Derived.Laws.IdiomStrings
namespace Go.Proofs.YtangbokcdgganaaGreatDoor
open Go.RowKit Ru Ce
open Go.Lib (decDigits)

namespace Rl
def hdL (W H : Nat) (law : List UInt8) : List UInt8 := [120, 32, 61, 32] ++ decDigits W ++ [44, 32, 121, 32, 61, 32] ++ decDigits H ++ [44, 32, 114, 117, 108, 101, 32, 61, 32] ++ law
def headT (W H : Nat) (law : List UInt8) : List UInt8 × Nat := endT (putT ([], 0) (hdL W H law))
theorem hdL_len (W H : Nat) (law : List UInt8) (hW : W ≤ 999999999999) (hH : H ≤ 999999999999) : (hdL W H law).length ≤ 43 + law.length := by
  have := dd_len12 W (by omega)
  have := dd_len12 H (by omega)
  unfold hdL
  simp only [List.length_append, List.length_cons, List.length_nil]
  omega
set_option maxRecDepth 100000 in
set_option maxHeartbeats 2000000 in
theorem head_any (B g : Nat) (W H : Nat) (law : ByteArray) (w : World) (h : WtE B w g ([], 0)) (ht : Tb w) (hW : W ≤ 999999999999) (hH : H ≤ 999999999999) (hl : law.size ≤ 100) (hB : B ≤ w.heap.size) :
    Calls Tryz.prog 14 #[.pointer (some ⟨g, 0, none⟩), .int .i64 W, .int .i64 H, .string law] w (WtR B g w (headT W H (bl law))) := by
  have hd1 := dd_len12 W (by omega)
  have hd2 := dd_len12 H (by omega)
  have hlen := hdL_len W H (bl law) hW hH
  rw [bl_size] at hlen
  have HI1 := Lib.hid (itoa_any W (by omega) w ht)
  have HI2 := Lib.hid (fun (V : World) (hV : Below w.heap.size w V) => itoa_any H (by omega) V (ht.below hV))
  have s1 : (st (decDigits W)).size ≤ 12 := by rw [st_size]; exact hd1
  have s2 : (st (decDigits H)).size ≤ 12 := by rw [st_size]; exact hd2
  have HP := Lib.hid (fun (V : World) (hV : Below w.heap.size w V) => put_any B g ([], 0) (st (hdL W H (bl law))) V (by obtain ⟨v, hv⟩ := h; exact ⟨v, hv.other hV⟩) (by simp) (by rw [st_size]; show 0 + _ ≤ _; omega) (by rw [st_size]; omega) (Nat.le_trans hB hV.size))
  rw [bl_st] at HP
  have hpl := put_le ([], 0) (hdL W H (bl law)) (by simp)
  have HE := Lib.hid (fun (V : World) (hb : B ≤ V.heap.size) (hV : WtE B V g (putT ([], 0) (hdL W H (bl law)))) => endLine_any B g (putT ([], 0) (hdL W H (bl law))) V hV (by have := hpl.2; simp only [List.length_nil] at this; omega) hb)
  have hsum : (⟨#[120, 32, 61, 32]⟩ : ByteArray) ++ st (decDigits W) ++ (⟨#[44, 32, 121, 32, 61, 32]⟩ : ByteArray) ++ st (decDigits H) ++ (⟨#[44, 32, 114, 117, 108, 101, 32, 61, 32]⟩ : ByteArray) ++ law = st (hdL W H (bl law)) := by
    have e : ∀ a b : List UInt8, st a ++ st b = st (a ++ b) := st_app
    show st [120, 32, 61, 32] ++ st (decDigits W) ++ st [44, 32, 121, 32, 61, 32] ++ st (decDigits H) ++ st [44, 32, 114, 117, 108, 101, 32, 61, 32] ++ st (bl law) = _
    rw [e, e, e, e, e]; rfl
  have q1 : (⟨#[120, 32, 61, 32]⟩ : ByteArray).size = 4 := rfl
  have q2 : (⟨#[44, 32, 121, 32, 61, 32]⟩ : ByteArray).size = 6 := rfl
  have q3 : (⟨#[44, 32, 114, 117, 108, 101, 32, 61, 32]⟩ : ByteArray).size = 9 := rfl
  have HBB := Lib.hid hB
  unfold headT
  obtain ⟨P1, hP1⟩ : ∃ P1, putT ([], 0) (hdL W H (bl law)) = P1 := ⟨_, rfl⟩
  rw [hP1] at HP HE ⊢
  generalize st (hdL W H (bl law)) = S at *
  generalize st (decDigits W) = D1 at *
  generalize st (decDigits H) = D2 at *
  have e1 : ∀ w, (Op.stringOp .add (⟨#[120, 32, 61, 32]⟩ : ByteArray) D1).run Tryz.prog w = .ok (.string (⟨#[120, 32, 61, 32]⟩ ++ D1)) w := fun w => run_string_add_sum w _ _ (by omega)
  have e2 : ∀ w, (Op.stringOp .add (⟨#[120, 32, 61, 32]⟩ ++ D1 : ByteArray) ⟨#[44, 32, 121, 32, 61, 32]⟩).run Tryz.prog w = .ok (.string (⟨#[120, 32, 61, 32]⟩ ++ D1 ++ ⟨#[44, 32, 121, 32, 61, 32]⟩)) w := fun w => run_string_add_sum w _ _ (by rw [ByteArray.size_append]; omega)
  have e3 : ∀ w, (Op.stringOp .add (⟨#[120, 32, 61, 32]⟩ ++ D1 ++ ⟨#[44, 32, 121, 32, 61, 32]⟩ : ByteArray) D2).run Tryz.prog w = .ok (.string (⟨#[120, 32, 61, 32]⟩ ++ D1 ++ ⟨#[44, 32, 121, 32, 61, 32]⟩ ++ D2)) w := fun w => run_string_add_sum w _ _ (by rw [ByteArray.size_append, ByteArray.size_append]; omega)
  have e4 : ∀ w, (Op.stringOp .add (⟨#[120, 32, 61, 32]⟩ ++ D1 ++ ⟨#[44, 32, 121, 32, 61, 32]⟩ ++ D2 : ByteArray) ⟨#[44, 32, 114, 117, 108, 101, 32, 61, 32]⟩).run Tryz.prog w = .ok (.string (⟨#[120, 32, 61, 32]⟩ ++ D1 ++ ⟨#[44, 32, 121, 32, 61, 32]⟩ ++ D2 ++ ⟨#[44, 32, 114, 117, 108, 101, 32, 61, 32]⟩)) w := fun w => run_string_add_sum w _ _ (by rw [ByteArray.size_append, ByteArray.size_append, ByteArray.size_append]; omega)
  have e5 : ∀ w, (Op.stringOp .add (⟨#[120, 32, 61, 32]⟩ ++ D1 ++ ⟨#[44, 32, 121, 32, 61, 32]⟩ ++ D2 ++ ⟨#[44, 32, 114, 117, 108, 101, 32, 61, 32]⟩ : ByteArray) law).run Tryz.prog w = .ok (.string S) w := fun w => by
    rw [run_string_add_sum w _ _ (by rw [ByteArray.size_append, ByteArray.size_append, ByteArray.size_append, ByteArray.size_append]; omega), hsum]
  clear hsum q1 q2 q3 s1 s2 hpl hP1 hlen hd1 hd2 h ht hW hH hl hB
  go_enter Tryz.func14, Tryz.ntmps14
  go_upto_region 1 with (first | (go_at_call 31; refine HI1.out.mono ?_; rintro e w1 ⟨rfl, hb1⟩; have HB1 := Lib.hid hb1; clear hb1) | (go_at_call 31; refine (HI2.out _ HB1.out).mono ?_; rintro e w2 ⟨rfl, hb2⟩; have HB2 := Lib.hid (b_go HB1.out hb2); clear hb2) | (go_at_call 16; refine (HP.out _ HB2.out).mono ?_; rintro e w3 ⟨rfl, hb3, he3, hf3⟩; have HB3 := Lib.hid ((HB2.out.mono HBB.out).trans hb3); have HF3 := Lib.hid ((Fr8.below (g := g) HB2.out).trans hf3); have HE3 := Lib.hid he3; clear hb3 hf3 he3))
  go_wp2_with (go_at_call 17; refine (HE.out _ (Nat.le_trans HBB.out HF3.out.1) HE3.out).mono ?_; rintro e w4 ⟨rfl, hb4, he4, hf4⟩)
  go_end0
  exact ⟨rfl, HB3.out.trans hb4, he4, HF3.out.trans hf4⟩
end Rl
end Go.Proofs.YtangbokcdgganaaGreatDoor

/-
  THE WALK of the statements' `sure`. No condition.
-/
import Derived.Test.YtcgpjfcfokiagaaDoorRc
namespace Go.Proofs.YtcgpjfcfokiagaaDoor
open Go.RowKit Ru

def b3 : ByteArray := ⟨#[66, 51, 47, 83, 50, 51]⟩
theorem prs_b3 : prs (P (lb b3)) = (8, 12, 0) := by decide +kernel
theorem str_b3 : str (txt 8 12) = b3 := by decide +kernel
theorem parse_b3 (w : World) : Calls Tryd.prog 8 #[.string b3] w fun e w' => e = .returned (.tuple #[.agg #[.int .u16 8, .int .u16 12], .nilIface]) ∧ Below w.heap.size w w' :=
  (parse_any b3 w).mono fun e w' ⟨he, hb⟩ => ⟨by rw [prs_b3] at he; exact he, hb⟩
theorem text_b3 (w : World) : Calls Tryd.prog 7 #[.agg #[.int .u16 8, .int .u16 12]] w fun e w' => e = .returned (.tuple #[.string b3, .nilIface]) ∧ Below w.heap.size w w' :=
  (text_ok 8 12 (by decide) w).mono fun e w' ⟨he, hb⟩ => ⟨by rw [str_b3] at he; exact he, hb⟩
theorem bel_to {n : Nat} {A W W' : World} (h : Below n A W) (k : Below W.heap.size W W') (hn : n ≤ W.heap.size) : Below n A W' := h.trans (k.mono hn)
theorem sure_any (w : World) :
    Calls Tryd.prog 6 #[] w fun e w' => e = .returned (.bool true) ∧ Below w.heap.size w w' := by
  have hp := parse_b3
  have ht := text_b3
  unfold b3 at hp ht
  have HP := Lib.hid hp
  have HT := Lib.hid ht
  clear hp ht
  go_enter Tryd.func6, Tryd.ntmps6
  go_wp2_with (first | (go_at_call 8; refine (HP.out _).mono ?_; rintro e w1 ⟨rfl, hb1⟩; have HB1 := Lib.hid hb1; clear hb1) | (go_at_call 7; refine (HT.out _).mono ?_; rintro e w2 ⟨rfl, hb2⟩; have hn := (hb2.block _ (by simp)).trans (heap_alloc_new w1 _); have c0 := cell_of_row _ _ 0 _ _ _ hn; have c1 := cell_of_row _ _ 1 _ _ _ hn; have HB2 := Lib.hid (bel_to (HB1.out.alloc HB1.out.size _) hb2 (by have := HB1.out.size; simp; omega)); clear hb2 hn))
  go_ret
  exact ⟨rfl, HB2.out⟩
end Go.Proofs.YtcgpjfcfokiagaaDoor

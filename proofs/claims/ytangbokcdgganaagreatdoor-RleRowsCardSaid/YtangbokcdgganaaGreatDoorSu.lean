/-
  RLE: the statements' own `sure`: a glider's text, read.
-/
import Derived.Test.YtangbokcdgganaaGreatDoorLk
namespace Go.Proofs.YtangbokcdgganaaGreatDoor
open Go.RowKit Ru Ce
open Go.Lib (indexByte hasPrefix)

namespace Rl
/-- runsL by a count -/
def runsF : Nat → List UInt8 → Nat → Nat → Nat → List Cel → Out
  | 0, _, _, _, _, cs => .ok cs
  | f + 1, l, a, x, y, cs =>
    if (tl l).head? = some 33 then .ok cs
    else if (runL (tl l)).2.2 = true then
      match layR x y cs (tl l) with
      | none => .err (a + (l.length - (tl l).length)) 6
      | some (x', y', cs') => runsF f ((tl l).drop ((runL (tl l)).2.1 + 1)) (a + (l.length - (tl l).length) + (runL (tl l)).2.1 + 1) x' y' cs'
    else .err (a + (l.length - (tl l).length) + (runL (tl l)).2.1) 3
theorem runsF_eq : ∀ (f : Nat) (l : List UInt8) (a x y : Nat) (cs : List Cel), l.length < f → runsL l a x y cs = runsF f l a x y cs
  | 0, l, a, x, y, cs, h => by omega
  | f + 1, l, a, x, y, cs, h => by
    rw [runs_eq]
    unfold runsF
    by_cases h1 : (tl l).head? = some 33
    · rw [if_pos h1, if_pos h1]
    · rw [if_neg h1, if_neg h1]
      by_cases h2 : (runL (tl l)).2.2 = true
      · rw [if_pos h2, if_pos h2]
        have hlt := runL_lt h2
        have hle := tl_len l
        match layR x y cs (tl l) with
        | none => rfl
        | some (x', y', cs') => exact runsF_eq f _ _ x' y' cs' (by rw [List.length_drop]; omega)
      · rw [if_neg h2, if_neg h2]
def gl : List UInt8 := [120, 32, 61, 32, 51, 44, 32, 121, 32, 61, 32, 51, 44, 32, 114, 117, 108, 101, 32, 61, 32, 66, 51, 47, 83, 50, 51, 10, 98, 111, 36, 50, 98, 111, 36, 51, 111, 33]
def glC : List Cel := [(1, 0), (2, 1), (0, 2), (1, 2), (2, 2)]
theorem gl_parse : parseL gl = ⟨(8, 12), glC, 0, 0⟩ := by
  have hb : behL gl = 0 := by rw [beh_eq, if_neg (by decide)]
  have hl : lineL gl = gl.take 27 := by kernel_rfl
  have hh : headL (gl.take 27) = ((8, 12), 0) := by kernel_rfl
  have hr : runsL (gl.drop 27) 27 0 0 [] = .ok glC := by rw [runsF_eq 20 _ _ _ _ _ (by decide)]; kernel_rfl
  rw [parse_good gl (by decide) (by rw [hb, List.drop_zero, hl, hh]), hb, List.drop_zero, hl, hh]
  show bodyL (8, 12) (runsL (gl.drop 27) 27 0 0 []) = _
  rw [hr]; rfl
def glB : ByteArray := ⟨#[120, 32, 61, 32, 51, 44, 32, 121, 32, 61, 32, 51, 44, 32, 114, 117, 108, 101, 32, 61, 32, 66, 51, 47, 83, 50, 51, 10, 98, 111, 36, 50, 98, 111, 36, 51, 111, 33]⟩
theorem bl_gl : bl glB = gl := rfl
theorem gl_any (w : World) : Calls Tryz.prog 7 #[.string ⟨#[120, 32, 61, 32, 51, 44, 32, 121, 32, 61, 32, 51, 44, 32, 114, 117, 108, 101, 32, 61, 32, 66, 51, 47, 83, 50, 51, 10, 98, 111, 36, 50, 98, 111, 36, 51, 111, 33]⟩] w fun e w' => Below w.heap.size w w' ∧ ∃ v, e = .returned (.tuple #[.agg #[.int .u16 8, .int .u16 12], v, .int .i64 0, .nilIface]) ∧ OwnC 25 w' w.heap.size v 5 glC := by
  have h := parse_rle glB w (by decide)
  rw [bl_gl, gl_parse] at h
  exact h
set_option maxRecDepth 100000 in
set_option maxHeartbeats 1000000 in
theorem sure_any (w : World) : Calls Tryz.prog 8 #[] w fun e w' => e = .returned (.bool true) ∧ Below w.heap.size w w' := by
  have HG := Lib.hid (fun W => gl_any W)
  go_enter Tryz.func8, Tryz.ntmps8
  go_wp2_with (go_at_call 7; refine (HG.out _).mono ?_; rintro e w1 ⟨hb1, v, rfl, hv⟩; obtain ⟨ao, cap, rfl, hcl, _, _, _, hoff, _⟩ := own_cls hv; have HB1 := Lib.hid (hb1.alloc hb1.size (.cells #[.int .u16 8, .int .u16 12] 32)); have HC := Lib.hid (hcl.below (alX w1 (.cells #[.int .u16 8, .int .u16 12] 32)) (Nat.le_refl _)); obtain ⟨b0, o0, rfl, c0', c1'⟩ := HC.out 0 (by decide); obtain rfl : o0 = 0 := (hoff b0 o0 rfl).2.2; have c0 : (w1.alloc (.cells #[.int .u16 8, .int .u16 12] 32)).cell? ⟨b0, 0, none⟩ = some (.int .i64 1) := c0'; have c1 : (w1.alloc (.cells #[.int .u16 8, .int .u16 12] 32)).cell? ⟨b0, 1, none⟩ = some (.int .i64 0) := c1'; clear c0' c1'; have hn := heap_alloc_new w1 (.cells #[.int .u16 8, .int .u16 12] 32); have r0 := cell_of_row _ _ 0 _ _ _ hn; have r1 := cell_of_row _ _ 1 _ _ _ hn; clear hb1 hv hcl hn hoff)
  go_ret
  exact ⟨rfl, HB1.out⟩
end Rl
end Go.Proofs.YtangbokcdgganaaGreatDoor

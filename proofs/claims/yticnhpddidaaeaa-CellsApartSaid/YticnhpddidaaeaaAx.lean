/-
  THE WALK of CellsApart. Condition: what came in could be read.
-/

import Derived.Test.YticnhpddidaaeaaAq
import Derived.Test.YticnhpddidaaeaaCin
import Derived.Test.YticnhpddidaaeaaRin
import Derived.Deep.DeepCutAuto
import Derived.BigQuiet
namespace Go.Proofs.Yticnhpddidaaeaa
open Go.RowKit Ru Ce

def Yes (w : World) (e : Ending) (w' : World) : Prop := e = .returned (.bool true) ∧ Below w.heap.size w w'
set_option maxRecDepth 100000 in
set_option maxHeartbeats 4000000 in
theorem apart_early (b l : Nat) (a1 : Option Addr) (n1 c1 : Nat) (A : List Cel) (a2 : Option Addr) (n2 c2 : Nat) (B : List Cel) (W : World) (_w0 : b < 65536 ∧ l < 65536) (w1 : IsC W a1 n1 A) (w2 : IsC W a2 n2 B) (hno : 20 < n1 ∨ 20 < n2 ∨ mayR b l = false) :
    Calls Try.prog 3 #[.agg #[.int .u16 b, .int .u16 l], .slice a1 n1 c1, .slice a2 n2 c2] W (Yes W) := by
  have HM := Lib.hid (fun w => may_ref b l w)
  have HL := Lib.hid (fun w => sure_any w)
  have HA := Lib.hid w1
  have HB := Lib.hid w2
  have hx1 := w1.max
  have hx2 := w2.max
  have HBX := Lib.hid (And.intro (heap_alloc_new W (.cells #[.int .u16 b, .int .u16 l] 24)) (alX W (.cells #[.int .u16 b, .int .u16 l] 24)))
  clear w1 w2
  unfold Rv at HM
  by_cases h1 : 20 < n1
  · have h1' : (20 : Int) < (n1 : Int) := by omega
    clear hno
    go_enter Try.func3, Try.ntmps3
    go_wp2_with (go_at_call 5; refine (HL.out _).mono ?_; rintro e w6 ⟨rfl, hb6⟩; have HB6 := Lib.hid (HBX.out.2.trans (hb6.mono (by simp))); clear hb6)
    go_ret
    exact ⟨rfl, HB6.out⟩
  · have h1' : ¬ (20 : Int) < (n1 : Int) := by omega
    by_cases h2 : 20 < n2
    · have h2' : (20 : Int) < (n2 : Int) := by omega
      clear hno
      go_enter Try.func3, Try.ntmps3
      go_wp2_with (go_at_call 5; refine (HL.out _).mono ?_; rintro e w6 ⟨rfl, hb6⟩; have HB6 := Lib.hid (HBX.out.2.trans (hb6.mono (by simp))); clear hb6)
      go_ret
      exact ⟨rfl, HB6.out⟩
    · have h2' : ¬ (20 : Int) < (n2 : Int) := by omega
      have hmay := (hno.resolve_left h1).resolve_left h2
      rw [hmay] at HM
      clear hno
      go_enter Try.func3, Try.ntmps3
      go_wp2_with fail
      refine (HM.out _).mono ?_
      rintro e w1 ⟨rfl, hb1⟩
      have HB1 := Lib.hid (HBX.out.2.trans (hb1.mono (by simp)))
      clear hb1
      go_wp2_with (go_at_call 5; refine (HL.out _).mono ?_; rintro e w6 ⟨rfl, hb6⟩; have HB6 := Lib.hid (HB1.out.trans (hb6.mono HB1.out.size)); clear hb6)
      go_ret
      exact ⟨rfl, HB6.out⟩
end Go.Proofs.Yticnhpddidaaeaa

/-
  THE WALKS of Level and Tile of a store's squares. Conditions: those that each lemma names.
-/
import Derived.Test.YtifkhmcdgmnipaaGreatDoorR22
namespace Go.Proofs.YtifkhmcdgmnipaaGreatDoor
open Go.RowKit Ti Qd Go.Maps Go.WideMaps


set_option maxRecDepth 100000 in
theorem level_is {B : Nat} {w : World} {P : Nat} {L : List Sq} {room : Nat} {H : Nat → Prop} (h : St B w P L room H) (id : Int) (ho : Ok L id) (lv : Int) (hv : (at' L id).lev = lv) :
    Calls Tryz.prog 32 #[.pointer (some ⟨P, 0, none⟩), .int .i64 id] w fun e w' => e = .returned (.tuple #[.int .i64 lv, .nilIface]) ∧ Below w.heap.size w w' := by
  subst hv
  have HQ := Lib.hid (square_ok h id ho)
  clear h
  unfold qv at *
  generalize at' L id = q at *
  go_enter Tryz.func32, Tryz.ntmps32
  go_wp2_with fail
  refine HQ.out.mono ?_
  rintro e w1 ⟨rfl, hb⟩
  have HB := Lib.hid (hb.trans ((alX w1 (bq q)).mono hb.size))
  clear hb
  unfold bq at *
  go_wp2
  go_ret2
  exact ⟨rfl, HB.out⟩
set_option maxRecDepth 100000 in
theorem level_none {B : Nat} {w : World} {P : Nat} {L : List Sq} {room : Nat} {H : Nat → Prop} (h : St B w P L room H) (id : Int) (ho : ¬ Ok L id) :
    Calls Tryz.prog 32 #[.pointer (some ⟨P, 0, none⟩), .int .i64 id] w fun e w' => e = .returned (.tuple #[.int .i64 0, .iface 54 (.int .i64 8)]) ∧ Below w.heap.size w w' := by
  have HQ := Lib.hid (square_none h id ho)
  clear h
  unfold zv at *
  go_enter Tryz.func32, Tryz.ntmps32
  go_wp2_with fail
  refine HQ.out.mono ?_
  rintro e w1 ⟨rfl, hb⟩
  have HB := Lib.hid (hb.trans ((alX w1 zq).mono hb.size))
  clear hb
  go_wp2
  go_ret2
  exact ⟨rfl, HB.out⟩
set_option maxRecDepth 100000 in
theorem tile_ok {B : Nat} {w : World} {P : Nat} {L : List Sq} {room : Nat} {H : Nat → Prop} (h : St B w P L room H) (id : Int) (hl : Lv L 0 id) (t : T6) (ht : (at' L id).til = t) :
    Calls Tryz.prog 34 #[.pointer (some ⟨P, 0, none⟩), .int .i64 id] w fun e w' => e = .returned (.tuple #[.int .u64 (rg t), .nilIface]) ∧ Below w.heap.size w w' := by
  subst ht
  have HQ := Lib.hid (square_ok h id hl.1)
  have e3 : ((at' L id).lev == 3) = true := by rw [beq_iff_eq, hl.2]; rfl
  have e4 : ((at' L id).lev != 3) = false := by rw [bne_eq_false_iff_eq, hl.2]; rfl
  clear h hl
  unfold qv at *
  generalize at' L id = q at *
  go_enter Tryz.func34, Tryz.ntmps34
  go_wp2_with fail
  refine HQ.out.mono ?_
  rintro e w1 ⟨rfl, hb⟩
  have HB := Lib.hid (hb.trans ((alX w1 (bq q)).mono hb.size))
  clear hb
  unfold bq at *
  go_wp2
  go_ret2
  exact ⟨rfl, HB.out⟩
end Go.Proofs.YtifkhmcdgmnipaaGreatDoor

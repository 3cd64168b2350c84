/-
  errors.Is AT api.Errno: nil: false; an Errno: whether it is that one. (After the guide's worked example, at this program's types.)
-/
import Derived.Test.YtokikeenfpligaaGreatDoorProg
import Derived.WalkKit
import Derived.LaidEql
import Derived.Stop.Asserts
import Derived.RowKitTokens
namespace Go.Proofs.YtokikeenfpligaaGreatDoor.Sh
open Go.RowKit Go.Extern.Stop Go.Stop Go.Extern

/-- what the model runs at Comparable -/
def isComp : Array Value → Sem Value := ReflectliteType.method fun t => do Rtype.noPackHeld "Comparable" t; pure (.bool (← typeInfo t).comparable)
theorem Isf.typeOf (v : Value) (w : World) : (Extern.ReflectliteType.typeOf #[.iface 78 v]).run Tryz.prog w = .ok (.iface 184 (.agg #[.pointer (some ⟨1, 78, none⟩)])) w := by kernel_rfl
theorem Isf.comparable (w : World) : (isComp #[.agg #[.pointer (some ⟨1, 78, none⟩)]]).run Tryz.prog w = .ok (.bool true) w := by kernel_rfl
theorem Isf.methodComparable (v : Value) (w : World) : (Go.method 373 184 v "Comparable").run Tryz.prog w = .ok (185, v) w := by kernel_rfl
theorem Isf.noIs (v : Value) (xT : TypeId) (w : World) : (Instr.typeAssert (.iface 78 v) xT 186 true).run Tryz.prog w = .ok (.tuple #[.nilIface, .bool false]) w := run_typeAssert_lacksB Tryz.underlying186 (by kernel_rfl) (by kernel_rfl) v xT w
theorem Isf.noUnwrap (v : Value) (xT : TypeId) (w : World) : (Instr.typeAssert (.iface 78 v) xT 189 true).run Tryz.prog w = .ok (.tuple #[.nilIface, .bool false]) w := run_typeAssert_lacksB Tryz.underlying189 (by kernel_rfl) (by kernel_rfl) v xT w
theorem Isf.noUnwraps (v : Value) (xT : TypeId) (w : World) : (Instr.typeAssert (.iface 78 v) xT 190 true).run Tryz.prog w = .ok (.tuple #[.nilIface, .bool false]) w := run_typeAssert_lacksB Tryz.underlying190 (by kernel_rfl) (by kernel_rfl) v xT w
/-- errors.Is(nil, x) -/
theorem is_nil (d : Int) (w : World) : Calls Tryz.prog 45 #[.nilIface, .iface 78 (.int .i64 d)] w fun e w' => e = .returned (.bool false) ∧ w = w' := by
  have hn := run_eql_iface_nil_left (P := Tryz.prog) w 78 (.int .i64 d) Tryz.underlying28
  go_enter Tryz.func45, Tryz.ntmps45
  go_wp2
  go_ret
  exact ⟨rfl, rfl⟩
theorem is_33_eq (w : World) : (binOp .eql 28 (.iface 78 (.int .i64 3)) (.iface 78 (.int .i64 3))).run Tryz.prog w = .ok (.bool true) w := by kernel_rfl
theorem is_33 (w : World) : Calls Tryz.prog 45 #[.iface 78 (.int .i64 3), .iface 78 (.int .i64 3)] w fun e w' => e = .returned (.bool true) ∧ w = w' := by
  have h8 := @run_callFunc_extern Tryz.prog 84 _ Extern.ReflectliteType.typeOf Tryz.func84 (by kernel_rfl) (by kernel_rfl) (by kernel_rfl) (by kernel_rfl)
  have h32 := @run_callFunc_extern Tryz.prog 185 _ isComp Tryz.func185 (by kernel_rfl) (by kernel_rfl) (by kernel_rfl) (by kernel_rfl)
  have tT := Isf.typeOf
  have cT := Isf.comparable
  have mR := Isf.methodComparable
  have nE := Isf.noIs
  have uE := Isf.noUnwrap
  have vE := Isf.noUnwraps
  have heq := is_33_eq
  go_enter Tryz.func45, Tryz.ntmps45
  go_wp2
  refine wp_loop_rounds 1 ?_
  rw [rounds_succ]
  go_wp2
  go_ret
  exact ⟨rfl, rfl⟩
theorem is_73_eq (w : World) : (binOp .eql 28 (.iface 78 (.int .i64 7)) (.iface 78 (.int .i64 3))).run Tryz.prog w = .ok (.bool false) w := by kernel_rfl
theorem is_73 (w : World) : Calls Tryz.prog 45 #[.iface 78 (.int .i64 7), .iface 78 (.int .i64 3)] w fun e w' => e = .returned (.bool false) ∧ w = w' := by
  have h8 := @run_callFunc_extern Tryz.prog 84 _ Extern.ReflectliteType.typeOf Tryz.func84 (by kernel_rfl) (by kernel_rfl) (by kernel_rfl) (by kernel_rfl)
  have h32 := @run_callFunc_extern Tryz.prog 185 _ isComp Tryz.func185 (by kernel_rfl) (by kernel_rfl) (by kernel_rfl) (by kernel_rfl)
  have tT := Isf.typeOf
  have cT := Isf.comparable
  have mR := Isf.methodComparable
  have nE := Isf.noIs
  have uE := Isf.noUnwrap
  have vE := Isf.noUnwraps
  have heq := is_73_eq
  go_enter Tryz.func45, Tryz.ntmps45
  go_wp2
  refine wp_loop_rounds 1 ?_
  rw [rounds_succ]
  go_wp2
  go_ret
  exact ⟨rfl, rfl⟩
theorem is_77_eq (w : World) : (binOp .eql 28 (.iface 78 (.int .i64 7)) (.iface 78 (.int .i64 7))).run Tryz.prog w = .ok (.bool true) w := by kernel_rfl
theorem is_77 (w : World) : Calls Tryz.prog 45 #[.iface 78 (.int .i64 7), .iface 78 (.int .i64 7)] w fun e w' => e = .returned (.bool true) ∧ w = w' := by
  have h8 := @run_callFunc_extern Tryz.prog 84 _ Extern.ReflectliteType.typeOf Tryz.func84 (by kernel_rfl) (by kernel_rfl) (by kernel_rfl) (by kernel_rfl)
  have h32 := @run_callFunc_extern Tryz.prog 185 _ isComp Tryz.func185 (by kernel_rfl) (by kernel_rfl) (by kernel_rfl) (by kernel_rfl)
  have tT := Isf.typeOf
  have cT := Isf.comparable
  have mR := Isf.methodComparable
  have nE := Isf.noIs
  have uE := Isf.noUnwrap
  have vE := Isf.noUnwraps
  have heq := is_77_eq
  go_enter Tryz.func45, Tryz.ntmps45
  go_wp2
  refine wp_loop_rounds 1 ?_
  rw [rounds_succ]
  go_wp2
  go_ret
  exact ⟨rfl, rfl⟩
theorem is_37_eq (w : World) : (binOp .eql 28 (.iface 78 (.int .i64 3)) (.iface 78 (.int .i64 7))).run Tryz.prog w = .ok (.bool false) w := by kernel_rfl
theorem is_37 (w : World) : Calls Tryz.prog 45 #[.iface 78 (.int .i64 3), .iface 78 (.int .i64 7)] w fun e w' => e = .returned (.bool false) ∧ w = w' := by
  have h8 := @run_callFunc_extern Tryz.prog 84 _ Extern.ReflectliteType.typeOf Tryz.func84 (by kernel_rfl) (by kernel_rfl) (by kernel_rfl) (by kernel_rfl)
  have h32 := @run_callFunc_extern Tryz.prog 185 _ isComp Tryz.func185 (by kernel_rfl) (by kernel_rfl) (by kernel_rfl) (by kernel_rfl)
  have tT := Isf.typeOf
  have cT := Isf.comparable
  have mR := Isf.methodComparable
  have nE := Isf.noIs
  have uE := Isf.noUnwrap
  have vE := Isf.noUnwraps
  have heq := is_37_eq
  go_enter Tryz.func45, Tryz.ntmps45
  go_wp2
  refine wp_loop_rounds 1 ?_
  rw [rounds_succ]
  go_wp2
  go_ret
  exact ⟨rfl, rfl⟩
end Go.Proofs.YtokikeenfpligaaGreatDoor.Sh

/-
  errors.As AT THE TARGET *api.Errno: nil: false; an api.Errno: true, and the target is set. Condition: errors.errorType is as the program's text lays it. (After the guide's worked example of errors.As, at this program's types.)
  THE STATEMENTS' OWN num: an error's number: nil: 0; an api.Errno: its number. Condition: errors.errorType is as the program's text lays it.
  THE WALKS of page.Room, page.fits and what page.Check asks: each returns what the plain mathematics says, and the world stays. Conditions: the records lie in memory.
  THE WALK of page.lay: a number is written all over a piece of a block, its highest byte first. Conditions: the block is known whole.
-/
import Derived.Test.YtokikeenfpligaaGreatDoorProg
import Derived.WalkKit
import Derived.LaidEql
import Derived.Stop.Asserts
import Derived.RowKitTokens
import Derived.WalkSmall
import Derived.Test.YtokikeenfpligaaGreatDoorU07
namespace Go.Proofs.YtokikeenfpligaaGreatDoor
open Go.RowKit Go.Extern.Stop Go.Stop Go.Extern

theorem as_nil (t : Value) (w : World) :
    Calls Tryz.prog 47 #[.nilIface, t] w fun e w' => e = .returned (.bool false) ∧ w' = w := by
  go_enter Tryz.func47, Tryz.ntmps47
  go_wp2
  go_ret
  exact ⟨rfl, rfl⟩

theorem Asf.valueOf27 (t : Addr) (w : World) : (ReflectliteValue.unpack (.iface 107 (.pointer (some t)))).run Tryz.prog w
    = .ok (.agg #[.pointer (some ⟨1, 107, none⟩), .pointer (some ⟨w.heap.size, 0, none⟩), .int .u64 150]) (w.alloc (.cells #[.pointer (some t)] 107)) := by kernel_rfl
theorem Asf.type27 (a : Addr) (w : World) : (ReflectliteValue.methodAny (ReflectliteValue.valueError "reflectlite.Value.Type" 0) (fun t _ _ _ => ReflectliteType.toType t) #[.agg #[.pointer (some ⟨1, 107, none⟩), .pointer (some a), .int .u64 150]]).run Tryz.prog w
    = .ok (.iface 184 (.agg #[.pointer (some ⟨1, 107, none⟩)])) w := by kernel_rfl
theorem Asf.methodKind (h : Value) (w : World) : (Go.method 373 184 (.agg #[h]) "Kind").run Tryz.prog w = .ok (175, h) w := by kernel_rfl
theorem Asf.kind27 (w : World) : ((ReflectliteType.abiMethod fun t => (fun a : Nat => Value.int IntKind.u8 (a : Int)) <$> Rtype.kind t) #[.pointer (some ⟨1, 107, none⟩)]).run Tryz.prog w = .ok (.int .u8 22) w := by kernel_rfl
theorem Asf.kind25 (w : World) : ((ReflectliteType.abiMethod fun t => (fun a : Nat => Value.int IntKind.u8 (a : Int)) <$> Rtype.kind t) #[.pointer (some ⟨1, 78, none⟩)]).run Tryz.prog w = .ok (.int .u8 2) w := by kernel_rfl

theorem rlm (z : Sem Value) (f : TypeId → Addr → Nat → Nat → Sem Value) (v : Value) :
    ReflectliteValue.method z f #[v] = (do match ← ReflectliteValue.parts v with | none => z | some (t, a, fl) => f t a fl (fl % 32)) := rfl
theorem Asf.parts27 (a : Addr) (w : World) : (ReflectliteValue.parts (.agg #[.pointer (some ⟨1, 107, none⟩), .pointer (some a), .int .u64 150])).run Tryz.prog w = .ok (some (107, a, 150)) w := by kernel_rfl
theorem Asf.isNil27 (a p : Addr) (W : World) (ha : W.cell? a = some (.pointer (some p))) :
    (ReflectliteValue.method (ReflectliteValue.valueError "reflectlite.Value.IsNil" 0) ReflectliteValue.isNil #[.agg #[.pointer (some ⟨1, 107, none⟩), .pointer (some a), .int .u64 150]]).run Tryz.prog W = .ok (.bool false) W := by
  rw [rlm]
  simp only [Sem.run_bind, Asf.parts27, Result.andThen]
  simp [ReflectliteValue.isNil, loadVar, isAgg, underlying, Tryz.underlying107, ha, Result.andThen]

theorem Asf.methodElem (h : Value) (w : World) : (Go.method 373 184 (.agg #[h]) "Elem").run Tryz.prog w = .ok (186, .agg #[h]) w := by kernel_rfl
theorem Asf.methodImplements (h : Value) (w : World) : (Go.method 373 184 (.agg #[h]) "Implements").run Tryz.prog w = .ok (187, .agg #[h]) w := by kernel_rfl
theorem Asf.methodAssignableTo (h : Value) (w : World) : (Go.method 373 184 (.agg #[h]) "AssignableTo").run Tryz.prog w = .ok (184, .agg #[h]) w := by kernel_rfl
theorem Asf.elem27 (w : World) : (ReflectliteType.method ReflectliteType.elem #[.agg #[.pointer (some ⟨1, 107, none⟩)]]).run Tryz.prog w = .ok (.iface 184 (.agg #[.pointer (some ⟨1, 78, none⟩)])) w := by kernel_rfl
theorem Asf.implements25 (w : World) : (ReflectliteType.relation "Implements" ReflectliteType.implements_ #[.agg #[.pointer (some ⟨1, 78, none⟩)], .iface 184 (.agg #[.pointer (some ⟨1, 28, none⟩)])]).run Tryz.prog w = .ok (.bool true) w := by kernel_rfl
theorem Asf.typeOf25 (v : Value) (w : World) : (ReflectliteType.typeOf #[.iface 78 v]).run Tryz.prog w = .ok (.iface 184 (.agg #[.pointer (some ⟨1, 78, none⟩)])) w := by kernel_rfl
theorem Asf.assignable25 (w : World) : (ReflectliteType.relation "AssignableTo" ReflectliteType.assignableTo #[.agg #[.pointer (some ⟨1, 78, none⟩)], .iface 184 (.agg #[.pointer (some ⟨1, 78, none⟩)])]).run Tryz.prog w = .ok (.bool true) w := by kernel_rfl
theorem Asf.valueOf25 (e : Int) (w : World) : (ReflectliteValue.unpack (.iface 78 (.int .i64 e))).run Tryz.prog w
    = .ok (.agg #[.pointer (some ⟨1, 78, none⟩), .pointer (some ⟨w.heap.size, 0, none⟩), .int .u64 130]) (w.alloc (.cells #[.int .i64 e] 78)) := by kernel_rfl

theorem Asf.elemOf27 (w : World) : (Rtype.elem? 107).run Tryz.prog w = .ok (some 78) w := by kernel_rfl
theorem Asf.mk25 (p : Addr) (w : World) : (ReflectliteValue.mk 78 p ReflectliteValue.flagAddr).run Tryz.prog w = .ok (.agg #[.pointer (some ⟨1, 78, none⟩), .pointer (some p), .int .u64 386]) w := by kernel_rfl
theorem Asf.elemV27 (a p : Addr) (W : World) (ha : W.cell? a = some (.pointer (some p))) :
    (ReflectliteValue.method (ReflectliteValue.valueError "reflectlite.Value.Elem" 0) ReflectliteValue.elem #[.agg #[.pointer (some ⟨1, 107, none⟩), .pointer (some a), .int .u64 150]]).run Tryz.prog W
      = .ok (.agg #[.pointer (some ⟨1, 78, none⟩), .pointer (some p), .int .u64 386]) W := by
  rw [rlm]
  simp only [Sem.run_bind, Asf.parts27, Result.andThen]
  simp [ReflectliteValue.elem, loadVar, isAgg, underlying, Tryz.underlying107, ha, Result.andThen, Asf.elemOf27, Asf.mk25]
theorem rls (v x : Value) : ReflectliteValue.set #[v, x] = (do
    let (some (dst, a, fl), some (src, b, _)) := (← ReflectliteValue.parts v, ← ReflectliteValue.parts x)
      | unsupported (.noEntry "extern/(internal/reflectlite.Value).Set.zeroValue")
    if fl / ReflectliteValue.flagAddr % 2 == 0 then unsupported (.noEntry "extern/(internal/reflectlite.Value).Set.unaddressable")
    let val ← loadVar src b
    if ← Rtype.directlyAssignable dst src then storeVar dst a val
    else if ← Rtype.implements dst src then
      if (← Rtype.kind src) == 20 then
        match val with
        | .nilIface => unsupported (.noEntry "extern/reflectlite: a nil value of one interface type handed on as a value of another")
        | _ => storeVar dst a val
      else storeVar dst a (.iface src val)
    else panicString ("reflectlite.Set: value of type " ++ (← Rtype.spelt src) ++ " is not assignable to type " ++ (← Rtype.spelt dst))
    pure (.tuple #[])) := rfl
theorem Asf.parts25a (a : Addr) (w : World) : (ReflectliteValue.parts (.agg #[.pointer (some ⟨1, 78, none⟩), .pointer (some a), .int .u64 386])).run Tryz.prog w = .ok (some (78, a, 386)) w := by kernel_rfl
theorem Asf.parts25 (a : Addr) (w : World) : (ReflectliteValue.parts (.agg #[.pointer (some ⟨1, 78, none⟩), .pointer (some a), .int .u64 130])).run Tryz.prog w = .ok (some (78, a, 130)) w := by kernel_rfl
theorem Asf.direct25 (w : World) : (Rtype.directlyAssignable 78 78).run Tryz.prog w = .ok true w := by kernel_rfl
theorem Asf.size25 (w : World) : (sizeOf 78).run Tryz.prog w = .ok 1 w := by kernel_rfl
theorem Asf.set25 (ta b : Addr) (e : Int) (old : Value) (W : World) (hb : W.cell? b = some (.int .i64 e)) (ht : W.cell? ta = some old) (hf : W.frozen? ta = false) :
    (ReflectliteValue.set #[.agg #[.pointer (some ⟨1, 78, none⟩), .pointer (some ta), .int .u64 386], .agg #[.pointer (some ⟨1, 78, none⟩), .pointer (some b), .int .u64 130]]).run Tryz.prog W
      = .ok (.tuple #[]) (W.setCell ta (.int .i64 e)) := by
  rw [rls]
  simp only [Sem.run_bind, Asf.parts25a, Asf.parts25, Result.andThen]
  simp [ReflectliteValue.flagAddr, loadVar, isAgg, underlying, Tryz.underlying78, hb, Result.andThen, Asf.direct25, storeVar, Value.cells, storeCells, Addr.add]
  rw [run_store Tryz.prog W ta _ _ (by rfl)]
  simp [ht, hf]

set_option maxHeartbeats 4000000 in
theorem as_hit (e : Int) (t : Addr) (old : Value) (w : World) (hg : w.cell? ⟨0, 0, none⟩ = some (.iface 184 (.agg #[.pointer (some ⟨1, 28, none⟩)]))) (ht0 : w.cell? t = some old) (hf0 : w.frozen? t = false) :
    Calls Tryz.prog 47 #[.iface 78 (.int .i64 e), .iface 107 (.pointer (some t))] w fun ev w' => ev = .returned (.bool true) ∧ w' = ((((w.alloc (.cells #[.pointer (some t)] 107)).alloc (.cells #[.pointer (some ⟨1, 107, none⟩), .pointer (some ⟨w.heap.size, 0, none⟩), .int .u64 150] 155)).alloc (.cells #[.pointer (some ⟨1, 107, none⟩), .pointer (some ⟨w.heap.size, 0, none⟩), .int .u64 150] 155)).alloc (.cells #[.int .i64 e] 78)).setCell t (.int .i64 e) := by
  have h6 := @run_callFunc_extern Tryz.prog 86 _ (fun args => ReflectliteValue.unpack (args.getD 0 (.tuple #[]))) Tryz.func86 (by kernel_rfl) (by kernel_rfl) (by kernel_rfl) (by kernel_rfl)
  have h7 := @run_callFunc_extern Tryz.prog 87 _ (ReflectliteValue.methodAny (ReflectliteValue.valueError "reflectlite.Value.Type" 0) (fun t _ _ _ => ReflectliteType.toType t)) Tryz.func87 (by kernel_rfl) (by kernel_rfl) (by kernel_rfl) (by kernel_rfl)
  have h8 := @run_callFunc_extern Tryz.prog 88 _ (ReflectliteValue.method (ReflectliteValue.valueError "reflectlite.Value.IsNil" 0) ReflectliteValue.isNil) Tryz.func88 (by kernel_rfl) (by kernel_rfl) (by kernel_rfl) (by kernel_rfl)
  have h27 := @run_callFunc_extern Tryz.prog 175 _ (ReflectliteType.abiMethod fun t => do pure (.int .u8 (← Rtype.kind t))) Tryz.func175 (by kernel_rfl) (by kernel_rfl) (by kernel_rfl) (by kernel_rfl)
  have h37 := @run_callFunc_extern Tryz.prog 186 _ (ReflectliteType.method ReflectliteType.elem) Tryz.func186 (by kernel_rfl) (by kernel_rfl) (by kernel_rfl) (by kernel_rfl)
  have h38 := @run_callFunc_extern Tryz.prog 187 _ (ReflectliteType.relation "Implements" ReflectliteType.implements_) Tryz.func187 (by kernel_rfl) (by kernel_rfl) (by kernel_rfl) (by kernel_rfl)
  have h10 := @run_callFunc_extern Tryz.prog 84 _ ReflectliteType.typeOf Tryz.func84 (by kernel_rfl) (by kernel_rfl) (by kernel_rfl) (by kernel_rfl)
  have h35 := @run_callFunc_extern Tryz.prog 184 _ (ReflectliteType.relation "AssignableTo" ReflectliteType.assignableTo) Tryz.func184 (by kernel_rfl) (by kernel_rfl) (by kernel_rfl) (by kernel_rfl)
  have h11 := @run_callFunc_extern Tryz.prog 112 _ (ReflectliteValue.method (ReflectliteValue.valueError "reflectlite.Value.Elem" 0) ReflectliteValue.elem) Tryz.func112 (by kernel_rfl) (by kernel_rfl) (by kernel_rfl) (by kernel_rfl)
  have h12 := @run_callFunc_extern Tryz.prog 113 _ ReflectliteValue.set Tryz.func113 (by kernel_rfl) (by kernel_rfl) (by kernel_rfl) (by kernel_rfl)
  have tO := Asf.typeOf25
  have mA := Asf.methodAssignableTo
  have a25 := Asf.assignable25
  have v25 := Asf.valueOf25
  have f6 := Asf.valueOf27
  have f7 := Asf.type27
  have mK := Asf.methodKind
  have mE := Asf.methodElem
  have mI := Asf.methodImplements
  have k27 := Asf.kind27
  have k25 := Asf.kind25
  have e27 := Asf.elem27
  have i25 := Asf.implements25
  have n8 := Asf.isNil27 ⟨w.heap.size, 0, none⟩ t ((w.alloc (.cells #[.pointer (some t)] 107)).alloc (.cells #[.pointer (some ⟨1, 107, none⟩), .pointer (some ⟨w.heap.size, 0, none⟩), .int .u64 150] 155)) (by simp)
  have hlt : 0 < w.heap.size := by
    rcases Nat.eq_zero_or_pos w.heap.size with h0 | h
    · simp [World.cell?, h0] at hg
    · exact h
  have hg2 : ((w.alloc (.cells #[.pointer (some t)] 107)).alloc (.cells #[.pointer (some ⟨1, 107, none⟩), .pointer (some ⟨w.heap.size, 0, none⟩), .int .u64 150] 155)).cell? ⟨0, 0, none⟩ = some (.iface 184 (.agg #[.pointer (some ⟨1, 28, none⟩)])) := by
    rw [World.cell?_alloc_lt _ _ ⟨0, 0, none⟩ (by simp), World.cell?_alloc_lt _ _ ⟨0, 0, none⟩ hlt]; exact hg
  have htl : t.block < w.heap.size := by
    rcases Nat.lt_or_ge t.block w.heap.size with h | h
    · exact h
    · simp [World.cell?, Array.getElem?_eq_none h] at ht0
  have el := Asf.elemV27 ⟨w.heap.size, 0, none⟩ t (((w.alloc (.cells #[.pointer (some t)] 107)).alloc (.cells #[.pointer (some ⟨1, 107, none⟩), .pointer (some ⟨w.heap.size, 0, none⟩), .int .u64 150] 155)).alloc (.cells #[.pointer (some ⟨1, 107, none⟩), .pointer (some ⟨w.heap.size, 0, none⟩), .int .u64 150] 155)) (by rw [World.cell?_alloc_lt _ _ ⟨w.heap.size, 0, none⟩ (by simp; omega)]; simp)
  have st := Asf.set25 t ⟨w.heap.size + 1 + 1 + 1, 0, none⟩ e old ((((w.alloc (.cells #[.pointer (some t)] 107)).alloc (.cells #[.pointer (some ⟨1, 107, none⟩), .pointer (some ⟨w.heap.size, 0, none⟩), .int .u64 150] 155)).alloc (.cells #[.pointer (some ⟨1, 107, none⟩), .pointer (some ⟨w.heap.size, 0, none⟩), .int .u64 150] 155)).alloc (.cells #[.int .i64 e] 78))
    (by rw [World.cell?_alloc_at _ _ _ _ (by simp)]; rfl)
    (by rw [World.cell?_alloc_lt _ _ t (by simp; omega), World.cell?_alloc_lt _ _ t (by simp; omega), World.cell?_alloc_lt _ _ t (by simp; omega), World.cell?_alloc_lt _ _ t htl]; exact ht0)
    (by rw [World.frozen?_alloc_old _ _ t (by simp; omega), World.frozen?_alloc_old _ _ t (by simp; omega), World.frozen?_alloc_old _ _ t (by simp; omega), World.frozen?_alloc_old _ _ t (Nat.ne_of_lt htl)]; exact hf0)
  go_enter Tryz.func47, Tryz.ntmps47
  go_wp2
  refine wp_loop_rounds 1 ?_
  rw [rounds_succ]
  go_wp2
  go_ret
  exact ⟨rfl, rfl⟩
end Go.Proofs.YtokikeenfpligaaGreatDoor
namespace Go.Proofs.YtokikeenfpligaaGreatDoor
open Go.RowKit

/-- errors.errorType as the program's text lays it -/
def Laid (w : World) : Prop := w.cell? ⟨0, 0, none⟩ = some (.iface 184 (.agg #[.pointer (some ⟨1, 28, none⟩)]))
theorem Laid.lt {w : World} (h : Laid w) : 0 < w.heap.size := World.block_lt_of_cell? w _ h
theorem Laid.below {w w' : World} (h : Laid w) (hb : Below w.heap.size w w') : Laid w' := by
  unfold Laid
  rw [hb.cell (p := ⟨0, 0, none⟩) h.lt]
  exact h
theorem num_nil (w : World) :
    Calls Tryz.prog 16 #[.nilIface] w fun e w' => e = .returned (.int .i64 0) ∧ Below w.heap.size w w' := by
  go_enter Tryz.func16, Tryz.ntmps16
  go_wp2
  go_ret
  exact ⟨rfl, (Below.refl _ _).alloc (Nat.le_refl _) _⟩
theorem as_err (e : Int) (w : World) (hl : Laid w) :
    Calls Tryz.prog 47 #[.iface 78 (.int .i64 e), .iface 107 (.pointer (some ⟨w.heap.size, 0, none⟩))] (w.alloc (.cells #[.int .i64 0] 78)) fun ev w' => ev = .returned (.bool true) ∧ w'.cell? ⟨w.heap.size, 0, none⟩ = some (.int .i64 e) ∧ Below w.heap.size w w' := by
  have hg := hl.below ((Below.refl _ _).alloc (Nat.le_refl _) (.cells #[.int .i64 0] 78))
  refine (as_hit e ⟨w.heap.size, 0, none⟩ (.int .i64 0) _ hg (by simp) (by simp)).mono fun ev w' ⟨h1, h2⟩ => ⟨h1, ?_, ?_⟩
  · rw [h2]
    refine World.cell?_setCell_same _ _ _ (u := .int .i64 0) ?_
    rw [World.cell?_alloc_lt _ _ _ (by simp; omega), World.cell?_alloc_lt _ _ _ (by simp; omega), World.cell?_alloc_lt _ _ _ (by simp; omega), World.cell?_alloc_lt _ _ _ (by simp)]
    simp
  · rw [h2]
    exact (((((((Below.refl _ _).alloc (Nat.le_refl _) _).alloc (by simp) _).alloc (by simp; omega) _).alloc (by simp; omega) _).alloc (by simp; omega) _).setCell (by simp) _)
theorem num_err (k : Int) (w : World) (hl : Laid w) :
    Calls Tryz.prog 16 #[.iface 78 (.int .i64 k)] w fun e w' => e = .returned (.int .i64 k) ∧ Below w.heap.size w w' := by
  go_enter Tryz.func16, Tryz.ntmps16
  go_wp2_with (first | (go_at_call 47; refine (as_err k w hl).mono ?_; rintro ev w1 ⟨rfl, hc, hb⟩))
  go_ret
  exact ⟨rfl, hb⟩
end Go.Proofs.YtokikeenfpligaaGreatDoor
namespace Go.Proofs.YtokikeenfpligaaGreatDoor.Sm
open Go.RowKit Crc

theorem ret_int {k : IntKind} {a b : Int} (h : a = b) : Ending.returned (.int k a) = .returned (.int k b) := by rw [h]
theorem ret_bool {a b : Bool} (h : a = b) : Ending.returned (.bool a) = .returned (.bool b) := by rw [h]
set_option maxRecDepth 100000 in
theorem room_any (s : Int) (w : World) (hs : s ≤ 9223372036854775807) :
    Calls Tryz.prog 114 #[.int .i64 s] w fun e w' => e = .returned (.int .i64 (room s)) ∧ w = w' := by
  by_cases h : s < 1
  · rw [room_small h]
    go_enter Tryz.func114, Tryz.ntmps114
    go_wp2
    go_ret
    exact ⟨rfl, rfl⟩
  · rw [room_big (by omega)]
    have h1 : 1 ≤ s := by omega
    have e0 : 0 ≤ 492 / s := Int.ediv_nonneg (by omega) (by omega)
    go_enter Tryz.func114, Tryz.ntmps114
    go_wp2
    all_goals go_ret
    all_goals exact ⟨ret_int (by omega), rfl⟩
set_option maxRecDepth 100000 in
theorem fits_any (s n : Int) (w : World) (hs : s ≤ 9223372036854775807) :
    Calls Tryz.prog 93 #[.int .i64 s, .int .i64 n] w fun e w' => e = .returned (.bool (fitsB s n)) ∧ w = w' := by
  by_cases h : 0 < room s
  · rw [fits_yes h]
    go_enter Tryz.func93, Tryz.ntmps93
    go_wp2_with (go_at_call 114; refine (room_any s _ hs).mono ?_; rintro e w' ⟨rfl, rfl⟩)
    go_ret
    exact ⟨rfl, rfl⟩
  · rw [fits_no0 h]
    go_enter Tryz.func93, Tryz.ntmps93
    go_wp2_with (go_at_call 114; refine (room_any s _ hs).mono ?_; rintro e w' ⟨rfl, rfl⟩)
    go_ret
    exact ⟨rfl, rfl⟩
set_option maxRecDepth 100000 in
/-- the closure of page.Check: is a record not of the size? -/
theorem clo_any (ra : Option Addr) (rc B : Nat) (r : List Int) (s : Int) (w : World) (hc : w.cell? ⟨B, 3, none⟩ = some (.int .i64 s)) :
    Calls Tryz.prog 92 #[.slice ra r.length rc, .pointer (some ⟨B, 0, none⟩)] w fun e w' => e = .returned (.bool (badB s r)) ∧ w = w' := by
  go_enter Tryz.func92, Tryz.ntmps92
  go_wp2
  go_ret
  exact ⟨rfl, rfl⟩
/-- a slice of slices of bytes that lies in memory -/
def Recs (w : World) (a : Option Addr) (rs : List (List Int)) : Prop :=
  ∀ i (h : i < rs.length), ∃ b off ra rc, a = some ⟨b, off, none⟩ ∧ w.cell? ⟨b, off + i, none⟩ = some (.slice ra rs[i].length rc) ∧ Lies w ra rs[i] ∧ rs[i].length ≤ rc ∧ rc ≤ 9223372036854775807
theorem Recs.below {w w' : World} {a : Option Addr} {rs : List (List Int)} (h : Recs w a rs) (hb : Below w.heap.size w w') : Recs w' a rs := by
  intro i hi
  obtain ⟨b, off, ra, rc, ha, hc, hl, h1, h2⟩ := h i hi
  exact ⟨b, off, ra, rc, ha, by rw [hb.cell (World.block_lt_of_cell? w _ hc)]; exact hc, hl.below hb, h1, h2⟩
theorem Recs.byte {w : World} {a : Option Addr} {rs : List (List Int)} (h : Recs w a rs) : ∀ r ∈ rs, Byte r := by
  intro r hr
  obtain ⟨i, hi, rfl⟩ := List.getElem_of_mem hr
  obtain ⟨_, _, _, _, _, _, hl, _⟩ := h i hi
  exact hl.byte
/-- where the first record is that is not of the size, or -1 -/
def FirstBad (s : Int) (rs : List (List Int)) (w : World) (e : Ending) (w' : World) : Prop :=
  ∃ k : Int, e = .returned (.int .i64 k) ∧ decide (0 ≤ k) = rs.any (badB s) ∧ w = w'
theorem any_take {α : Type} (f : α → Bool) (l : List α) (k : Nat) (h : k < l.length) (h0 : (l.take k).any f = false) (h1 : f l[k] = false) : (l.take (k + 1)).any f = false := by
  rw [List.take_succ_eq_append_getElem h, List.any_append, h0]
  simp [h1]
theorem any_at {α : Type} (f : α → Bool) (l : List α) (k : Nat) (h : k < l.length) (h1 : f l[k] = true) : l.any f = true := List.any_eq_true.2 ⟨_, List.getElem_mem h, h1⟩
set_option maxRecDepth 100000 in
theorem idx_any (a : Option Addr) (c B n : Nat) (rs : List (List Int)) (s : Int) (w : World) (hn : rs.length = n) (hm : n ≤ 9223372036854775807) (hr : Recs w a rs) (hc : w.cell? ⟨B, 3, none⟩ = some (.int .i64 s)) :
    Calls Tryz.prog 115 #[.slice a n c, .func (.func 92) #[] #[.pointer (some ⟨B, 0, none⟩)]] w (FirstBad s rs w) := by
  have HR := Lib.hid hr
  have HC := Lib.hid hc
  have HN := Lib.hid hn
  clear hr hc hn
  go_enter Tryz.func115, Tryz.ntmps115
  go_wp2
  go_loop [8, 5] (fun i _ => ∃ k : Nat, k ≤ n ∧ i = .int .i64 k ∧ Hid ((rs.take k).any (badB s) = false)) (fun i _ => n - (intOf i).toNat)
  case atStart => exact ⟨0, by omega, rfl, Lib.hid (by simp)⟩
  case round =>
    obtain ⟨k, hk, rfl, HA⟩ := hrel
    by_cases hlt : k < n
    · have hlt' : k < rs.length := by rw [HN.out]; exact hlt
      obtain ⟨b, off, ra, rc, rfl, hcell, _⟩ := HR.out k hlt'
      generalize hr : rs[k] = r at hcell
      have HRK := Lib.hid hr
      clear hr
      cases hb : badB s r
      · have HB := Lib.hid hb
        clear hb
        go_wp2_with (go_at_call 92; refine (clo_any _ _ B r s _ HC.out).mono ?_; rintro e w' ⟨rfl, rfl⟩; have hb := HB.out)
        go_round
        case rel => exact ⟨k + 1, by omega, by go_num, Lib.hid (any_take _ _ _ hlt' HA.out (by rw [HRK.out]; exact HB.out))⟩
        case measure => simp [intOf]; omega
      · have HB := Lib.hid hb
        clear hb
        go_wp2_with (go_at_call 92; refine (clo_any _ _ B r s _ HC.out).mono ?_; rintro e w' ⟨rfl, rfl⟩; have hb := HB.out)
        go_ret
        exact ⟨k, rfl, by rw [any_at (badB s) rs k hlt' (by rw [HRK.out]; exact HB.out)]; exact decide_eq_true (by omega), rfl⟩
    · obtain rfl : k = n := by omega
      go_wp2
      go_ret
      exact ⟨-1, rfl, by have := HA.out; rw [List.take_of_length_le (by rw [HN.out]; exact Nat.le_refl _)] at this; rw [this]; rfl, rfl⟩
set_option maxRecDepth 100000 in
theorem has_any (a : Option Addr) (c B n : Nat) (rs : List (List Int)) (s : Int) (w : World) (hn : rs.length = n) (hm : n ≤ 9223372036854775807) (hr : Recs w a rs) (hc : w.cell? ⟨B, 3, none⟩ = some (.int .i64 s)) :
    Calls Tryz.prog 94 #[.slice a n c, .func (.func 92) #[] #[.pointer (some ⟨B, 0, none⟩)]] w fun e w' => e = .returned (.bool (rs.any (badB s))) ∧ w = w' := by
  have HC := Lib.hid hc
  have HR := Lib.hid hr
  have HN := Lib.hid hn
  clear hr hn hc
  go_enter Tryz.func94, Tryz.ntmps94
  go_wp2_with (go_at_call 115; refine (idx_any _ _ _ _ rs s _ HN.out hm HR.out HC.out).mono ?_; rintro e w' ⟨k, rfl, hk, rfl⟩; have HK := Lib.hid hk; clear hk)
  go_ret
  exact ⟨ret_bool (by rw [← HK.out]), rfl⟩
theorem may_eq (ki nu ep si : Int) (rs : List (List Int)) (n : Nat) (hn : rs.length = n) : (Pg.mkPg ki nu ep si rs).may = (fitsB si n && !(rs.any (badB si))) := by rw [← hn]; rfl
/-- what page.Check answers -/
def chk (b : Bool) : Value := if b then .nilIface else .iface 78 (.int .i64 1)
set_option maxRecDepth 100000 in
theorem check_any (ki nu ep si : Int) (a : Option Addr) (n c : Nat) (rs : List (List Int)) (w : World) (hn : rs.length = n) (hm : n ≤ 9223372036854775807) (hs : si ≤ 9223372036854775807) (hr : Recs w a rs) :
    Calls Tryz.prog 50 #[.agg #[.int .u8 ki, .int .u32 nu, .int .u64 ep, .int .i64 si, .slice a n c]] w fun e w' => e = .returned (chk (Pg.mkPg ki nu ep si rs).may) ∧ Below w.heap.size w w' := by
  rw [may_eq ki nu ep si rs n hn]
  have HN := Lib.hid hn
  have HR := Lib.hid (hr.below ((Below.refl w.heap.size w).alloc (Nat.le_refl _) (.cells #[.int .u8 ki, .int .u32 nu, .int .u64 ep, .int .i64 si, .slice a n c] 47)))
  have hmf : ∀ (fn : Fn) (first cap : Array Value) (w : World), (Instr.makeFunc fn first cap).run Tryz.prog w = .ok (.func fn first cap) w := fun _ _ _ _ => rfl
  clear hn hr
  cases hf : fitsB si n <;> cases hy : rs.any (badB si)
  all_goals
    go_enter Tryz.func50, Tryz.ntmps50
    go_wp2_with (first | (go_at_call 93; refine (fits_any si n _ hs).mono ?_; rintro e w' ⟨rfl, rfl⟩) | (go_at_call 94; refine (has_any _ _ w.heap.size n rs si _ HN.out hm HR.out (by simp)).mono ?_; rintro e w' ⟨rfl, rfl⟩))
    go_ret
    exact ⟨rfl, (Below.refl _ _).alloc (Nat.le_refl _) _⟩
theorem check_ok (ki nu ep si : Int) (a : Option Addr) (n c : Nat) (rs : List (List Int)) (w : World) (hn : rs.length = n) (hm : n ≤ 9223372036854775807) (hs : si ≤ 9223372036854775807) (hr : Recs w a rs) (h : (Pg.mkPg ki nu ep si rs).may = true) :
    Calls Tryz.prog 50 #[.agg #[.int .u8 ki, .int .u32 nu, .int .u64 ep, .int .i64 si, .slice a n c]] w fun e w' => e = .returned .nilIface ∧ Below w.heap.size w w' :=
  (check_any ki nu ep si a n c rs w hn hm hs hr).mono fun e w' ⟨he, hb⟩ => ⟨by rw [he, h]; rfl, hb⟩
theorem check_bad (ki nu ep si : Int) (a : Option Addr) (n c : Nat) (rs : List (List Int)) (w : World) (hn : rs.length = n) (hm : n ≤ 9223372036854775807) (hs : si ≤ 9223372036854775807) (hr : Recs w a rs) (h : (Pg.mkPg ki nu ep si rs).may = false) :
    Calls Tryz.prog 50 #[.agg #[.int .u8 ki, .int .u32 nu, .int .u64 ep, .int .i64 si, .slice a n c]] w fun e w' => e = .returned (.iface 78 (.int .i64 1)) ∧ Below w.heap.size w w' :=
  (check_any ki nu ep si a n c rs w hn hm hs hr).mono fun e w' ⟨he, hb⟩ => ⟨by rw [he, h]; rfl, hb⟩
end Go.Proofs.YtokikeenfpligaaGreatDoor.Sm
namespace Go.Proofs.YtokikeenfpligaaGreatDoor.Sm
open Go.RowKit Crc

/-- a block of bytes that is known whole -/
def Blk (w : World) (B : Nat) (xs : List Int) : Prop := w.heap[B]? = some (.cells (bl xs).toArray 5 (0, 0))
theorem Blk.cell {w : World} {B : Nat} {xs : List Int} (h : Blk w B xs) (i : Nat) (hi : i < xs.length) : w.cell? ⟨B, i, none⟩ = some (.int .u8 xs[i]) := by
  rw [cell_of_row w B i _ _ _ h]
  simp [bl, hi]
theorem Blk.free {w : World} {B : Nat} {xs : List Int} (h : Blk w B xs) (i : Nat) : w.frozen? ⟨B, i, none⟩ = false := frozen_of_row w B i _ _ h
theorem Blk.lt {w : World} {B : Nat} {xs : List Int} (h : Blk w B xs) : B < w.heap.size := lt_of_block h
theorem Blk.put {w : World} {B : Nat} {xs : List Int} (h : Blk w B xs) (i : Nat) (x : Int) : Blk (w.setCell ⟨B, i, none⟩ (.int .u8 x)) B (xs.set i x) := by
  unfold Blk
  rw [heap_setCell_same w B i _ _ _ h]
  congr 2
  apply Array.ext'
  simp [bl, List.map_set]
theorem Blk.lies {w : World} {B : Nat} {xs : List Int} (h : Blk w B xs) (hb : Byte xs) : Lies w (some ⟨B, 0, none⟩) xs := lies_block h hb
theorem Blk.below {w w' : World} {B : Nat} {xs : List Int} (h : Blk w B xs) (hb : Below w.heap.size w w') : Blk w' B xs := (hb.block B h.lt).trans h
/-- w' is w but for writes into the block B -/
structure Only (B : Nat) (w w' : World) : Prop where
  os : w'.os = w.os
  tape : w'.tape = w.tape
  output : w'.output = w.output
  size : w'.heap.size = w.heap.size
  block : ∀ k, k ≠ B → w'.heap[k]? = w.heap[k]?
theorem Only.refl (B : Nat) (w : World) : Only B w w := ⟨rfl, rfl, rfl, rfl, fun _ _ => rfl⟩
theorem Only.drew {B : Nat} {w w' : World} (h : Only B w w') : Only B w w'.drew := ⟨h.os, h.tape, h.output, h.size, h.block⟩
theorem Only.set {B : Nat} {w w' : World} (h : Only B w w') (i : Nat) (v : Value) : Only B w (w'.setCell ⟨B, i, none⟩ v) := by
  have hb := (Below.refl 0 w').setCell (p := ⟨B, i, none⟩) (Nat.zero_le _) v
  exact ⟨hb.os.trans h.os, hb.tape.trans h.tape, hb.output.trans h.output, by rw [World.size_setCell]; exact h.size, fun k hk => (heap_setCell_other w' _ k v hk).trans (h.block k hk)⟩
theorem Only.below {B b : Nat} {W w w' : World} (h : Only B w w') (hB : b ≤ B) (hb : Below b W w) : Below b W w' :=
  ⟨h.os.trans hb.os, h.tape.trans hb.tape, h.output.trans hb.output, by rw [h.size]; exact hb.size, fun k hk => (h.block k (by omega)).trans (hb.block k hk)⟩
theorem cell_of_block {w w' : World} {b o : Nat} (h : w'.heap[b]? = w.heap[b]?) : w'.cell? ⟨b, o, none⟩ = w.cell? ⟨b, o, none⟩ := by
  simp only [World.cell?, h]
theorem Only.cell {B : Nat} {w w' : World} (h : Only B w w') {b o : Nat} {v : Value} (hc : w.cell? ⟨b, o, none⟩ = some v) (hn : b ≠ B) : w'.cell? ⟨b, o, none⟩ = some v := by
  rw [cell_of_block (h.block b hn)]; exact hc

/-! ### a number's bytes from the other end -/
theorem be_front (k : Nat) (n : Int) : be (k + 1) n = (n / 256 ^ k % 256) :: be k n := by
  induction k generalizing n with
  | zero => simp [be]
  | succ k ih =>
    have e : be (k + 1 + 1) n = be (k + 1) (n / 256) ++ [n % 256] := rfl
    rw [e, ih]
    have e2 : n / 256 / 256 ^ k = n / 256 ^ (k + 1) := by
      rw [Int.ediv_ediv_of_nonneg (by decide), Int.pow_succ, Int.mul_comm]
    rw [e2]
    rfl
/-- what lay has written behind so many rounds: at the end of the piece -/
def laid (xs : List Int) (off m : Nat) (n : Int) (k : Nat) : List Int := xs.take (off + m - k) ++ (be k n ++ xs.drop (off + m))
theorem laid_zero (xs : List Int) (off m : Nat) (n : Int) : laid xs off m n 0 = xs := by simp [laid, be]
theorem laid_len (xs : List Int) (off m : Nat) (n : Int) (k : Nat) (h : off + m ≤ xs.length) (hk : k ≤ m) : (laid xs off m n k).length = xs.length := by
  simp [laid, be_len]; omega
theorem laid_next (xs : List Int) (off m : Nat) (n : Int) (k : Nat) (h : off + m ≤ xs.length) (hk : k < m) : (laid xs off m n k).set (off + (m - 1 - k)) (n / 256 ^ k % 256) = laid xs off m n (k + 1) := by
  unfold laid
  have e : off + m - k = (off + (m - 1 - k)) + 1 := by omega
  have e2 : off + m - (k + 1) = off + (m - 1 - k) := by omega
  rw [e, e2, be_front, List.take_succ_eq_append_getElem (by omega), List.append_assoc, List.set_append_right _ _ (by simp; omega)]
  have e3 : off + (m - 1 - k) - (xs.take (off + (m - 1 - k))).length = 0 := by simp; omega
  rw [e3]
  rfl
theorem pow256 (k : Nat) : (2 : Int) ^ (8 * k) = 256 ^ k := by rw [Int.pow_mul]; rfl
set_option maxRecDepth 100000 in
theorem lay_any (B off m c : Nat) (xs : List Int) (n : Int) (w : World) (h : Blk w B xs) (hm : off + m ≤ xs.length) (hm8 : m ≤ 8) :
    Calls Tryz.prog 116 #[.slice (some ⟨B, off, none⟩) m c, .int .u64 n] w fun e w' => e = .returned (.tuple #[]) ∧ Blk w' B (laid xs off m n m) ∧ Only B w w' := by
  have HB := Lib.hid h
  clear h
  go_enter Tryz.func116, Tryz.ntmps116
  go_wp2
  go_loopw [7, 4] (fun i _ wr => ∃ k : Nat, k ≤ m ∧ i = .int .i64 k ∧ Hid (Blk wr B (laid xs off m n k)) ∧ Hid (Only B w wr)) (fun i _ _ => m - (intOf i).toNat)
  case atStart => exact ⟨0, by omega, rfl, Lib.hid (by rw [laid_zero]; exact HB.out), Lib.hid (Only.refl _ _)⟩
  case round =>
    obtain ⟨k, hk, rfl, HW, HO⟩ := hrel
    by_cases hlt : k < m
    · have hl := laid_len xs off m n k hm hk
      obtain ⟨x, hc⟩ : ∃ x, wr.cell? ⟨B, off + (m - 1 - k), none⟩ = some (.int .u8 x) := ⟨_, HW.out.cell (off + (m - 1 - k)) (by rw [hl]; omega)⟩
      have hf := HW.out.free (off + (m - 1 - k))
      have i0 : (0 : Int) ≤ (m : Int) - 1 - k := by omega
      have i1 : ((m : Int) - 1 - k).toNat = m - 1 - k := by omega
      have i2 : (m : Int) - 1 - k < m := by omega
      have HN := Lib.hid (laid_next xs off m n k hm hlt)
      have HP := Lib.hid (pow256 k)
      clear hl
      go_wp2
      go_roundw
      case rel => exact ⟨k + 1, by omega, by go_num, Lib.hid (by rw [← HN.out, ← HP.out]; exact HW.out.put _ _), Lib.hid (HO.out.set _ _)⟩
      case measure => simp [intOf]; omega
    · obtain rfl : k = m := by omega
      go_wp2
      go_end0
      exact ⟨rfl, HW.out, HO.out⟩
end Go.Proofs.YtokikeenfpligaaGreatDoor.Sm

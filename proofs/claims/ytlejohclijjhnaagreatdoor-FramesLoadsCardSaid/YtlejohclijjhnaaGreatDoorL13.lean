/-
  THE WALK of square: of a number that is there, of one that is not, of no store. Conditions: the store lies in memory.
-/
import Derived.StillTailTactics
import Derived.Outline
import Derived.Test.YtlejohclijjhnaaGreatDoorL12
namespace Go.Proofs.YtlejohclijjhnaaGreatDoor
open Go.RowKit Ti Qd Go.Maps Go.WideMaps

theorem cell_al {w : World} {g o : Nat} {v : Value} (ob : Obj) (h : w.cell? ⟨g, o, none⟩ = some v) : (w.alloc ob).cell? ⟨g, o, none⟩ = some v := ((alX w ob).cell (p := ⟨g, o, none⟩) (World.block_lt_of_cell? w _ h)).trans h
abbrev zq : Obj := .cells #[.int .i64 0, .int .i64 0, .int .u64 0, .int .i64 0, .int .i64 0, .int .i64 0, .int .i64 0] 95
/-- two results: a whole variable, and a slot -/
theorem results_row_tmp {P : Program} {fn : Func} {p q : Tmp} {ty : TypeId} (h : fn.results = #[.cell p ty, .tmp q]) (tmps : Array Value) (w : World) (g : Nat) (t : TypeId) (cs : Array Value) (fr : Nat × Nat) (d : TypeDesc) (v : Value)
    (hp : tmps.getD p undef = .pointer (some ⟨g, 0, none⟩)) (hv : tmps.getD q undef = v) (hg : w.heap[g]? = some (.cells cs t fr))
    (hu : P.underlying ty = some d) (hd : (match d with | .struct _ | .array _ _ => true | _ => false) = true) (hi : (P.info? ty).map (·.size) = some cs.size) :
    (results fn tmps).run P w = .ok (.tuple #[.agg cs, v]) w := by
  have hp' : tmps[p]?.getD undef = .pointer (some ⟨g, 0, none⟩) := by simpa using hp
  have hv' : tmps[q]?.getD undef = v := by simpa using hv
  simp [results, h, hp', hv', asAddr, run_loadVar_row w g t ty cs fr d hg hu hd hi]
theorem post_row_tmp {P : Program} {fn : Func} {R : Ending → World → Prop} {a : Act} {w : World} {p q : Tmp} {ty : TypeId} (h : fn.results = #[.cell p ty, .tmp q]) (g : Nat) (t : TypeId) (cs : Array Value) (fr : Nat × Nat) (d : TypeDesc) (v : Value)
    (hu : P.underlying ty = some d) (hd : (match d with | .struct _ | .array _ _ => true | _ => false) = true) (hi : (P.info? ty).map (·.size) = some cs.size)
    (hp : a.tmps.getD p undef = .pointer (some ⟨g, 0, none⟩)) (hv : a.tmps.getD q undef = v) (hg : w.heap[g]? = some (.cells cs t fr)) (hdf : a.defers = []) (hR : R (.returned (.tuple #[.agg cs, v])) w) : bodyPost P fn R .ret a w :=
  bodyPost_ret (results_row_tmp h a.tmps w g t cs fr d v hp hv hg hu hd hi) hdf hR
set_option maxRecDepth 100000 in
theorem info_q7 : (Tryz.prog.info? 95).map (·.size) = some 7 := by kernel_rfl
theorem row7 {w : World} {g : Nat} {v0 v1 v2 v3 v4 v5 v6 : Value} {t : TypeId} (h : w.heap[g]? = some (.cells #[v0, v1, v2, v3, v4, v5, v6] t (0, 0))) :
    (w.cell? ⟨g, 0, none⟩ = some v0 ∧ w.cell? ⟨g, 1, none⟩ = some v1 ∧ w.cell? ⟨g, 2, none⟩ = some v2 ∧ w.cell? ⟨g, 3, none⟩ = some v3 ∧ w.cell? ⟨g, 4, none⟩ = some v4 ∧ w.cell? ⟨g, 5, none⟩ = some v5 ∧ w.cell? ⟨g, 6, none⟩ = some v6) ∧ w.frozen? ⟨g, 0, none⟩ = false ∧ w.frozen? ⟨g, 1, none⟩ = false ∧ w.frozen? ⟨g, 2, none⟩ = false ∧ w.frozen? ⟨g, 3, none⟩ = false ∧ w.frozen? ⟨g, 4, none⟩ = false ∧ w.frozen? ⟨g, 5, none⟩ = false ∧ w.frozen? ⟨g, 6, none⟩ = false := by
  refine ⟨⟨?_, ?_, ?_, ?_, ?_, ?_, ?_⟩, frozen_of_row w g 0 _ _ h, frozen_of_row w g 1 _ _ h, frozen_of_row w g 2 _ _ h, frozen_of_row w g 3 _ _ h, frozen_of_row w g 4 _ _ h, frozen_of_row w g 5 _ _ h, frozen_of_row w g 6 _ _ h⟩ <;> (rw [cell_of_row w g _ _ _ _ h]; rfl)
abbrev set7 (w : World) (g : Nat) (v0 v1 v2 v3 v4 v5 v6 : Value) : World := ((((((w.setCell ⟨g, 0, none⟩ v0).setCell ⟨g, 1, none⟩ v1).setCell ⟨g, 2, none⟩ v2).setCell ⟨g, 3, none⟩ v3).setCell ⟨g, 4, none⟩ v4).setCell ⟨g, 5, none⟩ v5).setCell ⟨g, 6, none⟩ v6
theorem row_set7 {w : World} {g : Nat} {a0 a1 a2 a3 a4 a5 a6 : Value} {t : TypeId} (h : w.heap[g]? = some (.cells #[a0, a1, a2, a3, a4, a5, a6] t (0, 0))) (v0 v1 v2 v3 v4 v5 v6 : Value) :
    (set7 w g v0 v1 v2 v3 v4 v5 v6).heap[g]? = some (.cells #[v0, v1, v2, v3, v4, v5, v6] t (0, 0)) := by
  have h0 := heap_setCell_same w g 0 _ _ v0 h
  have h1 := heap_setCell_same _ g 1 _ _ v1 h0
  have h2 := heap_setCell_same _ g 2 _ _ v2 h1
  have h3 := heap_setCell_same _ g 3 _ _ v3 h2
  have h4 := heap_setCell_same _ g 4 _ _ v4 h3
  have h5 := heap_setCell_same _ g 5 _ _ v5 h4
  have h6 := heap_setCell_same _ g 6 _ _ v6 h5
  rw [h6]
  rfl
theorem below_set7 {w w' : World} {B g : Nat} (h : Below B w w') (hg : B ≤ g) (v0 v1 v2 v3 v4 v5 v6 : Value) : Below B w (set7 w' g v0 v1 v2 v3 v4 v5 v6) :=
  ((((((h.setCell (p := ⟨g, 0, none⟩) hg v0).setCell (p := ⟨g, 1, none⟩) hg v1).setCell (p := ⟨g, 2, none⟩) hg v2).setCell (p := ⟨g, 3, none⟩) hg v3).setCell (p := ⟨g, 4, none⟩) hg v4).setCell (p := ⟨g, 5, none⟩) hg v5).setCell (p := ⟨g, 6, none⟩) hg v6
theorem at_is {L : List Sq} {id : Int} (h : Ok L id) : ∃ hi : (id - 1).toNat < L.length, L[(id - 1).toNat] = at' L id := by
  unfold Ok at h
  have hi : (id - 1).toNat < L.length := by omega
  refine ⟨hi, ?_⟩
  unfold at'
  rw [List.getElem?_eq_getElem hi]
  rfl
set_option maxRecDepth 100000 in
set_option maxHeartbeats 1000000 in
theorem square_ok {B : Nat} {w : World} {P : Nat} {L : List Sq} {room : Nat} {H : Nat → Prop} (h : St B w P L room H) (id : Int) (ho : Ok L id) :
    Calls Tryz.prog 31 #[.pointer (some ⟨P, 0, none⟩), .int .i64 id] w fun e w' => e = .returned (.tuple #[qv (at' L id), .nilIface]) ∧ Below w.heap.size w w' := by
  obtain ⟨M, sv, hs, rfl⟩ := h
  obtain ⟨ao, cap, rfl, hc, hm, _, hb, hq⟩ := own_sq hs.row
  obtain ⟨hi, e⟩ := at_is ho
  obtain ⟨b, off, rfl, q0, q1, q2, q3, q4, q5, q6⟩ := hq _ hi
  obtain ⟨_, _, rfl, _⟩ := hb b off rfl
  have hs1 := hs.c1
  have h1 : 1 ≤ id := ho.1
  have h2 : id ≤ L.length := ho.2
  have hL := hs.rm
  have hL2 := hs.r6
  rw [e, Nat.zero_add, show (id - 1).toNat = id.toNat - 1 by omega] at q0 q1 q2 q3 q4 q5 q6
  clear e hq hs hb
  unfold qv
  generalize at' L id = q at *
  generalize hn : L.length = n at *
  have n1 : ¬ id < 1 := by omega
  have n2 : ¬ (n : Int) < id := by omega
  have hb := heap_alloc_new w zq
  obtain ⟨⟨c0, c1, c2, c3, c4, c5, c6⟩, f0, f1, f2, f3, f4, f5, f6⟩ := row7 hb
  have hs1 := cell_al zq hs1
  have q0 := cell_al zq q0
  have q1 := cell_al zq q1
  have q2 := cell_al zq q2
  have q3 := cell_al zq q3
  have q4 := cell_al zq q4
  have q5 := cell_al zq q5
  have q6 := cell_al zq q6
  have HB := Lib.hid (And.intro hb (alX w zq))
  clear hb hn ho
  go_enter Tryz.func31, Tryz.ntmps31
  go_wp2
  refine post_row_tmp Tryz.results31 w.heap.size 95 #[.int .i64 q.lev, .int .i64 q.cnt, .int .u64 (rg q.til), .int .i64 q.k0, .int .i64 q.k1, .int .i64 q.k2, .int .i64 q.k3] (0, 0) _ .nilIface Tryz.underlying95 rfl info_q7 ?_ ?_ (heap_alloc_new w _) ?_ ?_
  · rfl
  · rfl
  · rfl
  exact ⟨rfl, alX w _⟩
def zv : Value := .agg #[.int .i64 0, .int .i64 0, .int .u64 0, .int .i64 0, .int .i64 0, .int .i64 0, .int .i64 0]
set_option maxRecDepth 100000 in
set_option maxHeartbeats 1000000 in
theorem square_none {B : Nat} {w : World} {P : Nat} {L : List Sq} {room : Nat} {H : Nat → Prop} (h : St B w P L room H) (id : Int) (ho : ¬ Ok L id) :
    Calls Tryz.prog 31 #[.pointer (some ⟨P, 0, none⟩), .int .i64 id] w fun e w' => e = .returned (.tuple #[zv, .iface 63 (.int .i64 8)]) ∧ Below w.heap.size w w' := by
  obtain ⟨M, sv, hs, rfl⟩ := h
  obtain ⟨ao, cap, rfl, hc, hm, h0, h00, h01⟩ := own_sq hs.row
  have hs1 := hs.c1
  have hL := hs.rm
  have hL2 := hs.r6
  unfold Ok at ho
  clear hs h0 h00 h01
  unfold zv
  generalize hn : L.length = n at *
  have hb := heap_alloc_new w zq
  obtain ⟨⟨c0, c1, c2, c3, c4, c5, c6⟩, f0, f1, f2, f3, f4, f5, f6⟩ := row7 hb
  have hs1 := cell_al zq hs1
  have HB := Lib.hid (And.intro hb (alX w zq))
  clear hb hn
  by_cases n1 : id < 1
  · clear ho
    go_enter Tryz.func31, Tryz.ntmps31
    go_wp2
    refine post_row_tmp Tryz.results31 w.heap.size 95 #[.int .i64 0, .int .i64 0, .int .u64 0, .int .i64 0, .int .i64 0, .int .i64 0, .int .i64 0] (0, 0) _ (.iface 63 (.int .i64 8)) Tryz.underlying95 rfl info_q7 ?_ ?_ (heap_alloc_new w _) ?_ ?_
    · rfl
    · rfl
    · rfl
    exact ⟨rfl, alX w _⟩
  · have n2 : (n : Int) < id := by omega
    clear ho
    go_enter Tryz.func31, Tryz.ntmps31
    go_wp2
    refine post_row_tmp Tryz.results31 w.heap.size 95 #[.int .i64 0, .int .i64 0, .int .u64 0, .int .i64 0, .int .i64 0, .int .i64 0, .int .i64 0] (0, 0) _ (.iface 63 (.int .i64 8)) Tryz.underlying95 rfl info_q7 ?_ ?_ (heap_alloc_new w _) ?_ ?_
    · rfl
    · rfl
    · rfl
    exact ⟨rfl, alX w _⟩
set_option maxRecDepth 100000 in
set_option maxHeartbeats 1000000 in
theorem square_nil (id : Int) (w : World) :
    Calls Tryz.prog 31 #[.pointer none, .int .i64 id] w fun e w' => e = .returned (.tuple #[zv, .iface 63 (.int .i64 1)]) ∧ Below w.heap.size w w' := by
  unfold zv
  have hb := heap_alloc_new w zq
  obtain ⟨⟨c0, c1, c2, c3, c4, c5, c6⟩, f0, f1, f2, f3, f4, f5, f6⟩ := row7 hb
  have HB := Lib.hid (And.intro hb (alX w zq))
  clear hb
  go_enter Tryz.func31, Tryz.ntmps31
  go_wp2
  refine post_row_tmp Tryz.results31 w.heap.size 95 #[.int .i64 0, .int .i64 0, .int .u64 0, .int .i64 0, .int .i64 0, .int .i64 0, .int .i64 0] (0, 0) _ (.iface 63 (.int .i64 1)) Tryz.underlying95 rfl info_q7 ?_ ?_ (heap_alloc_new w _) ?_ ?_
  · rfl
  · rfl
  · rfl
  exact ⟨rfl, alX w _⟩
end Go.Proofs.YtlejohclijjhnaaGreatDoor

/-
  THE WALKS of last, half, plus, minus, corner, has. Conditions: those that each lemma names.
-/
import Derived.Test.YtifkhmcdgmnipaaGreatDoorR26
namespace Go.Proofs.YtifkhmcdgmnipaaGreatDoor
open Go.RowKit Ti Qd Ce Cl Go.Maps Go.WideMaps

set_option maxRecDepth 100000 in
theorem last_ok (n : Nat) (q : Sq) (hl : q.lev = n + 3) (hn : n ≤ 37) (w : World) :
    Calls Tryz.prog 23 #[qv q] w fun e w' => e = .returned (.int .i64 (((2 ^ (n + 3) : Nat) : Int) - 1)) ∧ Below w.heap.size w w' := by
  have hsh := shl_run hn
  have h40 := two40 hn
  have hp := Nat.two_pow_pos (n + 3)
  unfold qv
  obtain ⟨lev, cnt, til, k0, k1, k2, k3⟩ := q
  simp only at hl
  subst hl
  generalize 2 ^ (n + 3) = m at *
  have n0 : (0 : Int) ≤ (n : Int) + 3 := by omega
  go_enter Tryz.func23, Tryz.ntmps23
  go_wp2
  go_ret
  exact ⟨rfl, alX w _⟩
set_option maxRecDepth 100000 in
theorem half_ok (n : Nat) (q : Sq) (hl : q.lev = n + 4) (hn : n ≤ 36) (w : World) :
    Calls Tryz.prog 56 #[qv q] w fun e w' => e = .returned (.int .i64 ((2 ^ (n + 3) : Nat) : Int)) ∧ Below w.heap.size w w' := by
  have hsh := shl_run (n := n) (by omega)
  have h40 := two40 (n := n) (by omega)
  have hp := Nat.two_pow_pos (n + 3)
  unfold qv
  obtain ⟨lev, cnt, til, k0, k1, k2, k3⟩ := q
  simp only at hl
  subst hl
  generalize 2 ^ (n + 3) = m at *
  have n0 : (0 : Int) ≤ (n : Int) + 3 := by omega
  go_enter Tryz.func56, Tryz.ntmps56
  go_wp2
  go_ret
  refine ⟨?_, alX w _⟩
  show Ending.returned (.int .i64 (wrap64 (2 ^ (n + 4 - 1)))) = _
  rw [show n + 4 - 1 = n + 3 from rfl, hsh]
theorem results_cell1 {P : Program} {fn : Func} {p : Tmp} {ty : TypeId} (h : fn.results = #[.cell p ty]) (tmps : Array Value) (w : World) (g : Nat) (t : TypeId) (cs : Array Value) (fr : Nat × Nat) (d : TypeDesc)
    (hp : tmps.getD p undef = .pointer (some ⟨g, 0, none⟩)) (hg : w.heap[g]? = some (.cells cs t fr))
    (hu : P.underlying ty = some d) (hd : (match d with | .struct _ | .array _ _ => true | _ => false) = true) (hi : (P.info? ty).map (·.size) = some cs.size) :
    (results fn tmps).run P w = .ok (.agg cs) w := by
  have hp' : tmps[p]?.getD undef = .pointer (some ⟨g, 0, none⟩) := by simpa using hp
  simp [results, h, hp', asAddr, run_loadVar_row w g t ty cs fr d hg hu hd hi]
theorem post_cell1 {P : Program} {fn : Func} {R : Ending → World → Prop} {a : Act} {w : World} {p : Tmp} {ty : TypeId} (h : fn.results = #[.cell p ty]) (g : Nat) (t : TypeId) (cs : Array Value) (fr : Nat × Nat) (d : TypeDesc)
    (hu : P.underlying ty = some d) (hd : (match d with | .struct _ | .array _ _ => true | _ => false) = true) (hi : (P.info? ty).map (·.size) = some cs.size)
    (hp : a.tmps.getD p undef = .pointer (some ⟨g, 0, none⟩)) (hg : w.heap[g]? = some (.cells cs t fr)) (hdf : a.defers = []) (hR : R (.returned (.agg cs)) w) : bodyPost P fn R .ret a w :=
  bodyPost_ret (results_cell1 h a.tmps w g t cs fr d hp hg hu hd hi) hdf hR
set_option maxRecDepth 100000 in
theorem info_a2 : (Tryz.prog.info? 30).map (·.size) = some 2 := by kernel_rfl
set_option maxRecDepth 100000 in
theorem plus_ok (a c : Cel) (h1 : -9223372036854775808 ≤ a.1 + c.1 ∧ a.1 + c.1 ≤ 9223372036854775807) (h2 : -9223372036854775808 ≤ a.2 + c.2 ∧ a.2 + c.2 ≤ 9223372036854775807) (w : World) :
    Calls Tryz.prog 38 #[cv a, cv c] w fun e w' => e = .returned (cv (sh a c)) ∧ Below w.heap.size w w' := by
  obtain ⟨ax, ay⟩ := a
  obtain ⟨cx, cy⟩ := c
  simp only at h1 h2
  unfold cv sh
  go_enter Tryz.func38, Tryz.ntmps38
  go_wp2
  refine post_cell1 Tryz.results38 (w.heap.size + 1 + 1) 30 #[.int .i64 (ax + cx), .int .i64 (ay + cy)] (0, 0) _ Tryz.underlying30 rfl info_a2 rfl ?_ rfl ?_
  · have := heap_alloc_new ((w.alloc (.cells #[.int .i64 ax, .int .i64 ay] 30)).alloc (.cells #[.int .i64 cx, .int .i64 cy] 30)) (.cells #[.int .i64 (ax + cx), .int .i64 (ay + cy)] 30)
    simpa using this
  · exact ⟨rfl, (alX w _).trans (((alX _ _).trans ((alX _ _).mono (by simp))).mono (by simp))⟩
set_option maxRecDepth 100000 in
theorem minus_ok (a c : Cel) (h1 : -9223372036854775808 ≤ a.1 - c.1 ∧ a.1 - c.1 ≤ 9223372036854775807) (h2 : -9223372036854775808 ≤ a.2 - c.2 ∧ a.2 - c.2 ≤ 9223372036854775807) (w : World) :
    Calls Tryz.prog 73 #[cv a, cv c] w fun e w' => e = .returned (cv (mi a c)) ∧ Below w.heap.size w w' := by
  obtain ⟨ax, ay⟩ := a
  obtain ⟨cx, cy⟩ := c
  simp only at h1 h2
  unfold cv mi
  go_enter Tryz.func73, Tryz.ntmps73
  go_wp2
  refine post_cell1 Tryz.results73 (w.heap.size + 1 + 1) 30 #[.int .i64 (ax - cx), .int .i64 (ay - cy)] (0, 0) _ Tryz.underlying30 rfl info_a2 rfl ?_ rfl ?_
  · have := heap_alloc_new ((w.alloc (.cells #[.int .i64 ax, .int .i64 ay] 30)).alloc (.cells #[.int .i64 cx, .int .i64 cy] 30)) (.cells #[.int .i64 (ax - cx), .int .i64 (ay - cy)] 30)
    simpa using this
  · exact ⟨rfl, (alX w _).trans (((alX _ _).trans ((alX _ _).mono (by simp))).mono (by simp))⟩
theorem bstep {W0 W w' : World} (h : Below W0.heap.size W0 W) (k : Below W.heap.size W w') : Below W0.heap.size W0 w' := h.trans (k.mono h.size)
theorem row_keep {n : Nat} {w w' : World} {g : Nat} {o : Obj} (h : w.heap[g]? = some o) (hb : Below n w w') (hn : w.heap.size ≤ n) : w'.heap[g]? = some o := (hb.block _ (Nat.lt_of_lt_of_le (lt_of_block h) hn)).trans h
theorem row_cl {w : World} {g : Nat} {v0 v1 : Value} {t : TypeId} (h : w.heap[g]? = some (.cells #[v0, v1] t (0, 0))) : w.cell? ⟨g, 0, none⟩ = some v0 ∧ w.cell? ⟨g, 1, none⟩ = some v1 ∧ w.frozen? ⟨g, 0, none⟩ = false ∧ w.frozen? ⟨g, 1, none⟩ = false :=
  ⟨cell_of_row w g 0 _ _ _ h, cell_of_row w g 1 _ _ _ h, frozen_of_row w g 0 _ _ h, frozen_of_row w g 1 _ _ h⟩
theorem row_set2 {w : World} {g : Nat} {a0 a1 : Value} {t : TypeId} (h : w.heap[g]? = some (.cells #[a0, a1] t (0, 0))) (v0 v1 : Value) :
    ((w.setCell ⟨g, 0, none⟩ v0).setCell ⟨g, 1, none⟩ v1).heap[g]? = some (.cells #[v0, v1] t (0, 0)) := by
  have h0 := heap_setCell_same w g 0 _ _ v0 h
  have h1 := heap_setCell_same _ g 1 _ _ v1 h0
  rw [h1]
  rfl
abbrev za : Obj := .cells #[.int .i64 0, .int .i64 0] 30
set_option maxRecDepth 100000 in
set_option maxHeartbeats 2000000 in
theorem corner_at (n : Nat) (q : Sq) (hl : q.lev = n + 4) (hn : n ≤ 36) (i : Nat) (k : Int) (hi : (i : Int) = k) (hi4 : i < 4) (w : World) :
    Calls Tryz.prog 39 #[qv q, .int .i64 k] w fun e w' => e = .returned (cv (crn (2 ^ (n + 3)) i)) ∧ Below w.heap.size w w' := by
  have HH := Lib.hid (fun (W : World) => half_ok n q hl hn W)
  have h40 := two40 (n := n) (by omega)
  have hp := Nat.two_pow_pos (n + 3)
  unfold cv crn
  generalize 2 ^ (n + 3) = m at *
  obtain ⟨lev, cnt, til, k0, k1, k2, k3⟩ := q
  unfold qv at *
  simp only at *
  have HK := Lib.hid (And.intro (row_keep (heap_alloc_new w (.cells #[.int .i64 lev, .int .i64 cnt, .int .u64 (rg til), .int .i64 k0, .int .i64 k1, .int .i64 k2, .int .i64 k3] 51)) (alX (w.alloc (.cells #[.int .i64 lev, .int .i64 cnt, .int .u64 (rg til), .int .i64 k0, .int .i64 k1, .int .i64 k2, .int .i64 k3] 51)) za) (Nat.le_refl _)) (heap_alloc_new (w.alloc (.cells #[.int .i64 lev, .int .i64 cnt, .int .u64 (rg til), .int .i64 k0, .int .i64 k1, .int .i64 k2, .int .i64 k3] 51)) za))
  have HB := Lib.hid ((alX w (.cells #[.int .i64 lev, .int .i64 cnt, .int .u64 (rg til), .int .i64 k0, .int .i64 k1, .int .i64 k2, .int .i64 k3] 51)).trans ((alX (w.alloc (.cells #[.int .i64 lev, .int .i64 cnt, .int .u64 (rg til), .int .i64 k0, .int .i64 k1, .int .i64 k2, .int .i64 k3] 51)) za).mono (by simp)))
  have HG := Lib.hid (show (w.alloc (.cells #[.int .i64 lev, .int .i64 cnt, .int .u64 (rg til), .int .i64 k0, .int .i64 k1, .int .i64 k2, .int .i64 k3] 51)).heap.size = w.heap.size + 1 by simp)
  have em : IntKind.i64.wrap (m : Int) = (m : Int) := IntWalk.i64_in _ (by omega)
  have em1 : IntKind.i64.wrap (1 * (m : Int)) = (m : Int) := by rw [Int.one_mul]; exact em
  have em0 : IntKind.i64.wrap (0 * (m : Int)) = 0 := by rw [Int.zero_mul]; rfl
  have hi5 : i = 0 ∨ i = 1 ∨ i = 2 ∨ i = 3 := by omega
  clear hl hn h40 hp hi4
  have hk5 : (i = 0 ∧ k = 0) ∨ (i = 1 ∧ k = 1) ∨ (i = 2 ∧ k = 2) ∨ (i = 3 ∧ k = 3) := by omega
  clear hi5 hi
  rcases hk5 with ⟨rfl, rfl⟩ | ⟨rfl, rfl⟩ | ⟨rfl, rfl⟩ | ⟨rfl, rfl⟩ <;> go_enter Tryz.func39, Tryz.ntmps39 <;> go_upto_region 1 with (fail)
  all_goals (generalize World.alloc _ za = W at HK HB ⊢)
  all_goals rw [HG.out] at HK
  all_goals (generalize hg : w.heap.size = g at HK ⊢)
  all_goals (have HB0 : Below W.heap.size W W.drew := (Below.refl _ _).drew)
  all_goals (have HB00 : Below W.heap.size W W := Below.refl _ _)
  all_goals (have HS := Lib.hid (fun (W' : World) (hb : Below W.heap.size W W') => row7 (row_keep HK.out.1 hb (Nat.le_refl _))))
  all_goals (have HZ := Lib.hid (fun (W' : World) (hb : Below W.heap.size W W') => row_keep HK.out.2 hb (Nat.le_refl _)))
  all_goals (have HS2 := Lib.hid (fun (W' : World) (hb : Below W.heap.size W W') (a b : Value) => row7 (((Below.heap_setCell _ _ _ _ (show ¬ g = g + 1 by omega)).trans (Below.heap_setCell W' ⟨g + 1, 0, none⟩ a g (show ¬ g = g + 1 by omega))).trans (row_keep HK.out.1 hb (Nat.le_refl _)) : ((W'.setCell ⟨g + 1, 0, none⟩ a).setCell ⟨g + 1, 1, none⟩ b).heap[g]? = _)))
  all_goals (go_region_held3 (fun w' => w'.cell? ⟨g, 0, none⟩ = some (.int .i64 lev) ∧ w'.cell? ⟨g, 1, none⟩ = some (.int .i64 cnt) ∧ w'.cell? ⟨g, 2, none⟩ = some (.int .u64 (rg til)) ∧ w'.cell? ⟨g, 3, none⟩ = some (.int .i64 k0) ∧ w'.cell? ⟨g, 4, none⟩ = some (.int .i64 k1) ∧ w'.cell? ⟨g, 5, none⟩ = some (.int .i64 k2) ∧ w'.cell? ⟨g, 6, none⟩ = some (.int .i64 k3)) (first | with_reducible exact (HS.out _ (by assumption)).1 | with_reducible exact (HS2.out _ (by assumption) _ _).1) ((go_at_call 56; refine (HH.out _).mono ?_; rintro e w1 ⟨rfl, hb⟩; have hb1 := bstep (W0 := W) (by assumption) hb; have hz := row_cl (HZ.out _ hb1); clear hb)))
  all_goals go_wp2
  all_goals (refine post_cell1 Tryz.results39 (g + 1) 30 #[_, _] (0, 0) _ Tryz.underlying30 rfl info_a2 rfl (row_set2 (HZ.out _ hb1) _ _) rfl ?_)
  all_goals (refine ⟨?_, (((HB.out.trans (hb1.mono HB.out.size)).setCell (p := ⟨g + 1, 0, none⟩) (by rw [hg]; exact Nat.le_succ g) _).setCell (p := ⟨g + 1, 1, none⟩) (by rw [hg]; exact Nat.le_succ g) _)⟩)
  all_goals (have w0 : IntKind.i64.wrap 0 = 0 := rfl)
  all_goals (have w1 : IntKind.i64.wrap 1 = 1 := rfl)
  all_goals simp [w0, w1, em]
end Go.Proofs.YtifkhmcdgmnipaaGreatDoor

/-
  AN ACT, done to both: a limit. Conditions: the disk and the document's lists lie in memory, and are the same.
-/
import Derived.Test.YtibopcbebcikbaaDoorRr
namespace Go.Proofs.YtibopcbebcikbaaDoor
open Go.RowKit

theorem keep6 {w : World} {X Y V : Nat} {u0 u1 u2 u3 u4 v0 v1 v2 v3 v4 a5 : Value} (hne : X ≠ Y) (hnv : V ≠ Y) (h : w.cell? ⟨X, 0, none⟩ = some u0 ∧ w.cell? ⟨X, 1, none⟩ = some u1 ∧ w.cell? ⟨X, 2, none⟩ = some u2 ∧ w.cell? ⟨X, 3, none⟩ = some u3 ∧ w.cell? ⟨X, 4, none⟩ = some u4 ∧ w.cell? ⟨V, 5, none⟩ = some a5) :
    (((((w.setCell ⟨Y, 0, none⟩ v0).setCell ⟨Y, 1, none⟩ v1).setCell ⟨Y, 2, none⟩ v2).setCell ⟨Y, 3, none⟩ v3).setCell ⟨Y, 4, none⟩ v4).cell? ⟨X, 0, none⟩ = some u0 ∧ (((((w.setCell ⟨Y, 0, none⟩ v0).setCell ⟨Y, 1, none⟩ v1).setCell ⟨Y, 2, none⟩ v2).setCell ⟨Y, 3, none⟩ v3).setCell ⟨Y, 4, none⟩ v4).cell? ⟨X, 1, none⟩ = some u1 ∧ (((((w.setCell ⟨Y, 0, none⟩ v0).setCell ⟨Y, 1, none⟩ v1).setCell ⟨Y, 2, none⟩ v2).setCell ⟨Y, 3, none⟩ v3).setCell ⟨Y, 4, none⟩ v4).cell? ⟨X, 2, none⟩ = some u2 ∧ (((((w.setCell ⟨Y, 0, none⟩ v0).setCell ⟨Y, 1, none⟩ v1).setCell ⟨Y, 2, none⟩ v2).setCell ⟨Y, 3, none⟩ v3).setCell ⟨Y, 4, none⟩ v4).cell? ⟨X, 3, none⟩ = some u3 ∧ (((((w.setCell ⟨Y, 0, none⟩ v0).setCell ⟨Y, 1, none⟩ v1).setCell ⟨Y, 2, none⟩ v2).setCell ⟨Y, 3, none⟩ v3).setCell ⟨Y, 4, none⟩ v4).cell? ⟨X, 4, none⟩ = some u4 ∧ (((((w.setCell ⟨Y, 0, none⟩ v0).setCell ⟨Y, 1, none⟩ v1).setCell ⟨Y, 2, none⟩ v2).setCell ⟨Y, 3, none⟩ v3).setCell ⟨Y, 4, none⟩ v4).cell? ⟨V, 5, none⟩ = some a5 := by
  have hb := fun j => (But.five (X := Y) (w := w) v0 v1 v2 v3 v4).cell hne j
  have hv := fun j => (But.five (X := Y) (w := w) v0 v1 v2 v3 v4).cell hnv j
  rw [hb, hb, hb, hb, hb, hv]
  exact h
theorem cell?_setCell_off (w : World) (b i j : Nat) (v : Value) (_ : i ≠ j) : (w.setCell ⟨b, i, none⟩ v).cell? ⟨b, j, none⟩ = w.cell? ⟨b, j, none⟩ := by
  simp [go_sem]
theorem cell?_setCell_at (w : World) (b i : Nat) (v : Value) {u : Value} (h : w.cell? ⟨b, i, none⟩ = some u) : (w.setCell ⟨b, i, none⟩ v).cell? ⟨b, i, none⟩ = some v := by
  simp [go_sem, h]
theorem limit_ok {w : World} {r : Ref} (h : RefOk w r) (x : Int) : RefOk w { r with left := x } := ⟨h.N, h.S, h.nc, h.sc, h.p, h.bN, h.bS, h.n1, h.len, h.nil⟩
set_option maxRecDepth 100000 in
set_option maxHeartbeats 1000000 in
theorem act_limit {W : World} {p : Nat} (s : St) (r : Ref) (A : ActV) (w : World) (h : Both W w p s r) (k0 : 0 ≤ s.writes) (hA : ActOk w A) (hk : wrap64 ((IntKind.u64.wrap A.kind).tmod 7) = 6) :
    Calls Tryd.prog 10 #[.pointer (some ⟨p, 0, none⟩), r.val, actVal A] w (ActOut W w p s r) := by
  have HH := Lib.hid h
  have HA := Lib.hid hA
  clear h hA
  unfold Ref.val actVal
  go_enter Tryd.func10, Tryd.ntmps10
  go_upto_region 11 with (fail)
  have HO := objs_at w r A
  have HB0 := Lib.hid (objs_below w r A)
  have HZ := Lib.hid (objs_size w r A)
  change Code.wp _ _ _ _ (actObjs w r A)
  generalize actObjs w r A = w0 at HO HB0 HZ ⊢
  have HOB := Lib.hid HO
  obtain ⟨⟨x0, x1, x2, x3, x4⟩, ⟨_, _, _, _, _, a5⟩, _, fr, _⟩ := HO
  go_upto_region 12 with (fail)
  obtain ⟨m, em⟩ : ∃ m, m = if A.part < -1 then -1 else A.part := ⟨_, rfl⟩
  rw [← em]
  have x0' : (w0.setCell ⟨w.heap.size, 4, none⟩ (.int .i64 m)).cell? ⟨w.heap.size, 0, none⟩ = _ := (cell?_setCell_off w0 w.heap.size 4 0 _ (by omega)).trans x0
  have x1' : (w0.setCell ⟨w.heap.size, 4, none⟩ (.int .i64 m)).cell? ⟨w.heap.size, 1, none⟩ = _ := (cell?_setCell_off w0 w.heap.size 4 1 _ (by omega)).trans x1
  have x2' : (w0.setCell ⟨w.heap.size, 4, none⟩ (.int .i64 m)).cell? ⟨w.heap.size, 2, none⟩ = _ := (cell?_setCell_off w0 w.heap.size 4 2 _ (by omega)).trans x2
  have x3' : (w0.setCell ⟨w.heap.size, 4, none⟩ (.int .i64 m)).cell? ⟨w.heap.size, 3, none⟩ = _ := (cell?_setCell_off w0 w.heap.size 4 3 _ (by omega)).trans x3
  have x4' : (w0.setCell ⟨w.heap.size, 4, none⟩ (.int .i64 m)).cell? ⟨w.heap.size, 4, none⟩ = some (.int .i64 m) := cell?_setCell_at w0 _ _ _ x4
  have hbut : But w.heap.size w0 (w0.setCell ⟨w.heap.size, 4, none⟩ (.int .i64 m)) := (But.refl _ _).set 4 _
  have EM := Lib.hid (show m = max A.part (-1) by rw [em]; split <;> omega)
  clear x0 x1 x2 x3 x4 em
  have HC5 := Lib.hid ((hbut.cell (b := w.heap.size + 1) (by omega) 5).trans a5)
  have HZ0 := Lib.hid ((hbut.cell (b := w.heap.size + 1 + 1) (by omega) 0).trans HOB.out.z.1)
  have HZ1 := Lib.hid ((hbut.cell (b := w.heap.size + 1 + 1) (by omega) 1).trans HOB.out.z.2.1)
  have HZ2 := Lib.hid ((hbut.cell (b := w.heap.size + 1 + 1) (by omega) 2).trans HOB.out.z.2.2.1)
  have HZ3 := Lib.hid ((hbut.cell (b := w.heap.size + 1 + 1) (by omega) 3).trans HOB.out.z.2.2.2.1)
  have HZ4 := Lib.hid ((hbut.cell (b := w.heap.size + 1 + 1) (by omega) 4).trans HOB.out.z.2.2.2.2)
  have HFZ := Lib.hid (show ∀ j, (w0.setCell ⟨w.heap.size, 4, none⟩ (.int .i64 m)).frozen? ⟨w.heap.size + 1 + 1, j, none⟩ = false from fun j => (World.frozen?_of_block (hbut.block _ (by show w.heap.size + 1 + 1 ≠ w.heap.size; omega))).trans (HOB.out.fz j))
  have HB1 := Lib.hid (show Below w.heap.size w (w0.setCell ⟨w.heap.size, 4, none⟩ (.int .i64 m)) from HB0.out.setCell (Nat.le_refl _) _)
  have HSZ := Lib.hid (show (w0.setCell ⟨w.heap.size, 4, none⟩ (.int .i64 m)).heap.size = w0.heap.size by simp)
  clear hbut a5
  generalize w0.setCell ⟨w.heap.size, 4, none⟩ (.int .i64 m) = w2 at x0' x1' x2' x3' x4' HC5 HZ0 HZ1 HZ2 HZ3 HZ4 HFZ HB1 HSZ ⊢
  have a5 := HC5.out
  have n0 : Now W p w2 s w2.drew s := (Now.first (HH.out.a.below HB1.out)).drew
  have HX := Lib.hid (show ¬ s.has w.heap.size from fun e => by have := (HH.out.a.d.lt _ e).2; omega)
  have HV := Lib.hid (show ¬ s.has (w.heap.size + 1) from fun e => by have := (HH.out.a.d.lt _ e).2; omega)
  have HY := Lib.hid (show ¬ s.has (w.heap.size + 1 + 1) from fun e => by have := (HH.out.a.d.lt _ e).2; omega)
  have HYL := Lib.hid (show w.heap.size + 1 + 1 < w2.heap.size by have := HZ.out; have := HSZ.out; omega)
  have HXY := Lib.hid (show w.heap.size ≠ w.heap.size + 1 + 1 by omega)
  have HVY := Lib.hid (show w.heap.size + 1 ≠ w.heap.size + 1 + 1 by omega)
  go_region_held3 (fun w' => w'.cell? ⟨w.heap.size, 0, none⟩ = some (.slice (some ⟨r.nb, 0, none⟩) r.n r.nc) ∧ w'.cell? ⟨w.heap.size, 1, none⟩ = some (.slice (some ⟨r.sb, 0, none⟩) r.n r.sc) ∧ w'.cell? ⟨w.heap.size, 2, none⟩ = some (.slice r.pa r.pend.length r.pc) ∧ w'.cell? ⟨w.heap.size, 3, none⟩ = some (.int .i64 r.writes) ∧ w'.cell? ⟨w.heap.size, 4, none⟩ = some (.int .i64 m) ∧ w'.cell? ⟨w.heap.size + 1, 5, none⟩ = some (.int .i64 A.part)) (first | with_reducible exact keep6 HXY.out HVY.out (by assumption) | with_reducible exact ⟨Now.cell (by assumption) x0' HX.out, Now.cell (by assumption) x1' HX.out, Now.cell (by assumption) x2' HX.out, Now.cell (by assumption) x3' HX.out, Now.cell (by assumption) x4' HX.out, Now.cell (by assumption) a5 HV.out⟩) ((go_at_call 18; refine (limit_nowu (by assumption) _ HA.out.part.1 HA.out.part.2).mono ?_; rintro e w3 ⟨s3, rfl, n3, rfl⟩; have y0 := Now.cell n3 HZ0.out HY.out; have y1 := Now.cell n3 HZ1.out HY.out; have y2 := Now.cell n3 HZ2.out HY.out; have y3 := Now.cell n3 HZ3.out HY.out; have y4 := Now.cell n3 HZ4.out HY.out; have fz := Now.frozen n3 HFZ.out HYL.out HY.out))
  go_wp2
  refine bodyPost_ret (v := .tuple #[.agg #[.slice (some ⟨r.nb, 0, none⟩) r.n r.nc, .slice (some ⟨r.sb, 0, none⟩) r.n r.sc, .slice r.pa r.pend.length r.pc, .int .i64 r.writes, .int .i64 m], .bool true]) (by simp [results, Tryd.results10, go_sem, y0, y1, y2, y3, y4]) rfl ?_
  have hm := EM.out
  subst hm
  exact act_out (r' := { r with left := max A.part (-1) }) (X := w.heap.size + 1 + 1) HH.out.a HB1.out (by omega) HYL.out (by assumption) (limit_ok (HH.out.ok.below HB1.out) _) HH.out.far (Far.old (r := r) HH.out.ok (Classical.em _) (by omega)) (same_limit HH.out.same A.part) ⟨k0, by show s.writes ≤ s.writes + 1; omega, rfl⟩ (fun _ _ hf => hf) (But.five _ _ _ _ _)
end Go.Proofs.YtibopcbebcikbaaDoor

/-
  AN ACT, done to both: rot. Conditions: the disk and the document's lists lie in memory, and are the same.
-/
import Derived.Test.YtibopcbebcikbaaDoorRq
namespace Go.Proofs.YtibopcbebcikbaaDoor
open Go.RowKit

theorem keep8b {w : World} {X Y V : Nat} {u0 u1 u2 u3 u4 v0 v1 v2 v3 v4 a1 a4 a5 : Value} (hne : X ≠ Y) (hnv : V ≠ Y) (h : w.cell? ⟨X, 0, none⟩ = some u0 ∧ w.cell? ⟨X, 1, none⟩ = some u1 ∧ w.cell? ⟨X, 2, none⟩ = some u2 ∧ w.cell? ⟨X, 3, none⟩ = some u3 ∧ w.cell? ⟨X, 4, none⟩ = some u4 ∧ w.cell? ⟨V, 1, none⟩ = some a1 ∧ w.cell? ⟨V, 4, none⟩ = some a4 ∧ w.cell? ⟨V, 5, none⟩ = some a5) :
    (((((w.setCell ⟨Y, 0, none⟩ v0).setCell ⟨Y, 1, none⟩ v1).setCell ⟨Y, 2, none⟩ v2).setCell ⟨Y, 3, none⟩ v3).setCell ⟨Y, 4, none⟩ v4).cell? ⟨X, 0, none⟩ = some u0 ∧ (((((w.setCell ⟨Y, 0, none⟩ v0).setCell ⟨Y, 1, none⟩ v1).setCell ⟨Y, 2, none⟩ v2).setCell ⟨Y, 3, none⟩ v3).setCell ⟨Y, 4, none⟩ v4).cell? ⟨X, 1, none⟩ = some u1 ∧ (((((w.setCell ⟨Y, 0, none⟩ v0).setCell ⟨Y, 1, none⟩ v1).setCell ⟨Y, 2, none⟩ v2).setCell ⟨Y, 3, none⟩ v3).setCell ⟨Y, 4, none⟩ v4).cell? ⟨X, 2, none⟩ = some u2 ∧ (((((w.setCell ⟨Y, 0, none⟩ v0).setCell ⟨Y, 1, none⟩ v1).setCell ⟨Y, 2, none⟩ v2).setCell ⟨Y, 3, none⟩ v3).setCell ⟨Y, 4, none⟩ v4).cell? ⟨X, 3, none⟩ = some u3 ∧ (((((w.setCell ⟨Y, 0, none⟩ v0).setCell ⟨Y, 1, none⟩ v1).setCell ⟨Y, 2, none⟩ v2).setCell ⟨Y, 3, none⟩ v3).setCell ⟨Y, 4, none⟩ v4).cell? ⟨X, 4, none⟩ = some u4 ∧ (((((w.setCell ⟨Y, 0, none⟩ v0).setCell ⟨Y, 1, none⟩ v1).setCell ⟨Y, 2, none⟩ v2).setCell ⟨Y, 3, none⟩ v3).setCell ⟨Y, 4, none⟩ v4).cell? ⟨V, 1, none⟩ = some a1 ∧ (((((w.setCell ⟨Y, 0, none⟩ v0).setCell ⟨Y, 1, none⟩ v1).setCell ⟨Y, 2, none⟩ v2).setCell ⟨Y, 3, none⟩ v3).setCell ⟨Y, 4, none⟩ v4).cell? ⟨V, 4, none⟩ = some a4 ∧ (((((w.setCell ⟨Y, 0, none⟩ v0).setCell ⟨Y, 1, none⟩ v1).setCell ⟨Y, 2, none⟩ v2).setCell ⟨Y, 3, none⟩ v3).setCell ⟨Y, 4, none⟩ v4).cell? ⟨V, 5, none⟩ = some a5 := by
  have hb := fun j => (But.five (X := Y) (w := w) v0 v1 v2 v3 v4).cell hne j
  have hv := fun j => (But.five (X := Y) (w := w) v0 v1 v2 v3 v4).cell hnv j
  rw [hb, hb, hb, hb, hb, hv, hv, hv]
  exact h
set_option maxRecDepth 100000 in
set_option maxHeartbeats 1000000 in
theorem act_rot {W : World} {p : Nat} (hl : Laid W) (s : St) (r : Ref) (A : ActV) (w : World) (h : Both W w p s r) (k0 : 0 ≤ s.writes) (hk : wrap64 ((IntKind.u64.wrap A.kind).tmod 7) = 5) :
    Calls Tryd.prog 10 #[.pointer (some ⟨p, 0, none⟩), r.val, actVal A] w (ActOut W w p s r) := by
  have HH := Lib.hid h
  have hy : 0 ≤ IntKind.u8.wrap A.torn ∧ IntKind.u8.wrap A.torn < 256 := by
    rw [IntKind.wrap_u8]
    omega
  have he := refrot_u r A.i A.part (IntKind.u8.wrap A.torn) (actObjs w r A) (h.ok.below (objs_below w r A)) hy.1 hy.2
  rw [show rotC r.n A.i A.part = rotC s.n A.i A.part by rw [h.same.n]] at he
  have HYB := Lib.hid hy
  have HE := Lib.hid he
  clear he
  clear h hy
  unfold Ref.val at HE
  unfold Ref.val actVal
  go_enter Tryd.func10, Tryd.ntmps10
  go_upto_region 8 with (fail)
  have HO := objs_at w r A
  have HB0 := Lib.hid (objs_below w r A)
  have HZ := Lib.hid (objs_size w r A)
  change Code.wp _ _ _ _ (actObjs w r A)
  generalize actObjs w r A = w0 at HO HB0 HZ HE ⊢
  have HOB := Lib.hid HO
  obtain ⟨⟨x0, x1, x2, x3, x4⟩, ⟨_, a1, _, _, a4, a5⟩, _, _, _⟩ := HO
  go_upto_region 9 with (go_at_call 26; refine (HE.out.mono fun _ _ h => h.v).mono ?_; rintro e w1 ⟨r1, rfl, g1, P1⟩; have G1 := Lib.hid g1; have HP1 := Lib.hid P1; have b1 := (g1.below.cell (p := ⟨w.heap.size + 1, 1, none⟩) (World.block_lt_of_cell? w0 _ a1)).trans a1; have b4 := (g1.below.cell (p := ⟨w.heap.size + 1, 4, none⟩) (World.block_lt_of_cell? w0 _ a4)).trans a4; have b5 := (g1.below.cell (p := ⟨w.heap.size + 1, 5, none⟩) (World.block_lt_of_cell? w0 _ a5)).trans a5; clear g1 P1)
  have HM := Lib.hid (mid_of HH.out HB0.out HZ.out HOB.out G1.out)
  change Code.wp _ _ _ _ (w1.alloc (refObj r1))
  clear x0 x1 x2 x3 x4 a1 a4 a5 b1 b4 b5
  have HT := Lib.hid HM.out.hT
  have HY := Lib.hid HM.out.hY
  have HNT := Lib.hid HM.out.nT
  obtain ⟨T, eT⟩ : ∃ T, T = w1.heap.size := ⟨_, rfl⟩
  generalize w1.alloc (refObj r1) = w2 at HM ⊢
  obtain ⟨x0, x1, x2, x3, x4⟩ := HM.out.r
  obtain ⟨_, a1, _, _, a4, a5⟩ := HM.out.a'
  rw [← eT] at x0 x1 x2 x3 x4 HT HNT ⊢
  clear eT
  have n0 : Now W p w2 s w2.drew s := (Now.first HM.out.a).drew
  have HNV := Lib.hid (show w.heap.size + 1 ≠ w.heap.size + 1 + 1 by omega)
  go_region_held3 (fun w' => w'.cell? ⟨T, 0, none⟩ = some (.slice (some ⟨r1.nb, 0, none⟩) r1.n r1.nc) ∧ w'.cell? ⟨T, 1, none⟩ = some (.slice (some ⟨r1.sb, 0, none⟩) r1.n r1.sc) ∧ w'.cell? ⟨T, 2, none⟩ = some (.slice r1.pa r1.pend.length r1.pc) ∧ w'.cell? ⟨T, 3, none⟩ = some (.int .i64 r1.writes) ∧ w'.cell? ⟨T, 4, none⟩ = some (.int .i64 r1.left) ∧ w'.cell? ⟨w.heap.size + 1, 1, none⟩ = some (.int .i64 A.i) ∧ w'.cell? ⟨w.heap.size + 1, 4, none⟩ = some (.int .i64 A.torn) ∧ w'.cell? ⟨w.heap.size + 1, 5, none⟩ = some (.int .i64 A.part)) (first | with_reducible exact keep8b HNT.out HNV.out (by assumption) | with_reducible exact ⟨Now.cell (by assumption) x0 HT.out, Now.cell (by assumption) x1 HT.out, Now.cell (by assumption) x2 HT.out, Now.cell (by assumption) x3 HT.out, Now.cell (by assumption) x4 HT.out, Now.cell (by assumption) a1 HM.out.hV, Now.cell (by assumption) a4 HM.out.hV, Now.cell (by assumption) a5 HM.out.hV⟩) (first | (go_at_call 17; refine (rot_nowu (by assumption) _ _ _ HYB.out.1 HYB.out.2).mono ?_; rintro e w3 ⟨s3, rfl, n3, P3⟩; have HP3 := Lib.hid P3; clear P3) | (go_at_call 13; refine (num_nowv (by assumption) hl _).mono ?_; rintro e w4 ⟨rfl, n4⟩; have y0 := Now.cell n4 HM.out.z.1 HY.out; have y1 := Now.cell n4 HM.out.z.2.1 HY.out; have y2 := Now.cell n4 HM.out.z.2.2.1 HY.out; have y3 := Now.cell n4 HM.out.z.2.2.2.1 HY.out; have y4 := Now.cell n4 HM.out.z.2.2.2.2 HY.out; have fz := Now.frozen n4 HM.out.fz HM.out.lY HY.out))
  go_wp2
  refine bodyPost_ret (v := .tuple #[.agg #[.slice (some ⟨r1.nb, 0, none⟩) r1.n r1.nc, .slice (some ⟨r1.sb, 0, none⟩) r1.n r1.sc, .slice r1.pa r1.pend.length r1.pc, .int .i64 r1.writes, .int .i64 r1.left], .bool true]) (by simp [results, Tryd.results10, go_sem, y0, y1, y2, y3, y4]) rfl ?_
  have hs : Same s3 r1 ∧ (0 ≤ s3.writes ∧ s3.writes ≤ s.writes + 1 ∧ s3.n = s.n) := by
    have hp := HH.out.same.n
    have q1 := HP1.out
    by_cases c : rotBad s.n A.i A.part
    · have e3 := HP3.out.1 c
      have e1 := q1.1 (by rw [hp]; exact c)
      subst e3 e1
      exact ⟨HH.out.same, k0, by omega, rfl⟩
    · have e3 := HP3.out.2 c
      have hk := rot_keeps s A.i.toNat A.part.toNat (IntKind.u8.wrap A.torn)
      subst e3
      exact ⟨rot_same HH.out.same _ _ (by unfold rotBad at c; omega) _ (q1.2 (by rw [hp]; exact c)), by rw [hk.writes]; exact k0, by rw [hk.writes]; omega, hk.n⟩
  exact act_out (r' := r1) (X := w.heap.size + 1 + 1) HH.out.a HM.out.below (by omega) HM.out.lY (by assumption) HM.out.ok HM.out.far HM.out.lone hs.1 hs.2 (fun Z hZ hf => G1.out.far _ hf (fun b e => by have := lone_has e; have := HB0.out.size; omega)) (But.five _ _ _ _ _)
end Go.Proofs.YtibopcbebcikbaaDoor

/-
  AN ACT, done to both: a crash. Conditions: the disk and the document's lists lie in memory, and are the same.
-/
import Derived.Test.YtibopcbebcikbaaDoorRp
namespace Go.Proofs.YtibopcbebcikbaaDoor
open Go.RowKit

/-- a crash of the document's, its answer written out -/
def RefOutV (w : World) (r : Ref) (c : Int) (P : Ref → Prop) (e : Ending) (w' : World) : Prop := ∃ r', e = .returned (.tuple #[.agg #[.slice (some ⟨r'.nb, 0, none⟩) r'.n r'.nc, .slice (some ⟨r'.sb, 0, none⟩) r'.n r'.sc, .slice r'.pa r'.pend.length r'.pc, .int .i64 r'.writes, .int .i64 r'.left], .int .i64 c]) ∧ RefGo w r w' r' ∧ P r'
theorem RefOut.v {w : World} {r : Ref} {c : Int} {P : Ref → Prop} {e : Ending} {w' : World} (h : RefOut w r c P e w') : RefOutV w r c P e w' := h
theorem But.cell {X : Nat} {w w' : World} (h : But X w w') {b : Nat} (hb : b ≠ X) (j : Nat) : w'.cell? ⟨b, j, none⟩ = w.cell? ⟨b, j, none⟩ := cell_of_block (h.block b hb)
theorem keep8 {w : World} {X Y V : Nat} {u0 u1 u2 u3 u4 v0 v1 v2 v3 v4 a3 a4 a5 : Value} (hne : X ≠ Y) (hnv : V ≠ Y) (h : w.cell? ⟨X, 0, none⟩ = some u0 ∧ w.cell? ⟨X, 1, none⟩ = some u1 ∧ w.cell? ⟨X, 2, none⟩ = some u2 ∧ w.cell? ⟨X, 3, none⟩ = some u3 ∧ w.cell? ⟨X, 4, none⟩ = some u4 ∧ w.cell? ⟨V, 3, none⟩ = some a3 ∧ w.cell? ⟨V, 4, none⟩ = some a4 ∧ w.cell? ⟨V, 5, none⟩ = some a5) :
    (((((w.setCell ⟨Y, 0, none⟩ v0).setCell ⟨Y, 1, none⟩ v1).setCell ⟨Y, 2, none⟩ v2).setCell ⟨Y, 3, none⟩ v3).setCell ⟨Y, 4, none⟩ v4).cell? ⟨X, 0, none⟩ = some u0 ∧ (((((w.setCell ⟨Y, 0, none⟩ v0).setCell ⟨Y, 1, none⟩ v1).setCell ⟨Y, 2, none⟩ v2).setCell ⟨Y, 3, none⟩ v3).setCell ⟨Y, 4, none⟩ v4).cell? ⟨X, 1, none⟩ = some u1 ∧ (((((w.setCell ⟨Y, 0, none⟩ v0).setCell ⟨Y, 1, none⟩ v1).setCell ⟨Y, 2, none⟩ v2).setCell ⟨Y, 3, none⟩ v3).setCell ⟨Y, 4, none⟩ v4).cell? ⟨X, 2, none⟩ = some u2 ∧ (((((w.setCell ⟨Y, 0, none⟩ v0).setCell ⟨Y, 1, none⟩ v1).setCell ⟨Y, 2, none⟩ v2).setCell ⟨Y, 3, none⟩ v3).setCell ⟨Y, 4, none⟩ v4).cell? ⟨X, 3, none⟩ = some u3 ∧ (((((w.setCell ⟨Y, 0, none⟩ v0).setCell ⟨Y, 1, none⟩ v1).setCell ⟨Y, 2, none⟩ v2).setCell ⟨Y, 3, none⟩ v3).setCell ⟨Y, 4, none⟩ v4).cell? ⟨X, 4, none⟩ = some u4 ∧ (((((w.setCell ⟨Y, 0, none⟩ v0).setCell ⟨Y, 1, none⟩ v1).setCell ⟨Y, 2, none⟩ v2).setCell ⟨Y, 3, none⟩ v3).setCell ⟨Y, 4, none⟩ v4).cell? ⟨V, 3, none⟩ = some a3 ∧ (((((w.setCell ⟨Y, 0, none⟩ v0).setCell ⟨Y, 1, none⟩ v1).setCell ⟨Y, 2, none⟩ v2).setCell ⟨Y, 3, none⟩ v3).setCell ⟨Y, 4, none⟩ v4).cell? ⟨V, 4, none⟩ = some a4 ∧ (((((w.setCell ⟨Y, 0, none⟩ v0).setCell ⟨Y, 1, none⟩ v1).setCell ⟨Y, 2, none⟩ v2).setCell ⟨Y, 3, none⟩ v3).setCell ⟨Y, 4, none⟩ v4).cell? ⟨V, 5, none⟩ = some a5 := by
  have hb := fun j => (But.five (X := Y) (w := w) v0 v1 v2 v3 v4).cell hne j
  have hv := fun j => (But.five (X := Y) (w := w) v0 v1 v2 v3 v4).cell hnv j
  rw [hb, hb, hb, hb, hb, hv, hv, hv]
  exact h
/-- the world behind the document's answer, which lies in a block of its own -/
def refObj (r : Ref) : Obj := .cells #[.slice (some ⟨r.nb, 0, none⟩) r.n r.nc, .slice (some ⟨r.sb, 0, none⟩) r.n r.sc, .slice r.pa r.pend.length r.pc, .int .i64 r.writes, .int .i64 r.left] 32
theorem refObj_cells (w : World) (r : Ref) : refCells (w.alloc (refObj r)) w.heap.size r := by
  have h := heap_alloc_new w (refObj r)
  exact ⟨cell_of_row _ _ _ _ _ _ h, cell_of_row _ _ _ _ _ _ h, cell_of_row _ _ _ _ _ _ h, cell_of_row _ _ _ _ _ _ h, cell_of_row _ _ _ _ _ _ h⟩
structure Mid (W w w0 w1 w2 : World) (p : Nat) (s : St) (r r1 : Ref) (A : ActV) : Prop where
  a : At W w2 p s
  below : Below w.heap.size w w2
  below0 : Below w0.heap.size w0 w2
  r : refCells w2 w1.heap.size r1
  a' : actCells w2 (w.heap.size + 1) A
  z : Cells5 w2 (w.heap.size + 1 + 1) (.slice none 0 0) (.slice none 0 0) (.slice none 0 0) (.int .i64 0) (.int .i64 0)
  fz : ∀ j, w2.frozen? ⟨w.heap.size + 1 + 1, j, none⟩ = false
  hT : ¬ s.has w1.heap.size
  hV : ¬ s.has (w.heap.size + 1)
  hY : ¬ s.has (w.heap.size + 1 + 1)
  lY : w.heap.size + 1 + 1 < w2.heap.size
  nT : w1.heap.size ≠ w.heap.size + 1 + 1
  ok : RefOk w2 r1
  far : Far r1 s
  lone : Far r1 (Go.Proofs.YtibopcbebcikbaaDoor.lone (w.heap.size + 1 + 1))
theorem mid_of {W w w0 w1 : World} {p : Nat} {s : St} {r r1 : Ref} {A : ActV} (h : Both W w p s r) (hb : Below w.heap.size w w0) (hz : w0.heap.size = w.heap.size + 3) (ho : Objs w0 w.heap.size r A) (g : RefGo w0 r w1 r1) : Mid W w w0 w1 (w1.alloc (refObj r1)) p s r r1 A := by
  have hs1 := g.below.size
  have h2 : Below w0.heap.size w0 (w1.alloc (refObj r1)) := g.below.trans ((alX w1 _).mono hs1)
  have hw : Below w.heap.size w (w1.alloc (refObj r1)) := hb.trans (h2.mono hb.size)
  have hc : ∀ b j v, w0.cell? ⟨b, j, none⟩ = some v → (w1.alloc (refObj r1)).cell? ⟨b, j, none⟩ = some v := fun b j v hv => (h2.cell (p := ⟨b, j, none⟩) (World.block_lt_of_cell? w0 _ hv)).trans hv
  have hn : ∀ b, w.heap.size ≤ b → ¬ s.has b := fun b hb e => by have := (h.a.d.lt _ e).2; omega
  refine ⟨h.a.below hw, hw, h2, refObj_cells w1 r1, ⟨hc _ _ _ ho.a.1, hc _ _ _ ho.a.2.1, hc _ _ _ ho.a.2.2.1, hc _ _ _ ho.a.2.2.2.1, hc _ _ _ ho.a.2.2.2.2.1, hc _ _ _ ho.a.2.2.2.2.2⟩, ⟨hc _ _ _ ho.z.1, hc _ _ _ ho.z.2.1, hc _ _ _ ho.z.2.2.1, hc _ _ _ ho.z.2.2.2.1, hc _ _ _ ho.z.2.2.2.2⟩, fun j => (h2.frozen (p := ⟨_, j, none⟩) (by show w.heap.size + 1 + 1 < w0.heap.size; omega)).trans (ho.fz j), hn _ (by omega), hn _ (by omega), hn _ (by omega), by have := h2.size; omega, by omega, g.ok.below (alX w1 _), g.far s h.far (fun b e => by have := (h.a.d.lt b e).2; omega), g.far _ (Far.old h.ok (Classical.em _) (by omega)) (fun b e => by have := lone_has e; omega)⟩
set_option maxRecDepth 100000 in
set_option maxHeartbeats 1000000 in
theorem act_crash {W : World} {p : Nat} (hl : Laid W) (s : St) (r : Ref) (A : ActV) (w : World) (h : Both W w p s r) (k0 : 0 ≤ s.writes) (hA : ActOk w A) (hkb : 0 < A.kn → ∀ b off, A.ka = some ⟨b, off, none⟩ → ¬ s.has b) (hk : wrap64 ((IntKind.u64.wrap A.kind).tmod 7) = 4) :
    Calls Tryd.prog 10 #[.pointer (some ⟨p, 0, none⟩), r.val, actVal A] w (ActOut W w p s r) := by
  have HH := Lib.hid h
  have HA := Lib.hid hA
  have HKB := Lib.hid hkb
  have he := refcrash_u r A.ka A.kn A.kc A.ks A.torn A.part (actObjs w r A) (h.ok.below (objs_below w r A)) (hA.ints.below (objs_below w r A)) hA.len hA.kn (fun i hi => by rw [h.same.pend] at hi; rw [h.same.n]; exact h.a.d.ok.lim i ((h.a.d.ok.mem i).1 hi))
  rw [show crashC r.pend.length A.ks A.torn A.part = crashC s.pend.length A.ks A.torn A.part by rw [h.same.pend]] at he
  have HE := Lib.hid he
  clear he
  clear h hA hkb
  unfold Ref.val at HE
  unfold Ref.val actVal
  go_enter Tryd.func10, Tryd.ntmps10
  go_upto_region 5 with (fail)
  have HO := objs_at w r A
  have HB0 := Lib.hid (objs_below w r A)
  have HZ := Lib.hid (objs_size w r A)
  change Code.wp _ _ _ _ (actObjs w r A)
  generalize actObjs w r A = w0 at HO HB0 HZ HE ⊢
  have HOB := Lib.hid HO
  obtain ⟨⟨x0, x1, x2, x3, x4⟩, ⟨_, _, _, a3, a4, a5⟩, _, _, _⟩ := HO
  go_upto_region 6 with (go_at_call 25; refine (HE.out.mono fun _ _ h => h.v).mono ?_; rintro e w1 ⟨r1, rfl, g1, P1⟩; have G1 := Lib.hid g1; have HP1 := Lib.hid P1; have b3 := (g1.below.cell (p := ⟨w.heap.size + 1, 3, none⟩) (World.block_lt_of_cell? w0 _ a3)).trans a3; have b4 := (g1.below.cell (p := ⟨w.heap.size + 1, 4, none⟩) (World.block_lt_of_cell? w0 _ a4)).trans a4; have b5 := (g1.below.cell (p := ⟨w.heap.size + 1, 5, none⟩) (World.block_lt_of_cell? w0 _ a5)).trans a5; clear g1 P1)
  have HM := Lib.hid (mid_of HH.out HB0.out HZ.out HOB.out G1.out)
  change Code.wp _ _ _ _ (w1.alloc (refObj r1))
  clear x0 x1 x2 x3 x4 a3 a4 a5 b3 b4 b5
  have HT := Lib.hid HM.out.hT
  have HY := Lib.hid HM.out.hY
  have HNT := Lib.hid HM.out.nT
  obtain ⟨T, eT⟩ : ∃ T, T = w1.heap.size := ⟨_, rfl⟩
  generalize w1.alloc (refObj r1) = w2 at HM ⊢
  obtain ⟨x0, x1, x2, x3, x4⟩ := HM.out.r
  obtain ⟨_, _, _, a3, a4, a5⟩ := HM.out.a'
  rw [← eT] at x0 x1 x2 x3 x4 HT HNT ⊢
  clear eT
  have n0 : Now W p w2 s w2.drew s := (Now.first HM.out.a).drew
  have HNV := Lib.hid (show w.heap.size + 1 ≠ w.heap.size + 1 + 1 by omega)
  have hkb2 := Lib.hid (show 0 < A.kn → ∀ b off, A.ka = some ⟨b, off, none⟩ → ¬ s.has b from HKB.out)
  have HAI := Lib.hid (HA.out.ints.below HM.out.below)
  go_region_held3 (fun w' => w'.cell? ⟨T, 0, none⟩ = some (.slice (some ⟨r1.nb, 0, none⟩) r1.n r1.nc) ∧ w'.cell? ⟨T, 1, none⟩ = some (.slice (some ⟨r1.sb, 0, none⟩) r1.n r1.sc) ∧ w'.cell? ⟨T, 2, none⟩ = some (.slice r1.pa r1.pend.length r1.pc) ∧ w'.cell? ⟨T, 3, none⟩ = some (.int .i64 r1.writes) ∧ w'.cell? ⟨T, 4, none⟩ = some (.int .i64 r1.left) ∧ w'.cell? ⟨w.heap.size + 1, 3, none⟩ = some (.slice A.ka A.kn A.kc) ∧ w'.cell? ⟨w.heap.size + 1, 4, none⟩ = some (.int .i64 A.torn) ∧ w'.cell? ⟨w.heap.size + 1, 5, none⟩ = some (.int .i64 A.part)) (first | with_reducible exact keep8 HNT.out HNV.out (by assumption) | with_reducible exact ⟨Now.cell (by assumption) x0 HT.out, Now.cell (by assumption) x1 HT.out, Now.cell (by assumption) x2 HT.out, Now.cell (by assumption) x3 HT.out, Now.cell (by assumption) x4 HT.out, Now.cell (by assumption) a3 HM.out.hV, Now.cell (by assumption) a4 HM.out.hV, Now.cell (by assumption) a5 HM.out.hV⟩) (first | (go_at_call 16; refine (crash_nowu (by assumption) _ _ _ A.ks _ _ HAI.out HA.out.len HA.out.kn HKB.out).mono ?_; rintro e w3 ⟨s3, rfl, n3, P3⟩; have HP3 := Lib.hid P3; clear P3) | (go_at_call 13; refine (num_nowv (by assumption) hl _).mono ?_; rintro e w4 ⟨rfl, n4⟩; have y0 := Now.cell n4 HM.out.z.1 HY.out; have y1 := Now.cell n4 HM.out.z.2.1 HY.out; have y2 := Now.cell n4 HM.out.z.2.2.1 HY.out; have y3 := Now.cell n4 HM.out.z.2.2.2.1 HY.out; have y4 := Now.cell n4 HM.out.z.2.2.2.2 HY.out; have fz := Now.frozen n4 HM.out.fz HM.out.lY HY.out))
  go_wp2
  refine bodyPost_ret (v := .tuple #[.agg #[.slice (some ⟨r1.nb, 0, none⟩) r1.n r1.nc, .slice (some ⟨r1.sb, 0, none⟩) r1.n r1.sc, .slice r1.pa r1.pend.length r1.pc, .int .i64 r1.writes, .int .i64 r1.left], .bool true]) (by simp [results, Tryd.results10, go_sem, y0, y1, y2, y3, y4]) rfl ?_
  have hs : Same s3 r1 ∧ (0 ≤ s3.writes ∧ s3.writes ≤ s.writes + 1 ∧ s3.n = s.n) := by
    have hp := HH.out.same.pend
    have q1 := HP1.out
    by_cases c : crashOk s.pend.length A.ks A.torn A.part
    · have e3 := HP3.out.1 c
      subst e3
      exact ⟨crash_same HH.out.a.d.ok HH.out.same c.1 (q1.1 (by rw [hp]; exact c)), by rw [crash_writes]; exact k0, by rw [crash_writes]; omega, crash_n _ _ _ _⟩
    · have e3 := HP3.out.2 c
      have e1 := q1.2 (by rw [hp]; exact c)
      subst e3 e1
      exact ⟨HH.out.same, k0, by omega, rfl⟩
  exact act_out (r' := r1) (X := w.heap.size + 1 + 1) HH.out.a HM.out.below (by omega) HM.out.lY (by assumption) HM.out.ok HM.out.far HM.out.lone hs.1 hs.2 (fun Z hZ hf => G1.out.far _ hf (fun b e => by have := lone_has e; have := HB0.out.size; omega)) (But.five _ _ _ _ _)
end Go.Proofs.YtibopcbebcikbaaDoor

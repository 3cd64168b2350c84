/-
  AN ACT, done to both. Conditions: the disk and the document's lists lie in memory, and are the same.
-/
import Derived.Test.YtibopcbebcikbaaDoorRo
namespace Go.Proofs.YtibopcbebcikbaaDoor
open Go.RowKit

def actVal (A : ActV) : Value := .agg #[.int .i64 A.kind, .int .i64 A.i, .string A.b, .slice A.ka A.kn A.kc, .int .i64 A.torn, .int .i64 A.part]
structure Both (W w : World) (p : Nat) (s : St) (r : Ref) : Prop where
  a : At W w p s
  ok : RefOk w r
  far : Far r s
  same : Same s r
def lone (X : Nat) : St := ⟨0, X, X, X, fun _ _ => 0, fun _ _ => 0, fun _ => none, .nilIface, [], 0, 0⟩
theorem lone_has {X b : Nat} (h : (lone X).has b) : b = X := by
  rcases h with e | e | e | e | ⟨i, e⟩
  · exact e
  · exact e
  · exact e
  · cases e
  · cases e
theorem lone_self (X : Nat) : (lone X).has X := .inl rfl
def ActOut (W w : World) (p : Nat) (s : St) (r : Ref) (e : Ending) (w' : World) : Prop := ∃ s' r', e = .returned (.tuple #[r'.val, .bool true]) ∧ Both W w' p s' r' ∧ Step w s w' s' ∧ 0 ≤ s'.writes ∧ s'.writes ≤ s.writes + 1 ∧ s'.n = s.n ∧ (∀ X, X < w.heap.size → Far r (lone X) → Far r' (lone X))
def actObjs (w : World) (r : Ref) (A : ActV) : World := ((w.alloc (.cells #[.slice (some ⟨r.nb, 0, none⟩) r.n r.nc, .slice (some ⟨r.sb, 0, none⟩) r.n r.sc, .slice r.pa r.pend.length r.pc, .int .i64 r.writes, .int .i64 r.left] 32)).alloc (.cells #[.int .i64 A.kind, .int .i64 A.i, .string A.b, .slice A.ka A.kn A.kc, .int .i64 A.torn, .int .i64 A.part] 35)).alloc (.cells #[.slice none 0 0, .slice none 0 0, .slice none 0 0, .int .i64 0, .int .i64 0] 32)
theorem objs_below (w : World) (r : Ref) (A : ActV) : Below w.heap.size w (actObjs w r A) := (((Below.refl _ _).alloc (Nat.le_refl _) _).alloc (by simp) _).alloc (by simp; omega) _
theorem objs_size (w : World) (r : Ref) (A : ActV) : (actObjs w r A).heap.size = w.heap.size + 3 := by unfold actObjs; simp
def Cells5 (w : World) (b : Nat) (v0 v1 v2 v3 v4 : Value) : Prop := w.cell? ⟨b, 0, none⟩ = some v0 ∧ w.cell? ⟨b, 1, none⟩ = some v1 ∧ w.cell? ⟨b, 2, none⟩ = some v2 ∧ w.cell? ⟨b, 3, none⟩ = some v3 ∧ w.cell? ⟨b, 4, none⟩ = some v4
def refCells (w : World) (b : Nat) (r : Ref) : Prop := Cells5 w b (.slice (some ⟨r.nb, 0, none⟩) r.n r.nc) (.slice (some ⟨r.sb, 0, none⟩) r.n r.sc) (.slice r.pa r.pend.length r.pc) (.int .i64 r.writes) (.int .i64 r.left)
def actCells (w : World) (b : Nat) (A : ActV) : Prop := w.cell? ⟨b, 0, none⟩ = some (.int .i64 A.kind) ∧ w.cell? ⟨b, 1, none⟩ = some (.int .i64 A.i) ∧ w.cell? ⟨b, 2, none⟩ = some (.string A.b) ∧ w.cell? ⟨b, 3, none⟩ = some (.slice A.ka A.kn A.kc) ∧ w.cell? ⟨b, 4, none⟩ = some (.int .i64 A.torn) ∧ w.cell? ⟨b, 5, none⟩ = some (.int .i64 A.part)
/-- what the walk reads of the call's own three blocks -/
structure Objs (w0 : World) (X : Nat) (r : Ref) (A : ActV) : Prop where
  r : refCells w0 X r
  a : actCells w0 (X + 1) A
  z : Cells5 w0 (X + 1 + 1) (.slice none 0 0) (.slice none 0 0) (.slice none 0 0) (.int .i64 0) (.int .i64 0)
  fr : ∀ j, w0.frozen? ⟨X, j, none⟩ = false
  fz : ∀ j, w0.frozen? ⟨X + 1 + 1, j, none⟩ = false
theorem objs_at (w : World) (r : Ref) (A : ActV) : Objs (actObjs w r A) w.heap.size r A := by
  obtain ⟨h0, h1, h2, _⟩ := al3 w (.cells #[.slice (some ⟨r.nb, 0, none⟩) r.n r.nc, .slice (some ⟨r.sb, 0, none⟩) r.n r.sc, .slice r.pa r.pend.length r.pc, .int .i64 r.writes, .int .i64 r.left] 32) (.cells #[.int .i64 A.kind, .int .i64 A.i, .string A.b, .slice A.ka A.kn A.kc, .int .i64 A.torn, .int .i64 A.part] 35) (.cells #[.slice none 0 0, .slice none 0 0, .slice none 0 0, .int .i64 0, .int .i64 0] 32)
  exact ⟨⟨cell_of_row _ _ _ _ _ _ h0, cell_of_row _ _ _ _ _ _ h0, cell_of_row _ _ _ _ _ _ h0, cell_of_row _ _ _ _ _ _ h0, cell_of_row _ _ _ _ _ _ h0⟩, ⟨cell_of_row _ _ _ _ _ _ h1, cell_of_row _ _ _ _ _ _ h1, cell_of_row _ _ _ _ _ _ h1, cell_of_row _ _ _ _ _ _ h1, cell_of_row _ _ _ _ _ _ h1, cell_of_row _ _ _ _ _ _ h1⟩, ⟨cell_of_row _ _ _ _ _ _ h2, cell_of_row _ _ _ _ _ _ h2, cell_of_row _ _ _ _ _ _ h2, cell_of_row _ _ _ _ _ _ h2, cell_of_row _ _ _ _ _ _ h2⟩, fun j => frozen_of_row _ _ _ _ _ h0, fun j => frozen_of_row _ _ _ _ _ h2⟩
/-- but for one block of the call's own all is as it was -/
structure But (X : Nat) (w w' : World) : Prop where
  os : w'.os = w.os
  tape : w'.tape = w.tape
  output : w'.output = w.output
  size : w.heap.size ≤ w'.heap.size
  block : ∀ k, k ≠ X → w'.heap[k]? = w.heap[k]?
theorem But.refl (X : Nat) (w : World) : But X w w := ⟨rfl, rfl, rfl, Nat.le_refl _, fun _ _ => rfl⟩
theorem But.set {X : Nat} {w w' : World} (h : But X w w') (j : Nat) (v : Value) : But X w (w'.setCell ⟨X, j, none⟩ v) :=
  ⟨h.os, h.tape, h.output, by simpa using h.size, fun k hk => (Below.heap_setCell _ _ _ _ hk).trans (h.block k hk)⟩
theorem But.five {X : Nat} {w : World} (v0 v1 v2 v3 v4 : Value) : But X w (((((w.setCell ⟨X, 0, none⟩ v0).setCell ⟨X, 1, none⟩ v1).setCell ⟨X, 2, none⟩ v2).setCell ⟨X, 3, none⟩ v3).setCell ⟨X, 4, none⟩ v4) :=
  (((((But.refl X w).set 0 v0).set 1 v1).set 2 v2).set 3 v3).set 4 v4
theorem Now.but {W : World} {p : Nat} {w0 w w' : World} {r s : St} (h : Now W p w0 r w s) {X : Nat} (hb : But X w w') (hX : ¬ s.has X) (hW : W.heap.size ≤ X) : At W w' p s :=
  ⟨h.a.d.same hb.size fun k hk => hb.block k (fun e => hX (e ▸ hk)), ⟨hb.os.trans h.a.b.os, hb.tape.trans h.a.b.tape, hb.output.trans h.a.b.output, Nat.le_trans h.a.b.size hb.size, fun k hk => (hb.block k (by omega)).trans (h.a.b.block k hk)⟩, h.a.e⟩
theorem RefOk.but {w w' : World} {r : Ref} (h : RefOk w r) {X : Nat} (hb : But X w w') (h1 : r.nb ≠ X) (h2 : r.sb ≠ X) (h3 : ∀ b off, r.pa = some ⟨b, off, none⟩ → 0 < r.pend.length → b ≠ X) : RefOk w' r := by
  have hS : ∀ {b : Nat} {xs : List ByteArray}, Strs w (some ⟨b, 0, none⟩) xs → b ≠ X → Strs w' (some ⟨b, 0, none⟩) xs := by
    intro b xs h hn i hi
    obtain ⟨b', off, ha, hc⟩ := h i hi
    obtain ⟨rfl, rfl⟩ : b = b' ∧ 0 = off := by simpa using ha
    exact ⟨b, 0, rfl, (cell_of_block (hb.block b hn)).trans hc⟩
  refine ⟨hS h.N h1, hS h.S h2, h.nc, h.sc, ?_, h.bN, h.bS, h.n1, h.len, h.nil⟩
  intro i hi
  obtain ⟨b, off, ha, hc⟩ := h.p i hi
  exact ⟨b, off, ha, (cell_of_block (hb.block b (h3 b off ha (by rw [List.length_map] at hi; omega)))).trans hc⟩
theorem Now.frozen {W : World} {p : Nat} {w0 w : World} {r s : St} (h : Now W p w0 r w s) {g : Nat} (hf : ∀ j, w0.frozen? ⟨g, j, none⟩ = false) (hg : g < w0.heap.size) (hn : ¬ r.has g) (j : Nat) : w.frozen? ⟨g, j, none⟩ = false :=
  (World.frozen?_of_block (h.s.block g hg hn)).trans (hf j)
theorem five_keep {w : World} {X Y : Nat} {u0 u1 u2 u3 u4 v0 v1 v2 v3 v4 : Value} (hne : X ≠ Y) (h : w.cell? ⟨X, 0, none⟩ = some u0 ∧ w.cell? ⟨X, 1, none⟩ = some u1 ∧ w.cell? ⟨X, 2, none⟩ = some u2 ∧ w.cell? ⟨X, 3, none⟩ = some u3 ∧ w.cell? ⟨X, 4, none⟩ = some u4) :
    (((((w.setCell ⟨Y, 0, none⟩ v0).setCell ⟨Y, 1, none⟩ v1).setCell ⟨Y, 2, none⟩ v2).setCell ⟨Y, 3, none⟩ v3).setCell ⟨Y, 4, none⟩ v4).cell? ⟨X, 0, none⟩ = some u0 ∧ (((((w.setCell ⟨Y, 0, none⟩ v0).setCell ⟨Y, 1, none⟩ v1).setCell ⟨Y, 2, none⟩ v2).setCell ⟨Y, 3, none⟩ v3).setCell ⟨Y, 4, none⟩ v4).cell? ⟨X, 1, none⟩ = some u1 ∧ (((((w.setCell ⟨Y, 0, none⟩ v0).setCell ⟨Y, 1, none⟩ v1).setCell ⟨Y, 2, none⟩ v2).setCell ⟨Y, 3, none⟩ v3).setCell ⟨Y, 4, none⟩ v4).cell? ⟨X, 2, none⟩ = some u2 ∧ (((((w.setCell ⟨Y, 0, none⟩ v0).setCell ⟨Y, 1, none⟩ v1).setCell ⟨Y, 2, none⟩ v2).setCell ⟨Y, 3, none⟩ v3).setCell ⟨Y, 4, none⟩ v4).cell? ⟨X, 3, none⟩ = some u3 ∧ (((((w.setCell ⟨Y, 0, none⟩ v0).setCell ⟨Y, 1, none⟩ v1).setCell ⟨Y, 2, none⟩ v2).setCell ⟨Y, 3, none⟩ v3).setCell ⟨Y, 4, none⟩ v4).cell? ⟨X, 4, none⟩ = some u4 := by
  have hb : ∀ j, (((((w.setCell ⟨Y, 0, none⟩ v0).setCell ⟨Y, 1, none⟩ v1).setCell ⟨Y, 2, none⟩ v2).setCell ⟨Y, 3, none⟩ v3).setCell ⟨Y, 4, none⟩ v4).cell? ⟨X, j, none⟩ = w.cell? ⟨X, j, none⟩ := fun j => cell_of_block ((But.five (X := Y) (w := w) v0 v1 v2 v3 v4).block X hne)
  rw [hb, hb, hb, hb, hb]
  exact h
theorem Far.old {w : World} {r : Ref} (h : RefOk w r) (hn : r.pend = [] ∨ r.pend ≠ []) {X : Nat} (hX : w.heap.size ≤ X) : Far r (lone X) := by
  have lt := h.lt
  refine ⟨fun e => ?_, fun e => ?_, fun b off ha e => ?_⟩
  · have := lone_has e; omega
  · have := lone_has e; omega
  · have := lone_has e
    rcases hn with hp | hp
    · rw [(h.nil hp).1] at ha; cases ha
    · obtain ⟨b', off', ha', hc⟩ := h.p 0 (by rw [List.length_map]; exact List.length_pos_iff.2 hp)
      rw [ha] at ha'
      obtain ⟨rfl, rfl⟩ : b = b' ∧ off = off' := by simpa using ha'
      have := World.block_lt_of_cell? w _ hc
      change b < w.heap.size at this
      omega
theorem Far.off {r : Ref} {X : Nat} (h : Far r (lone X)) : r.nb ≠ X ∧ r.sb ≠ X ∧ ∀ b off, r.pa = some ⟨b, off, none⟩ → 0 < r.pend.length → b ≠ X :=
  ⟨fun e => h.1 (e ▸ lone_self X), fun e => h.2.1 (e ▸ lone_self X), fun b off ha _ e => h.2.2 b off ha (e ▸ lone_self X)⟩
theorem act_done {W w w1 wF w' : World} {p X : Nat} {s s' : St} {r' : Ref} (h : At W w p s) (hb : Below w.heap.size w w1) (hX : w.heap.size ≤ X) (hX1 : X < w1.heap.size) (hn : Now W p w1 s wF s') (hr : RefOk w1 r') (hf : Far r' s) (hx : Far r' (lone X)) (hs : Same s' r') (hbut : But X wF w') : Both W w' p s' r' ∧ Step w s w' s' := by
  have hsX : ¬ s.has X := fun e => by have := (h.d.lt _ e).2; omega
  have hs'X : ¬ s'.has X := fun e => by
    rcases hn.s.own _ e with q | q
    · exact hsX q
    · omega
  have ho := Far.off hx
  refine ⟨⟨hn.but hbut hs'X (Nat.le_trans h.b.size hX), (hr.step hf hn.s).but hbut ho.1 ho.2.1 ho.2.2, hf.step hr hn.s, hs⟩, ⟨hbut.os.trans (hn.s.os.trans hb.os), hbut.tape.trans (hn.s.tape.trans hb.tape), hbut.output.trans (hn.s.output.trans hb.output), Nat.le_trans hb.size (Nat.le_trans hn.s.size hbut.size), fun k hk hnk => ?_, fun k hk => ?_⟩⟩
  · rw [hbut.block k (by omega), hn.s.block k (Nat.lt_of_lt_of_le hk hb.size) hnk, hb.block k hk]
  · rcases hn.s.own k hk with q | q
    · exact .inl q
    · exact .inr (Nat.le_trans hb.size q)
theorem act_out {W w w1 wF w' : World} {p X : Nat} {s s' : St} {r r' : Ref} (h : At W w p s) (hb : Below w.heap.size w w1) (hX : w.heap.size ≤ X) (hX1 : X < w1.heap.size) (hn : Now W p w1 s wF s') (hr : RefOk w1 r') (hf : Far r' s) (hx : Far r' (lone X)) (hs : Same s' r') (hk : 0 ≤ s'.writes ∧ s'.writes ≤ s.writes + 1 ∧ s'.n = s.n) (hold : ∀ Z, Z < w.heap.size → Far r (lone Z) → Far r' (lone Z)) (hbut : But X wF w') : ActOut W w p s r (.returned (.tuple #[r'.val, .bool true])) w' := by
  have hd := act_done h hb hX hX1 hn hr hf hx hs hbut
  exact ⟨s', r', rfl, hd.1, hd.2, hk.1, hk.2.1, hk.2.2, hold⟩
theorem refflush_ex (r : Ref) (w : World) : Calls Tryd.prog 24 #[.agg #[.slice (some ⟨r.nb, 0, none⟩) r.n r.nc, .slice (some ⟨r.sb, 0, none⟩) r.n r.sc, .slice r.pa r.pend.length r.pc, .int .i64 r.writes, .int .i64 r.left]] w fun e w' => e = .returned (.agg #[.slice (some ⟨r.nb, 0, none⟩) r.n r.nc, .slice (some ⟨r.nb, 0, none⟩) r.n r.nc, .slice none 0 0, .int .i64 r.writes, .int .i64 r.left]) ∧ Below w.heap.size w w' := by
  have h := refflush_any (some ⟨r.nb, 0, none⟩) (some ⟨r.sb, 0, none⟩) r.n r.nc r.n r.sc r.pa r.pend.length r.pc r.writes r.left w
  unfold ragg at h
  exact h
set_option maxRecDepth 100000 in
set_option maxHeartbeats 1000000 in
theorem act_flush {W : World} {p : Nat} (s : St) (r : Ref) (A : ActV) (w : World) (h : Both W w p s r) (k0 : 0 ≤ s.writes) (hk : wrap64 ((IntKind.u64.wrap A.kind).tmod 7) = 3) :
    Calls Tryd.prog 10 #[.pointer (some ⟨p, 0, none⟩), r.val, actVal A] w (ActOut W w p s r) := by
  have HH := Lib.hid h
  clear h
  unfold Ref.val actVal
  go_enter Tryd.func10, Tryd.ntmps10
  go_upto_region 3 with (fail)
  have HO := objs_at w r A
  have HB0 := Lib.hid (objs_below w r A)
  have HZ := Lib.hid (objs_size w r A)
  change Code.wp _ _ _ _ (actObjs w r A)
  generalize actObjs w r A = w0 at HO HB0 HZ ⊢
  obtain ⟨⟨x0, x1, x2, x3, x4⟩, _, ⟨z0, z1, z2, z3, z4⟩, _, fz⟩ := HO
  have HZ0 := Lib.hid z0
  have HZ1 := Lib.hid z1
  have HZ2 := Lib.hid z2
  have HZ3 := Lib.hid z3
  have HZ4 := Lib.hid z4
  have HFZ := Lib.hid fz
  clear z0 z1 z2 z3 z4 fz
  have n0 : Now W p w0 s w0.drew s := (Now.first (HH.out.a.below HB0.out)).drew
  have HX := Lib.hid (show ¬ s.has w.heap.size from fun e => by have := (HH.out.a.d.lt _ e).2; omega)
  have HY := Lib.hid (show ¬ s.has (w.heap.size + 1 + 1) from fun e => by have := (HH.out.a.d.lt _ e).2; omega)
  have HYL := Lib.hid (show w.heap.size + 1 + 1 < w0.heap.size by have := HZ.out; omega)
  have HXY := Lib.hid (show w.heap.size ≠ w.heap.size + 1 + 1 by omega)
  go_region_held3 (fun w' => w'.cell? ⟨w.heap.size, 0, none⟩ = some (.slice (some ⟨r.nb, 0, none⟩) r.n r.nc) ∧ w'.cell? ⟨w.heap.size, 1, none⟩ = some (.slice (some ⟨r.sb, 0, none⟩) r.n r.sc) ∧ w'.cell? ⟨w.heap.size, 2, none⟩ = some (.slice r.pa r.pend.length r.pc) ∧ w'.cell? ⟨w.heap.size, 3, none⟩ = some (.int .i64 r.writes) ∧ w'.cell? ⟨w.heap.size, 4, none⟩ = some (.int .i64 r.left)) (first | with_reducible exact five_keep HXY.out (by assumption) | with_reducible exact ⟨Now.cell (by assumption) x0 HX.out, Now.cell (by assumption) x1 HX.out, Now.cell (by assumption) x2 HX.out, Now.cell (by assumption) x3 HX.out, Now.cell (by assumption) x4 HX.out⟩) (first | (go_at_call 24; refine (refflush_ex r _).mono ?_; rintro e w1 ⟨rfl, hb1⟩; have n1 := Now.below (by assumption) hb1) | (go_at_call 15; refine (flush_nowu (by assumption)).mono ?_; rintro e w2 ⟨s2, rfl, n2, rfl⟩; have y0 := Now.cell n2 HZ0.out HY.out; have y1 := Now.cell n2 HZ1.out HY.out; have y2 := Now.cell n2 HZ2.out HY.out; have y3 := Now.cell n2 HZ3.out HY.out; have y4 := Now.cell n2 HZ4.out HY.out; have fz := Now.frozen n2 HFZ.out HYL.out HY.out))
  go_wp2
  refine bodyPost_ret (v := .tuple #[.agg #[.slice (some ⟨r.nb, 0, none⟩) r.n r.nc, .slice (some ⟨r.nb, 0, none⟩) r.n r.nc, .slice none 0 0, .int .i64 r.writes, .int .i64 r.left], .bool true]) (by simp [results, Tryd.results10, go_sem, y0, y1, y2, y3, y4]) rfl ?_
  exact act_out (r' := r.flush) (X := w.heap.size + 1 + 1) HH.out.a HB0.out (by omega) HYL.out (by assumption) ((go_flush (HH.out.ok.below HB0.out)).ok) ((go_flush (HH.out.ok.below HB0.out)).far s HH.out.far (fun b e => Nat.lt_of_lt_of_le (HH.out.a.d.lt b e).2 HB0.out.size)) ((go_flush (HH.out.ok.below HB0.out)).far _ (Far.old HH.out.ok (Classical.em _) (by omega)) (fun b e => by have := lone_has e; have := HYL.out; omega)) (same_flush HH.out.a.d.ok HH.out.same) ⟨k0, by show s.writes ≤ s.writes + 1; omega, rfl⟩ (fun Z hZ hf => (go_flush (HH.out.ok.below HB0.out)).far _ hf (fun b e => by have := lone_has e; have := HB0.out.size; omega)) (But.five _ _ _ _ _)
end Go.Proofs.YtibopcbebcikbaaDoor

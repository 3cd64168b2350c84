/-
  AN ACT, done to both: a write. Conditions: the disk and the document's lists lie in memory, and are the same.
-/
import Derived.Test.YtibopcbebcikbaaDoorRs
import Derived.Deep.RegionHeld
namespace Go.Proofs.YtibopcbebcikbaaDoor
open Go.RowKit

theorem keep7 {w : World} {X Y V : Nat} {u0 u1 u2 u3 u4 v0 v1 v2 v3 v4 a1 a2 : Value} (hne : X ≠ Y) (hnv : V ≠ Y) (h : w.cell? ⟨X, 0, none⟩ = some u0 ∧ w.cell? ⟨X, 1, none⟩ = some u1 ∧ w.cell? ⟨X, 2, none⟩ = some u2 ∧ w.cell? ⟨X, 3, none⟩ = some u3 ∧ w.cell? ⟨X, 4, none⟩ = some u4 ∧ w.cell? ⟨V, 1, none⟩ = some a1 ∧ w.cell? ⟨V, 2, none⟩ = some a2) :
    (((((w.setCell ⟨Y, 0, none⟩ v0).setCell ⟨Y, 1, none⟩ v1).setCell ⟨Y, 2, none⟩ v2).setCell ⟨Y, 3, none⟩ v3).setCell ⟨Y, 4, none⟩ v4).cell? ⟨X, 0, none⟩ = some u0 ∧ (((((w.setCell ⟨Y, 0, none⟩ v0).setCell ⟨Y, 1, none⟩ v1).setCell ⟨Y, 2, none⟩ v2).setCell ⟨Y, 3, none⟩ v3).setCell ⟨Y, 4, none⟩ v4).cell? ⟨X, 1, none⟩ = some u1 ∧ (((((w.setCell ⟨Y, 0, none⟩ v0).setCell ⟨Y, 1, none⟩ v1).setCell ⟨Y, 2, none⟩ v2).setCell ⟨Y, 3, none⟩ v3).setCell ⟨Y, 4, none⟩ v4).cell? ⟨X, 2, none⟩ = some u2 ∧ (((((w.setCell ⟨Y, 0, none⟩ v0).setCell ⟨Y, 1, none⟩ v1).setCell ⟨Y, 2, none⟩ v2).setCell ⟨Y, 3, none⟩ v3).setCell ⟨Y, 4, none⟩ v4).cell? ⟨X, 3, none⟩ = some u3 ∧ (((((w.setCell ⟨Y, 0, none⟩ v0).setCell ⟨Y, 1, none⟩ v1).setCell ⟨Y, 2, none⟩ v2).setCell ⟨Y, 3, none⟩ v3).setCell ⟨Y, 4, none⟩ v4).cell? ⟨X, 4, none⟩ = some u4 ∧ (((((w.setCell ⟨Y, 0, none⟩ v0).setCell ⟨Y, 1, none⟩ v1).setCell ⟨Y, 2, none⟩ v2).setCell ⟨Y, 3, none⟩ v3).setCell ⟨Y, 4, none⟩ v4).cell? ⟨V, 1, none⟩ = some a1 ∧ (((((w.setCell ⟨Y, 0, none⟩ v0).setCell ⟨Y, 1, none⟩ v1).setCell ⟨Y, 2, none⟩ v2).setCell ⟨Y, 3, none⟩ v3).setCell ⟨Y, 4, none⟩ v4).cell? ⟨V, 2, none⟩ = some a2 := by
  have hb := fun j => (But.five (X := Y) (w := w) v0 v1 v2 v3 v4).cell hne j
  have hv := fun j => (But.five (X := Y) (w := w) v0 v1 v2 v3 v4).cell hnv j
  rw [hb, hb, hb, hb, hb, hv, hv]
  exact h
theorem low7 {w w' : World} {X V : Nat} {u0 u1 u2 u3 u4 a1 a2 : Value} (hb : Below w.heap.size w w') (h : w.cell? ⟨X, 0, none⟩ = some u0 ∧ w.cell? ⟨X, 1, none⟩ = some u1 ∧ w.cell? ⟨X, 2, none⟩ = some u2 ∧ w.cell? ⟨X, 3, none⟩ = some u3 ∧ w.cell? ⟨X, 4, none⟩ = some u4 ∧ w.cell? ⟨V, 1, none⟩ = some a1 ∧ w.cell? ⟨V, 2, none⟩ = some a2) : w'.cell? ⟨X, 0, none⟩ = some u0 ∧ w'.cell? ⟨X, 1, none⟩ = some u1 ∧ w'.cell? ⟨X, 2, none⟩ = some u2 ∧ w'.cell? ⟨X, 3, none⟩ = some u3 ∧ w'.cell? ⟨X, 4, none⟩ = some u4 ∧ w'.cell? ⟨V, 1, none⟩ = some a1 ∧ w'.cell? ⟨V, 2, none⟩ = some a2 := by
  have hc : ∀ b j v, w.cell? ⟨b, j, none⟩ = some v → w'.cell? ⟨b, j, none⟩ = some v := fun b j v hv => (hb.cell (p := ⟨b, j, none⟩) (World.block_lt_of_cell? w _ hv)).trans hv
  exact ⟨hc _ _ _ h.1, hc _ _ _ h.2.1, hc _ _ _ h.2.2.1, hc _ _ _ h.2.2.2.1, hc _ _ _ h.2.2.2.2.1, hc _ _ _ h.2.2.2.2.2.1, hc _ _ _ h.2.2.2.2.2.2⟩
theorem Below.al {w w' : World} (h : Below w.heap.size w w') (o : Obj) : Below w.heap.size w (w'.alloc o) := h.alloc h.size o
theorem writeC_same {s : St} {r : Ref} (h : Same s r) (i : Int) (n : Nat) : writeC r.n r.left i n = writeC s.n s.left i n := by
  unfold writeC
  rw [h.n, h.left]
  by_cases a : i < 0 ∨ (s.n : Int) ≤ i
  · rw [if_pos a, if_pos a]
  rw [if_neg a, if_neg a]
  by_cases b : n ≠ 512
  · rw [if_pos b, if_pos b]
  rw [if_neg b, if_neg b]
  by_cases c : s.left = 0
  · rw [if_pos c, if_pos (by omega)]
  · rw [if_neg c, if_neg (by omega)]
/-- a block of noughts that the call has made -/
structure TZ (w0 w : World) (T : Nat) : Prop where
  z : Cells5 w T (.slice none 0 0) (.slice none 0 0) (.slice none 0 0) (.int .i64 0) (.int .i64 0)
  f : ∀ j, w.frozen? ⟨T, j, none⟩ = false
  lo : w0.heap.size ≤ T
  lt : T < w.heap.size
def zobj : Obj := .cells #[.slice none 0 0, .slice none 0 0, .slice none 0 0, .int .i64 0, .int .i64 0] 32
theorem tz_new {w0 x : World} (h : w0.heap.size ≤ x.heap.size) : TZ w0 (x.alloc zobj) x.heap.size := by
  have e := heap_alloc_new x zobj
  exact ⟨⟨cell_of_row _ _ _ _ _ _ e, cell_of_row _ _ _ _ _ _ e, cell_of_row _ _ _ _ _ _ e, cell_of_row _ _ _ _ _ _ e, cell_of_row _ _ _ _ _ _ e⟩, fun j => frozen_of_row _ _ _ _ _ e, h, by simp⟩
theorem TZ.below {w0 w w' : World} {T : Nat} (h : TZ w0 w T) (hb : Below w.heap.size w w') : TZ w0 w' T := by
  have hc : ∀ j v, w.cell? ⟨T, j, none⟩ = some v → w'.cell? ⟨T, j, none⟩ = some v := fun j v hv => (hb.cell (p := ⟨T, j, none⟩) h.lt).trans hv
  exact ⟨⟨hc _ _ h.z.1, hc _ _ h.z.2.1, hc _ _ h.z.2.2.1, hc _ _ h.z.2.2.2.1, hc _ _ h.z.2.2.2.2⟩, fun j => (hb.frozen (p := ⟨T, j, none⟩) h.lt).trans (h.f j), h.lo, Nat.lt_of_lt_of_le h.lt hb.size⟩
theorem sector_al {w0 : World} (t : ByteArray) (ht : t.size ≤ 9223372036854775807) : Calls Tryd.prog 22 #[.string t] (w0.alloc (.cells #[.slice none 0 0, .slice none 0 0, .slice none 0 0, .int .i64 0, .int .i64 0] 32)).drew fun e w' => e = .returned (.string (sec t)) ∧ Below w0.heap.size w0 w' ∧ TZ w0 w' w0.heap.size :=
  (sector_any t _ ht).mono fun _ _ ⟨he, hb⟩ => ⟨he, ((Below.al (Below.refl _ _) zobj).drew).trans (hb.mono ((Below.al (Below.refl w0.heap.size w0) zobj).drew).size), (show TZ w0 (w0.alloc zobj).drew w0.heap.size from ((tz_new (w0 := w0) (x := w0) (Nat.le_refl _)).below ((Below.refl _ _).drew))).below hb⟩
structure Wr (w0 w1 : World) (Y : Nat) (s : St) (r r1 : Ref) (i : Int) (t : ByteArray) : Prop where
  b : Below w0.heap.size w0 w1
  ok : RefOk w1 r1
  far : Far r1 s
  lone : Far r1 (lone Y)
  old : ∀ Z, Z < w0.heap.size → Far r (Go.Proofs.YtibopcbebcikbaaDoor.lone Z) → Far r1 (Go.Proofs.YtibopcbebcikbaaDoor.lone Z)
  no : writeC r.n r.left i t.size ≠ 0 → r1 = r
  yes : writeC r.n r.left i t.size = 0 → RefNew r r1 (upd r.N i.toNat (txt t)) r.S (if i.toNat ∈ r.pend then r.pend else r.pend ++ [i.toNat]) (r.writes + 1) (if 0 < r.left then r.left - 1 else r.left)
/-- what a write wants of both -/
structure WrIn (w0 : World) (Y : Nat) (s : St) (r : Ref) : Prop where
  ok : RefOk w0 r
  far : Far r s
  old : ∀ X, Y ≤ X → Far r (Go.Proofs.YtibopcbebcikbaaDoor.lone X)
  lt : ∀ b, s.has b → b < w0.heap.size
  Y : Y < w0.heap.size
  l1 : r.left ≤ 9223372036854775807
  l0 : -1 ≤ r.left
  k0 : 0 ≤ r.writes
  k1 : r.writes < 4611686018427387904
  hp : r.pend.length ≤ 99
theorem refwrite_from {w0 wc : World} {Y : Nat} {s : St} {r : Ref} (hb : Below w0.heap.size w0 wc) (h : WrIn w0 Y s r) (i : Int) (t : ByteArray) :
    Calls Tryd.prog 27 #[.agg #[.slice (some ⟨r.nb, 0, none⟩) r.n r.nc, .slice (some ⟨r.sb, 0, none⟩) r.n r.sc, .slice r.pa r.pend.length r.pc, .int .i64 r.writes, .int .i64 r.left], .int .i64 i, .string t] wc (fun e w' => ∃ r1, e = .returned (.tuple #[.agg #[.slice (some ⟨r1.nb, 0, none⟩) r1.n r1.nc, .slice (some ⟨r1.sb, 0, none⟩) r1.n r1.sc, .slice r1.pa r1.pend.length r1.pc, .int .i64 r1.writes, .int .i64 r1.left], .int .i64 (writeC r.n r.left i t.size)]) ∧ Wr w0 w' Y s r r1 i t) :=
  (refwrite_u r i t wc (h.ok.below hb) h.l1 h.l0 h.k0 h.k1 h.hp).mono fun _ _ ⟨r', he, g, q⟩ => ⟨r', he, hb.trans (g.below.mono hb.size), g.ok, g.far s h.far (fun b e => Nat.lt_of_lt_of_le (h.lt b e) hb.size), g.far _ (h.old _ (Nat.le_refl _)) (fun b e => by have := lone_has e; have := h.Y; have := hb.size; omega), (fun Z hZ hf => g.far _ hf (fun b e => by have := lone_has e; have := hb.size; omega)), q.1, q.2⟩
theorem refwrite_tz {w0 wc : World} {Y T : Nat} {s : St} {r : Ref} (hb : Below w0.heap.size w0 wc) (hz : TZ w0 wc T) (h : WrIn w0 Y s r) (i : Int) (t : ByteArray) :
    Calls Tryd.prog 27 #[.agg #[.slice (some ⟨r.nb, 0, none⟩) r.n r.nc, .slice (some ⟨r.sb, 0, none⟩) r.n r.sc, .slice r.pa r.pend.length r.pc, .int .i64 r.writes, .int .i64 r.left], .int .i64 i, .string t] wc (fun e w' => ∃ r1, e = .returned (.tuple #[.agg #[.slice (some ⟨r1.nb, 0, none⟩) r1.n r1.nc, .slice (some ⟨r1.sb, 0, none⟩) r1.n r1.sc, .slice r1.pa r1.pend.length r1.pc, .int .i64 r1.writes, .int .i64 r1.left], .int .i64 (writeC r.n r.left i t.size)]) ∧ Wr w0 w' Y s r r1 i t ∧ TZ w0 w' T ∧ Far r1 (lone T)) :=
  (refwrite_u r i t wc (h.ok.below hb) h.l1 h.l0 h.k0 h.k1 h.hp).mono fun _ _ ⟨r', he, g, q⟩ => ⟨r', he, ⟨hb.trans (g.below.mono hb.size), g.ok, g.far s h.far (fun b e => Nat.lt_of_lt_of_le (h.lt b e) hb.size), g.far _ (h.old _ (Nat.le_refl _)) (fun b e => by have := lone_has e; have := h.Y; have := hb.size; omega), (fun Z hZ hf => g.far _ hf (fun b e => by have := lone_has e; have := hb.size; omega)), q.1, q.2⟩, hz.below g.below, g.far _ (h.old _ (by have := hz.lo; have := h.Y; omega)) (fun b e => by have := lone_has e; have := hz.lt; omega)⟩
theorem refwrite_al {w0 x : World} {Y : Nat} {s : St} {r : Ref} (hb : Below w0.heap.size w0 x) (h : WrIn w0 Y s r) (i : Int) (t : ByteArray) :
    Calls Tryd.prog 27 #[.agg #[.slice (some ⟨r.nb, 0, none⟩) r.n r.nc, .slice (some ⟨r.sb, 0, none⟩) r.n r.sc, .slice r.pa r.pend.length r.pc, .int .i64 r.writes, .int .i64 r.left], .int .i64 i, .string t] (x.alloc (.cells #[.slice none 0 0, .slice none 0 0, .slice none 0 0, .int .i64 0, .int .i64 0] 32)) (fun e w' => ∃ r1, e = .returned (.tuple #[.agg #[.slice (some ⟨r1.nb, 0, none⟩) r1.n r1.nc, .slice (some ⟨r1.sb, 0, none⟩) r1.n r1.sc, .slice r1.pa r1.pend.length r1.pc, .int .i64 r1.writes, .int .i64 r1.left], .int .i64 (writeC r.n r.left i t.size)]) ∧ Wr w0 w' Y s r r1 i t ∧ TZ w0 w' x.heap.size ∧ Far r1 (lone x.heap.size)) :=
  refwrite_tz (wc := x.alloc zobj) (Below.al hb _) (tz_new hb.size) h i t
structure MidT (W w w0 w2 : World) (T p : Nat) (s : St) (r1 : Ref) (A : ActV) : Prop where
  a : At W w2 p s
  below : Below w.heap.size w w2
  r : refCells w2 T r1
  a' : actCells w2 (w.heap.size + 1) A
  z : Cells5 w2 (w.heap.size + 1 + 1) (.slice none 0 0) (.slice none 0 0) (.slice none 0 0) (.int .i64 0) (.int .i64 0)
  fz : ∀ j, w2.frozen? ⟨w.heap.size + 1 + 1, j, none⟩ = false
  hT : ¬ s.has T
  hV : ¬ s.has (w.heap.size + 1)
  hY : ¬ s.has (w.heap.size + 1 + 1)
  lY : w.heap.size + 1 + 1 < w2.heap.size
  nT : T ≠ w.heap.size + 1 + 1
  ok : RefOk w2 r1
  far : Far r1 s
  lone : Far r1 (Go.Proofs.YtibopcbebcikbaaDoor.lone (w.heap.size + 1 + 1))
theorem midT_of {W w w0 w2 : World} {T p : Nat} {s : St} {r r1 : Ref} {A : ActV} (h : Both W w p s r) (hb : Below w.heap.size w w0) (hz : w0.heap.size = w.heap.size + 3) (ho : Objs w0 w.heap.size r A) (h2 : Below w0.heap.size w0 w2) (hr : refCells w2 T r1) (hT : w0.heap.size ≤ T) (ok : RefOk w2 r1) (far : Far r1 s) (hl : Far r1 (lone (w.heap.size + 1 + 1))) : MidT W w w0 w2 T p s r1 A := by
  have hw : Below w.heap.size w w2 := hb.trans (h2.mono hb.size)
  have hc : ∀ b j v, w0.cell? ⟨b, j, none⟩ = some v → w2.cell? ⟨b, j, none⟩ = some v := fun b j v hv => (h2.cell (p := ⟨b, j, none⟩) (World.block_lt_of_cell? w0 _ hv)).trans hv
  have hn : ∀ b, w.heap.size ≤ b → ¬ s.has b := fun b hb e => by have := (h.a.d.lt _ e).2; omega
  exact ⟨h.a.below hw, hw, hr, ⟨hc _ _ _ ho.a.1, hc _ _ _ ho.a.2.1, hc _ _ _ ho.a.2.2.1, hc _ _ _ ho.a.2.2.2.1, hc _ _ _ ho.a.2.2.2.2.1, hc _ _ _ ho.a.2.2.2.2.2⟩, ⟨hc _ _ _ ho.z.1, hc _ _ _ ho.z.2.1, hc _ _ _ ho.z.2.2.1, hc _ _ _ ho.z.2.2.2.1, hc _ _ _ ho.z.2.2.2.2⟩, fun j => (h2.frozen (p := ⟨_, j, none⟩) (by show w.heap.size + 1 + 1 < w0.heap.size; omega)).trans (ho.fz j), hn _ (by omega), hn _ (by omega), hn _ (by omega), by have := h2.size; omega, by omega, ok, far, hl⟩
theorem midT_set {W w w0 w1 : World} {T p : Nat} {s : St} {r r1 : Ref} {A : ActV} {i : Int} {t : ByteArray} (h : Both W w p s r) (hb : Below w.heap.size w w0) (hz : w0.heap.size = w.heap.size + 3) (ho : Objs w0 w.heap.size r A) (g : Wr w0 w1 (w.heap.size + 1 + 1) s r r1 i t) (tz : TZ w0 w1 T) (off : Far r1 (lone T)) :
    MidT W w w0 (((((w1.setCell ⟨T, 0, none⟩ (.slice (some ⟨r1.nb, 0, none⟩) r1.n r1.nc)).setCell ⟨T, 1, none⟩ (.slice (some ⟨r1.sb, 0, none⟩) r1.n r1.sc)).setCell ⟨T, 2, none⟩ (.slice r1.pa r1.pend.length r1.pc)).setCell ⟨T, 3, none⟩ (.int .i64 r1.writes)).setCell ⟨T, 4, none⟩ (.int .i64 r1.left)) T p s r1 A := by
  have of := off.off
  refine midT_of h hb hz ho (((((g.b.setCell tz.lo _).setCell tz.lo _).setCell tz.lo _).setCell tz.lo _).setCell tz.lo _) ?_ tz.lo (g.ok.but (But.five _ _ _ _ _) of.1 of.2.1 of.2.2) g.far g.lone
  obtain ⟨z0, z1, z2, z3, z4⟩ := tz.z
  exact ⟨by simp [go_sem, z0], by simp [go_sem, z1], by simp [go_sem, z2], by simp [go_sem, z3], by simp [go_sem, z4]⟩
theorem midT_new {W w w0 w1 : World} {p : Nat} {s : St} {r r1 : Ref} {A : ActV} {i : Int} {t : ByteArray} (h : Both W w p s r) (hb : Below w.heap.size w w0) (hz : w0.heap.size = w.heap.size + 3) (ho : Objs w0 w.heap.size r A) (g : Wr w0 w1 (w.heap.size + 1 + 1) s r r1 i t) :
    MidT W w w0 (w1.alloc (refObj r1)) w1.heap.size p s r1 A :=
  midT_of h hb hz ho (Below.al g.b _) (refObj_cells w1 r1) g.b.size (g.ok.below (alX w1 _)) g.far g.lone
/-- what the first half of a write leaves -/
def WMid (W w w0 : World) (p : Nat) (s : St) (r : Ref) (A : ActV) (t c : Value) (wx : World) : Prop :=
  ∃ T r1, t = .pointer (some ⟨T, 0, none⟩) ∧ c = .int .i64 (writeC r.n r.left A.i (sec A.b).size) ∧ MidT W w w0 wx T p s r1 A ∧ (writeC r.n r.left A.i (sec A.b).size ≠ 0 → r1 = r) ∧ (writeC r.n r.left A.i (sec A.b).size = 0 → RefNew r r1 (upd r.N A.i.toNat (txt (sec A.b))) r.S (if A.i.toNat ∈ r.pend then r.pend else r.pend ++ [A.i.toNat]) (r.writes + 1) (if 0 < r.left then r.left - 1 else r.left)) ∧ (∀ Z, Z < w0.heap.size → Far r (lone Z) → Far r1 (lone Z))
set_option maxRecDepth 100000 in
set_option maxHeartbeats 1000000 in
theorem act_write {W : World} {p : Nat} (hl : Laid W) (s : St) (r : Ref) (A : ActV) (w : World) (k : Nat) (h : Both W w p s r) (k0 : 0 ≤ s.writes) (k1 : s.writes < 1000) (hp : s.pend.length ≤ 99) (hb : A.b.size ≤ 1000) (hk : wrap64 ((IntKind.u64.wrap A.kind).tmod 7) = k) (hk3 : k < 3 ∨ k > 6) :
    Calls Tryd.prog 10 #[.pointer (some ⟨p, 0, none⟩), r.val, actVal A] w (ActOut W w p s r) := by
  have HH := Lib.hid h
  have HS := Lib.hid hb
  have q3 : ((k : Int) == 3) = false := by rw [beq_eq_false_iff_ne]; omega
  have q4 : ((k : Int) == 4) = false := by rw [beq_eq_false_iff_ne]; omega
  have q5 : ((k : Int) == 5) = false := by rw [beq_eq_false_iff_ne]; omega
  have q6 : ((k : Int) == 6) = false := by rw [beq_eq_false_iff_ne]; omega
  clear h hb hk3
  unfold Ref.val actVal
  go_enter Tryd.func10, Tryd.ntmps10
  go_upto_region 13 with (fail)
  have HO := objs_at w r A
  have HB0 := Lib.hid (objs_below w r A)
  have HZ := Lib.hid (objs_size w r A)
  change Code.wp _ _ _ _ (actObjs w r A)
  generalize actObjs w r A = w0 at HO HB0 HZ ⊢
  have HOB := Lib.hid HO
  clear HO
  have HWI := Lib.hid (show WrIn w0 (w.heap.size + 1 + 1) s r from ⟨HH.out.ok.below HB0.out, HH.out.far, fun X hX => Far.old HH.out.ok (Classical.em _) (by omega), fun b e => by have := (HH.out.a.d.lt b e).2; have := HB0.out.size; omega, by have := HZ.out; omega, by rw [HH.out.same.left]; have := HH.out.a.d.ok.l1; omega, by rw [HH.out.same.left]; omega, by rw [HH.out.same.writes]; exact k0, by rw [HH.out.same.writes]; omega, by rw [HH.out.same.pend]; exact hp⟩)
  rw [hk]
  clear hk
  go_cut [12, 13] (fun t c wx => WMid W w w0 p s r A t c wx)
  case rest =>
    obtain ⟨T, r1, rfl, rfl, hm, hno, hyes, hold⟩ := hcut
    have HOLD := Lib.hid hold
    have HM := Lib.hid hm
    have HNO := Lib.hid hno
    have HYES := Lib.hid hyes
    clear hm hno hyes hold
    have HCC := Lib.hid (writeC_same HH.out.same A.i (sec A.b).size)
    rw [HCC.out]
    obtain ⟨x0, x1, x2, x3, x4⟩ := HM.out.r
    obtain ⟨_, a1, a2, _, _, _⟩ := HM.out.a'
    have HT := Lib.hid HM.out.hT
    have HY := Lib.hid HM.out.hY
    have HNT := Lib.hid HM.out.nT
    have HNV := Lib.hid (show w.heap.size + 1 ≠ w.heap.size + 1 + 1 by omega)
    have hcv := conv_bytes (sec A.b)
    go_upto_region 14 with (fail)
    have n0 : Now W p wc s wc.drew s := (Now.first HM.out.a).drew
    have HK1 := Lib.hid (show s.writes < 4611686018427387904 by omega)
    go_region_held (fun w' => w'.cell? ⟨T, 0, none⟩ = some (.slice (some ⟨r1.nb, 0, none⟩) r1.n r1.nc) ∧ w'.cell? ⟨T, 1, none⟩ = some (.slice (some ⟨r1.sb, 0, none⟩) r1.n r1.sc) ∧ w'.cell? ⟨T, 2, none⟩ = some (.slice r1.pa r1.pend.length r1.pc) ∧ w'.cell? ⟨T, 3, none⟩ = some (.int .i64 r1.writes) ∧ w'.cell? ⟨T, 4, none⟩ = some (.int .i64 r1.left) ∧ w'.cell? ⟨w.heap.size + 1, 1, none⟩ = some (.int .i64 A.i) ∧ w'.cell? ⟨w.heap.size + 1, 2, none⟩ = some (.string A.b)) (first | with_reducible exact keep7 HNT.out HNV.out (by assumption) | with_reducible exact ⟨Now.cell (by assumption) x0 HT.out, Now.cell (by assumption) x1 HT.out, Now.cell (by assumption) x2 HT.out, Now.cell (by assumption) x3 HT.out, Now.cell (by assumption) x4 HT.out, Now.cell (by assumption) a1 HM.out.hV, Now.cell (by assumption) a2 HM.out.hV⟩ | with_reducible exact ⟨Now.cell (Now.below (by assumption) (bw_below _ _)) x0 HT.out, Now.cell (Now.below (by assumption) (bw_below _ _)) x1 HT.out, Now.cell (Now.below (by assumption) (bw_below _ _)) x2 HT.out, Now.cell (Now.below (by assumption) (bw_below _ _)) x3 HT.out, Now.cell (Now.below (by assumption) (bw_below _ _)) x4 HT.out, Now.cell (Now.below (by assumption) (bw_below _ _)) a1 HM.out.hV, Now.cell (Now.below (by assumption) (bw_below _ _)) a2 HM.out.hV⟩) (first | (go_at_call 22; refine (sector_now (by assumption) _ (by have := HS.out; omega)).mono ?_; rintro e w3 ⟨rfl, n3⟩) | (go_at_call 14; refine (write_nowu (by assumption) _ _ _ k0 HK1.out).mono ?_; rintro e w4 ⟨s4, rfl, n4, P4⟩; have HP4 := Lib.hid P4; clear P4) | (go_at_call 13; refine (num_nowv (by assumption) hl _).mono ?_; rintro e w5 ⟨rfl, n5⟩; have y0 := Now.cell n5 HM.out.z.1 HY.out; have y1 := Now.cell n5 HM.out.z.2.1 HY.out; have y2 := Now.cell n5 HM.out.z.2.2.1 HY.out; have y3 := Now.cell n5 HM.out.z.2.2.2.1 HY.out; have y4 := Now.cell n5 HM.out.z.2.2.2.2 HY.out; have fz := Now.frozen n5 HM.out.fz HM.out.lY HY.out))
    go_wp2
    refine bodyPost_ret (v := .tuple #[.agg #[.slice (some ⟨r1.nb, 0, none⟩) r1.n r1.nc, .slice (some ⟨r1.sb, 0, none⟩) r1.n r1.sc, .slice r1.pa r1.pend.length r1.pc, .int .i64 r1.writes, .int .i64 r1.left], .bool true]) (by simp [results, Tryd.results10, go_sem, y0, y1, y2, y3, y4]) rfl ?_
    have hs : Same s4 r1 ∧ (0 ≤ s4.writes ∧ s4.writes ≤ s.writes + 1 ∧ s4.n = s.n) := by
      by_cases c : writeC s.n s.left A.i (sec A.b).size = 0
      · have hw := HP4.out.2 c
        exact ⟨write_same HH.out.a.d.ok HH.out.same _ _ hw (HYES.out (by rw [HCC.out]; exact c)), by rw [hw.writes]; omega, by rw [hw.writes]; omega, hw.n⟩
      · have e3 := HP4.out.1 c
        have e1 := HNO.out (by rw [HCC.out]; exact c)
        subst e3 e1
        exact ⟨HH.out.same, k0, by omega, rfl⟩
    exact act_out (r' := r1) (X := w.heap.size + 1 + 1) HH.out.a HM.out.below (by omega) HM.out.lY (by assumption) HM.out.ok HM.out.far HM.out.lone hs.1 hs.2 (fun Z hZ hf => HOLD.out Z (by have := HB0.out.size; omega) hf) (But.five _ _ _ _ _)
  case first =>
    have X7 := Lib.hid (show w0.cell? ⟨w.heap.size, 0, none⟩ = some (.slice (some ⟨r.nb, 0, none⟩) r.n r.nc) ∧ w0.cell? ⟨w.heap.size, 1, none⟩ = some (.slice (some ⟨r.sb, 0, none⟩) r.n r.sc) ∧ w0.cell? ⟨w.heap.size, 2, none⟩ = some (.slice r.pa r.pend.length r.pc) ∧ w0.cell? ⟨w.heap.size, 3, none⟩ = some (.int .i64 r.writes) ∧ w0.cell? ⟨w.heap.size, 4, none⟩ = some (.int .i64 r.left) ∧ w0.cell? ⟨w.heap.size + 1, 1, none⟩ = some (.int .i64 A.i) ∧ w0.cell? ⟨w.heap.size + 1, 2, none⟩ = some (.string A.b) from ⟨HOB.out.r.1, HOB.out.r.2.1, HOB.out.r.2.2.1, HOB.out.r.2.2.2.1, HOB.out.r.2.2.2.2, HOB.out.a.2.1, HOB.out.a.2.2.1⟩)
    have b0 : Below w0.heap.size w0 w0.drew := (Below.refl _ _).drew
    go_region_held3 (fun w' => w'.cell? ⟨w.heap.size, 0, none⟩ = some (.slice (some ⟨r.nb, 0, none⟩) r.n r.nc) ∧ w'.cell? ⟨w.heap.size, 1, none⟩ = some (.slice (some ⟨r.sb, 0, none⟩) r.n r.sc) ∧ w'.cell? ⟨w.heap.size, 2, none⟩ = some (.slice r.pa r.pend.length r.pc) ∧ w'.cell? ⟨w.heap.size, 3, none⟩ = some (.int .i64 r.writes) ∧ w'.cell? ⟨w.heap.size, 4, none⟩ = some (.int .i64 r.left) ∧ w'.cell? ⟨w.heap.size + 1, 1, none⟩ = some (.int .i64 A.i) ∧ w'.cell? ⟨w.heap.size + 1, 2, none⟩ = some (.string A.b)) (first | with_reducible exact keep7 (by assumption) (by assumption) (by assumption) | with_reducible exact low7 (by assumption) X7.out | with_reducible exact low7 (Below.al (by assumption) _) X7.out | with_reducible exact low7 (Below.drew (Below.al (Below.refl _ _) _)) X7.out) (first | (go_at_call 22; (with_reducible refine (sector_al (w0 := w0) A.b (by have := HS.out; omega)).mono ?_); rintro e w6 ⟨rfl, b6, tz6⟩) | (go_at_call 22; refine (sector_from A.b _ (by assumption) (by have := HS.out; omega)).mono ?_; rintro e w5 ⟨rfl, b5⟩) | (go_at_call 27; (with_reducible refine (refwrite_al b5 HWI.out A.i (sec A.b)).mono ?_); rintro e w1 ⟨r1, rfl, g1, tz1, off1⟩; have n1 : w.heap.size ≠ w5.heap.size := (by have := HZ.out; have := b5.size; omega); have n2 : w.heap.size + 1 ≠ w5.heap.size := (by have := HZ.out; have := b5.size; omega); have b1 := g1.b; have G1 := Lib.hid g1; have TZ1 := Lib.hid tz1; have OF1 := Lib.hid off1; obtain ⟨⟨t0, t1, t2, t3, t4⟩, tf, _, _⟩ := tz1; clear g1 off1) | (go_at_call 27; (with_reducible refine (refwrite_tz b6 tz6 HWI.out A.i (sec A.b)).mono ?_); rintro e w1 ⟨r1, rfl, g1, tz1, off1⟩; have n1 : w.heap.size ≠ w0.heap.size := (by have := HZ.out; omega); have n2 : w.heap.size + 1 ≠ w0.heap.size := (by have := HZ.out; omega); have b1 := g1.b; have G1 := Lib.hid g1; have TZ1 := Lib.hid tz1; have OF1 := Lib.hid off1; obtain ⟨⟨t0, t1, t2, t3, t4⟩, tf, _, _⟩ := tz1; clear g1 off1) | (go_at_call 27; (with_reducible refine (refwrite_from b5 HWI.out A.i (sec A.b)).mono ?_); rintro e w1 ⟨r1, rfl, g1⟩; have b1 := g1.b; have G1 := Lib.hid g1; clear g1))
    all_goals go_wp2
    all_goals go_meet
    · exact ⟨_, r1, rfl, rfl, midT_new HH.out HB0.out HZ.out HOB.out G1.out, G1.out.no, G1.out.yes, G1.out.old⟩
    · exact ⟨_, r1, rfl, rfl, midT_set HH.out HB0.out HZ.out HOB.out G1.out TZ1.out OF1.out, G1.out.no, G1.out.yes, G1.out.old⟩
    · exact ⟨_, r1, rfl, rfl, midT_set HH.out HB0.out HZ.out HOB.out G1.out TZ1.out OF1.out, G1.out.no, G1.out.yes, G1.out.old⟩
end Go.Proofs.YtibopcbebcikbaaDoor

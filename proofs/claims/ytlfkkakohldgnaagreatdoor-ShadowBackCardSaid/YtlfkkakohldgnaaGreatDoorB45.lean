/-
  A PAGE READ: the walk of Read. Conditions: those that each lemma names.
  THE NUMBERS OF ALL PAGES: the walk of Pages. Conditions: those that each lemma names.
  NO SHADOW: of no disk, a small one, with no frames, or too many; none opened on a disk without roots: the walks of on, New and Open. Conditions: those that each lemma names.
  THE TABLES THAT A ROOT TELLS: the walk of tablesOf. Conditions: those that each lemma names.
  OPENED AGAIN, plainly; a map that is filled table by table. Conditions: those that each lemma names.
-/
import Derived.Shelf.SlIterI.Nil
import Derived.Shelf.SortM.Plain
import Derived.Shelf.SortM.SortNone
import Derived.Maps.AppendAt
import Derived.Test.YtlfkkakohldgnaaGreatDoorB43
import Derived.Test.YtlfkkakohldgnaaGreatDoorB44
namespace Go.Proofs.YtlfkkakohldgnaaGreatDoor.Sh
open Go.RowKit Go.Maps

def ErrR (w : World) (c : Int) (e : Ending) (w' : World) : Prop := e = .returned (.tuple #[zpv, .iface 78 (.int .i64 c)]) ∧ Below w.heap.size w w'
theorem below_set5 {n : Nat} {w w1 : World} {g : Nat} (h : Below n w w1) (hg : n ≤ g) (v0 v1 v2 v3 v4 : Value) : Below n w (((((w1.setCell ⟨g, 0, none⟩ v0).setCell ⟨g, 1, none⟩ v1).setCell ⟨g, 2, none⟩ v2).setCell ⟨g, 3, none⟩ v3).setCell ⟨g, 4, none⟩ v4) :=
  ((((h.setCell hg v0).setCell hg v1).setCell hg v2).setCell hg v3).setCell hg v4
set_option maxRecDepth 100000 in
set_option maxHeartbeats 1000000 in
theorem read_range {w : World} (P : Nat) (k : Int) (c7 : w.cell? ⟨P, 7, none⟩ = some (.bool false)) (h : k < 0 ∨ 15006 ≤ k) :
    Calls Tryz.prog 14 #[.pointer (some ⟨P, 0, none⟩), .int .i64 k] w (ErrR w 4) := by
  have HB := Lib.hid (Sm.alX w (.cells #[.int .u8 0, .int .u32 0, .int .u64 0, .int .i64 0, .slice none 0 0] 47))
  have d7 := (HB.out.cell (p := ⟨P, 7, none⟩) (World.block_lt_of_cell? w _ c7)).trans c7
  have HZ := Lib.hid (heap_alloc_new w (.cells #[.int .u8 0, .int .u32 0, .int .u64 0, .int .i64 0, .slice none 0 0] 47))
  clear c7
  obtain ⟨⟨z0, z1, z2, z3, z4⟩, t0, t1, t2, t3, t4⟩ := Sm.row_cells HZ.out
  go_enter Tryz.func14, Tryz.ntmps14
  go_upto_region 3 with (go_at_call 43; refine (number_range P k _ d7 h).mono ?_; rintro e w' ⟨rfl, rfl⟩)
  clear d7
  generalize w.alloc (.cells #[.int .u8 0, .int .u32 0, .int .u64 0, .int .i64 0, .slice none 0 0] 47) = w1 at HB HZ z0 z1 z2 z3 z4 t0 t1 t2 t3 t4 ⊢
  generalize hgz : w.heap.size = g at HZ z0 z1 z2 z3 z4 t0 t1 t2 t3 t4 ⊢
  go_wp2
  refine Sm.post_row_tmp Tryz.results14 g 47 #[.int .u8 0, .int .u32 0, .int .u64 0, .int .i64 0, .slice none 0 0] (0, 0) _ (.iface 78 (.int .i64 4)) Tryz.underlying47 rfl Sm.info_pg ?_ ?_ (Sm.row_set5 HZ.out _ _ _ _ _) ?_ ?_
  · rfl
  · rfl
  · rfl
  exact ⟨rfl, below_set5 HB.out (Nat.le_of_eq hgz) _ _ _ _ _⟩
set_option maxRecDepth 100000 in
set_option maxHeartbeats 1000000 in
theorem read_none {W w : World} {N : Nat} {σ : Sd} {Q : Nat → Prop} (h : Sh W N w σ Q) (hf : σ.fl = false) (k : Nat) (hk : k < 15006) (h0 : σ.nw k = 0) :
    Calls Tryz.prog 14 #[.pointer (some ⟨σ.P, 0, none⟩), .int .i64 k] w (ErrR w 8) := by
  have HB := Lib.hid (Sm.alX w (.cells #[.int .u8 0, .int .u32 0, .int .u64 0, .int .i64 0, .slice none 0 0] 47))
  have hs := h.below HB.out
  have d7 := hf ▸ hs.hd.c7
  have d2 := hs.hd.c2
  have l1 := look1 hs.vm hs.vf k hk
  rw [show decide (σ.nw k ≠ 0) = false from decide_eq_false (by simpa using h0)] at l1
  have HZ := Lib.hid (heap_alloc_new w (.cells #[.int .u8 0, .int .u32 0, .int .u64 0, .int .i64 0, .slice none 0 0] 47))
  have hk0 : (0 : Int) ≤ (k : Int) := by omega
  have hk1 : (k : Int) < 15006 := by omega
  clear h hs hf h0
  obtain ⟨⟨z0, z1, z2, z3, z4⟩, t0, t1, t2, t3, t4⟩ := Sm.row_cells HZ.out
  go_enter Tryz.func14, Tryz.ntmps14
  go_upto_region 6 with (go_at_call 43; refine (number_ok σ.P k _ d7 hk0 hk1).mono ?_; rintro e w' ⟨rfl, rfl⟩)
  clear d7 l1 d2
  generalize w.alloc (.cells #[.int .u8 0, .int .u32 0, .int .u64 0, .int .i64 0, .slice none 0 0] 47) = w1 at HB HZ z0 z1 z2 z3 z4 t0 t1 t2 t3 t4 ⊢
  generalize hgz : w.heap.size = g at HZ z0 z1 z2 z3 z4 t0 t1 t2 t3 t4 ⊢
  go_wp2
  refine Sm.post_row_tmp Tryz.results14 g 47 #[.int .u8 0, .int .u32 0, .int .u64 0, .int .i64 0, .slice none 0 0] (0, 0) _ (.iface 78 (.int .i64 8)) Tryz.underlying47 rfl Sm.info_pg ?_ ?_ (Sm.row_set5 HZ.out _ _ _ _ _) ?_ ?_
  · rfl
  · rfl
  · rfl
  exact ⟨rfl, below_set5 HB.out (Nat.le_of_eq hgz) _ _ _ _ _⟩
/-- a block that is none of its own turns -/
theorem Sh.other {W w w' : World} {N : Nat} {σ : Sd} {Q : Nat → Prop} (h : Sh W N w σ Q) {g : Nat} (hw : Wrt (isB g) w w') (hg : ¬ σ.all g) (ht : ∀ b o, σ.ta = some ⟨b, o, none⟩ → b ≠ g) (hW : W.heap.size ≤ g) : Sh W N w' σ Q := by
  have hb : ∀ b, b ≠ g → w'.heap[b]? = w.heap[b]? := fun b q => hw.block b q
  exact ⟨h.hd.same (hb _ (fun q => hg (.inl q.symm))), owns_same h.km (hb _ (fun q => hg (.inr (.inl q.symm)))), h.kf, owns_same h.vm (hb _ (fun q => hg (.inr (.inr (.inl q.symm))))), h.vf, ints_same h.ti (fun b o e => hb b (ht b o e)), h.sp.same (hb _ (fun q => hg (.inr (.inr (.inr (.inl q.symm)))))) (hb _ (fun q => hg (.inr (.inr (.inr (.inr (.inl q.symm))))))),
    h.ps.stp hw.stp (fun b hb2 q => hg (.inr (.inr (.inr (.inr (.inr (by rw [show b = g from q] at hb2; exact hb2))))))) (fun b q => by rw [show b = g from q]; exact hW),
    ⟨h.se.ne, h.se.nv, h.se.nh, h.se.lo, fun b o e => by obtain ⟨a1, a2, a3, a4, a5, a6, a7, a8⟩ := h.se.ta b o e; exact ⟨a1, a2, a3, a4, a5, a6, a7, by rw [hw.size]; exact a8⟩⟩, h.nb⟩
theorem wrt_set5 (w : World) (g : Nat) (v0 v1 v2 v3 v4 : Value) : Wrt (isB g) w (((((w.setCell ⟨g, 0, none⟩ v0).setCell ⟨g, 1, none⟩ v1).setCell ⟨g, 2, none⟩ v2).setCell ⟨g, 3, none⟩ v3).setCell ⟨g, 4, none⟩ v4) :=
  (((((Wrt.refl (isB g) w).set (show isB g g from rfl) 0 v0).set (show isB g g from rfl) 1 v1).set (show isB g g from rfl) 2 v2).set (show isB g g from rfl) 3 v3).set (show isB g g from rfl) 4 v4
theorem stp_wrt {w w1 w2 : World} {H H' : Nat → Prop} {g : Nat} (h : Stp w H w1 H') (k : Wrt (isB g) w1 w2) (hg : w.heap.size ≤ g) : Stp w H w2 H' :=
  ⟨k.os.trans h.os, k.tape.trans h.tape, k.output.trans h.output, by rw [k.size]; exact h.size, fun b hb hn => (k.block b (fun q => by have : b = g := q; omega)).trans (h.block b hb hn), h.own⟩
/-- behind a page that was looked at, and laid in a box -/
theorem read_tail {W w w0 w1 w2 w3 : World} {N M : Nat} {σ : Sd} {Q H' : Nat → Prop} (h : Sh W N w σ Q) (hb : Below w.heap.size w w0) (hg : w.heap.size < w0.heap.size) (hps : PS W M w1 σ.p σ.D σ.ct Q σ.n σ.m H') (hst : Stp w0 σ.H w1 H') (hM : N ≤ M) (hb2 : Below w1.heap.size w1 w2) {g : Nat} (hgz : w.heap.size = g) (hw : Wrt (isB g) w2 w3) :
    Sh W M w3 { σ with H := H' } Q ∧ Frm w w3 σ { σ with H := H' } := by
  subst hgz
  have hs0 := h.below hb
  have hs1 := hs0.pool hps hst hM
  have hs2 := hs1.below hb2
  have hF : Frm w w2 σ { σ with H := H' } := frm_trans (frm_trans (frm_below hb) (frm_pool (σ := σ) (ct' := σ.ct) hst)) (frm_below hb2)
  have hnH : ¬ H' w.heap.size := nh_stp hst hg (fun q => by have := (h.ps.lt _ q).2; omega)
  refine ⟨hs2.other hw (fun q => ?_) (fun b o e q => ?_) h.ps.b.size, stp_wrt hF hw (Nat.le_refl _)⟩
  · have l1 : σ.P < w.heap.size := World.block_lt_of_cell? w _ h.hd.c0
    have l2 := h.km.lt
    have l3 := h.vm.lt
    have l4 := h.sp.ltG
    have l5 := h.sp.ltT
    rcases q with q | q | q | q | q | q
    · have : w.heap.size = σ.P := q; omega
    · have : w.heap.size = σ.K := q; omega
    · have : w.heap.size = σ.V := q; omega
    · have : w.heap.size = σ.G := q; omega
    · have : w.heap.size = σ.T := q; omega
    · exact hnH q
  · have := (h.se.ta b o e).2.2.2.2.2.2.2
    omega
def RotR (W : World) (N : Nat) (w : World) (σ : Sd) (Q : Nat → Prop) (e : Ending) (w' : World) : Prop :=
  ∃ H', e = .returned (.tuple #[zpv, .iface 78 (.int .i64 7)]) ∧ Sh W N w' { σ with H := H' } Q ∧ Frm w w' σ { σ with H := H' }
set_option maxRecDepth 100000 in
set_option maxHeartbeats 2000000 in
theorem read_rot {W w : World} {N : Nat} {σ : Sd} {Q : Nat → Prop} (h : Sh W N w σ Q) (hfl : σ.fl = false) (k : Nat) (hk : k < 15006) (h0 : σ.nw k ≠ 0) (hq : σ.nw k < σ.n) (hg : goodT (σ.ct (σ.nw k)) = false) (hN : N + 2 < 2305843009213693952) :
    Calls Tryz.prog 14 #[.pointer (some ⟨σ.P, 0, none⟩), .int .i64 k] w (RotR W (N + 2) w σ Q) := by
  have HB := Lib.hid (Sm.alX w (.cells #[.int .u8 0, .int .u32 0, .int .u64 0, .int .i64 0, .slice none 0 0] 47))
  have HS := Lib.hid (h.below HB.out)
  have d7 : _ = some (Value.bool false) := hfl ▸ HS.out.hd.c7
  have d2 := HS.out.hd.c2
  have l1 := look1 HS.out.vm HS.out.vf k hk
  rw [show decide (σ.nw k ≠ 0) = true from decide_eq_true h0] at l1
  have HZ := Lib.hid (heap_alloc_new w (.cells #[.int .u8 0, .int .u32 0, .int .u64 0, .int .i64 0, .slice none 0 0] 47))
  have HH := Lib.hid (show ¬ σ.H w.heap.size from fun e => by have := (h.ps.lt _ e).2; omega)
  have hk0 : (0 : Int) ≤ (k : Int) := by omega
  have hk1 : (k : Int) < 15006 := by omega
  have HG := Lib.hid hg
  have HQ := Lib.hid hq
  have HW := Lib.hid h
  clear h h0 hg hq
  go_enter Tryz.func14, Tryz.ntmps14
  go_upto_region 8 with (first | (go_at_call 43; refine (number_ok σ.P k _ d7 hk0 hk1).mono ?_; rintro e w' ⟨rfl, rfl⟩) | (go_at_call 44; refine (look_bad σ.P HS.out.ps HS.out.hd.c0 (σ.nw k) HQ.out HG.out hN).mono ?_; rintro e w1 ⟨rfl, H', hps, hst⟩; have HP1 := Lib.hid hps; have HT1 := Lib.hid hst; clear hps hst; unfold zpv))
  have HB2 := Lib.hid (Sm.alX w1 (.cells #[.int .u8 0, .int .u32 0, .int .u64 0, .int .i64 0, .slice none 0 0] 47))
  have HZ2 := Lib.hid ((HB2.out.block w.heap.size (Nat.lt_of_lt_of_le (by simp) HT1.out.size)).trans ((HT1.out.block w.heap.size (by simp) HH.out).trans HZ.out))
  have x0 := (box_new w1 0 0 0 0 (.slice none 0 0)).f0
  have x1 := (box_new w1 0 0 0 0 (.slice none 0 0)).f1
  have x2 := (box_new w1 0 0 0 0 (.slice none 0 0)).f2
  have x3 := (box_new w1 0 0 0 0 (.slice none 0 0)).f3
  have x4 := (box_new w1 0 0 0 0 (.slice none 0 0)).f4
  clear d7 d2 l1
  generalize w1.alloc _ = w2 at HB2 HZ2 x0 x1 x2 x3 x4 ⊢
  generalize hgz : w.heap.size = g at HZ2 ⊢
  obtain ⟨⟨z0, z1, z2, z3, z4⟩, t0, t1, t2, t3, t4⟩ := Sm.row_cells HZ2.out
  go_wp2_with (go_at_call 45; refine (is_73 _).mono ?_; rintro e w' ⟨rfl, rfl⟩)
  refine Sm.post_row_tmp Tryz.results14 g 47 #[.int .u8 0, .int .u32 0, .int .u64 0, .int .i64 0, .slice none 0 0] (0, 0) _ (.iface 78 (.int .i64 7)) Tryz.underlying47 rfl Sm.info_pg ?_ ?_ (Sm.row_set5 HZ2.out _ _ _ _ _) ?_ ?_
  · rfl
  · rfl
  · rfl
  obtain ⟨a1, a2⟩ := read_tail HW.out HB.out (by simp) HP1.out HT1.out (by omega) HB2.out hgz (wrt_set5 _ _ _ _ _ _ _)
  exact ⟨H', rfl, a1, a2⟩
def GotR (W : World) (N : Nat) (w : World) (σ : Sd) (Q : Nat → Prop) (pg : Sm.Pg) (e : Ending) (w' : World) : Prop :=
  ∃ ra cap H' B C, e = .returned (.tuple #[.agg #[.int .u8 pg.kind, .int .u32 pg.number, .int .u64 pg.epoch, .int .i64 pg.size, .slice ra pg.recs.length cap], .nilIface]) ∧ Sh W N w' { σ with H := H' } Q ∧ Frm w w' σ { σ with H := H' } ∧ w.heap.size < B ∧ B ≤ C ∧ C ≤ w'.heap.size ∧ OwnIn B C w' (.slice ra pg.recs.length cap) pg.recs.length pg.recs
set_option maxRecDepth 100000 in
set_option maxHeartbeats 2000000 in
theorem read_ok {W w : World} {N : Nat} {σ : Sd} {Q : Nat → Prop} (h : Sh W N w σ Q) (hfl : σ.fl = false) (k : Nat) (hk : k < 15006) (h0 : σ.nw k ≠ 0) (hq : σ.nw k < σ.n) (pg : Sm.Pg) (hp : PgOk pg) (hn : pg.number = (k : Int)) (hg : σ.ct (σ.nw k) = bt pg) (hN : N + 2 < 2305843009213693952) :
    Calls Tryz.prog 14 #[.pointer (some ⟨σ.P, 0, none⟩), .int .i64 k] w (GotR W (N + 2) w σ Q pg) := by
  have HB := Lib.hid (Sm.alX w (.cells #[.int .u8 0, .int .u32 0, .int .u64 0, .int .i64 0, .slice none 0 0] 47))
  have HS := Lib.hid (h.below HB.out)
  have d7 : _ = some (Value.bool false) := hfl ▸ HS.out.hd.c7
  have d2 := HS.out.hd.c2
  have l1 := look1 HS.out.vm HS.out.vf k hk
  rw [show decide (σ.nw k ≠ 0) = true from decide_eq_true h0] at l1
  have HZ := Lib.hid (heap_alloc_new w (.cells #[.int .u8 0, .int .u32 0, .int .u64 0, .int .i64 0, .slice none 0 0] 47))
  have HH := Lib.hid (show ¬ σ.H w.heap.size from fun e => by have := (h.ps.lt _ e).2; omega)
  have hk0 : (0 : Int) ≤ (k : Int) := by omega
  have hk1 : (k : Int) < 15006 := by omega
  have HG := Lib.hid hg
  have HQ := Lib.hid hq
  have HPG := Lib.hid hp
  have HNM := Lib.hid hn
  have HW := Lib.hid h
  clear h h0 hg hq hp hn
  go_enter Tryz.func14, Tryz.ntmps14
  go_upto_region 8 with (first | (go_at_call 43; refine (number_ok σ.P k _ d7 hk0 hk1).mono ?_; rintro e w' ⟨rfl, rfl⟩) | (go_at_call 44; refine (look_page σ.P HS.out.ps HS.out.hd.c0 (σ.nw k) HQ.out pg HPG.out HG.out hN).mono ?_; rintro e w1 ⟨ra, cap, H', rfl, hps, hst, B, hB, hC, _, how⟩; have HP1 := Lib.hid hps; have HT1 := Lib.hid hst; have HOW := Lib.hid how; have HBC := Lib.hid (And.intro hB hC); clear hps hst how hB hC; unfold pv))
  have HB2 := Lib.hid (Sm.alX w1 (.cells #[.int .u8 pg.kind, .int .u32 pg.number, .int .u64 pg.epoch, .int .i64 pg.size, .slice ra pg.recs.length cap] 47))
  have HZ2 := Lib.hid ((HB2.out.block w.heap.size (Nat.lt_of_lt_of_le (by simp) HT1.out.size)).trans ((HT1.out.block w.heap.size (by simp) HH.out).trans HZ.out))
  have x0 := (box_new w1 pg.kind pg.number pg.epoch pg.size (.slice ra pg.recs.length cap)).f0
  have x1 := (box_new w1 pg.kind pg.number pg.epoch pg.size (.slice ra pg.recs.length cap)).f1
  have x2 := (box_new w1 pg.kind pg.number pg.epoch pg.size (.slice ra pg.recs.length cap)).f2
  have x3 := (box_new w1 pg.kind pg.number pg.epoch pg.size (.slice ra pg.recs.length cap)).f3
  have x4 := (box_new w1 pg.kind pg.number pg.epoch pg.size (.slice ra pg.recs.length cap)).f4
  clear d7 d2 l1
  generalize w1.alloc _ = w2 at HB2 HZ2 x0 x1 x2 x3 x4 ⊢
  rw [HNM.out] at x1
  generalize hgz : w.heap.size = g at HZ2 ⊢
  obtain ⟨⟨z0, z1, z2, z3, z4⟩, t0, t1, t2, t3, t4⟩ := Sm.row_cells HZ2.out
  go_wp2_with (go_at_call 45; refine (is_nil 3 _).mono ?_; rintro e w' ⟨rfl, rfl⟩)
  refine Sm.post_row_tmp Tryz.results14 g 47 #[.int .u8 pg.kind, .int .u32 k, .int .u64 pg.epoch, .int .i64 pg.size, .slice ra pg.recs.length cap] (0, 0) _ .nilIface Tryz.underlying47 rfl Sm.info_pg ?_ ?_ (Sm.row_set5 HZ2.out _ _ _ _ _) ?_ ?_
  · rfl
  · rfl
  · rfl
  have hw := wrt_set5 w2 g (.int .u8 pg.kind) (.int .u32 k) (.int .u64 pg.epoch) (.int .i64 pg.size) (.slice ra pg.recs.length cap)
  obtain ⟨a1, a2⟩ := read_tail HW.out HB.out (by simp) HP1.out HT1.out (by omega) HB2.out hgz hw
  have hbc := HBC.out.1
  have hs0 : (w.alloc (.cells #[.int .u8 0, .int .u32 0, .int .u64 0, .int .i64 0, .slice none 0 0] 47)).heap.size = w.heap.size + 1 := by simp
  exact ⟨ra, cap, H', B, w1.heap.size, by rw [HNM.out], a1, a2, by omega, HBC.out.2, by rw [hw.size]; exact HB2.out.size, HOW.out.step fun j h1 h2 => (hw.block j (fun q => by have : j = g := q; omega)).trans (HB2.out.block j h2)⟩
end Go.Proofs.YtlfkkakohldgnaaGreatDoor.Sh
namespace Go.Proofs.YtlfkkakohldgnaaGreatDoor.Sh
open Go.RowKit Go.Maps Go.Sort Go.Shelf

theorem sortsA (m : Nat) : AnyZI.SortsIn Tryz.prog Tryz.sortedA_ren Fence.wide m :=
  ⟨fun blk off cap ss W hH hblk hsz => callsIn_wide.2 (AnyM.slices_Sort_int Tryz.sortA blk off cap ss W hH hblk hsz),
   fun p cap W => callsIn_wide.2 (AnyM.slices_Sort_int_none Tryz.sortA p cap W)⟩
theorem owns_size {w : World} {M n : Nat} {D : DataW Unit} (h : Owns w M n D) : Maps.size D ≤ n := by
  obtain ⟨es, clock, hb, F, hs, rfl⟩ := h
  rw [Maps.size_eq, length_sorted]
  simpa using hs
def PagesA (w : World) (D : DataW Unit) (e : Ending) (w' : World) : Prop :=
  ∃ (v : Value) (ss : List Int), e = .returned v ∧ ss.Perm (intKeys D) ∧ w'.ownsRow w.heap.size 3 1 v ss.length ((ss.mergeSort (fun x y => decide (x ≤ y))).map encZ) ∧ (v = .slice none 0 0 ↔ ss = []) ∧ Below w.heap.size w w'
set_option maxRecDepth 100000 in
set_option maxHeartbeats 2000000 in
theorem pages_raw (P V nn : Nat) (D0 : DataW Unit) (w : World) (c2 : w.cell? ⟨P, 2, none⟩ = some (.map (some V))) (hown : Owns w V nn D0) (hmax : Maps.size D0 ≤ maxLen) (hbytes : Maps.size D0 * 8 ≤ 140737488355328) :
    Calls Tryz.prog 25 #[.pointer (some ⟨P, 0, none⟩)] w (PagesA w D0) := by
  refine (callsIn_wide (n := 6)).1 ?_
  have hbl := hown.lt
  have hseq : SeqGives Fence.wide 2 Tryz.prog 99 #[.pointer (some ⟨w.heap.size, 0, none⟩)] encZ (fun ss => ss.Perm (intKeys D0)) (Maps.size D0) (w.alloc (.cells #[.map (some V)] 100)) :=
    AnyZI.keys_gives (ρ := Tryz.keysA_ren) { Tryz.keysA with } Fence.wide _ trivial rfl (by omega) w.heap.size V nn D0 _ (by simp) (by simp) (by
      obtain ⟨es, clock, hb, Ft, hs, hD⟩ := hown
      exact ⟨es, clock, (Below.heap_alloc _ _ V hbl).trans hb, Ft, hs, hD⟩)
  have cK : ∀ mb W, CallsIn Fence.wide 5 Tryz.prog 62 #[.map mb] W fun e w' => e = .returned (.func (.func 99) #[] #[.pointer (some ⟨W.heap.size, 0, none⟩)]) ∧ w' = W.alloc (.cells #[.map mb] 100) := fun mb W => AnyZI.keys_in Tryz.keysA Fence.wide 5 trivial rfl mb W
  have cS := AnyZI.sorted_in Tryz.sortedA Fence.wide 5 trivial trivial trivial trivial rfl (by omega) (sortsA _) (enters_of Tryz.func98 (by kernel_rfl) rfl) 99 #[.pointer (some ⟨w.heap.size, 0, none⟩)] trivial (enters_of Tryz.func99 (by kernel_rfl) rfl) _ _ hmax hbytes _ hseq
  change CallsIn _ _ Tryz.prog 61 _ _ _ at cS
  have hfK : Fence.wide.fn 62 := trivial
  have hfS : Fence.wide.fn 61 := trivial
  refine callsIn_of_wp Tryz.func25 rfl trivial ?_ rfl
  simp only [Tryz.ntmps25, List.size_toArray, List.length_cons, List.length_nil, Nat.reduceAdd, Nat.reduceSub, Array.replicate_succ, Array.replicate_zero, List.push_toArray, List.append_toArray, List.nil_append, List.cons_append]
  gi_wp2_with (first
    | (gi_at_call 62; refine (cK _ _).mono ?_; rintro e w' ⟨rfl, rfl⟩)
    | (gi_at_call 61; refine cS.mono ?_; rintro e w' ⟨v, ss, rfl, hS, hrow, hnil, hb⟩))
  go_ret
  exact ⟨v, ss, rfl, hS, ownsRow_base_a hrow (by simp), hnil, ((Below.refl _ w).alloc (Nat.le_refl _) _).trans (hb.mono (by simp))⟩
/-- the numbers where something is, ascending -/
def kl (f : Nat → Nat) : List Nat := (List.range 15006).filter fun k => decide (f k ≠ 0)
theorem kl_mem {f : Nat → Nat} (h : ∀ k, f k ≠ 0 → k < 15006) (k : Nat) : k ∈ kl f ↔ f k ≠ 0 := by
  unfold kl
  rw [List.mem_filter, List.mem_range, decide_eq_true_eq]
  exact ⟨fun q => q.2, fun q => ⟨h k q, q⟩⟩
theorem kl_sorted (f : Nat → Nat) : (zl (kl f)).Pairwise (fun a b => leI a b = true) := by
  unfold zl kl
  rw [List.pairwise_map]
  refine (List.pairwise_lt_range.filter _).imp ?_
  intro a b hab
  simp only [leI, decide_eq_true_eq]
  omega
theorem kl_nodup (f : Nat → Nat) : (zl (kl f)).Nodup := by
  unfold zl kl
  refine List.pairwise_map.2 ((List.pairwise_lt_range.filter _).imp ?_)
  intro a b hab e
  have : (a : Int) = (b : Int) := e
  omega
theorem keys_perm {w : World} {b n : Nat} {D : DataW Unit} {f : Nat → Nat} (h : Owns w b n D) (hf : MpF f D) : (zl (kl f)).Perm (intKeys D) := by
  refine CollectedI.perm (left := fun _ => false) ⟨kl_nodup f, fun x => ?_⟩ h klaw Tryz.underlying3 (fun _ => rfl)
  rw [hf.has x]
  constructor
  · intro q
    unfold zl at q
    rw [List.mem_map] at q
    obtain ⟨k, hk, rfl⟩ := q
    exact ⟨⟨k, rfl, (kl_mem hf.bnd k).1 hk⟩, rfl⟩
  · rintro ⟨⟨k, rfl, hk⟩, _⟩
    exact List.mem_map.2 ⟨k, (kl_mem hf.bnd k).2 hk, rfl⟩
theorem leI_sorted {l m : List Int} (hl : l.Pairwise (fun a b => leI a b = true)) (h : m.Perm l) : m.mergeSort leI = l := by
  have tr : ∀ a b c : Int, leI a b = true → leI b c = true → leI a c = true := fun a b c h1 h2 => by simp only [leI, decide_eq_true_eq] at *; exact Int.le_trans h1 h2
  have tot : ∀ a b : Int, (leI a b || leI b a) = true := fun a b => by simp only [leI, Bool.or_eq_true, decide_eq_true_eq]; exact Int.le_total a b
  refine List.Perm.eq_of_pairwise (le := fun a b => leI a b = true) (fun a b _ _ h1 h2 => ?_) (List.pairwise_mergeSort tr tot m) hl ((List.mergeSort_perm m leI).trans h)
  simp only [leI, decide_eq_true_eq] at h1 h2
  exact Int.le_antisymm h1 h2
def PagesL (w : World) (l : List Nat) (e : Ending) (w' : World) : Prop :=
  ∃ ao cap, e = .returned (.slice ao l.length cap) ∧ Ints w' ao (zl l) ∧ Below w.heap.size w w' ∧ ∀ b o, ao = some ⟨b, o, none⟩ → w.heap.size ≤ b ∧ b < w'.heap.size
theorem pages_any {W w : World} {N : Nat} {σ : Sd} {Q : Nat → Prop} (h : Sh W N w σ Q) (hN : N * 8 ≤ 140737488355328) :
    Calls Tryz.prog 25 #[.pointer (some ⟨σ.P, 0, none⟩)] w (PagesL w (kl σ.nw)) := by
  have hs := owns_size h.vm
  have hn := h.nb.2
  refine (pages_raw σ.P σ.V σ.nV σ.DV w h.hd.c2 h.vm (by unfold maxLen; omega) (by omega)).mono ?_
  rintro e w' ⟨v, ss, rfl, hp, hr, _, hb⟩
  have hpp : ss.Perm (zl (kl σ.nw)) := hp.trans (keys_perm h.vm h.vf).symm
  have hl : ss.length = (kl σ.nw).length := by rw [hpp.length_eq, zl_len]
  rw [leI_sorted (kl_sorted σ.nw) hpp, hl] at hr
  obtain ⟨ao, cap, rfl, hx, _⟩ := own_ints (xs := zl (kl σ.nw)) hr
  refine ⟨ao, cap, rfl, hx, hb, fun b o e => ?_⟩
  subst e
  exact hr.lt b rfl
end Go.Proofs.YtlfkkakohldgnaaGreatDoor.Sh
namespace Go.Proofs.YtlfkkakohldgnaaGreatDoor.Sh
open Go.RowKit Go.Maps

theorem size_none (w : World) : Calls Tryz.prog 71 #[.pointer none] w fun e w' => e = .returned (.int .i64 0) ∧ w = w' := by
  go_enter Tryz.func71, Tryz.ntmps71
  go_wp2
  go_ret
  exact ⟨rfl, rfl⟩
def NoS (w : World) (e : Ending) (w' : World) : Prop := e = .returned (.tuple #[.pointer none, .iface 78 (.int .i64 1)]) ∧ w = w'
/-- what `on` refuses -/
def OnNo (d : Value) (m : Int) (w : World) : Prop := Calls Tryz.prog 34 #[d, .int .i64 m] w (NoS w)
theorem on_nil (m : Int) (w : World) : OnNo (.pointer none) m w := by
  unfold OnNo
  go_enter Tryz.func34, Tryz.ntmps34
  go_wp2_with (go_at_call 71; refine (size_none _).mono ?_; rintro e w' ⟨rfl, rfl⟩)
  go_ret2
  exact ⟨rfl, rfl⟩
theorem on_small {W w : World} {D n N : Nat} {ct : Nat → ByteArray} {H : Nat → Prop} (m : Int) (h : DkS W w D n ct N H) (h4 : n < 4) : OnNo (.pointer (some ⟨D, 0, none⟩)) m w := by
  unfold OnNo
  have HD := Lib.hid h
  have hn : (n : Int) < 4 := by omega
  clear h
  go_enter Tryz.func34, Tryz.ntmps34
  go_wp2_with (go_at_call 71; refine (dks_size HD.out).mono ?_; rintro e w' ⟨rfl, rfl⟩)
  go_ret2
  exact ⟨rfl, rfl⟩
theorem on_frames {W w : World} {D n N : Nat} {ct : Nat → ByteArray} {H : Nat → Prop} (m : Int) (h : DkS W w D n ct N H) (h4 : 4 ≤ n) (hm : m < 1 ∨ 1024 < m) : OnNo (.pointer (some ⟨D, 0, none⟩)) m w := by
  unfold OnNo
  have HD := Lib.hid h
  have HM := Lib.hid hm
  have hn : ¬ (n : Int) < 4 := by omega
  clear h hm
  go_enter Tryz.func34, Tryz.ntmps34
  go_wp2_with (first | (go_at_call 71; refine (dks_size HD.out).mono ?_; rintro e w' ⟨rfl, rfl⟩) | (go_at_call 72; refine (newp_no _ m _ (.inr ⟨⟨D, rfl⟩, HM.out⟩)).mono ?_; rintro e w' ⟨rfl, rfl⟩))
  go_ret2
  exact ⟨rfl, rfl⟩
theorem new_no {d : Value} {m : Int} {w : World} (h : OnNo d m w) : Calls Tryz.prog 11 #[d, .int .i64 m] w (NoS w) := by
  have HO := Lib.hid h
  clear h
  go_enter Tryz.func11, Tryz.ntmps11
  go_wp2_with (go_at_call 34; refine HO.out.mono ?_; rintro e w' ⟨rfl, rfl⟩)
  go_ret2
  exact ⟨rfl, rfl⟩
theorem open_no {d : Value} {m : Int} {w : World} (h : OnNo d m w) : Calls Tryz.prog 17 #[d, .int .i64 m] w (NoS w) := by
  have HO := Lib.hid h
  clear h
  go_enter Tryz.func17, Tryz.ntmps17
  go_wp2_with (go_at_call 34; refine HO.out.mono ?_; rintro e w' ⟨rfl, rfl⟩)
  go_ret2
  exact ⟨rfl, rfl⟩
/-- a disk without roots -/
def NoRoot (W : World) (N : Nat) (w : World) (D : Nat) (ct : Nat → ByteArray) (n m : Nat) (Hd : Nat → Prop) (e : Ending) (w' : World) : Prop :=
  ∃ p H', e = .returned (.tuple #[.pointer none, .iface 78 (.int .i64 8)]) ∧ PS W N w' p D ct (fun _ => True) n m H' ∧ Stp w Hd w' H'
theorem on_stp {W w w1 : World} {D n m N : Nat} {ct : Nat → ByteArray} {Hd H : Nat → Prop} {P p K G T : Nat} (h : OnAt W N w w1 D ct n m Hd P p K G T H) : Stp w Hd w1 H :=
  ⟨h.b.os, h.b.tape, h.b.output, h.b.size, fun k hk _ => h.b.block k hk, h.own⟩
set_option maxRecDepth 100000 in
set_option maxHeartbeats 1000000 in
theorem open_none {W w : World} {D n N : Nat} {ct : Nat → ByteArray} {Hd : Nat → Prop} (m : Nat) (h : DkS W w D n ct N Hd) (hHd : ∀ k, Hd k → k < w.heap.size) (h4 : 4 ≤ n) (hn : n ≤ 16384) (h1 : 1 ≤ m) (h2 : m ≤ 1024) (h0 : goodT (ct 0) = false) (h01 : goodT (ct 1) = false) (hN : N + 10000 < 2305843009213693952) :
    Calls Tryz.prog 17 #[.pointer (some ⟨D, 0, none⟩), .int .i64 (m : Int)] w (NoRoot W (N + 4) w D ct n m Hd) := by
  have HD := Lib.hid h
  have HHD := Lib.hid hHd
  have HST := Lib.hid (show ∀ r, r < 2 → Rt ct r ((fun _ => none : Nat → Option (Nat × List Nat)) r) from fun r hr => by
    rcases (show r = 0 ∨ r = 1 by omega) with rfl | rfl
    · exact h0
    · exact h01)
  clear h hHd h0 h01
  go_enter Tryz.func17, Tryz.ntmps17
  go_wp2_with fail
  refine (on_any m HD.out HHD.out h4 hn h1 h2).mono ?_
  rintro e w1 ⟨P, p, K, G, T, H, rfl, hon⟩
  have HON := Lib.hid hon
  clear hon
  go_wp2_with fail
  refine (newest_any P HON.out.ps HON.out.hd.c0 HON.out.nh.1 (by omega) _ HST.out (by omega)).mono ?_
  rintro e w2 ⟨ra, cap, H2, B, C, rfl, _, _, _, _, hps, hst⟩
  have HP2 := Lib.hid hps
  have HT2 := Lib.hid ((on_stp HON.out).trans hst)
  rw [show best (fun _ => none : Nat → Option (Nat × List Nat)) 2 = none from rfl]
  clear hps hst
  unfold pv
  go_wp2
  go_ret2
  exact ⟨p, H2, rfl, HP2.out.below (Sm.alX w2 _), HT2.out.trans (.of_below (H := H2) (Sm.alX w2 _))⟩
end Go.Proofs.YtlfkkakohldgnaaGreatDoor.Sh
namespace Go.Proofs.YtlfkkakohldgnaaGreatDoor.Sh
open Go.RowKit Go.Maps

/-- records that lie in blocks of which none is S's -/
def Safe (w : World) (S : Nat → Prop) (v : Value) (n : Nat) (rs : List (List Int)) : Prop := ∃ B C, OwnIn B C w v n rs ∧ C ≤ w.heap.size ∧ ∀ k, B ≤ k → k < C → ¬ S k
theorem Safe.mono {w w' : World} {S S' : Nat → Prop} {v : Value} {n : Nat} {rs : List (List Int)} (h : Safe w S v n rs) (hb : ∀ k, k < w.heap.size → ¬ S k → w'.heap[k]? = w.heap[k]?) (hs : w.heap.size ≤ w'.heap.size) (hS : ∀ k, k < w.heap.size → S' k → S k) : Safe w' S' v n rs := by
  obtain ⟨B, C, h1, h2, h3⟩ := h
  exact ⟨B, C, h1.step fun k a b => hb k (by omega) (h3 k a b), by omega, fun k a b q => h3 k a b (hS k (by omega) q)⟩
theorem Safe.now {w : World} {S : Nat → Prop} {v : Value} {n : Nat} {rs : List (List Int)} (h : Safe w S v n rs) : ∃ B, Sm.OwnRecs B w v n rs := by
  obtain ⟨B, C, h1, _⟩ := h
  exact ⟨B, h1.now⟩
/-- the cells of k tables' pages -/
def cellsF (e : Nat) (g : Nat → Option Addr × Nat) : Nat → List Value
  | 0 => []
  | k + 1 => cellsF e g k ++ [.int .u8 84, .int .u32 (k : Int), .int .u64 (e : Int), .int .i64 4, .slice (g k).1 123 (g k).2]
theorem cellsF_upd (e : Nat) (g : Nat → Option Addr × Nat) (x : Option Addr × Nat) (n : Nat) : ∀ k, k ≤ n → cellsF e (fun j => if j = n then x else g j) k = cellsF e g k
  | 0, _ => rfl
  | k + 1, h => by
    show cellsF e _ k ++ _ = cellsF e g k ++ _
    rw [cellsF_upd e g x n k (by omega)]
    simp only [if_neg (show ¬ k = n by omega)]
theorem own_of_block {w w' : World} {B : Nat} {e : TypeId} {s : Nat} {v : Value} {n : Nat} {xs : List Value} (h : w.ownsRow B e s v n xs) (hb : ∀ b, v.ownBlock = some b → w'.heap[b]? = w.heap[b]?) : w'.ownsRow B e s v n xs := by
  obtain ⟨hl, h⟩ := h
  refine ⟨hl, ?_⟩
  rcases h with ⟨rfl, h0⟩ | ⟨g, cap, cur, rfl, h1, hg, rest⟩
  · exact .inl ⟨rfl, h0⟩
  · exact .inr ⟨g, cap, cur, rfl, h1, (hb g rfl).trans hg, rest⟩
theorem row5_cells (w : World) (a b c d e : Value) (t : TypeId) : ∀ j u, [a, b, c, d, e][j]? = some u → (w.alloc (.cells #[a, b, c, d, e] t)).cell? ((⟨w.heap.size, 0, none⟩ : Addr).add j) = some u := by
  intro j u hj
  rw [show (⟨w.heap.size, 0, none⟩ : Addr).add j = ⟨w.heap.size, j, none⟩ from by simp [Addr.add]; omega]
  rw [cell_of_row _ _ j _ _ _ (heap_alloc_new w _)]
  simpa using hj
/-- a page's cells, in a row -/
structure Box0 (w : World) (g o : Nat) (ki nu ep si : Int) (v : Value) : Prop where
  f0 : w.cell? ⟨g, o, none⟩ = some (.int .u8 ki)
  f1 : w.cell? ⟨g, o + 1, none⟩ = some (.int .u32 nu)
  f2 : w.cell? ⟨g, o + 2, none⟩ = some (.int .u64 ep)
  f3 : w.cell? ⟨g, o + 3, none⟩ = some (.int .i64 si)
  f4 : w.cell? ⟨g, o + 4, none⟩ = some v
def TabsR (w : World) (base : Nat) (H : Nat → Prop) (v : Value) (e : Nat) (f : Nat → Nat) (k : Nat) : Prop :=
  ∃ g : Nat → Option Addr × Nat, w.ownsRow base 47 5 v k (cellsF e g k) ∧ (∀ b, v.ownBlock = some b → ¬ H b) ∧ ∀ i, i < k → Safe w (fun b => H b ∨ v.ownBlock = some b ∨ b < base) (.slice (g i).1 123 (g i).2) 123 ((tbl f i).map rec4)
theorem stp_grown {w0 w w' : World} {H H' : Nat → Prop} {r : Option Nat} (h : Stp w0 H w H') (g : w.grownBy w' r) (hr : ∀ b, r = some b → w0.heap.size ≤ b) : Stp w0 H w' H' :=
  ⟨g.os.trans h.os, g.tape.trans h.tape, g.output.trans h.output, Nat.le_trans h.size g.size, fun k hk hn => (g.block k (Nat.lt_of_lt_of_le hk h.size) (fun e => by have := hr k e.symm; omega)).trans (h.block k hk hn), h.own⟩
def ownB (r : Option Nat) (b : Nat) : Prop := r = some b
theorem stp_own {w w' : World} {r : Option Nat} (g : w.grownBy w' r) : Stp w (ownB r) w' (ownB r) :=
  ⟨g.os, g.tape, g.output, g.size, fun k hk hn => g.block k hk (fun e => hn e.symm), fun _ q => .inl q⟩
structure ToRel (W : World) (N : Nat) (w1 wr : World) (p D : Nat) (ct : Nat → ByteArray) (Q : Nat → Prop) (n m : Nat) (H : Nat → Prop) (e : Nat) (f : Nat → Nat) (k : Nat) (v : Value) (H' : Nat → Prop) : Prop where
  ps : PS W (N + 2 * k) wr p D ct Q n m H'
  st : Stp w1 H wr H'
  tr : TabsR wr w1.heap.size H' v e f k
def TabsE (W : World) (N : Nat) (w : World) (p D : Nat) (ct : Nat → ByteArray) (Q : Nat → Prop) (n m : Nat) (H : Nat → Prop) (e : Nat) (f : Nat → Nat) (k : Nat) (e' : Ending) (w' : World) : Prop :=
  ∃ v H' base, e' = .returned (.tuple #[v, .nilIface]) ∧ PS W (N + 2 * k) w' p D ct Q n m H' ∧ Stp w H w' H' ∧ w.heap.size ≤ base ∧ TabsR w' base H' v e f k
def Look4 (W : World) (N : Nat) (w : World) (p D : Nat) (ct : Nat → ByteArray) (Q : Nat → Prop) (n m : Nat) (H : Nat → Prop) (i e : Nat) (f : Nat → Nat) (e' : Ending) (w' : World) : Prop :=
  ∃ ra cap H', e' = .returned (.tuple #[.agg #[.int .u8 84, .int .u32 (i : Int), .int .u64 (e : Int), .int .i64 4, .slice ra 123 cap], .nilIface]) ∧ PS W N w' p D ct Q n m H' ∧ Stp w H w' H' ∧ ∃ B, w.heap.size < B ∧ B ≤ w'.heap.size ∧ (∀ k, H' k → k < B) ∧ OwnIn B w'.heap.size w' (.slice ra 123 cap) 123 ((tbl f i).map rec4)
theorem look4 {W w : World} {N p D n m : Nat} {ct : Nat → ByteArray} {Q H : Nat → Prop} (P : Nat) (h : PS W N w p D ct Q n m H) (c0 : w.cell? ⟨P, 0, none⟩ = some (.pointer (some ⟨p, 0, none⟩))) (q : Nat) (hq : q < n) (i e : Nat) (f : Nat → Nat) (hi : i < 122) (he : e < 4611686018427387904) (hct : ct q = bt (pg4 84 (i : Int) (e : Int) (tbl f i))) (hN : N + 2 < 2305843009213693952) :
    Calls Tryz.prog 44 #[.pointer (some ⟨P, 0, none⟩), .int .i64 q] w (Look4 W (N + 2) w p D ct Q n m H i e f) := by
  have hl : (pg4 84 (i : Int) (e : Int) (tbl f i)).recs.length = 123 := by simp [pg4, tbl_len]
  refine (look_page P h c0 q hq _ (pg4_ok 84 (i : Int) (e : Int) (tbl f i) (by rw [tbl_len]; decide) (by decide) (by decide) (by omega) (by omega) (by omega) (by omega)) hct hN).mono ?_
  rintro e' w' ⟨ra, cap, H', rfl, hps, hst, B, b1, b2, b3, b4⟩
  rw [hl] at b4 ⊢
  exact ⟨ra, cap, H', rfl, hps, hst, B, b1, b2, b3, b4⟩
set_option maxRecDepth 100000 in
theorem info_pg5 : (Tryz.prog.info? 47).map (fun i => (i.zero, i.size, i.bytes)) = some (some zpv, 5, 48) := by kernel_rfl
set_option maxRecDepth 100000 in
set_option maxHeartbeats 4000000 in
theorem tablesOf_any {W w : World} {N p D n m : Nat} {ct : Nat → ByteArray} {Q H : Nat → Prop} (P : Nat) (h : PS W N w p D ct Q n m H) (c0 : w.cell? ⟨P, 0, none⟩ = some (.pointer (some ⟨p, 0, none⟩))) (hPH : ¬ H P) (ki nu ep si : Int) (ra : Option Addr) (k0 cap : Nat) (tb : List Nat) (hk : tb.length = k0) (hr : Sm.Recs w ra (tb.map rec4)) (h122 : k0 ≤ 122) (hx : ∀ x ∈ tb, x < n) (hn : n ≤ 16384) (e : Nat) (he : e < 4611686018427387904) (f : Nat → Nat) (htt : ∀ i (h : i < tb.length), ct tb[i] = bt (pg4 84 (i : Int) (e : Int) (tbl f i))) (hN : N + 1000 < 2305843009213693952) :
    Calls Tryz.prog 48 #[.pointer (some ⟨P, 0, none⟩), .agg #[.int .u8 ki, .int .u32 nu, .int .u64 ep, .int .i64 si, .slice ra k0 cap]] w (TabsE W N w p D ct Q n m H e f k0) := by
  have HB := Lib.hid (Sm.alX w (.cells #[.int .u8 ki, .int .u32 nu, .int .u64 ep, .int .i64 si, .slice ra k0 cap] 47))
  have HS := Lib.hid (h.below HB.out)
  have HR := Lib.hid (hr.below HB.out)
  have HK := Lib.hid hk
  have HX := Lib.hid hx
  have HTT := Lib.hid htt
  have HPH := Lib.hid hPH
  have HC0 := Lib.hid ((HB.out.cell (p := ⟨P, 0, none⟩) (World.block_lt_of_cell? w _ c0)).trans c0)
  have HHL := Lib.hid (fun b (q : H b) => (h.lt b q).2)
  obtain ⟨i0, hi, hz0, hz1, hz2⟩ := info_parts info_pg5
  have HI := Lib.hid hi
  have HI0 := Lib.hid hz0
  have HI1 := Lib.hid hz1
  have HI2 := Lib.hid hz2
  clear h hr hk hx htt hPH c0 hi hz0 hz1 hz2
  go_enter Tryz.func48, Tryz.ntmps48
  go_wp2_with fail
  refine (told_any ki nu ep si ra k0 cap tb _ HK.out HR.out (fun x hx => by have := HX.out x hx; omega) (by omega)).mono ?_
  intro e' w1 hlo
  obtain ⟨ao, ac, rfl, hxi, _, hb1, hao⟩ := low_blk hlo
  rw [HK.out]
  have HS1 := Lib.hid (HS.out.below hb1)
  have HX1 := Lib.hid hxi
  have HB1 := Lib.hid (HB.out.trans (hb1.mono HB.out.size))
  have HC1 := Lib.hid ((hb1.cell (p := ⟨P, 0, none⟩) (World.block_lt_of_cell? _ _ HC0.out)).trans HC0.out)
  have HAO := Lib.hid (show ∀ b o, ao = some ⟨b, o, none⟩ → ¬ H b from fun b o e q => by have := (hao b o e).1; have := HHL.out b q; have := HB.out.size; omega)
  clear hlo hxi hb1 hao
  go_wp2
  go_loopw [6, 8, 9, 10, 14] (fun v _ _ _ i wr => ∃ (k : Nat) (H' : Nat → Prop), k ≤ k0 ∧ i = .int .i64 k ∧ Hid (ToRel W N w1 wr p D ct Q n m H e f k v H')) (fun _ _ _ _ i _ => k0 - (intOf i).toNat)
  case atStart => exact ⟨0, H, by omega, rfl, Lib.hid ⟨HS1.out, Stp.refl _ _, fun _ => (none, 0), World.ownsRow_nil _ _ _ _, fun b q => (by simp [Value.ownBlock] at q), fun i hi => absurd hi (by omega)⟩⟩
  case round =>
    obtain ⟨k, H1, hk, rfl, HR1⟩ := hrel
    have j0 : (0 : Int) ≤ (k : Int) := by omega
    by_cases hlt : k < k0
    · obtain ⟨b, off, rfl, hc⟩ := (ints_stp HX1.out HR1.out.st HAO.out) k (by rw [zl_len, HK.out]; exact hlt)
      have HKT := Lib.hid (show k < tb.length by rw [HK.out]; exact hlt)
      rw [show (zl tb)[k]'(by rw [zl_len]; exact HKT.out) = ((tb[k]'HKT.out : Nat) : Int) by simp [zl]] at hc
      have HQ := Lib.hid (HX.out (tb[k]'HKT.out) (List.getElem_mem _))
      have HCT := Lib.hid (HTT.out k HKT.out)
      generalize (tb[k]'HKT.out) = q at hc HQ HCT
      have j1 : (k : Int) < (k0 : Int) := by omega
      have HC := Lib.hid (HR1.out.st.cell HC1.out HPH.out)
      go_wp2_with fail
      refine (look4 P HR1.out.ps HC.out q HQ.out k e f (by omega) he HCT.out (by omega)).mono ?_
      rintro e' w2 ⟨rx, cx, H2, rfl, hps, hst, B, b1, b2, b3, b4⟩
      have HP2 := Lib.hid hps
      have HT2 := Lib.hid hst
      have HOW := Lib.hid b4
      have HBB := Lib.hid (And.intro b1 (And.intro b2 b3))
      clear hps hst b1 b2 b3 b4 hc
      go_upto_region 8 with (go_at_call 45; refine (is_nil 7 _).mono ?_; rintro e' w' ⟨rfl, rfl⟩)
      have HB3 := Lib.hid (Sm.alX w2 (.cells #[.int .u8 84, .int .u32 (k : Int), .int .u64 (e : Int), .int .i64 4, .slice rx 123 cx] 47))
      have x0 := (box_new w2 84 (k : Int) (e : Int) 4 (.slice rx 123 cx)).f0
      have x1 := (box_new w2 84 (k : Int) (e : Int) 4 (.slice rx 123 cx)).f1
      have x2 := (box_new w2 84 (k : Int) (e : Int) 4 (.slice rx 123 cx)).f2
      have x3 := (box_new w2 84 (k : Int) (e : Int) 4 (.slice rx 123 cx)).f3
      have x4 := (box_new w2 84 (k : Int) (e : Int) 4 (.slice rx 123 cx)).f4
      generalize w2.alloc _ = w3 at HB3 x0 x1 x2 x3 x4 ⊢
      obtain ⟨g, hg1, hg2, hg3⟩ := HR1.out.tr
      have HG3 := Lib.hid hg3
      have HG2 := Lib.hid hg2
      have HVL := Lib.hid hg1.lt
      have HB4 := Lib.hid (Sm.alX w3 (.cells #[.int .u8 84, .int .u32 (k : Int), .int .u64 (e : Int), .int .i64 4, .slice rx 123 cx] 47))
      have HW1 := Lib.hid (own_of_block hg1 (w' := w3.alloc (.cells #[.int .u8 84, .int .u32 (k : Int), .int .u64 (e : Int), .int .i64 4, .slice rx 123 cx] 47)) (fun b hb => by
        have l := (HVL.out b hb).2
        have l2 := HT2.out.size
        have l3 := HB3.out.size
        exact (HB4.out.block b (by omega)).trans ((HB3.out.block b (by omega)).trans (HT2.out.block b l (HG2.out b hb)))))
      clear hg1 hg2 hg3
      go_wp2_with (at_builtin; refine wpList_append_own_at _ rfl (.tmp 28) (.tmp 30) 108 rfl w1.heap.size 47 i0 zpv 5 48 Tryz.underlying108 HI.out HI0.out HI1.out HI2.out rfl (by decide) _ k (cellsF e g k) rfl HW1.out ⟨w3.heap.size, 0, none⟩ 1 1 [.int .u8 84, .int .u32 (k : Int), .int .u64 (e : Int), .int .i64 4, .slice rx 123 cx] rfl rfl (row5_cells _ _ _ _ _ _ _) (by simp [Value.oneCell']) (by unfold maxLen; omega) (by omega) (by have := HR1.out.st.size; have := HT2.out.size; have := HB3.out.size; have := HB4.out.size; omega) ?_; intro v2 w5 hown hgrow _ hat; have HO5 := Lib.hid hown; have HG5 := Lib.hid hgrow; have HA5 := Lib.hid hat; clear hown hgrow hat)
      go_roundw
      case rel =>
        have s2 := HT2.out.size
        have s3 := HB3.out.size
        have s4 := HB4.out.size
        have s1 := HR1.out.st.size
        have hS4 : Stp w1 H (w3.alloc (.cells #[.int .u8 84, .int .u32 (k : Int), .int .u64 (e : Int), .int .i64 4, .slice rx 123 cx] 47)) H2 := (HR1.out.st.trans HT2.out).trans (.of_below (H := H2) (HB3.out.trans (HB4.out.mono s3)))
        have hP4 := (HP2.out.below HB3.out).below HB4.out
        obtain ⟨b1, b2, b3⟩ := HBB.out
        have hWw := HS1.out.b.size
        generalize w3.alloc _ = w4 at HB4 s4 hS4 hP4 HG5 HA5
        have hvH : ∀ b, Value.ownBlock _ = some b → ¬ H2 b := fun b hb => nh_stp HT2.out (HVL.out b hb).2 (HG2.out b hb)
        refine ⟨k + 1, H2, by omega, by go_num, Lib.hid ⟨(hP4.mono (M := N + 2 * (k + 1)) (by omega)).stp (stp_own HG5.out) (fun b hb q => hvH b q hb) (fun b q => by have := (HVL.out b q).1; omega), stp_grown hS4 HG5.out (fun b q => (HVL.out b q).1), fun j => if j = k then (rx, cx) else g j, ?_, ?_, ?_⟩⟩
        · show World.ownsRow _ _ _ _ _ _ (cellsF e (fun j => if j = k then (rx, cx) else g j) k ++ _)
          rw [cellsF_upd e g (rx, cx) k k (Nat.le_refl k)]
          simp only [if_true]
          exact HO5.out
        · intro b hb
          rcases HA5.out with q | q
          · exact hvH b (q ▸ hb)
          · rw [q] at hb
            intro hh
            have h1 := (HP2.out.lt b hh).2
            have h2 : w4.heap.size = b := Option.some.inj hb
            omega
        · intro i hi
          by_cases hik : i = k
          · subst hik
            simp only [if_true]
            refine ⟨B, w2.heap.size, HOW.out.step fun j a1 a2 => ?_, by have := HG5.out.size; omega, fun j a1 a2 q => ?_⟩
            · exact (HG5.out.block j (by omega) (fun q => by have := (HVL.out j q.symm).2; omega)).trans ((HB4.out.block j (by omega)).trans (HB3.out.block j a2))
            · rcases q with q | q | q
              · have := b3 j q; omega
              · rcases HA5.out with r | r
                · have := (HVL.out j (r ▸ q)).2; omega
                · rw [r] at q
                  have : w4.heap.size = j := Option.some.inj q
                  omega
              · omega
          · simp only [if_neg hik]
            refine (HG3.out i (by omega)).mono (fun j hj hn => ?_) (by have := HG5.out.size; omega) (fun j hj q => ?_)
            · exact (HG5.out.block j (by omega) (fun q => hn (.inr (.inl q.symm)))).trans ((HB4.out.block j (by omega)).trans ((HB3.out.block j (by omega)).trans (HT2.out.block j hj (fun q => hn (.inl q)))))
            · rcases q with q | q | q
              · rcases HT2.out.own j q with q | q
                · exact .inl q
                · omega
              · rcases HA5.out with r | r
                · exact .inr (.inl (r ▸ q))
                · rw [r] at q
                  have : w4.heap.size = j := Option.some.inj q
                  omega
              · exact .inr (.inr q)
      case measure => simp [intOf]; omega
    · have hkk : k = k0 := by omega
      subst hkk
      go_wp2
      go_ret2
      exact ⟨_, H1, w1.heap.size, rfl, HR1.out.ps, (Stp.of_below (H := H) HB1.out).trans HR1.out.st, HB1.out.size, HR1.out.tr⟩
/-! a table's page among them -/
theorem cellsF_len (e : Nat) (g : Nat → Option Addr × Nat) : ∀ k, (cellsF e g k).length = k * 5
  | 0 => rfl
  | k + 1 => by
    show (cellsF e g k ++ _).length = _
    rw [List.length_append, cellsF_len e g k]
    show k * 5 + 5 = (k + 1) * 5
    omega
theorem cellsF_at (e : Nat) (g : Nat → Option Addr × Nat) (i : Nat) : ∀ k, i < k → ∀ j, j < 5 → (cellsF e g k)[i * 5 + j]? = [Value.int .u8 84, .int .u32 (i : Int), .int .u64 (e : Int), .int .i64 4, .slice (g i).1 123 (g i).2][j]?
  | 0, h, _, _ => absurd h (by omega)
  | k + 1, h, j, hj => by
    show (cellsF e g k ++ [Value.int .u8 84, .int .u32 (k : Int), .int .u64 (e : Int), .int .i64 4, .slice (g k).1 123 (g k).2])[i * 5 + j]? = _
    by_cases hik : i = k
    · subst hik
      rw [List.getElem?_append_right (by rw [cellsF_len]; omega), cellsF_len, Nat.add_sub_cancel_left]
    · rw [List.getElem?_append_left (by rw [cellsF_len]; omega)]
      exact cellsF_at e g i k (by omega) j hj
theorem tabs_page {w : World} {base : Nat} {H : Nat → Prop} {v : Value} {e : Nat} {f : Nat → Nat} {k : Nat} (h : TabsR w base H v e f k) (i : Nat) (hi : i < k) :
    ∃ bv cap ra rc, v = .slice (some ⟨bv, 0, none⟩) k cap ∧ k ≤ cap ∧ base ≤ bv ∧ Box0 w bv (i * 5) 84 (i : Int) (e : Int) 4 (.slice ra 123 rc) ∧ Safe w (fun b => H b ∨ b = bv ∨ b < base) (.slice ra 123 rc) 123 ((tbl f i).map rec4) := by
  obtain ⟨g, h1, _, h3⟩ := h
  have hs := h3 i hi
  rcases h1.2 with ⟨_, h0⟩ | ⟨bv, cap, cur, rfl, hb, hg, hc, _, hcs, ht⟩
  · omega
  · have hcell : ∀ j, j < 5 → w.cell? ⟨bv, i * 5 + j, none⟩ = [Value.int .u8 84, .int .u32 (i : Int), .int .u64 (e : Int), .int .i64 4, .slice (g i).1 123 (g i).2][j]? := fun j hj => by
      rw [cell_of_row _ _ _ _ _ _ hg, ← cellsF_at e g i k hi j hj, ← ht, List.getElem?_take_of_lt (by omega), Array.getElem?_toList]
    refine ⟨bv, cap, (g i).1, (g i).2, rfl, hc, hb, ⟨hcell 0 (by omega), hcell 1 (by omega), hcell 2 (by omega), hcell 3 (by omega), hcell 4 (by omega)⟩, hs.mono (fun _ _ _ => rfl) (Nat.le_refl _) (fun j _ q => ?_)⟩
    rcases q with q | q | q
    · exact .inl q
    · exact .inr (.inl (by rw [q]; rfl))
    · exact .inr (.inr q)
end Go.Proofs.YtlfkkakohldgnaaGreatDoor.Sh
namespace Go.Proofs.YtlfkkakohldgnaaGreatDoor.Sh
open Go.RowKit Go.Maps

/-- the numbers below x alone -/
def fT (f : Nat → Nat) (x : Nat) : Nat → Nat := fun k => if k < x then f k else 0
theorem fT_zero (f : Nat → Nat) : fT f 0 = fun _ => 0 := by funext k; unfold fT; rw [if_neg (by omega)]
theorem fT_step (f : Nat → Nat) (x : Nat) : fT f (x + 1) = updN (fT f x) x (f x) := by
  funext k
  unfold fT updN
  by_cases h : k = x
  · subst h; simp
  · by_cases h2 : k < x
    · simp [h, h2, show k < x + 1 by omega]
    · simp [h, h2, show ¬ k < x + 1 by omega]
theorem fT_same {f : Nat → Nat} {x : Nat} (h : f x = 0) : fT f (x + 1) = fT f x := by
  funext k
  unfold fT
  by_cases h1 : k = x
  · subst h1; simp [h]
  · by_cases h2 : k < x
    · simp [h2, show k < x + 1 by omega]
    · simp [h2, show ¬ k < x + 1 by omega]
theorem fT_all {f : Nat → Nat} {c : Nat} (h : IsTbl f c) : fT f (c * 123) = f := by
  funext k
  unfold fT
  by_cases h1 : k < c * 123
  · rw [if_pos h1]
  · rw [if_neg h1]
    by_cases h2 : f k = 0
    · exact h2.symm
    · have := h.1 k h2
      omega
theorem mpf_fill {f : Nat → Nat} {D : DataW Unit} {x : Nat} (h : MpF (fT f x) D) (hx : x < 15006) (h0 : f x ≠ 0) (hs : f x ≤ 16384) : MpF (fT f (x + 1)) (D.put (.int .i64 (x : Int)) (.lit (.int .i64 (f x : Int)))) := by
  rw [fT_step]
  exact h.put hx h0 hs
theorem tbl_get (f : Nat → Nat) (i j : Nat) (hj : j < (tbl f i).length) : (tbl f i)[j] = f (i * 123 + j) := by simp [tbl]
/-- what stays when one is opened again: another pool, other maps, the same sectors -/
theorem Inv.reopen {σ : Sd} {Q : Nat → Prop} {pk pn : Nat → Sm.Pg} (h : Inv σ Q pk pn) (σ' : Sd) (en : σ'.n = σ.n) (m1 : 1 ≤ σ'.m) (m2 : σ'.m ≤ 1024) (etb : σ'.tb = σ.tb) (ekp : σ'.kp = σ.kp) (enw : σ'.nw = σ.kp) (ert : σ'.root = σ.root) (eep : σ'.ep = σ.ep) (efl : σ'.fl = false) (ect : ∀ q, Kept σ q → σ'.ct q = σ.ct q) (hT : Tk σ'.n σ.tb σ.kp σ'.S) : Inv σ' (fun _ => True) pk pk := by
  have hk : ∀ k, σ.kp k ≠ 0 → σ'.ct (σ.kp k) = bt (pk k) ∧ PgOk (pk k) ∧ (pk k).number = k := fun k hk => by
    rw [ect _ (.inr (.inr ⟨k, hk, rfl⟩))]
    exact h.ck k hk
  refine ⟨by rw [en]; exact h.n4, by rw [en]; exact h.n1, m1, m2, hT.1, fun i => ?_, by rw [en, etb, ekp]; exact h.sk, by rw [en, etb, enw]; exact h.sk, ?_, by rw [ekp, etb]; exact h.it, by rw [ekp]; exact hk, by rw [enw]; exact hk, ?_, by rw [ert]; exact h.r2, by rw [eep]; exact h.e1, ?_, efl, ⟨fun _ _ => trivial, fun _ _ => trivial, fun _ _ => trivial⟩⟩
  · rw [hT.2 i, etb, ekp, enw]
    constructor
    · rintro (q | q | q)
      · exact .inl q
      · exact .inr (.inl q)
      · exact .inr (.inr (.inl q))
    · rintro (q | q | q | q)
      · exact .inl q
      · exact .inr (.inl q)
      · exact .inr (.inr q)
      · exact .inr (.inr q)
  · rw [enw, ekp]; exact h.sk.inj
  · intro i hi
    have hi' : i < σ.tb.length := by rw [← etb]; exact hi
    have e : σ'.tb[i] = σ.tb[i] := by simp only [etb]
    rw [e, ect _ (.inr (.inl (List.getElem_mem hi'))), eep, ekp]
    exact h.tt i hi'
  · obtain ⟨st, s1, s2, s3⟩ := h.st
    exact ⟨st, fun r hr => rt_ne (s1 r hr) (ect r (.inl hr)), by rw [ert, eep, etb]; exact s2, by rw [ert, eep, etb]; exact s3⟩
end Go.Proofs.YtlfkkakohldgnaaGreatDoor.Sh

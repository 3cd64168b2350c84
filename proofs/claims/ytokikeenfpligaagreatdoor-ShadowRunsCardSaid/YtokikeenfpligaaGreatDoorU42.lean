/-
  A PAGE READ: the walk of Read. Conditions: those that each lemma names.
  THE NUMBERS OF ALL PAGES: the walk of Pages. Conditions: those that each lemma names.
-/
import Derived.Shelf.SlIterI.Nil
import Derived.Shelf.SortM.Plain
import Derived.Shelf.SortM.SortNone
import Derived.Test.YtokikeenfpligaaGreatDoorU40
import Derived.Test.YtokikeenfpligaaGreatDoorU41
namespace Go.Proofs.YtokikeenfpligaaGreatDoor.Sh
open Go.RowKit Go.Maps

def ErrR (w : World) (c : Int) (e : Ending) (w' : World) : Prop := e = .returned (.tuple #[zpv, .iface 78 (.int .i64 c)]) ∧ Below w.heap.size w w'
theorem below_set5 {n : Nat} {w w1 : World} {g : Nat} (h : Below n w w1) (hg : n ≤ g) (v0 v1 v2 v3 v4 : Value) : Below n w (((((w1.setCell ⟨g, 0, none⟩ v0).setCell ⟨g, 1, none⟩ v1).setCell ⟨g, 2, none⟩ v2).setCell ⟨g, 3, none⟩ v3).setCell ⟨g, 4, none⟩ v4) :=
  ((((h.setCell hg v0).setCell hg v1).setCell hg v2).setCell hg v3).setCell hg v4
set_option maxRecDepth 100000 in
set_option maxHeartbeats 1000000 in
theorem read_range {w : World} (P : Nat) (k : Int) (c7 : w.cell? ⟨P, 7, none⟩ = some (.bool false)) (h : k < 0 ∨ 15006 ≤ k) :
    Calls Tryz.prog 14 #[.pointer (some ⟨P, 0, none⟩), .int .i64 k] w (ErrR w 4) := by
  have HB := Lib.hid (Sm.alX w (.cells #[.int .u8 0, .int .u32 0, .int .u64 0, .int .i64 0, .slice none 0 0] 47))
  have d7 := (HB.out.cell (p := ⟨P, 7, none⟩) (World.block_lt_of_cell? w _ c7)).trans c7
  have HZ := Lib.hid (heap_alloc_new w (.cells #[.int .u8 0, .int .u32 0, .int .u64 0, .int .i64 0, .slice none 0 0] 47))
  clear c7
  obtain ⟨⟨z0, z1, z2, z3, z4⟩, t0, t1, t2, t3, t4⟩ := Sm.row_cells HZ.out
  go_enter Tryz.func14, Tryz.ntmps14
  go_upto_region 3 with (go_at_call 43; refine (number_range P k _ d7 h).mono ?_; rintro e w' ⟨rfl, rfl⟩)
  clear d7
  generalize w.alloc (.cells #[.int .u8 0, .int .u32 0, .int .u64 0, .int .i64 0, .slice none 0 0] 47) = w1 at HB HZ z0 z1 z2 z3 z4 t0 t1 t2 t3 t4 ⊢
  generalize hgz : w.heap.size = g at HZ z0 z1 z2 z3 z4 t0 t1 t2 t3 t4 ⊢
  go_wp2
  refine Sm.post_row_tmp Tryz.results14 g 47 #[.int .u8 0, .int .u32 0, .int .u64 0, .int .i64 0, .slice none 0 0] (0, 0) _ (.iface 78 (.int .i64 4)) Tryz.underlying47 rfl Sm.info_pg ?_ ?_ (Sm.row_set5 HZ.out _ _ _ _ _) ?_ ?_
  · rfl
  · rfl
  · rfl
  exact ⟨rfl, below_set5 HB.out (Nat.le_of_eq hgz) _ _ _ _ _⟩
set_option maxRecDepth 100000 in
set_option maxHeartbeats 1000000 in
theorem read_none {W w : World} {N : Nat} {σ : Sd} {Q : Nat → Prop} (h : Sh W N w σ Q) (hf : σ.fl = false) (k : Nat) (hk : k < 15006) (h0 : σ.nw k = 0) :
    Calls Tryz.prog 14 #[.pointer (some ⟨σ.P, 0, none⟩), .int .i64 k] w (ErrR w 8) := by
  have HB := Lib.hid (Sm.alX w (.cells #[.int .u8 0, .int .u32 0, .int .u64 0, .int .i64 0, .slice none 0 0] 47))
  have hs := h.below HB.out
  have d7 := hf ▸ hs.hd.c7
  have d2 := hs.hd.c2
  have l1 := look1 hs.vm hs.vf k hk
  rw [show decide (σ.nw k ≠ 0) = false from decide_eq_false (by simpa using h0)] at l1
  have HZ := Lib.hid (heap_alloc_new w (.cells #[.int .u8 0, .int .u32 0, .int .u64 0, .int .i64 0, .slice none 0 0] 47))
  have hk0 : (0 : Int) ≤ (k : Int) := by omega
  have hk1 : (k : Int) < 15006 := by omega
  clear h hs hf h0
  obtain ⟨⟨z0, z1, z2, z3, z4⟩, t0, t1, t2, t3, t4⟩ := Sm.row_cells HZ.out
  go_enter Tryz.func14, Tryz.ntmps14
  go_upto_region 6 with (go_at_call 43; refine (number_ok σ.P k _ d7 hk0 hk1).mono ?_; rintro e w' ⟨rfl, rfl⟩)
  clear d7 l1 d2
  generalize w.alloc (.cells #[.int .u8 0, .int .u32 0, .int .u64 0, .int .i64 0, .slice none 0 0] 47) = w1 at HB HZ z0 z1 z2 z3 z4 t0 t1 t2 t3 t4 ⊢
  generalize hgz : w.heap.size = g at HZ z0 z1 z2 z3 z4 t0 t1 t2 t3 t4 ⊢
  go_wp2
  refine Sm.post_row_tmp Tryz.results14 g 47 #[.int .u8 0, .int .u32 0, .int .u64 0, .int .i64 0, .slice none 0 0] (0, 0) _ (.iface 78 (.int .i64 8)) Tryz.underlying47 rfl Sm.info_pg ?_ ?_ (Sm.row_set5 HZ.out _ _ _ _ _) ?_ ?_
  · rfl
  · rfl
  · rfl
  exact ⟨rfl, below_set5 HB.out (Nat.le_of_eq hgz) _ _ _ _ _⟩
/-- a block that is none of its own turns -/
theorem Sh.other {W w w' : World} {N : Nat} {σ : Sd} {Q : Nat → Prop} (h : Sh W N w σ Q) {g : Nat} (hw : Wrt (isB g) w w') (hg : ¬ σ.all g) (ht : ∀ b o, σ.ta = some ⟨b, o, none⟩ → b ≠ g) (hW : W.heap.size ≤ g) : Sh W N w' σ Q := by
  have hb : ∀ b, b ≠ g → w'.heap[b]? = w.heap[b]? := fun b q => hw.block b q
  exact ⟨h.hd.same (hb _ (fun q => hg (.inl q.symm))), owns_same h.km (hb _ (fun q => hg (.inr (.inl q.symm)))), h.kf, owns_same h.vm (hb _ (fun q => hg (.inr (.inr (.inl q.symm))))), h.vf, ints_same h.ti (fun b o e => hb b (ht b o e)), h.sp.same (hb _ (fun q => hg (.inr (.inr (.inr (.inl q.symm)))))) (hb _ (fun q => hg (.inr (.inr (.inr (.inr (.inl q.symm))))))),
    h.ps.stp hw.stp (fun b hb2 q => hg (.inr (.inr (.inr (.inr (.inr (by rw [show b = g from q] at hb2; exact hb2))))))) (fun b q => by rw [show b = g from q]; exact hW),
    ⟨h.se.ne, h.se.nv, h.se.nh, h.se.lo, fun b o e => by obtain ⟨a1, a2, a3, a4, a5, a6, a7, a8⟩ := h.se.ta b o e; exact ⟨a1, a2, a3, a4, a5, a6, a7, by rw [hw.size]; exact a8⟩⟩, h.nb⟩
theorem wrt_set5 (w : World) (g : Nat) (v0 v1 v2 v3 v4 : Value) : Wrt (isB g) w (((((w.setCell ⟨g, 0, none⟩ v0).setCell ⟨g, 1, none⟩ v1).setCell ⟨g, 2, none⟩ v2).setCell ⟨g, 3, none⟩ v3).setCell ⟨g, 4, none⟩ v4) :=
  (((((Wrt.refl (isB g) w).set (show isB g g from rfl) 0 v0).set (show isB g g from rfl) 1 v1).set (show isB g g from rfl) 2 v2).set (show isB g g from rfl) 3 v3).set (show isB g g from rfl) 4 v4
theorem stp_wrt {w w1 w2 : World} {H H' : Nat → Prop} {g : Nat} (h : Stp w H w1 H') (k : Wrt (isB g) w1 w2) (hg : w.heap.size ≤ g) : Stp w H w2 H' :=
  ⟨k.os.trans h.os, k.tape.trans h.tape, k.output.trans h.output, by rw [k.size]; exact h.size, fun b hb hn => (k.block b (fun q => by have : b = g := q; omega)).trans (h.block b hb hn), h.own⟩
/-- behind a page that was looked at, and laid in a box -/
theorem read_tail {W w w0 w1 w2 w3 : World} {N M : Nat} {σ : Sd} {Q H' : Nat → Prop} (h : Sh W N w σ Q) (hb : Below w.heap.size w w0) (hg : w.heap.size < w0.heap.size) (hps : PS W M w1 σ.p σ.D σ.ct Q σ.n σ.m H') (hst : Stp w0 σ.H w1 H') (hM : N ≤ M) (hb2 : Below w1.heap.size w1 w2) {g : Nat} (hgz : w.heap.size = g) (hw : Wrt (isB g) w2 w3) :
    Sh W M w3 { σ with H := H' } Q ∧ Frm w w3 σ { σ with H := H' } := by
  subst hgz
  have hs0 := h.below hb
  have hs1 := hs0.pool hps hst hM
  have hs2 := hs1.below hb2
  have hF : Frm w w2 σ { σ with H := H' } := frm_trans (frm_trans (frm_below hb) (frm_pool (σ := σ) (ct' := σ.ct) hst)) (frm_below hb2)
  have hnH : ¬ H' w.heap.size := nh_stp hst hg (fun q => by have := (h.ps.lt _ q).2; omega)
  refine ⟨hs2.other hw (fun q => ?_) (fun b o e q => ?_) h.ps.b.size, stp_wrt hF hw (Nat.le_refl _)⟩
  · have l1 : σ.P < w.heap.size := World.block_lt_of_cell? w _ h.hd.c0
    have l2 := h.km.lt
    have l3 := h.vm.lt
    have l4 := h.sp.ltG
    have l5 := h.sp.ltT
    rcases q with q | q | q | q | q | q
    · have : w.heap.size = σ.P := q; omega
    · have : w.heap.size = σ.K := q; omega
    · have : w.heap.size = σ.V := q; omega
    · have : w.heap.size = σ.G := q; omega
    · have : w.heap.size = σ.T := q; omega
    · exact hnH q
  · have := (h.se.ta b o e).2.2.2.2.2.2.2
    omega
def RotR (W : World) (N : Nat) (w : World) (σ : Sd) (Q : Nat → Prop) (e : Ending) (w' : World) : Prop :=
  ∃ H', e = .returned (.tuple #[zpv, .iface 78 (.int .i64 7)]) ∧ Sh W N w' { σ with H := H' } Q ∧ Frm w w' σ { σ with H := H' }
set_option maxRecDepth 100000 in
set_option maxHeartbeats 2000000 in
theorem read_rot {W w : World} {N : Nat} {σ : Sd} {Q : Nat → Prop} (h : Sh W N w σ Q) (hfl : σ.fl = false) (k : Nat) (hk : k < 15006) (h0 : σ.nw k ≠ 0) (hq : σ.nw k < σ.n) (hg : goodT (σ.ct (σ.nw k)) = false) (hN : N + 2 < 2305843009213693952) :
    Calls Tryz.prog 14 #[.pointer (some ⟨σ.P, 0, none⟩), .int .i64 k] w (RotR W (N + 2) w σ Q) := by
  have HB := Lib.hid (Sm.alX w (.cells #[.int .u8 0, .int .u32 0, .int .u64 0, .int .i64 0, .slice none 0 0] 47))
  have HS := Lib.hid (h.below HB.out)
  have d7 : _ = some (Value.bool false) := hfl ▸ HS.out.hd.c7
  have d2 := HS.out.hd.c2
  have l1 := look1 HS.out.vm HS.out.vf k hk
  rw [show decide (σ.nw k ≠ 0) = true from decide_eq_true h0] at l1
  have HZ := Lib.hid (heap_alloc_new w (.cells #[.int .u8 0, .int .u32 0, .int .u64 0, .int .i64 0, .slice none 0 0] 47))
  have HH := Lib.hid (show ¬ σ.H w.heap.size from fun e => by have := (h.ps.lt _ e).2; omega)
  have hk0 : (0 : Int) ≤ (k : Int) := by omega
  have hk1 : (k : Int) < 15006 := by omega
  have HG := Lib.hid hg
  have HQ := Lib.hid hq
  have HW := Lib.hid h
  clear h h0 hg hq
  go_enter Tryz.func14, Tryz.ntmps14
  go_upto_region 8 with (first | (go_at_call 43; refine (number_ok σ.P k _ d7 hk0 hk1).mono ?_; rintro e w' ⟨rfl, rfl⟩) | (go_at_call 44; refine (look_bad σ.P HS.out.ps HS.out.hd.c0 (σ.nw k) HQ.out HG.out hN).mono ?_; rintro e w1 ⟨rfl, H', hps, hst⟩; have HP1 := Lib.hid hps; have HT1 := Lib.hid hst; clear hps hst; unfold zpv))
  have HB2 := Lib.hid (Sm.alX w1 (.cells #[.int .u8 0, .int .u32 0, .int .u64 0, .int .i64 0, .slice none 0 0] 47))
  have HZ2 := Lib.hid ((HB2.out.block w.heap.size (Nat.lt_of_lt_of_le (by simp) HT1.out.size)).trans ((HT1.out.block w.heap.size (by simp) HH.out).trans HZ.out))
  have x0 := (box_new w1 0 0 0 0 (.slice none 0 0)).f0
  have x1 := (box_new w1 0 0 0 0 (.slice none 0 0)).f1
  have x2 := (box_new w1 0 0 0 0 (.slice none 0 0)).f2
  have x3 := (box_new w1 0 0 0 0 (.slice none 0 0)).f3
  have x4 := (box_new w1 0 0 0 0 (.slice none 0 0)).f4
  clear d7 d2 l1
  generalize w1.alloc _ = w2 at HB2 HZ2 x0 x1 x2 x3 x4 ⊢
  generalize hgz : w.heap.size = g at HZ2 ⊢
  obtain ⟨⟨z0, z1, z2, z3, z4⟩, t0, t1, t2, t3, t4⟩ := Sm.row_cells HZ2.out
  go_wp2_with (go_at_call 45; refine (is_73 _).mono ?_; rintro e w' ⟨rfl, rfl⟩)
  refine Sm.post_row_tmp Tryz.results14 g 47 #[.int .u8 0, .int .u32 0, .int .u64 0, .int .i64 0, .slice none 0 0] (0, 0) _ (.iface 78 (.int .i64 7)) Tryz.underlying47 rfl Sm.info_pg ?_ ?_ (Sm.row_set5 HZ2.out _ _ _ _ _) ?_ ?_
  · rfl
  · rfl
  · rfl
  obtain ⟨a1, a2⟩ := read_tail HW.out HB.out (by simp) HP1.out HT1.out (by omega) HB2.out hgz (wrt_set5 _ _ _ _ _ _ _)
  exact ⟨H', rfl, a1, a2⟩
def GotR (W : World) (N : Nat) (w : World) (σ : Sd) (Q : Nat → Prop) (pg : Sm.Pg) (e : Ending) (w' : World) : Prop :=
  ∃ ra cap H' B C, e = .returned (.tuple #[.agg #[.int .u8 pg.kind, .int .u32 pg.number, .int .u64 pg.epoch, .int .i64 pg.size, .slice ra pg.recs.length cap], .nilIface]) ∧ Sh W N w' { σ with H := H' } Q ∧ Frm w w' σ { σ with H := H' } ∧ w.heap.size < B ∧ B ≤ C ∧ C ≤ w'.heap.size ∧ OwnIn B C w' (.slice ra pg.recs.length cap) pg.recs.length pg.recs
set_option maxRecDepth 100000 in
set_option maxHeartbeats 2000000 in
theorem read_ok {W w : World} {N : Nat} {σ : Sd} {Q : Nat → Prop} (h : Sh W N w σ Q) (hfl : σ.fl = false) (k : Nat) (hk : k < 15006) (h0 : σ.nw k ≠ 0) (hq : σ.nw k < σ.n) (pg : Sm.Pg) (hp : PgOk pg) (hn : pg.number = (k : Int)) (hg : σ.ct (σ.nw k) = bt pg) (hN : N + 2 < 2305843009213693952) :
    Calls Tryz.prog 14 #[.pointer (some ⟨σ.P, 0, none⟩), .int .i64 k] w (GotR W (N + 2) w σ Q pg) := by
  have HB := Lib.hid (Sm.alX w (.cells #[.int .u8 0, .int .u32 0, .int .u64 0, .int .i64 0, .slice none 0 0] 47))
  have HS := Lib.hid (h.below HB.out)
  have d7 : _ = some (Value.bool false) := hfl ▸ HS.out.hd.c7
  have d2 := HS.out.hd.c2
  have l1 := look1 HS.out.vm HS.out.vf k hk
  rw [show decide (σ.nw k ≠ 0) = true from decide_eq_true h0] at l1
  have HZ := Lib.hid (heap_alloc_new w (.cells #[.int .u8 0, .int .u32 0, .int .u64 0, .int .i64 0, .slice none 0 0] 47))
  have HH := Lib.hid (show ¬ σ.H w.heap.size from fun e => by have := (h.ps.lt _ e).2; omega)
  have hk0 : (0 : Int) ≤ (k : Int) := by omega
  have hk1 : (k : Int) < 15006 := by omega
  have HG := Lib.hid hg
  have HQ := Lib.hid hq
  have HPG := Lib.hid hp
  have HNM := Lib.hid hn
  have HW := Lib.hid h
  clear h h0 hg hq hp hn
  go_enter Tryz.func14, Tryz.ntmps14
  go_upto_region 8 with (first | (go_at_call 43; refine (number_ok σ.P k _ d7 hk0 hk1).mono ?_; rintro e w' ⟨rfl, rfl⟩) | (go_at_call 44; refine (look_page σ.P HS.out.ps HS.out.hd.c0 (σ.nw k) HQ.out pg HPG.out HG.out hN).mono ?_; rintro e w1 ⟨ra, cap, H', rfl, hps, hst, B, hB, hC, _, how⟩; have HP1 := Lib.hid hps; have HT1 := Lib.hid hst; have HOW := Lib.hid how; have HBC := Lib.hid (And.intro hB hC); clear hps hst how hB hC; unfold pv))
  have HB2 := Lib.hid (Sm.alX w1 (.cells #[.int .u8 pg.kind, .int .u32 pg.number, .int .u64 pg.epoch, .int .i64 pg.size, .slice ra pg.recs.length cap] 47))
  have HZ2 := Lib.hid ((HB2.out.block w.heap.size (Nat.lt_of_lt_of_le (by simp) HT1.out.size)).trans ((HT1.out.block w.heap.size (by simp) HH.out).trans HZ.out))
  have x0 := (box_new w1 pg.kind pg.number pg.epoch pg.size (.slice ra pg.recs.length cap)).f0
  have x1 := (box_new w1 pg.kind pg.number pg.epoch pg.size (.slice ra pg.recs.length cap)).f1
  have x2 := (box_new w1 pg.kind pg.number pg.epoch pg.size (.slice ra pg.recs.length cap)).f2
  have x3 := (box_new w1 pg.kind pg.number pg.epoch pg.size (.slice ra pg.recs.length cap)).f3
  have x4 := (box_new w1 pg.kind pg.number pg.epoch pg.size (.slice ra pg.recs.length cap)).f4
  clear d7 d2 l1
  generalize w1.alloc _ = w2 at HB2 HZ2 x0 x1 x2 x3 x4 ⊢
  rw [HNM.out] at x1
  generalize hgz : w.heap.size = g at HZ2 ⊢
  obtain ⟨⟨z0, z1, z2, z3, z4⟩, t0, t1, t2, t3, t4⟩ := Sm.row_cells HZ2.out
  go_wp2_with (go_at_call 45; refine (is_nil 3 _).mono ?_; rintro e w' ⟨rfl, rfl⟩)
  refine Sm.post_row_tmp Tryz.results14 g 47 #[.int .u8 pg.kind, .int .u32 k, .int .u64 pg.epoch, .int .i64 pg.size, .slice ra pg.recs.length cap] (0, 0) _ .nilIface Tryz.underlying47 rfl Sm.info_pg ?_ ?_ (Sm.row_set5 HZ2.out _ _ _ _ _) ?_ ?_
  · rfl
  · rfl
  · rfl
  have hw := wrt_set5 w2 g (.int .u8 pg.kind) (.int .u32 k) (.int .u64 pg.epoch) (.int .i64 pg.size) (.slice ra pg.recs.length cap)
  obtain ⟨a1, a2⟩ := read_tail HW.out HB.out (by simp) HP1.out HT1.out (by omega) HB2.out hgz hw
  have hbc := HBC.out.1
  have hs0 : (w.alloc (.cells #[.int .u8 0, .int .u32 0, .int .u64 0, .int .i64 0, .slice none 0 0] 47)).heap.size = w.heap.size + 1 := by simp
  exact ⟨ra, cap, H', B, w1.heap.size, by rw [HNM.out], a1, a2, by omega, HBC.out.2, by rw [hw.size]; exact HB2.out.size, HOW.out.step fun j h1 h2 => (hw.block j (fun q => by have : j = g := q; omega)).trans (HB2.out.block j h2)⟩
end Go.Proofs.YtokikeenfpligaaGreatDoor.Sh
namespace Go.Proofs.YtokikeenfpligaaGreatDoor.Sh
open Go.RowKit Go.Maps Go.Sort Go.Shelf

theorem sortsA (m : Nat) : AnyZI.SortsIn Tryz.prog Tryz.sortedA_ren Fence.wide m :=
  ⟨fun blk off cap ss W hH hblk hsz => callsIn_wide.2 (AnyM.slices_Sort_int Tryz.sortA blk off cap ss W hH hblk hsz),
   fun p cap W => callsIn_wide.2 (AnyM.slices_Sort_int_none Tryz.sortA p cap W)⟩
theorem owns_size {w : World} {M n : Nat} {D : DataW Unit} (h : Owns w M n D) : Maps.size D ≤ n := by
  obtain ⟨es, clock, hb, F, hs, rfl⟩ := h
  rw [Maps.size_eq, length_sorted]
  simpa using hs
def PagesA (w : World) (D : DataW Unit) (e : Ending) (w' : World) : Prop :=
  ∃ (v : Value) (ss : List Int), e = .returned v ∧ ss.Perm (intKeys D) ∧ w'.ownsRow w.heap.size 3 1 v ss.length ((ss.mergeSort (fun x y => decide (x ≤ y))).map encZ) ∧ (v = .slice none 0 0 ↔ ss = []) ∧ Below w.heap.size w w'
set_option maxRecDepth 100000 in
set_option maxHeartbeats 2000000 in
theorem pages_raw (P V nn : Nat) (D0 : DataW Unit) (w : World) (c2 : w.cell? ⟨P, 2, none⟩ = some (.map (some V))) (hown : Owns w V nn D0) (hmax : Maps.size D0 ≤ maxLen) (hbytes : Maps.size D0 * 8 ≤ 140737488355328) :
    Calls Tryz.prog 25 #[.pointer (some ⟨P, 0, none⟩)] w (PagesA w D0) := by
  refine (callsIn_wide (n := 6)).1 ?_
  have hbl := hown.lt
  have hseq : SeqGives Fence.wide 2 Tryz.prog 99 #[.pointer (some ⟨w.heap.size, 0, none⟩)] encZ (fun ss => ss.Perm (intKeys D0)) (Maps.size D0) (w.alloc (.cells #[.map (some V)] 100)) :=
    AnyZI.keys_gives (ρ := Tryz.keysA_ren) { Tryz.keysA with } Fence.wide _ trivial rfl (by omega) w.heap.size V nn D0 _ (by simp) (by simp) (by
      obtain ⟨es, clock, hb, Ft, hs, hD⟩ := hown
      exact ⟨es, clock, (Below.heap_alloc _ _ V hbl).trans hb, Ft, hs, hD⟩)
  have cK : ∀ mb W, CallsIn Fence.wide 5 Tryz.prog 62 #[.map mb] W fun e w' => e = .returned (.func (.func 99) #[] #[.pointer (some ⟨W.heap.size, 0, none⟩)]) ∧ w' = W.alloc (.cells #[.map mb] 100) := fun mb W => AnyZI.keys_in Tryz.keysA Fence.wide 5 trivial rfl mb W
  have cS := AnyZI.sorted_in Tryz.sortedA Fence.wide 5 trivial trivial trivial trivial rfl (by omega) (sortsA _) (enters_of Tryz.func98 (by kernel_rfl) rfl) 99 #[.pointer (some ⟨w.heap.size, 0, none⟩)] trivial (enters_of Tryz.func99 (by kernel_rfl) rfl) _ _ hmax hbytes _ hseq
  change CallsIn _ _ Tryz.prog 61 _ _ _ at cS
  have hfK : Fence.wide.fn 62 := trivial
  have hfS : Fence.wide.fn 61 := trivial
  refine callsIn_of_wp Tryz.func25 rfl trivial ?_ rfl
  simp only [Tryz.ntmps25, List.size_toArray, List.length_cons, List.length_nil, Nat.reduceAdd, Nat.reduceSub, Array.replicate_succ, Array.replicate_zero, List.push_toArray, List.append_toArray, List.nil_append, List.cons_append]
  gi_wp2_with (first
    | (gi_at_call 62; refine (cK _ _).mono ?_; rintro e w' ⟨rfl, rfl⟩)
    | (gi_at_call 61; refine cS.mono ?_; rintro e w' ⟨v, ss, rfl, hS, hrow, hnil, hb⟩))
  go_ret
  exact ⟨v, ss, rfl, hS, ownsRow_base_a hrow (by simp), hnil, ((Below.refl _ w).alloc (Nat.le_refl _) _).trans (hb.mono (by simp))⟩
/-- the numbers where something is, ascending -/
def kl (f : Nat → Nat) : List Nat := (List.range 15006).filter fun k => decide (f k ≠ 0)
theorem kl_mem {f : Nat → Nat} (h : ∀ k, f k ≠ 0 → k < 15006) (k : Nat) : k ∈ kl f ↔ f k ≠ 0 := by
  unfold kl
  rw [List.mem_filter, List.mem_range, decide_eq_true_eq]
  exact ⟨fun q => q.2, fun q => ⟨h k q, q⟩⟩
theorem kl_sorted (f : Nat → Nat) : (zl (kl f)).Pairwise (fun a b => leI a b = true) := by
  unfold zl kl
  rw [List.pairwise_map]
  refine (List.pairwise_lt_range.filter _).imp ?_
  intro a b hab
  simp only [leI, decide_eq_true_eq]
  omega
theorem kl_nodup (f : Nat → Nat) : (zl (kl f)).Nodup := by
  unfold zl kl
  refine List.pairwise_map.2 ((List.pairwise_lt_range.filter _).imp ?_)
  intro a b hab e
  have : (a : Int) = (b : Int) := e
  omega
theorem keys_perm {w : World} {b n : Nat} {D : DataW Unit} {f : Nat → Nat} (h : Owns w b n D) (hf : MpF f D) : (zl (kl f)).Perm (intKeys D) := by
  refine CollectedI.perm (left := fun _ => false) ⟨kl_nodup f, fun x => ?_⟩ h klaw Tryz.underlying3 (fun _ => rfl)
  rw [hf.has x]
  constructor
  · intro q
    unfold zl at q
    rw [List.mem_map] at q
    obtain ⟨k, hk, rfl⟩ := q
    exact ⟨⟨k, rfl, (kl_mem hf.bnd k).1 hk⟩, rfl⟩
  · rintro ⟨⟨k, rfl, hk⟩, _⟩
    exact List.mem_map.2 ⟨k, (kl_mem hf.bnd k).2 hk, rfl⟩
theorem leI_sorted {l m : List Int} (hl : l.Pairwise (fun a b => leI a b = true)) (h : m.Perm l) : m.mergeSort leI = l := by
  have tr : ∀ a b c : Int, leI a b = true → leI b c = true → leI a c = true := fun a b c h1 h2 => by simp only [leI, decide_eq_true_eq] at *; exact Int.le_trans h1 h2
  have tot : ∀ a b : Int, (leI a b || leI b a) = true := fun a b => by simp only [leI, Bool.or_eq_true, decide_eq_true_eq]; exact Int.le_total a b
  refine List.Perm.eq_of_pairwise (le := fun a b => leI a b = true) (fun a b _ _ h1 h2 => ?_) (List.pairwise_mergeSort tr tot m) hl ((List.mergeSort_perm m leI).trans h)
  simp only [leI, decide_eq_true_eq] at h1 h2
  exact Int.le_antisymm h1 h2
def PagesL (w : World) (l : List Nat) (e : Ending) (w' : World) : Prop :=
  ∃ ao cap, e = .returned (.slice ao l.length cap) ∧ Ints w' ao (zl l) ∧ Below w.heap.size w w' ∧ ∀ b o, ao = some ⟨b, o, none⟩ → w.heap.size ≤ b ∧ b < w'.heap.size
theorem pages_any {W w : World} {N : Nat} {σ : Sd} {Q : Nat → Prop} (h : Sh W N w σ Q) (hN : N * 8 ≤ 140737488355328) :
    Calls Tryz.prog 25 #[.pointer (some ⟨σ.P, 0, none⟩)] w (PagesL w (kl σ.nw)) := by
  have hs := owns_size h.vm
  have hn := h.nb.2
  refine (pages_raw σ.P σ.V σ.nV σ.DV w h.hd.c2 h.vm (by unfold maxLen; omega) (by omega)).mono ?_
  rintro e w' ⟨v, ss, rfl, hp, hr, _, hb⟩
  have hpp : ss.Perm (zl (kl σ.nw)) := hp.trans (keys_perm h.vm h.vf).symm
  have hl : ss.length = (kl σ.nw).length := by rw [hpp.length_eq, zl_len]
  rw [leI_sorted (kl_sorted σ.nw) hpp, hl] at hr
  obtain ⟨ao, cap, rfl, hx, _⟩ := own_ints (xs := zl (kl σ.nw)) hr
  refine ⟨ao, cap, rfl, hx, hb, fun b o e => ?_⟩
  subst e
  exact hr.lt b rfl
end Go.Proofs.YtokikeenfpligaaGreatDoor.Sh

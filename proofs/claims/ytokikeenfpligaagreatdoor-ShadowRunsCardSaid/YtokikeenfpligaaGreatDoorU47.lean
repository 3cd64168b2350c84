/-
  THE DOCUMENT's LISTS BESIDE A SHADOW: none of them is a block of the shadow's own; the law's act: a page dropped. Conditions: those that each lemma names.
  THE DOCUMENT's Write AND Commit, whatever comes of them. Conditions: the lists, and the page's records, lie in memory.
  THE LAW's act: all kept; all let go. Conditions: those that each lemma names.
  THE LAW's act: a page written; all let go. Conditions: those that each lemma names.
-/
import Derived.Test.YtokikeenfpligaaGreatDoorU17
import Derived.Test.YtokikeenfpligaaGreatDoorU46
namespace Go.Proofs.YtokikeenfpligaaGreatDoor.Sh
open Go.RowKit Go.Maps

theorem ents_lt {w : World} {a : Option Addr} {L : List Ent} (h : Ents w a L) (hne : L ≠ []) (b o : Nat) (e : a = some ⟨b, o, none⟩) : b < w.heap.size := by
  obtain ⟨b', off, ha, hr⟩ := h 0 (List.length_pos_iff.2 hne)
  rw [e] at ha
  obtain ⟨rfl, rfl⟩ : b = b' ∧ o = off := by simpa using ha
  exact World.block_lt_of_cell? w _ (hr 0 _ rfl)
structure RfX (w : World) (X : Nat → Prop) (r : Rf) : Prop where
  at' : RfAt w r
  s : r.su ≠ [] → ∀ b o, r.sa = some ⟨b, o, none⟩ → ¬ X b
  n : r.nw ≠ [] → ∀ b o, r.na = some ⟨b, o, none⟩ → ¬ X b
theorem ents_stp {w w' : World} {X X' : Nat → Prop} {a : Option Addr} {L : List Ent} (h : Ents w a L) (hf : Stp w X w' X') (hs : L ≠ [] → ∀ b o, a = some ⟨b, o, none⟩ → ¬ X b) : Ents w' a L := by
  intro i hi
  obtain ⟨b, off, ha, hr⟩ := h i hi
  exact ⟨b, off, ha, range_same hr (hf.block b (World.block_lt_of_cell? w _ (hr 0 _ rfl)) (hs (fun e => by rw [e] at hi; exact absurd hi (by simp)) b off ha))⟩
theorem RfX.stp {w w' : World} {X X' : Nat → Prop} {r : Rf} (h : RfX w X r) (hf : Stp w X w' X') : RfX w' X' r :=
  ⟨⟨ents_stp h.at'.s hf h.s, ents_stp h.at'.n hf h.n⟩,
    fun q b o e k => by
      rcases hf.own b k with k | k
      · exact h.s q b o e k
      · have := ents_lt h.at'.s q b o e; omega,
    fun q b o e k => by
      rcases hf.own b k with k | k
      · exact h.n q b o e k
      · have := ents_lt h.at'.n q b o e; omega⟩
theorem RfX.below {w w' : World} {X : Nat → Prop} {r : Rf} (h : RfX w X r) (hb : Below w.heap.size w w') : RfX w' X r := h.stp (.of_below hb)
theorem RfX.less {w : World} {X X' : Nat → Prop} {r : Rf} (h : RfX w X r) (hX : ∀ b, X' b → X b) : RfX w X' r := ⟨h.at', fun q b o e k => h.s q b o e (hX b k), fun q b o e k => h.n q b o e (hX b k)⟩
/-- and this block -/
def also (X : Nat → Prop) (g : Nat) (b : Nat) : Prop := X b ∨ b = g
theorem RfX.more {w : World} {X : Nat → Prop} {r : Rf} (h : RfX w X r) {g : Nat} (hg : w.heap.size ≤ g) : RfX w (also X g) r :=
  ⟨h.at', fun q b o e k => by
      rcases k with k | k
      · exact h.s q b o e k
      · have := ents_lt h.at'.s q b o e; omega,
    fun q b o e k => by
      rcases k with k | k
      · exact h.n q b o e k
      · have := ents_lt h.at'.n q b o e; omega⟩
theorem stp_also {w w' : World} {X X' : Nat → Prop} (h : Stp w X w' X') (g : Nat) : Stp w (also X g) w' (also X' g) :=
  ⟨h.os, h.tape, h.output, h.size, fun k hk hn => h.block k hk (fun q => hn (.inl q)), fun k q => by
    rcases q with q | q
    · rcases h.own k q with q | q
      · exact .inl (.inl q)
      · exact .inr q
    · exact .inl (.inr q)⟩
/-- behind a call of the document's -/
theorem RfX.turn {w w' : World} {X : Nat → Prop} {r r' : Rf} (h : RfX w X r) (hσ : ∀ b, X b → b < w.heap.size) (hr : RfAt w' r')
    (hs : r'.su ≠ [] → ∀ b o, r'.sa = some ⟨b, o, none⟩ → (r.su ≠ [] ∧ r.sa = some ⟨b, o, none⟩) ∨ (r.nw ≠ [] ∧ r.na = some ⟨b, o, none⟩) ∨ w.heap.size ≤ b)
    (hn : r'.nw ≠ [] → ∀ b o, r'.na = some ⟨b, o, none⟩ → (r.su ≠ [] ∧ r.sa = some ⟨b, o, none⟩) ∨ (r.nw ≠ [] ∧ r.na = some ⟨b, o, none⟩) ∨ w.heap.size ≤ b) : RfX w' X r' :=
  ⟨hr, fun q b o e k => by
      rcases hs q b o e with ⟨q1, q2⟩ | ⟨q1, q2⟩ | q1
      · exact h.s q1 b o q2 k
      · exact h.n q1 b o q2 k
      · have := hσ b k; omega,
    fun q b o e k => by
      rcases hn q b o e with ⟨q1, q2⟩ | ⟨q1, q2⟩ | q1
      · exact h.s q1 b o q2 k
      · exact h.n q1 b o q2 k
      · have := hσ b k; omega⟩
/-- the shadow's blocks, and its list of tables -/
def Sd.own (σ : Sd) (b : Nat) : Prop := σ.all b ∨ ∃ o, σ.ta = some ⟨b, o, none⟩
theorem Ss.own_lt {W w : World} {N : Nat} {σ : Sd} {pk pn : Nat → Sm.Pg} (h : Ss W N w σ pk pn) (b : Nat) (hb : σ.own b) : W.heap.size ≤ b ∧ b < w.heap.size := by
  rcases hb with hb | ⟨o, hb⟩
  · exact h.sh.all_lt b hb
  · exact (h.sh.se.ta b o hb).2.2.2.2.2.2
theorem Ss.other {W w w' : World} {N : Nat} {σ : Sd} {pk pn : Nat → Sm.Pg} (h : Ss W N w σ pk pn) {g : Nat} (hw : Wrt (isB g) w w') (hg : ¬ σ.own g) (hW : W.heap.size ≤ g) : Ss W N w' σ pk pn :=
  ⟨h.sh.other hw (fun q => hg (.inl q)) (fun b o e q => hg (.inr ⟨o, by rw [← q]; exact e⟩)) hW, h.iv⟩
theorem own_same {w w' : World} {σ σ' : Sd} (hf : Frm w w' σ σ') (ht : σ'.ta = σ.ta) (b : Nat) (hb : σ'.own b) : σ.own b ∨ w.heap.size ≤ b := by
  rcases hb with hb | ⟨o, hb⟩
  · rcases hf.own b hb with q | q
    · exact .inl (.inl q)
    · exact .inr q
  · exact .inl (.inr ⟨o, by rw [← ht]; exact hb⟩)
theorem num_c (c : Int) (w : World) (hl : Laid w) : Calls Tryz.prog 16 #[errv c] w fun e w' => e = .returned (.int .i64 c) ∧ Below w.heap.size w w' := by
  by_cases h : c = 0
  · subst h
    rw [errv0]
    exact num_nil w
  · rw [errv1 h]
    exact num_err c w hl
/-- the boxes that act makes -/
abbrev bxA (A : ActV) : Obj := .cells #[.int .i64 A.kind, .int .i64 A.n, .int .u8 A.ki, .int .u32 A.nu, .int .u64 A.ep, .int .i64 A.si, .slice A.a A.q A.c] 45
def actVal (A : ActV) : Value := .agg #[.int .i64 A.kind, .int .i64 A.n, .int .u8 A.ki, .int .u32 A.nu, .int .u64 A.ep, .int .i64 A.si, .slice A.a A.q A.c]
structure BxA (w w3 : World) (r : Rf) (A : ActV) : Prop where
  s : w3.heap[w.heap.size]? = some (bxS r)
  p : w3.heap[w.heap.size + 1]? = some (bxA A)
  z : w3.heap[w.heap.size + 2]? = some bxZ
  b : Below w.heap.size w w3
  l : w.heap.size + 3 ≤ w3.heap.size
theorem bxA_new (w : World) (r : Rf) (A : ActV) : BxA w (((w.alloc (bxS r)).alloc (bxA A)).alloc bxZ) r A := by
  refine ⟨?_, ?_, ?_, (((Below.refl _ _).alloc (Nat.le_refl _) _).alloc (by simp) _).alloc (by simp; omega) _, by simp⟩
  · exact (Go.heap_alloc_old _ _ (by simp; omega)).trans ((Go.heap_alloc_old _ _ (by simp)).trans (heap_alloc_new w _))
  · exact (Go.heap_alloc_old _ _ (by simp)).trans (heap_alloc2_new w _ _)
  · have h := heap_alloc_new ((w.alloc (bxS r)).alloc (bxA A)) bxZ
    rw [World.size_alloc, World.size_alloc] at h
    exact h
theorem BxA.below {w w3 w' : World} {r : Rf} {A : ActV} (h : BxA w w3 r A) (hb : Below w3.heap.size w3 w') : BxA w w' r A := by
  have := h.l
  exact ⟨(hb.block _ (by omega)).trans h.s, (hb.block _ (by omega)).trans h.p, (hb.block _ (by omega)).trans h.z, h.b.trans (hb.mono h.b.size), Nat.le_trans h.l hb.size⟩
theorem row7_cells {w : World} {g : Nat} {v0 v1 v2 v3 v4 v5 v6 : Value} {t : TypeId} (h : w.heap[g]? = some (.cells #[v0, v1, v2, v3, v4, v5, v6] t (0, 0))) :
    w.cell? ⟨g, 0, none⟩ = some v0 ∧ w.cell? ⟨g, 1, none⟩ = some v1 ∧ w.cell? ⟨g, 2, none⟩ = some v2 ∧ w.cell? ⟨g, 2 + 1, none⟩ = some v3 ∧ w.cell? ⟨g, 2 + 2, none⟩ = some v4 ∧ w.cell? ⟨g, 2 + 3, none⟩ = some v5 ∧ w.cell? ⟨g, 2 + 4, none⟩ = some v6 := by
  refine ⟨?_, ?_, ?_, ?_, ?_, ?_, ?_⟩ <;> (rw [cell_of_row w g _ _ _ _ h]; rfl)
/-- the document's answer in its box -/
theorem box_put {n : Nat} {w4 : World} {v0 v1 v2 v3 : Value} {g : Nat} (hg : g = w4.heap.size) (hn : n ≤ g) :
    (((((w4.alloc bxZ).setCell ⟨g, 0, none⟩ v0).setCell ⟨g, 1, none⟩ v1).setCell ⟨g, 2, none⟩ v2).setCell ⟨g, 3, none⟩ v3).heap[g]? = some (.cells #[v0, v1, v2, v3] 36 (0, 0)) ∧ Below w4.heap.size w4 (((((w4.alloc bxZ).setCell ⟨g, 0, none⟩ v0).setCell ⟨g, 1, none⟩ v1).setCell ⟨g, 2, none⟩ v2).setCell ⟨g, 3, none⟩ v3) := by
  subst hg
  exact ⟨row_set4 (heap_alloc_new w4 bxZ) _ _ _ _, below_set4 ((Below.refl _ _).alloc (Nat.le_refl _) _) (Nat.le_refl _) _ _ _ _⟩
/-- what lies beside the shadow while an act goes on: the act, the answer's box, and the document's answer -/
structure BxG (n : Nat) (w : World) (A : ActV) (g : Nat) (r : Rf) : Prop where
  p : w.heap[n + 1]? = some (bxA A)
  z : w.heap[n + 2]? = some bxZ
  gr : w.heap[g]? = some (bxS r)
  gl : n + 3 ≤ g
theorem BxG.stp {n : Nat} {w w' : World} {A : ActV} {g : Nat} {r : Rf} {X X' : Nat → Prop} (h : BxG n w A g r) (hf : Stp w X w' X') (hX : ∀ b, X b → b < n) : BxG n w' A g r := by
  have hlt : g < w.heap.size := lt_of_block h.gr
  have := h.gl
  exact ⟨(hf.block _ (by omega) (fun q => by have := hX _ q; omega)).trans h.p, (hf.block _ (by omega) (fun q => by have := hX _ q; omega)).trans h.z, (hf.block _ hlt (fun q => by have := hX _ q; omega)).trans h.gr, h.gl⟩
theorem BxG.below {n : Nat} {w w' : World} {A : ActV} {g : Nat} {r : Rf} (h : BxG n w A g r) (hb : Below w.heap.size w w') : BxG n w' A g r := h.stp (X := fun _ => False) (X' := fun _ => False) (.of_below hb) (fun _ q => q.elim)
def ActS (n : Nat) (w : World) (A : ActV) (g : Nat) (r : Rf) : Prop := w.cell? ⟨n + 1, 1, none⟩ = some (.int .i64 A.n) ∧ Cells4 w g r
theorem BxG.cells {n : Nat} {w : World} {A : ActV} {g : Nat} {r : Rf} (h : BxG n w A g r) : ActS n w A g r := ⟨(row7_cells h.p).2.1, (row4_cells h.gr).1⟩
theorem BxG.put {n : Nat} {w : World} {A : ActV} {g : Nat} {r : Rf} (h : BxG n w A g r) (v0 v1 v2 v3 : Value) : ActS n ((((w.setCell ⟨n + 1 + 1, 0, none⟩ v0).setCell ⟨n + 1 + 1, 1, none⟩ v1).setCell ⟨n + 1 + 1, 2, none⟩ v2).setCell ⟨n + 1 + 1, 3, none⟩ v3) A g r := by
  have := h.gl
  exact ⟨(row7_cells ((heap_set4 w (n + 1 + 1) (n + 1) v0 v1 v2 v3 (by omega)).trans h.p)).2.1, (row4_cells ((heap_set4 w (n + 1 + 1) g v0 v1 v2 v3 (by omega)).trans h.gr)).1⟩
/-- the answer's box is set -/
theorem act_fin {W w : World} {M n : Nat} {σ : Sd} {pk pn : Nat → Sm.Pg} {r : Rf} {A : ActV} {g : Nat} (hs : Ss W M w σ pk pn) (hx : RfX w (also σ.all (n + 2)) r) (hg : BxG n w A g r) (ho : ¬ σ.own (n + 2)) (hW : W.heap.size ≤ n) :
    let w' := (((w.setCell ⟨n + 1 + 1, 0, none⟩ (.slice r.sa r.su.length r.sc)).setCell ⟨n + 1 + 1, 1, none⟩ (.slice r.na r.nw.length r.nc)).setCell ⟨n + 1 + 1, 2, none⟩ (.int .i64 r.size)).setCell ⟨n + 1 + 1, 3, none⟩ (.int .i64 r.ep)
    w'.heap[n + 1 + 1]? = some (bxS r) ∧ Ss W M w' σ pk pn ∧ RfX w' σ.all r ∧ Wrt (isB (n + 2)) w w' := by
  intro w'
  have hw : Wrt (isB (n + 2)) w w' := ((((Wrt.refl (isB (n + 2)) w).set (show isB (n + 2) (n + 1 + 1) from rfl) 0 (.slice r.sa r.su.length r.sc)).set (show isB (n + 2) (n + 1 + 1) from rfl) 1 (.slice r.na r.nw.length r.nc)).set (show isB (n + 2) (n + 1 + 1) from rfl) 2 (.int .i64 r.size)).set (show isB (n + 2) (n + 1 + 1) from rfl) 3 (.int .i64 r.ep)
  exact ⟨row_set4 hg.z _ _ _ _, hs.other hw ho (by omega), (hx.stp (Stp.wide hw.stp (fun b q => .inr q) (fun b q => .inl q))).less (fun b q => .inl q), hw⟩
/-- what is kept, and whose the blocks are -/
def Fro (w w' : World) (σ σ' : Sd) : Prop := Frm w w' σ σ' ∧ ∀ b, σ'.own b → σ.own b ∨ w.heap.size ≤ b
theorem fro_of {w w5 w6 w7 w8 : World} {σ σ' : Sd} (h5 : Below w.heap.size w w5) (hf : Frm w5 w6 σ σ') (h7 : Below w6.heap.size w6 w7) (hw : Wrt (isB (w.heap.size + 2)) w7 w8) (ht : ∀ b, σ'.own b → σ.own b ∨ w5.heap.size ≤ b) : Fro w w8 σ σ' := by
  have hs := h5.size
  have f : Frm w w7 σ σ' := frm_trans (frm_trans (frm_below h5) hf) (frm_below h7)
  refine ⟨⟨hw.os.trans f.os, hw.tape.trans f.tape, hw.output.trans f.output, Nat.le_trans f.size (Nat.le_of_eq hw.size.symm), fun k hk hn => (hw.block k (fun q => by have : k = w.heap.size + 2 := q; omega)).trans (f.block k hk hn), f.own⟩, fun b hb => ?_⟩
  rcases ht b hb with q | q
  · exact .inl q
  · exact .inr (by omega)
def SameS (σ σ' : Sd) : Prop := σ'.kp = σ.kp ∧ σ'.tb = σ.tb ∧ σ'.ep = σ.ep ∧ σ'.ta = σ.ta
/-- what an act that drops leaves -/
def ActD (W : World) (N : Nat) (w : World) (σ : Sd) (pk pn : Nat → Sm.Pg) (r : Rf) (k : Int) (e : Ending) (w' : World) : Prop :=
  ∃ (σ' : Sd) (r' : Rf), e = .returned (.tuple #[r'.val, .bool (drC σ k == drR r k)]) ∧ Ss W (N + 2) w' σ' pk pn ∧ RfX w' σ'.all r' ∧ Eqs σ σ' ∧ Fro w w' σ σ' ∧ SameS σ σ' ∧ (drC σ k ≠ 0 → σ' = σ) ∧ (drC σ k = 0 → 0 ≤ k ∧ k < 15006 ∧ σ'.nw = updN σ.nw k.toNat 0) ∧
    r'.su = r.su ∧ r'.size = r.size ∧ r'.ep = r.ep ∧ (drR r k ≠ 0 → r'.nw = r.nw) ∧ (drR r k = 0 → r'.nw = wo r.nw k)
set_option maxRecDepth 100000 in
set_option maxHeartbeats 4000000 in
theorem act_drop {W w : World} {N : Nat} {σ : Sd} {pk pn : Nat → Sm.Pg} {r : Rf} (A : ActV) (hA : wrap64 ((IntKind.u64.wrap A.kind).tmod 7) = 3) (h : Ss W N w σ pk pn) (hx : RfX w σ.all r) (ok : RfOk r) (hl : Laid W) :
    Calls Tryz.prog 12 #[.pointer (some ⟨σ.P, 0, none⟩), r.val, actVal A] w (ActD W N w σ pk pn r A.n) := by
  have HBX := Lib.hid (bxA_new w r A)
  have HSS := Lib.hid h
  have HRX := Lib.hid hx
  have HLD := Lib.hid hl
  have HDR := Lib.hid (fun (w2 : World) (h2 : RfAt w2 r) => drop_ref r A.n w2 h2 ok)
  unfold Rf.val at HDR ⊢
  unfold actVal
  clear h hx hl ok
  go_enter Tryz.func12, Tryz.ntmps12
  go_upto_region 1 with (fail)
  have HB3 := Lib.hid HBX.out
  generalize ((w.alloc _).alloc _).alloc _ = w3 at HB3 ⊢
  obtain ⟨⟨x0, x1, x2, x3⟩, _⟩ := row4_cells HB3.out.s
  obtain ⟨a0, a1, a2, a3, a4, a5, a6⟩ := row7_cells HB3.out.p
  go_wp2_with fail
  refine (HDR.out _ (HRX.out.at'.below HB3.out.b)).mono ?_
  rintro e w4 ⟨r', rfl, hat, hb4, hsu, hsz, hep, hn1, hn0, hsa, hna⟩
  have HB4 := Lib.hid (HB3.out.below hb4)
  have HRF := Lib.hid (And.intro hsu (And.intro hsz (And.intro hep (And.intro hn1 hn0))))
  have HX4 := Lib.hid (show RfX w4 (also σ.all (w.heap.size + 2)) r' from ((HRX.out.more (Nat.le_add_right _ _)).below HB3.out.b).turn (fun b q => by
    have h3 := HB3.out.l
    rcases q with q | q
    · have := (HSS.out.sh.all_lt b q).2; omega
    · omega) hat (fun q b o e => .inl ⟨hsu ▸ q, hsa b o e⟩) (fun q b o e => by
    rcases hna b o e with e2 | e2
    · refine .inr (.inl ⟨fun q2 => q ?_, e2⟩)
      by_cases hc : drR r A.n = 0
      · rw [hn0 hc, q2]; rfl
      · rw [hn1 hc, q2]
    · exact .inr (.inr e2)))
  clear hat hb4 hsu hsz hep hn1 hn0 hsa hna x0 x1 x2 x3 a0 a1 a2 a3 a4 a5 a6 HDR HBX HRX
  unfold Rf.val
  go_upto_region 4 with (fail)
  have HB5 := Lib.hid (show BxA w (w4.alloc (bxS r')) r A from HB4.out.below (Sm.alX _ _))
  have HG5 := Lib.hid (show BxG w.heap.size (w4.alloc (bxS r')) A w4.heap.size r' from ⟨HB5.out.p, HB5.out.z, heap_alloc_new w4 _, HB4.out.l⟩)
  have HX5 := Lib.hid (HX4.out.below (Sm.alX w4 (bxS r')))
  generalize hgg : w4.heap.size = g at HG5 ⊢
  generalize w4.alloc _ = w5 at HB5 HG5 HX5 ⊢
  clear hgg HB3 HB4 HX4
  have HS5 := Lib.hid (HSS.out.below HB5.out.b)
  have HDA := Lib.hid (drop_all HS5.out A.n)
  have HDD := Lib.hid (drop_all (HS5.out.below (show Below w5.heap.size w5 w5.drew from (Below.refl _ _).drew)) A.n)
  have HLT := Lib.hid (fun b (q : σ.own b) => (HSS.out.own_lt b q).2)
  have KA := Lib.hid HG5.out.cells
  have KD := Lib.hid (show ActS w.heap.size w5.drew A g r' from HG5.out.cells)
  unfold ActS Cells4 at KA KD
  go_region_held3 (fun w' => w'.cell? ⟨w.heap.size + 1, 1, none⟩ = some (.int .i64 A.n) ∧ w'.cell? ⟨g, 0, none⟩ = some (.slice r'.sa r'.su.length r'.sc) ∧ w'.cell? ⟨g, 1, none⟩ = some (.slice r'.na r'.nw.length r'.nc) ∧ w'.cell? ⟨g, 2, none⟩ = some (.int .i64 r'.size) ∧ w'.cell? ⟨g, 3, none⟩ = some (.int .i64 r'.ep)) (first | with_reducible exact KD.out | with_reducible exact KA.out | with_reducible exact KE.out | with_reducible exact KF.out | with_reducible exact KS.out) (first | (go_at_call 20; (first | with_reducible refine HDA.out.mono ?_ | with_reducible refine HDD.out.mono ?_); rintro e w6 ⟨σ', rfl, hss6, hfr6, heq6, hsm6, hd1, hd0⟩; have HS6 := Lib.hid hss6; have HFR := Lib.hid (show Frm w5 w6 σ σ' from by first | exact hfr6 | exact frm_trans (frm_below ((Below.refl _ _).drew)) hfr6); have HEQ := Lib.hid (And.intro heq6 (And.intro hsm6 (And.intro hd1 hd0))); have HG6 := Lib.hid (HG5.out.stp HFR.out (fun b q => HLT.out b (.inl q))); have KE := Lib.hid HG6.out.cells; unfold ActS Cells4 at KE; clear hss6 hfr6 heq6 hsm6 hd1 hd0) | (go_at_call 16; refine (num_c _ _ (HLD.out.below (by first | exact HS6.out.sh.ps.b | exact HS6.out.sh.ps.b.drew))).mono ?_; rintro e w7 ⟨rfl, hb7⟩; have HB7 := Lib.hid (show Below w6.heap.size w6 w7 from by first | exact hb7 | exact ((Below.refl _ _).drew).trans hb7); have HG7 := Lib.hid (HG6.out.below HB7.out); have KF := Lib.hid HG7.out.cells; unfold ActS Cells4 at KF; obtain ⟨⟨z0, z1, z2, z3⟩, t0, t1, t2, t3⟩ := row4_cells HG7.out.z; have KS := Lib.hid (HG7.out.put (.slice r'.sa r'.su.length r'.sc) (.slice r'.na r'.nw.length r'.nc) (.int .i64 r'.size) (.int .i64 r'.ep)); unfold ActS Cells4 at KS; clear hb7))
  clear KA KD KE KF KS HDA HDD
  go_wp2
  have HTA := Lib.hid (show ∀ b, σ'.own b → σ.own b ∨ w5.heap.size ≤ b from own_same HFR.out HEQ.out.2.1.2.2.2)
  obtain ⟨hrow, hs8, hx8, hw8⟩ := act_fin (HS6.out.below HB7.out) ((HX5.out.stp (stp_also HFR.out (w.heap.size + 2))).below HB7.out) HG7.out (fun q => by
    have h5 := HB5.out.l
    rcases HTA.out _ q with q | q
    · have := HLT.out _ q; omega
    · omega) HSS.out.sh.ps.b.size
  refine Sm.post_row_tmp Tryz.results12 (w.heap.size + 1 + 1) 36 #[.slice r'.sa r'.su.length r'.sc, .slice r'.na r'.nw.length r'.nc, .int .i64 r'.size, .int .i64 r'.ep] (0, 0) _ (.bool (drC σ A.n == drR r A.n)) Tryz.underlying36 rfl info_rs (by rfl) (by rfl) hrow (by rfl) ?_
  exact ⟨σ', r', rfl, hs8, hx8, HEQ.out.1, fro_of HB5.out.b HFR.out HB7.out hw8 HTA.out, HEQ.out.2.1, HEQ.out.2.2.1, HEQ.out.2.2.2, HRF.out.1, HRF.out.2.1, HRF.out.2.2.1, HRF.out.2.2.2.1, HRF.out.2.2.2.2⟩
end Go.Proofs.YtokikeenfpligaaGreatDoor.Sh
namespace Go.Proofs.YtokikeenfpligaaGreatDoor
open Go.RowKit

def cmR (r : Rf) : Int := if freeR r < tblsE r.nw then 5 else 0
theorem commit_ref (r : Rf) (w : World) (h : RfAt w r) (ok : RfOk r) : Calls Tryz.prog 26 #[r.val] w (CommitR w r (cmR r)) := by
  unfold cmR
  by_cases q : freeR r < tblsE r.nw
  · rw [if_pos q]; exact commit_ref5 r w h ok q
  · rw [if_neg q]; exact commit_ref0 r w h ok q
theorem write_ref (r : Rf) (k ki nu ep si : Int) (a : Option Addr) (q c : Nat) (rs : List (List Int)) (w : World) (h : RfAt w r) (ok : RfOk r) (hq : rs.length = q) (hq2 : q ≤ 9223372036854775807) (hs : si ≤ 9223372036854775807) (hr : Sm.Recs w a rs) :
    Calls Tryz.prog 40 #[r.val, .int .i64 k, .agg #[.int .u8 ki, .int .u32 nu, .int .u64 ep, .int .i64 si, .slice a q c]] w (WriteR w r k (wEnt r k ki si a q c) (wrR r k (Sm.Pg.mkPg ki nu ep si rs).may)) := by
  unfold wrR
  by_cases hk : k < 0 ∨ 15006 ≤ k
  · rw [if_pos hk]; exact write_ref4 r k ki nu ep si a q c _ w h hk
  · rw [if_neg hk]
    have h0 : ¬ k < 0 := fun e => hk (.inl e)
    have h1 : ¬ 15006 ≤ k := fun e => hk (.inr e)
    cases hm : (Sm.Pg.mkPg ki nu ep si rs).may
    · rw [if_pos rfl]; exact write_ref1 r k ki nu ep si a q c rs _ w h h0 h1 hq hq2 hs hr hm
    · rw [if_neg (by decide)]
      have hfd : ∀ (i : Int), plc (nums5 r.nw) k = i → ∀ w2, RfAt w2 r → Calls Tryz.prog 46 #[.slice r.na r.nw.length r.nc, .int .i64 k] w2 fun e w' => e = .returned (.int .i64 i) ∧ w2 = w' := fun i hi w2 h2 => by
        rw [← hi]
        exact find_ref r.na r.nw.length r.nc r.nw k w2 h2.n rfl (by have := ok.l2; omega)
      by_cases hd : (k ∈ nums5 r.nw ∧ lateAt r.nw k = true) ∨ 1 ≤ freeR r
      · rw [if_pos hd]
        by_cases hmem : k ∈ nums5 r.nw
        · obtain ⟨j, hj, hp, hl⟩ := plc_at hmem
          refine write_ref0 r k ki nu ep si a q c rs w h ok h0 h1 hq hq2 hs hr hm (j : Int) (.inr ⟨j, hj, rfl, ?_⟩) (hfd _ hp)
          have hlj := hl hj
          cases hb : r.nw[j].late
          · refine .inr ⟨rfl, fun e => ?_⟩
            rcases hd with ⟨_, d⟩ | d
            · rw [hlj, hb] at d; cases d
            · omega
          · exact .inl rfl
        · refine write_ref0 r k ki nu ep si a q c rs w h ok h0 h1 hq hq2 hs hr hm (plc (nums5 r.nw) k) (.inl ⟨plc_neg.2 hmem, fun e => ?_⟩) (hfd _ rfl)
          rcases hd with ⟨d, _⟩ | d
          · exact hmem d
          · omega
      · rw [if_neg hd]
        exact write_ref5 r k ki nu ep si a q c rs _ w h ok h0 h1 hq hq2 hs hr hm (fun e => hd (.inl e)) (by have : ¬ 1 ≤ freeR r := fun e => hd (.inr e); omega)
end Go.Proofs.YtokikeenfpligaaGreatDoor
namespace Go.Proofs.YtokikeenfpligaaGreatDoor.Sh
open Go.RowKit Go.Maps

theorem own_turn {w w' : World} {σ σ' : Sd} (hf : Frm w w' σ σ') (ht : ∀ b o, σ'.ta = some ⟨b, o, none⟩ → σ.ta = some ⟨b, o, none⟩ ∨ w.heap.size ≤ b) (b : Nat) (hb : σ'.own b) : σ.own b ∨ w.heap.size ≤ b := by
  rcases hb with hb | ⟨o, hb⟩
  · rcases hf.own b hb with q | q
    · exact .inl (.inl q)
    · exact .inr q
  · rcases ht b o hb with q | q
    · exact .inl (.inr ⟨o, q⟩)
    · exact .inr q
def cmS (σ : Sd) (t : Nat) : Int := if σ.S.free < t then 5 else 0
def CmX (W : World) (N : Nat) (w : World) (σ : Sd) (pk pn : Nat → Sm.Pg) (t : Nat) (e : Ending) (w' : World) : Prop :=
  ∃ σ', e = .returned (errv (cmS σ t)) ∧ Ss W (N + 4000) w' σ' (if σ.S.free < t then pk else pn) pn ∧ Frm w w' σ σ' ∧ Eqs σ σ' ∧ ((σ.S.free < t → σ' = σ) ∧ ∀ b o, σ'.ta = some ⟨b, o, none⟩ → σ.ta = some ⟨b, o, none⟩ ∨ w.heap.size ≤ b) ∧ (¬ σ.S.free < t → σ'.kp = σ.nw ∧ σ'.nw = σ.nw ∧ σ'.ep = σ.ep + 1 ∧ σ'.tb.length = t)
theorem commit_x {W w : World} {N : Nat} {σ : Sd} {pk pn : Nat → Sm.Pg} (h : Ss W N w σ pk pn) (t : Nat) (ht : IsTbl σ.nw t) (he : σ.ep + 1 < 4611686018427387904) (hN : N + 20000 < 2305843009213693952) :
    Calls Tryz.prog 21 #[.pointer (some ⟨σ.P, 0, none⟩)] w (CmX W N w σ pk pn t) :=
  (commit_all h t ht he hN).mono fun _ _ ⟨σ', h1, h2, h3, h4, h5, h6⟩ => ⟨σ', h1, h2, h3, h4, h5, fun q => (h6 q).2⟩
/-- what an act that keeps all leaves -/
def ActC (W : World) (N : Nat) (w : World) (σ : Sd) (pk pn : Nat → Sm.Pg) (r : Rf) (t : Nat) (e : Ending) (w' : World) : Prop :=
  ∃ (σ' : Sd) (r' : Rf), e = .returned (.tuple #[r'.val, .bool (cmS σ t == cmR r)]) ∧ Ss W (N + 4000) w' σ' (if σ.S.free < t then pk else pn) pn ∧ RfX w' σ'.all r' ∧ Eqs σ σ' ∧ Fro w w' σ σ' ∧ (σ.S.free < t → σ' = σ) ∧ (¬ σ.S.free < t → σ'.kp = σ.nw ∧ σ'.nw = σ.nw ∧ σ'.ep = σ.ep + 1 ∧ σ'.tb.length = t) ∧
    r'.size = r.size ∧ (cmR r ≠ 0 → r'.nw = r.nw ∧ r'.su = r.su ∧ r'.ep = r.ep) ∧ (cmR r = 0 → r'.nw = cl r.nw ∧ r'.su = cl r.nw ∧ r'.ep = r.ep + 1)
set_option maxRecDepth 100000 in
set_option maxHeartbeats 4000000 in
theorem act_commit {W w : World} {N : Nat} {σ : Sd} {pk pn : Nat → Sm.Pg} {r : Rf} (A : ActV) (hA : wrap64 ((IntKind.u64.wrap A.kind).tmod 7) = 4 ∨ wrap64 ((IntKind.u64.wrap A.kind).tmod 7) = 5) (h : Ss W N w σ pk pn) (hx : RfX w σ.all r) (ok : RfOk r) (hl : Laid W) (t : Nat) (ht : IsTbl σ.nw t) (he : σ.ep + 1 < 4611686018427387904) (hN : N + 20000 < 2305843009213693952) :
    Calls Tryz.prog 12 #[.pointer (some ⟨σ.P, 0, none⟩), r.val, actVal A] w (ActC W N w σ pk pn r t) := by
  have HBX := Lib.hid (bxA_new w r A)
  have HSS := Lib.hid h
  have HRX := Lib.hid hx
  have HLD := Lib.hid hl
  have HTT := Lib.hid ht
  have HDR := Lib.hid (fun (w2 : World) (h2 : RfAt w2 r) => commit_ref r w2 h2 ok)
  unfold Rf.val at HDR ⊢
  unfold actVal
  clear h hx hl ok ht
  rcases hA with hA | hA
  all_goals go_enter Tryz.func12, Tryz.ntmps12
  all_goals go_upto_region 1 with (fail)
  all_goals have HB3 := Lib.hid HBX.out
  all_goals generalize ((w.alloc _).alloc _).alloc _ = w3 at HB3 ⊢
  all_goals obtain ⟨⟨x0, x1, x2, x3⟩, _⟩ := row4_cells HB3.out.s
  all_goals obtain ⟨a0, a1, a2, a3, a4, a5, a6⟩ := row7_cells HB3.out.p
  all_goals go_wp2_with fail
  all_goals refine (HDR.out _ (HRX.out.at'.below HB3.out.b)).mono ?_
  all_goals rintro e w4 ⟨r', rfl, hat, hb4, hsz, hn1, hn0, hsa, hna⟩
  all_goals have HB4 := Lib.hid (HB3.out.below hb4)
  all_goals have HRF := Lib.hid (And.intro hsz (And.intro hn1 hn0))
  all_goals have HX4 := Lib.hid (show RfX w4 (also σ.all (w.heap.size + 2)) r' from ((HRX.out.more (Nat.le_add_right _ _)).below HB3.out.b).turn (fun b q => by
    have h3 := HB3.out.l
    rcases q with q | q
    · have := (HSS.out.sh.all_lt b q).2; omega
    · omega) hat (fun q b o e => by
      rcases hsa b o e with ⟨c0, e2⟩ | e2
      · exact .inl ⟨by rw [← (hn1 c0).2.1]; exact q, e2⟩
      · exact .inr (.inr e2)) (fun q b o e => by
      rcases hna b o e with ⟨c0, e2⟩ | e2
      · exact .inr (.inl ⟨by rw [← (hn1 c0).1]; exact q, e2⟩)
      · exact .inr (.inr e2)))
  all_goals clear hat hb4 hsz hn1 hn0 hsa hna x0 x1 x2 x3 a0 a1 a2 a3 a4 a5 a6 HDR HBX HRX
  all_goals unfold Rf.val
  all_goals go_upto_region 8 with (fail)
  all_goals have HB5 := Lib.hid (show BxA w (w4.alloc (bxS r')) r A from HB4.out.below (Sm.alX _ _))
  all_goals have HG5 := Lib.hid (show BxG w.heap.size (w4.alloc (bxS r')) A w4.heap.size r' from ⟨HB5.out.p, HB5.out.z, heap_alloc_new w4 _, HB4.out.l⟩)
  all_goals have HX5 := Lib.hid (HX4.out.below (Sm.alX w4 (bxS r')))
  all_goals generalize hgg : w4.heap.size = g at HG5 ⊢
  all_goals generalize w4.alloc _ = w5 at HB5 HG5 HX5 ⊢
  all_goals clear hgg HB3 HB4 HX4
  all_goals have HS5 := Lib.hid (HSS.out.below HB5.out.b)
  all_goals have HDA := Lib.hid (commit_x HS5.out t HTT.out he hN)
  all_goals have HDD := Lib.hid (commit_x (HS5.out.below (show Below w5.heap.size w5 w5.drew from (Below.refl _ _).drew)) t HTT.out he hN)
  all_goals have HLT := Lib.hid (fun b (q : σ.own b) => (HSS.out.own_lt b q).2)
  all_goals have KA := Lib.hid HG5.out.cells.2
  all_goals have KD := Lib.hid (show Cells4 w5.drew g r' from HG5.out.cells.2)
  all_goals unfold Cells4 at KA KD
  all_goals go_region_held3 (fun w' => w'.cell? ⟨g, 0, none⟩ = some (.slice r'.sa r'.su.length r'.sc) ∧ w'.cell? ⟨g, 1, none⟩ = some (.slice r'.na r'.nw.length r'.nc) ∧ w'.cell? ⟨g, 2, none⟩ = some (.int .i64 r'.size) ∧ w'.cell? ⟨g, 3, none⟩ = some (.int .i64 r'.ep)) (first | with_reducible exact KD.out | with_reducible exact KA.out | with_reducible exact KE.out | with_reducible exact KF.out | with_reducible exact KS.out) (first | (go_at_call 21; (first | with_reducible refine HDA.out.mono ?_ | with_reducible refine HDD.out.mono ?_); rintro e w6 ⟨σ', rfl, hss6, hfr6, heq6, ⟨hd1, hta⟩, hd0⟩; have HS6 := Lib.hid hss6; have HFR := Lib.hid (show Frm w5 w6 σ σ' from by first | exact hfr6 | exact frm_trans (frm_below ((Below.refl _ _).drew)) hfr6); have HTA := Lib.hid (show ∀ b, σ'.own b → σ.own b ∨ w5.heap.size ≤ b from own_turn HFR.out hta); have HEQ := Lib.hid (And.intro heq6 (And.intro hd1 hd0)); have HG6 := Lib.hid (HG5.out.stp HFR.out (fun b q => HLT.out b (.inl q))); have KE := Lib.hid HG6.out.cells.2; unfold Cells4 at KE; clear hss6 hfr6 heq6 hd1 hd0 hta) | (go_at_call 16; refine (num_c _ _ (HLD.out.below (by first | exact HS6.out.sh.ps.b | exact HS6.out.sh.ps.b.drew))).mono ?_; rintro e w7 ⟨rfl, hb7⟩; have HB7 := Lib.hid (show Below w6.heap.size w6 w7 from by first | exact hb7 | exact ((Below.refl _ _).drew).trans hb7); have HG7 := Lib.hid (HG6.out.below HB7.out); have KF := Lib.hid HG7.out.cells.2; unfold Cells4 at KF; obtain ⟨⟨z0, z1, z2, z3⟩, t0, t1, t2, t3⟩ := row4_cells HG7.out.z; have KS := Lib.hid (HG7.out.put (.slice r'.sa r'.su.length r'.sc) (.slice r'.na r'.nw.length r'.nc) (.int .i64 r'.size) (.int .i64 r'.ep)).2; unfold Cells4 at KS; clear hb7))
  all_goals clear KA KD KE KF KS HDA HDD
  all_goals go_wp2
  all_goals obtain ⟨hrow, hs8, hx8, hw8⟩ := act_fin (HS6.out.below HB7.out) ((HX5.out.stp (stp_also HFR.out (w.heap.size + 2))).below HB7.out) HG7.out (fun q => by
    have h5 := HB5.out.l
    rcases HTA.out _ q with q | q
    · have := HLT.out _ q; omega
    · omega) HSS.out.sh.ps.b.size
  all_goals refine Sm.post_row_tmp Tryz.results12 (w.heap.size + 1 + 1) 36 #[.slice r'.sa r'.su.length r'.sc, .slice r'.na r'.nw.length r'.nc, .int .i64 r'.size, .int .i64 r'.ep] (0, 0) _ (.bool (cmS σ t == cmR r)) Tryz.underlying36 rfl info_rs (by rfl) (by rfl) hrow (by rfl) ?_
  all_goals exact ⟨σ', r', rfl, hs8, hx8, HEQ.out.1, fro_of HB5.out.b HFR.out HB7.out hw8 HTA.out, HEQ.out.2.1, HEQ.out.2.2, HRF.out.1, HRF.out.2.1, HRF.out.2.2⟩
end Go.Proofs.YtokikeenfpligaaGreatDoor.Sh
namespace Go.Proofs.YtokikeenfpligaaGreatDoor.Sh
open Go.RowKit Go.Maps

def ActW (W : World) (N : Nat) (w : World) (σ : Sd) (pk pn : Nat → Sm.Pg) (r : Rf) (A : ActV) (e : Ending) (w' : World) : Prop :=
  ∃ (σ' : Sd) (pn' : Nat → Sm.Pg) (r' : Rf), e = .returned (.tuple #[r'.val, .bool (wrC σ A.n (Sm.Pg.mkPg A.ki A.nu A.ep A.si A.rs).may == wrR r A.n (Sm.Pg.mkPg A.ki A.nu A.ep A.si A.rs).may)]) ∧ Ss W (N + 2) w' σ' pk pn' ∧ RfX w' σ'.all r' ∧ Eqs σ σ' ∧ Fro w w' σ σ' ∧ SameS σ σ' ∧ (wrC σ A.n (Sm.Pg.mkPg A.ki A.nu A.ep A.si A.rs).may ≠ 0 → σ' = σ ∧ pn' = pn) ∧ (wrC σ A.n (Sm.Pg.mkPg A.ki A.nu A.ep A.si A.rs).may = 0 → Put1 σ σ' pn pn' A.n A.ki A.si A.rs) ∧
    r'.su = r.su ∧ r'.size = r.size ∧ r'.ep = r.ep ∧ (wrR r A.n (Sm.Pg.mkPg A.ki A.nu A.ep A.si A.rs).may ≠ 0 → r'.nw = r.nw) ∧ (wrR r A.n (Sm.Pg.mkPg A.ki A.nu A.ep A.si A.rs).may = 0 → r'.nw = ins (wo r.nw A.n) (wEnt r A.n A.ki A.si A.a A.q A.c))
def ActS6 (n : Nat) (w : World) (A : ActV) (g : Nat) (r : Rf) : Prop := w.cell? ⟨n + 1, 1, none⟩ = some (.int .i64 A.n) ∧ w.cell? ⟨n + 1, 2, none⟩ = some (.int .u8 A.ki) ∧ w.cell? ⟨n + 1, 2 + 1, none⟩ = some (.int .u32 A.nu) ∧ w.cell? ⟨n + 1, 2 + 2, none⟩ = some (.int .u64 A.ep) ∧ w.cell? ⟨n + 1, 2 + 3, none⟩ = some (.int .i64 A.si) ∧ w.cell? ⟨n + 1, 2 + 4, none⟩ = some (.slice A.a A.q A.c) ∧ Cells4 w g r
theorem BxG.cells6 {n : Nat} {w : World} {A : ActV} {g : Nat} {r : Rf} (h : BxG n w A g r) : ActS6 n w A g r := by
  obtain ⟨_, a1, a2, a3, a4, a5, a6⟩ := row7_cells h.p
  exact ⟨a1, a2, a3, a4, a5, a6, (row4_cells h.gr).1⟩
theorem BxG.put6 {n : Nat} {w : World} {A : ActV} {g : Nat} {r : Rf} (h : BxG n w A g r) (v0 v1 v2 v3 : Value) : ActS6 n ((((w.setCell ⟨n + 1 + 1, 0, none⟩ v0).setCell ⟨n + 1 + 1, 1, none⟩ v1).setCell ⟨n + 1 + 1, 2, none⟩ v2).setCell ⟨n + 1 + 1, 3, none⟩ v3) A g r := by
  have := h.gl
  obtain ⟨_, a1, a2, a3, a4, a5, a6⟩ := row7_cells ((heap_set4 w (n + 1 + 1) (n + 1) v0 v1 v2 v3 (by omega)).trans h.p)
  exact ⟨a1, a2, a3, a4, a5, a6, (row4_cells ((heap_set4 w (n + 1 + 1) g v0 v1 v2 v3 (by omega)).trans h.gr)).1⟩
set_option maxRecDepth 100000 in
set_option maxHeartbeats 4000000 in
theorem act_write {W w : World} {N : Nat} {σ : Sd} {pk pn : Nat → Sm.Pg} {r : Rf} (A : ActV) (hA : 0 ≤ wrap64 ((IntKind.u64.wrap A.kind).tmod 7) ∧ ¬ wrap64 ((IntKind.u64.wrap A.kind).tmod 7) = 3 ∧ ¬ wrap64 ((IntKind.u64.wrap A.kind).tmod 7) = 4 ∧ ¬ wrap64 ((IntKind.u64.wrap A.kind).tmod 7) = 5 ∧ ¬ wrap64 ((IntKind.u64.wrap A.kind).tmod 7) = 6) (hin : PageIn W A.ki A.nu A.ep A.si A.a A.q A.rs) (hN : N + 10 < 2305843009213693952) (h : Ss W N w σ pk pn) (hx : RfX w σ.all r) (ok : RfOk r) (hl : Laid W) :
    Calls Tryz.prog 12 #[.pointer (some ⟨σ.P, 0, none⟩), r.val, actVal A] w (ActW W N w σ pk pn r A) := by
  have HBX := Lib.hid (bxA_new w r A)
  have HSS := Lib.hid h
  have HRX := Lib.hid hx
  have HLD := Lib.hid hl
  have HIN := Lib.hid hin
  have HMX : ∃ M, M = (Sm.Pg.mkPg A.ki A.nu A.ep A.si A.rs).may := ⟨_, rfl⟩
  obtain ⟨M, hM⟩ := HMX
  have HDR := Lib.hid (fun (w2 : World) (h2 : RfAt w2 r) (hr : Sm.Recs w2 A.a A.rs) => write_ref r A.n A.ki A.nu A.ep A.si A.a A.q A.c A.rs w2 h2 ok hin.len hin.max hin.s1 hr)
  obtain ⟨_, n3, n4, n5, n6⟩ := hA
  unfold ActW
  rw [← hM] at HDR ⊢
  have HM := Lib.hid hM
  clear hM hin
  unfold Rf.val at HDR ⊢
  unfold actVal
  clear h hx hl ok
  go_enter Tryz.func12, Tryz.ntmps12
  go_upto_region 1 with (fail)
  have HB3 := Lib.hid HBX.out
  generalize ((w.alloc _).alloc _).alloc _ = w3 at HB3 ⊢
  obtain ⟨⟨x0, x1, x2, x3⟩, _⟩ := row4_cells HB3.out.s
  obtain ⟨a0, a1, a2, a3, a4, a5, a6⟩ := row7_cells HB3.out.p
  go_wp2_with fail
  refine (HDR.out _ (HRX.out.at'.below HB3.out.b) (HIN.out.recs.below (HSS.out.sh.ps.b.trans (HB3.out.b.mono HSS.out.sh.ps.b.size)))).mono ?_
  rintro e w4 ⟨r', rfl, hat, hb4, hsu, hsz, hep, hn1, hn0, hsa, hna⟩
  have HB4 := Lib.hid (HB3.out.below hb4)
  have HRF := Lib.hid (And.intro hsu (And.intro hsz (And.intro hep (And.intro hn1 hn0))))
  have HX4 := Lib.hid (show RfX w4 (also σ.all (w.heap.size + 2)) r' from ((HRX.out.more (Nat.le_add_right _ _)).below HB3.out.b).turn (fun b q => by
    have h3 := HB3.out.l
    rcases q with q | q
    · have := (HSS.out.sh.all_lt b q).2; omega
    · omega) hat (fun q b o e => .inl ⟨hsu ▸ q, hsa b o e⟩) (fun q b o e => by
    rcases hna b o e with ⟨c0, e2⟩ | e2
    · exact .inr (.inl ⟨by rw [← hn1 c0]; exact q, e2⟩)
    · exact .inr (.inr e2)))
  clear hat hb4 hsu hsz hep hn1 hn0 hsa hna x0 x1 x2 x3 a0 a1 a2 a3 a4 a5 a6 HDR HBX HRX
  unfold Rf.val
  go_upto_region 12 with (fail)
  have HB5 := Lib.hid (show BxA w (w4.alloc (bxS r')) r A from HB4.out.below (Sm.alX _ _))
  have HG5 := Lib.hid (show BxG w.heap.size (w4.alloc (bxS r')) A w4.heap.size r' from ⟨HB5.out.p, HB5.out.z, heap_alloc_new w4 _, HB4.out.l⟩)
  have HX5 := Lib.hid (HX4.out.below (Sm.alX w4 (bxS r')))
  generalize hgg : w4.heap.size = g at HG5 ⊢
  generalize w4.alloc _ = w5 at HB5 HG5 HX5 ⊢
  clear hgg HB3 HB4 HX4
  have HS5 := Lib.hid (HSS.out.below HB5.out.b)
  have HDA := Lib.hid (write_all HS5.out A.n A.ki A.nu A.ep A.si A.a A.q A.c A.rs HIN.out.len HIN.out.max HIN.out.s1 (HIN.out.recs.below HS5.out.sh.ps.b) HIN.out.k0 HIN.out.k1 hN)
  have HDD := Lib.hid (write_all (HS5.out.below (show Below w5.heap.size w5 w5.drew from (Below.refl _ _).drew)) A.n A.ki A.nu A.ep A.si A.a A.q A.c A.rs HIN.out.len HIN.out.max HIN.out.s1 (HIN.out.recs.below HS5.out.sh.ps.b.drew) HIN.out.k0 HIN.out.k1 hN)
  rw [← HM.out] at HDA HDD
  have HLT := Lib.hid (fun b (q : σ.own b) => (HSS.out.own_lt b q).2)
  have KA := Lib.hid HG5.out.cells6
  have KD := Lib.hid (show ActS6 w.heap.size w5.drew A g r' from HG5.out.cells6)
  unfold ActS6 Cells4 at KA KD
  go_region_held3 (fun w' => w'.cell? ⟨w.heap.size + 1, 1, none⟩ = some (.int .i64 A.n) ∧ w'.cell? ⟨w.heap.size + 1, 2, none⟩ = some (.int .u8 A.ki) ∧ w'.cell? ⟨w.heap.size + 1, 2 + 1, none⟩ = some (.int .u32 A.nu) ∧ w'.cell? ⟨w.heap.size + 1, 2 + 2, none⟩ = some (.int .u64 A.ep) ∧ w'.cell? ⟨w.heap.size + 1, 2 + 3, none⟩ = some (.int .i64 A.si) ∧ w'.cell? ⟨w.heap.size + 1, 2 + 4, none⟩ = some (.slice A.a A.q A.c) ∧ w'.cell? ⟨g, 0, none⟩ = some (.slice r'.sa r'.su.length r'.sc) ∧ w'.cell? ⟨g, 1, none⟩ = some (.slice r'.na r'.nw.length r'.nc) ∧ w'.cell? ⟨g, 2, none⟩ = some (.int .i64 r'.size) ∧ w'.cell? ⟨g, 3, none⟩ = some (.int .i64 r'.ep)) (first | with_reducible exact KD.out | with_reducible exact KA.out | with_reducible exact KE.out | with_reducible exact KF.out | with_reducible exact KS.out) (first | (go_at_call 19; (first | with_reducible refine HDA.out.mono ?_ | with_reducible refine HDD.out.mono ?_); rintro e w6 ⟨σ', pn', rfl, hss6, hfr6, heq6, hsm6, hd1, hd0⟩; have HS6 := Lib.hid hss6; have HFR := Lib.hid (show Frm w5 w6 σ σ' from by first | exact hfr6 | exact frm_trans (frm_below ((Below.refl _ _).drew)) hfr6); have HEQ := Lib.hid (And.intro heq6 (And.intro hsm6 (And.intro hd1 hd0))); have HG6 := Lib.hid (HG5.out.stp HFR.out (fun b q => HLT.out b (.inl q))); have KE := Lib.hid HG6.out.cells6; unfold ActS6 Cells4 at KE; clear hss6 hfr6 heq6 hsm6 hd1 hd0) | (go_at_call 16; refine (num_c _ _ (HLD.out.below (by first | exact HS6.out.sh.ps.b | exact HS6.out.sh.ps.b.drew))).mono ?_; rintro e w7 ⟨rfl, hb7⟩; have HB7 := Lib.hid (show Below w6.heap.size w6 w7 from by first | exact hb7 | exact ((Below.refl _ _).drew).trans hb7); have HG7 := Lib.hid (HG6.out.below HB7.out); have KF := Lib.hid HG7.out.cells6; unfold ActS6 Cells4 at KF; obtain ⟨⟨z0, z1, z2, z3⟩, t0, t1, t2, t3⟩ := row4_cells HG7.out.z; have KS := Lib.hid (HG7.out.put6 (.slice r'.sa r'.su.length r'.sc) (.slice r'.na r'.nw.length r'.nc) (.int .i64 r'.size) (.int .i64 r'.ep)); unfold ActS6 Cells4 at KS; clear hb7))
  clear KA KD KE KF KS HDA HDD
  go_wp2
  have HTA := Lib.hid (show ∀ b, σ'.own b → σ.own b ∨ w5.heap.size ≤ b from own_same HFR.out HEQ.out.2.1.2.2.2)
  obtain ⟨hrow, hs8, hx8, hw8⟩ := act_fin (HS6.out.below HB7.out) ((HX5.out.stp (stp_also HFR.out (w.heap.size + 2))).below HB7.out) HG7.out (fun q => by
    have h5 := HB5.out.l
    rcases HTA.out _ q with q | q
    · have := HLT.out _ q; omega
    · omega) HSS.out.sh.ps.b.size
  refine Sm.post_row_tmp Tryz.results12 (w.heap.size + 1 + 1) 36 #[.slice r'.sa r'.su.length r'.sc, .slice r'.na r'.nw.length r'.nc, .int .i64 r'.size, .int .i64 r'.ep] (0, 0) _ (.bool (wrC σ A.n M == wrR r A.n M)) Tryz.underlying36 rfl info_rs (by rfl) (by rfl) hrow (by rfl) ?_
  exact ⟨σ', pn', r', rfl, hs8, hx8, HEQ.out.1, fro_of HB5.out.b HFR.out HB7.out hw8 HTA.out, HEQ.out.2.1, HEQ.out.2.2.1, HEQ.out.2.2.2, HRF.out.1, HRF.out.2.1, HRF.out.2.2.1, HRF.out.2.2.2.1, HRF.out.2.2.2.2⟩
end Go.Proofs.YtokikeenfpligaaGreatDoor.Sh

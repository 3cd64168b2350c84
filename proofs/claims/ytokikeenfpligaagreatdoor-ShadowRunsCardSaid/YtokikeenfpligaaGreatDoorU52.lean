/-
  ShadowRuns, the walk. No condition but that the input could be read, and the package-level variable.
-/
import Derived.BigRegion
import Derived.Deep.RegionHeld3
import Derived.Deep.CutBlock
import Derived.Test.YtokikeenfpligaaGreatDoorU50
import Derived.Test.YtokikeenfpligaaGreatDoorU51
namespace Go.Proofs.YtokikeenfpligaaGreatDoor.Sh
open Go.RowKit Go.Maps

def rf0R (n : Int) : Rf := ⟨[], [], none, 0, none, 0, n, 0⟩
theorem numO_nilR : NumO [] := fun _ h => absurd h (by simp)
def CellsAR (w : World) (b o : Nat) (A : ActV) : Prop := w.cell? ⟨b, o, none⟩ = some (.int .i64 A.kind) ∧ w.cell? ⟨b, o + 1, none⟩ = some (.int .i64 A.n) ∧ w.cell? ⟨b, o + 2, none⟩ = some (.int .u8 A.ki) ∧ w.cell? ⟨b, o + 2 + 1, none⟩ = some (.int .u32 A.nu) ∧ w.cell? ⟨b, o + 2 + 2, none⟩ = some (.int .u64 A.ep) ∧ w.cell? ⟨b, o + 2 + 3, none⟩ = some (.int .i64 A.si) ∧ w.cell? ⟨b, o + 2 + 4, none⟩ = some (.slice A.a A.q A.c)
theorem cellsAR {W w : World} {b o : Nat} {A : ActV} (hb : Below W.heap.size W w) (h : W.rangeAt b o A.cells) : CellsAR w b o A :=
  ⟨act_cell hb h 0 _ rfl, act_cell hb h 1 _ rfl, act_cell hb h 2 _ rfl, act_cell hb h 3 _ rfl, act_cell hb h 4 _ rfl, act_cell hb h 5 _ rfl, act_cell hb h 6 _ rfl⟩
theorem St.belowR {W w w' : World} {N : Nat} {σ : Sd} {pk pn : Nat → Sm.Pg} {r : Rf} {i : Nat} (h : St W w N σ pk pn r i) (hb : Below w.heap.size w w') : St W w' N σ pk pn r i :=
  ⟨h.ss.below hb, h.rx.below hb, h.l1, h.l2, h.b1, h.b2, h.s0, h.s1, h.e0, h.e1, h.ep, h.qk, h.qn⟩
theorem fro_drewR {w w' : World} {σ σ' : Sd} (h : Fro w.drew w' σ σ') : Fro w w' σ σ' := ⟨frm_trans (frm_below ((Below.refl _ _).drew)) h.1, h.2⟩
theorem fro_belowR {w v w' : World} {σ σ' : Sd} (hb : Below w.heap.size w v) (h : Fro v w' σ σ') : Fro w w' σ σ' := ⟨frm_trans (frm_below hb) h.1, fun b q => by
  rcases h.2 b q with k | k
  · exact .inl k
  · exact .inr (Nat.le_trans hb.size k)⟩
/-- the world with the new box, by whichever order -/
def NewBoxR (w v : World) : Prop := Below w.heap.size w v ∧ v.heap[w.heap.size]? = some bxZ ∧ w.heap.size < v.heap.size
theorem newBox2R (w : World) : NewBoxR w (w.alloc bxZ) := ⟨Sm.alX _ _, heap_alloc_new w _, by simp⟩
theorem newBox3R (w : World) : NewBoxR w (w.alloc bxZ).drew := ⟨(Sm.alX _ _).drew, heap_alloc_new w _, by show w.heap.size < (w.alloc bxZ).heap.size; simp⟩
theorem newBox4R (w : World) : NewBoxR w (w.drew.alloc bxZ) := ⟨(Below.refl _ _).drew.alloc (Nat.le_refl _) _, heap_alloc_new w.drew _, by show w.heap.size < (w.drew.alloc bxZ).heap.size; rw [World.size_alloc]; exact Nat.lt_succ_self _⟩
theorem fro_boxR {w v w' : World} {σ σ' : Sd} (hv : NewBoxR w v) (h : Fro v w' σ σ') (hno : ∀ b, σ.own b → b < w.heap.size) : w'.heap[w.heap.size]? = some bxZ ∧ ¬ σ'.own w.heap.size := by
  refine ⟨(h.1.block _ hv.2.2 (fun q => by have := hno _ (.inl q); omega)).trans hv.2.1, fun q => ?_⟩
  rcases h.2 _ q with k | k
  · have := hno _ k; omega
  · have := hv.2.2; omega
/-- all that the region reads -/
def ActXR (w : World) (g : Nat) (r : Rf) (b o : Nat) (A : ActV) : Prop := Cells4 w g r ∧ CellsAR w b o A
theorem ents_otherR {w w' : World} {a : Option Addr} {L : List Ent} {g : Nat} {v0 v1 v2 v3 : Value} {T : TypeId} {fr : Nat × Nat} (h : Ents w a L) (hg : w.heap[g]? = some (.cells #[v0, v1, v2, v3] T fr)) (hw : Wrt (isB g) w w') : Ents w' a L := by
  intro i hi
  obtain ⟨b, off, ha, hr⟩ := h i hi
  refine ⟨b, off, ha, range_same hr (hw.block b (fun q => ?_))⟩
  obtain rfl : b = g := q
  have h6 := hr 6 _ rfl
  rw [cell_of_row w b _ _ _ _ hg] at h6
  have : (#[v0, v1, v2, v3] : Array Value)[off + i * 7 + 6]? = none := by
    rw [Array.getElem?_eq_none]
    show 4 ≤ _
    omega
  rw [this] at h6
  cases h6
theorem St.otherR {W w w' : World} {N : Nat} {σ : Sd} {pk pn : Nat → Sm.Pg} {r : Rf} {i g : Nat} {v0 v1 v2 v3 : Value} {T : TypeId} {fr : Nat × Nat} (h : St W w N σ pk pn r i) (hg : w.heap[g]? = some (.cells #[v0, v1, v2, v3] T fr)) (hw : Wrt (isB g) w w') (ho : ¬ σ.own g) (hW : W.heap.size ≤ g) : St W w' N σ pk pn r i :=
  ⟨h.ss.other hw ho hW, ⟨⟨ents_otherR h.rx.at'.s hg hw, ents_otherR h.rx.at'.n hg hw⟩, h.rx.s, h.rx.n⟩, h.l1, h.l2, h.b1, h.b2, h.s0, h.s1, h.e0, h.e1, h.ep, h.qk, h.qn⟩
theorem wrt_set4R (w : World) (g : Nat) (v0 v1 v2 v3 : Value) : Wrt (isB g) w ((((w.setCell ⟨g, 0, none⟩ v0).setCell ⟨g, 1, none⟩ v1).setCell ⟨g, 2, none⟩ v2).setCell ⟨g, 3, none⟩ v3) :=
  ((((Wrt.refl (isB g) w).set (show isB g g from rfl) 0 v0).set (show isB g g from rfl) 1 v1).set (show isB g g from rfl) 2 v2).set (show isB g g from rfl) 3 v3

/-- behind i acts: both sides, the document's shadow in its box (r) or not yet (r') -/
structure RnS (W w : World) (P n m D g i N : Nat) (σ : Sd) (pk pn : Nat → Sm.Pg) (r r' : Rf) : Prop where
  st : St W w N σ pk pn r' i
  rel : Rel W σ pk pn r'
  eq : σ.P = P ∧ σ.n = n ∧ σ.m = m ∧ σ.D = D
  x : w.heap[g]? = some (bxS r)
  o : ¬ σ.own g
  g : W.heap.size ≤ g
theorem RnS.act {W w w' : World} {P n m D g i N : Nat} {σ σ' : Sd} {pk pn pk' pn' : Nat → Sm.Pg} {r r' : Rf} (h : RnS W w P n m D g i N σ pk pn r r) (hs : St W w' (N + 4000) σ' pk' pn' r' (i + 1)) (hl : Rel W σ' pk' pn' r') (he : Eqs σ σ') (hf : Fro w w' σ σ') : RnS W w' P n m D g (i + 1) (N + 4000) σ' pk' pn' r r' := by
  have hg : g < w.heap.size := lt_of_block h.x
  refine ⟨hs, hl, ⟨he.1.trans h.eq.1, he.2.2.1.trans h.eq.2.1, he.2.2.2.trans h.eq.2.2.1, he.2.1.trans h.eq.2.2.2⟩, (hf.1.block g hg (fun q => h.o (.inl q))).trans h.x, fun q => ?_, h.g⟩
  rcases hf.2 g q with q | q
  · exact h.o q
  · omega
theorem RnS.below {W w w' : World} {P n m D g i N : Nat} {σ : Sd} {pk pn : Nat → Sm.Pg} {r r' : Rf} (h : RnS W w P n m D g i N σ pk pn r r') (hb : Below w.heap.size w w') : RnS W w' P n m D g i N σ pk pn r r' :=
  ⟨h.st.belowR hb, h.rel, h.eq, (hb.block g (lt_of_block h.x)).trans h.x, h.o, h.g⟩
theorem RnS.other {W w : World} {P n m D g i N : Nat} {σ : Sd} {pk pn : Nat → Sm.Pg} {r r' : Rf} (h : RnS W w P n m D g i N σ pk pn r r') {y : Nat} {u0 u1 u2 u3 : Value} {T : TypeId} {fr : Nat × Nat} (hy : w.heap[y]? = some (.cells #[u0, u1, u2, u3] T fr)) (ho : ¬ σ.own y) (hgy : g < y) (v0 v1 v2 v3 : Value) : RnS W ((((w.setCell ⟨y, 0, none⟩ v0).setCell ⟨y, 1, none⟩ v1).setCell ⟨y, 2, none⟩ v2).setCell ⟨y, 3, none⟩ v3) P n m D g i N σ pk pn r r' :=
  ⟨h.st.otherR hy (wrt_set4R w y v0 v1 v2 v3) ho (by have := h.g; omega), h.rel, h.eq, (heap_set4 w y g v0 v1 v2 v3 (by omega)).trans h.x, h.o, h.g⟩
theorem RnS.done {W w : World} {P n m D g i N : Nat} {σ : Sd} {pk pn : Nat → Sm.Pg} {r r' : Rf} (h : RnS W w P n m D g i N σ pk pn r r') : RnS W ((((w.setCell ⟨g, 0, none⟩ (.slice r'.sa r'.su.length r'.sc)).setCell ⟨g, 1, none⟩ (.slice r'.na r'.nw.length r'.nc)).setCell ⟨g, 2, none⟩ (.int .i64 r'.size)).setCell ⟨g, 3, none⟩ (.int .i64 r'.ep)) P n m D g i N σ pk pn r' r' :=
  ⟨h.st.otherR h.x (wrt_set4R w g _ _ _ _) h.o h.g, h.rel, h.eq, row_set4 h.x _ _ _ _, h.o, h.g⟩
theorem RnS.cells {W w : World} {P n m D g i N : Nat} {σ : Sd} {pk pn : Nat → Sm.Pg} {r r' : Rf} (h : RnS W w P n m D g i N σ pk pn r r') {b o : Nat} {A : ActV} (hra : W.rangeAt b o A.cells) : ActXR w g r b o A := ⟨(row4_cells h.x).1, cellsAR h.st.ss.sh.ps.b hra⟩
theorem RnS.turn {W w w' : World} {P n m D g i N M : Nat} {σ : Sd} {pk pn : Nat → Sm.Pg} {r r' : Rf} {H' : Nat → Prop} (h : RnS W w P n m D g i N σ pk pn r r') (hs : Ss W M w' { σ with H := H' } pk pn) (hx : RfX w' ({ σ with H := H' } : Sd).all r') (hf : Fro w w' σ { σ with H := H' }) : RnS W w' P n m D g i M { σ with H := H' } pk pn r r' := by
  have hg : g < w.heap.size := lt_of_block h.x
  refine ⟨⟨hs, hx, h.st.l1, h.st.l2, h.st.b1, h.st.b2, h.st.s0, h.st.s1, h.st.e0, h.st.e1, h.st.ep, h.st.qk, h.st.qn⟩, ⟨h.rel.su, h.rel.nw, h.rel.ls, h.rel.ln, h.rel.sz, h.rel.ep⟩, h.eq, (hf.1.block g hg (fun q => h.o (.inl q))).trans h.x, fun q => ?_, h.g⟩
  rcases hf.2 g q with q | q
  · exact h.o q
  · omega
theorem RnS.read {W w w' : World} {P n m D g i N M : Nat} {σ : Sd} {pk pn : Nat → Sm.Pg} {r r' : Rf} {H' : Nat → Prop} (h : RnS W w P n m D g i N σ pk pn r r') (hs : Ss W M w' { σ with H := H' } pk pn) (hf : Frm w w' σ { σ with H := H' }) : RnS W w' P n m D g i M { σ with H := H' } pk pn r r' :=
  h.turn hs (h.st.rx.stp hf) ⟨hf, fun b q => own_same hf rfl b q⟩
theorem RnS.mono {W w : World} {P n m D g i N M : Nat} {σ : Sd} {pk pn : Nat → Sm.Pg} {r r' : Rf} (h : RnS W w P n m D g i N σ pk pn r r') (hN : N ≤ M) : RnS W w P n m D g i M σ pk pn r r' :=
  ⟨⟨h.st.ss.mono hN, h.st.rx, h.st.l1, h.st.l2, h.st.b1, h.st.b2, h.st.s0, h.st.s1, h.st.e0, h.st.e1, h.st.ep, h.st.qk, h.st.qn⟩, h.rel, h.eq, h.x, h.o, h.g⟩
theorem all_h {σ : Sd} {b : Nat} (h : σ.H b) : σ.all b := by
  unfold Sd.all
  simp [h]
theorem rel_open {W : World} {σ τ : Sd} {pk pn : Nat → Sm.Pg} {r : Rf} (h : Rel W σ pk pn r) (hk : τ.kp = σ.kp) (hw : τ.nw = σ.kp) (he : τ.ep = σ.ep) (hn : τ.n = σ.n) : Rel W τ pk pk (abR r) := by
  refine ⟨by rw [hk]; exact h.su, by rw [hw]; exact h.su, h.ls, fun x hx => ?_, ?_, ?_⟩
  · rw [hw, hk, h.ls x hx]; simp
  · show r.size = _
    rw [h.sz, hn]
  · show r.ep = _
    rw [h.ep, he]
theorem ok_abort {r : Rf} (h : RfOk r) : RfOk (abR r) := ⟨h.l1, h.l1, h.b1, h.b1, h.s0, h.s1, h.e0, h.e1⟩
theorem bel_z {w V V' : World} (h : Below w.heap.size w V) (k : Below V.heap.size V V') : Below w.heap.size w V' := h.trans (k.mono h.size)
theorem blk_z1 {w V : World} (k : Below (w.alloc bxP0).heap.size (w.alloc bxP0) V) : V.heap[w.heap.size]? = some bxP0 := (k.block _ (by simp)).trans (heap_alloc_new w _)
theorem blk_z2 {w V : World} (k : Below (w.alloc bxP0).drew.heap.size (w.alloc bxP0).drew V) : V.heap[w.heap.size]? = some bxP0 := (k.block _ (by show w.heap.size < (w.alloc bxP0).heap.size; simp)).trans (heap_alloc_new w _)
theorem blk_z3 {w V : World} (k : Below (w.drew.alloc bxP0).heap.size (w.drew.alloc bxP0) V) : V.heap[w.heap.size]? = some bxP0 := (k.block _ (by show w.drew.heap.size < (w.drew.alloc bxP0).heap.size; simp)).trans (heap_alloc_new w.drew _)
set_option maxRecDepth 100000 in
set_option maxHeartbeats 4000000 in
theorem runs_walk (n0 n1 : Int) (a : Option Addr) (len cap : Nat) (l : Nat → ActV) (W : World) (_w0 : (Lit.int .i64 n0).wf = true) (_w1 : (Lit.int .i64 n1).wf = true) (hw : IsActs W a len l) (hl : Laid W) :
    Calls Tryz.prog 3 #[.int .i64 n0, .int .i64 n1, .slice a len cap] W fun e w' => e = .returned (.bool true) ∧ Below W.heap.size W w' := by
  have HA := Lib.hid hw
  have HLD := Lib.hid hl
  have hlen := hw.1
  obtain ⟨q, hq, hq12⟩ := red_nat n0 12 (by omega) (by omega)
  obtain ⟨p, hp, hp4⟩ := red_nat n1 4 (by omega) (by omega)
  clear hw hl
  go_enter Tryz.func3, Tryz.ntmps3
  go_wp2_with fail
  refine (large_any a len cap l W HA.out).mono ?_
  rintro e w' ⟨B, rfl, rfl⟩
  cases B with
  | true =>
    go_wp2_with (go_at_call 9; refine (sure_any _).mono ?_; rintro e w' ⟨rfl, hb⟩; have HB := Lib.hid hb; clear hb)
    go_ret
    exact ⟨rfl, HB.out⟩
  | false =>
    go_upto_region 4 with (fail)
    simp only [hq, hp]
    clear hq hp
    obtain ⟨n, hn⟩ : ∃ n : Nat, n = 4 + q := ⟨_, rfl⟩
    obtain ⟨m, hm⟩ : ∃ m : Nat, m = 1 + p := ⟨_, rfl⟩
    rw [show (4 : Int) + (q : Int) = (n : Int) by omega, show (1 : Int) + (p : Int) = (m : Int) by omega]
    have hn4 : 4 ≤ n ∧ n ≤ 15 := by omega
    have hm4 : 1 ≤ m ∧ m ≤ 4 := by omega
    have HN4 := Lib.hid hn4
    have HM4 := Lib.hid hm4
    clear hn hm hq12 hp4 hn4 hm4
    go_wp2_with fail
    refine (disk_new (W := W) n W (Below.refl _ _) (by have := HN4.out; omega) (by have := HN4.out; omega)).mono ?_
    rintro e w1 ⟨D, H, rfl, hdk, _⟩
    have HDK := Lib.hid hdk
    clear hdk
    go_wp2_with fail
    refine (new_fresh m HDK.out (by have := HN4.out; omega) (by have := HN4.out; omega) (by have := HM4.out; omega) (by have := HM4.out; omega)).mono ?_
    rintro e w2 ⟨σ0, rfl, _, hss, e1, e2, e3, e4, e5, e6, e7⟩
    have hk0 : zl (kl σ0.kp) = [] := by rw [e6]; exact List.length_eq_zero_iff.1 (by rw [zl_len]; exact kl_none)
    have hk1 : zl (kl σ0.nw) = [] := by rw [e5]; exact List.length_eq_zero_iff.1 (by rw [zl_len]; exact kl_none)
    have HR0 := Lib.hid (show ∃ N σ pk pn r, N ≤ 10000 ∧ RnS W (w2.alloc (bxS (rf0R n))) σ0.P n m D w2.heap.size 0 N σ pk pn r r from ⟨10000, σ0, p0, p0, rf0R n, Nat.le_refl _, ⟨hss.below (Sm.alX _ _), ⟨⟨ents_nil _ _, ents_nil _ _⟩, fun q => absurd rfl q, fun q => absurd rfl q⟩, Nat.le_refl _, Nat.le_refl _, numO_nilR, numO_nilR, by show (0 : Int) ≤ (n : Int); omega, by show (n : Int) ≤ 16384; have := HN4.out; omega, Int.le_refl _, Int.le_refl _, by omega, fun k hk => by rw [e6] at hk; exact absurd rfl hk, fun k hk => by rw [e5] at hk; exact absurd rfl hk⟩, ⟨⟨hk0.symm, fun x hx => absurd hx (by simp [rf0R])⟩, ⟨hk1.symm, fun x hx => absurd hx (by simp [rf0R])⟩, fun x hx => absurd hx (by simp [rf0R]), fun x hx => absurd hx (by simp [rf0R]), by rw [e2]; rfl, by rw [e4]; rfl⟩, ⟨rfl, e2, e3, e1⟩, heap_alloc_new w2 _, fun q => by have := (hss.own_lt _ q).2; omega, hss.sh.ps.b.size⟩)
    clear hss e1 e2 e3 e4 e5 e6 e7 hk0 hk1
    generalize σ0.P = P at HR0 ⊢
    clear HDK
    unfold rf0R at HR0
    go_upto_region 9 with (fail)
    go_cut [13, 14] (fun v v14 wx => v = .pointer (some ⟨w2.heap.size, 0, none⟩) ∧ v14 = .int .i64 0 ∧ Hid (∃ N σ pk pn r, N ≤ 10000 ∧ RnS W wx P n m D w2.heap.size 0 N σ pk pn r r))
    case first =>
      go_wp2
      go_meet
      case rel => exact ⟨rfl, rfl, HR0⟩
    obtain ⟨rfl, rfl, HR1⟩ := hcut
    clear HR0
    generalize w2.heap.size = g at HR1 ⊢
    rename_i hK
    refine hK _ _ ?_
    clear hK
    go_wp2_with fail
    go_loopw [14] (fun x ws => ∃ i : Nat, i ≤ len ∧ i ≤ 30 ∧ x = .int .i64 i ∧ Hid (∃ N σ pk pn r, N ≤ 10000 + 5000 * i ∧ RnS W ws P n m D g i N σ pk pn r r)) (fun x _ => len - (intOf x).toNat)
    case atStart => exact ⟨0, by omega, by omega, rfl, HR1⟩
    case' round =>
      obtain ⟨i, hi, hi2, rfl, HR⟩ := hrel
      have i0 : (0 : Int) ≤ (i : Int) := by omega
      obtain ⟨N, σ, pk, pn, r, hN, her⟩ := HR.out
      have HER := Lib.hid her
      have HNN := Lib.hid hN
      clear her HR hN
      by_cases hlt : i < len ∧ i < 30
      · obtain ⟨hil, hi20⟩ := hlt
        obtain ⟨b, o, rfl, hra, hok⟩ := HA.out.2 i hil
        have HRA := Lib.hid hra
        have HOK := Lib.hid hok
        have i1 : (i : Int) < (len : Int) := by omega
        have i2 : (i : Int) < 30 := by omega
        clear hra hok
        go_upto_region 12 with (fail)
        have HCX := Lib.hid (fun (w' : World) (hb : Below wr.heap.size wr w') => act_all (HER.out.st.belowR hb) HER.out.rel (by omega) (l i) HOK.out HLD.out (by have := HNN.out; omega))
        rw [HER.out.eq.1] at HCX
        unfold Rf.val actVal at HCX
        have HBW := Lib.hid HER.out.st.ss.sh.ps.b
        have B0 := Lib.hid (show Below wr.heap.size wr wr from Below.refl _ _)
        have B1 := Lib.hid (show Below wr.heap.size wr wr.drew from (Below.refl _ _).drew)
        have B2 := Lib.hid (show Below wr.heap.size wr (wr.alloc bxZ) from Sm.alX _ _)
        have B3 := Lib.hid (show Below wr.heap.size wr (wr.alloc bxZ).drew from (Sm.alX _ _).drew)
        have B4 := Lib.hid (show Below wr.heap.size wr (wr.drew.alloc bxZ) from (Below.refl _ _).drew.alloc (Nat.le_refl _) _)
        have HAX := Lib.hid (fun (w' : World) (hb : Below wr.heap.size wr w') => (show ActXR w' g r b (o + i * 7) (l i) from ⟨(row4_cells ((hb.block g (lt_of_block HER.out.x)).trans HER.out.x)).1, cellsAR (HBW.out.trans (hb.mono HBW.out.size)) HRA.out⟩))
        generalize hAe : l i = A at HCX HAX HOK HRA
        clear hAe
        have KA := Lib.hid (HAX.out _ B0.out)
        have KD := Lib.hid (HAX.out _ B1.out)
        have KH := Lib.hid (HAX.out _ B2.out)
        have KI := Lib.hid (HAX.out _ B3.out)
        have KJ := Lib.hid (HAX.out _ B4.out)
        unfold ActXR Cells4 CellsAR at KA KD KH KI KJ
        go_region_held3 (fun w' => (w'.cell? ⟨g, 0, none⟩ = some (.slice r.sa r.su.length r.sc) ∧ w'.cell? ⟨g, 1, none⟩ = some (.slice r.na r.nw.length r.nc) ∧ w'.cell? ⟨g, 2, none⟩ = some (.int .i64 r.size) ∧ w'.cell? ⟨g, 3, none⟩ = some (.int .i64 r.ep)) ∧ w'.cell? ⟨b, o + i * 7, none⟩ = some (.int .i64 A.kind) ∧ w'.cell? ⟨b, o + i * 7 + 1, none⟩ = some (.int .i64 A.n) ∧ w'.cell? ⟨b, o + i * 7 + 2, none⟩ = some (.int .u8 A.ki) ∧ w'.cell? ⟨b, o + i * 7 + 2 + 1, none⟩ = some (.int .u32 A.nu) ∧ w'.cell? ⟨b, o + i * 7 + 2 + 2, none⟩ = some (.int .u64 A.ep) ∧ w'.cell? ⟨b, o + i * 7 + 2 + 3, none⟩ = some (.int .i64 A.si) ∧ w'.cell? ⟨b, o + i * 7 + 2 + 4, none⟩ = some (.slice A.a A.q A.c)) (first | with_reducible exact KD.out | with_reducible exact KA.out | with_reducible exact KH.out | with_reducible exact KI.out | with_reducible exact KJ.out | with_reducible exact KE.out | with_reducible exact KF.out | with_reducible exact KG.out) (first | (go_at_call 12; (first | with_reducible refine (HCX.out _ B0.out).mono ?_ | with_reducible refine (HCX.out _ B1.out).mono ?_); rintro e w6 ⟨σ', pk', pn', r', rfl, hst, hrl, heq, hfo⟩; have HS6 := Lib.hid (HER.out.act hst hrl heq (by first | exact hfo | exact fro_drewR hfo)); have HS7 := Lib.hid (HS6.out.below (Sm.alX w6 bxZ)); have HS8 := Lib.hid (HS6.out.below (Sm.alX w6 (bxS r'))); have HY8 := Lib.hid (heap_alloc_new w6 (bxS r')); have KE := Lib.hid (HS6.out.cells HRA.out); have KF := Lib.hid (HS7.out.cells HRA.out); have KG := Lib.hid (HS8.out.cells HRA.out); unfold ActXR Cells4 CellsAR at KE KF KG; unfold Rf.val; clear hst hrl heq hfo) | (go_at_call 12; (first | with_reducible refine (HCX.out _ B3.out).mono ?_ | with_reducible refine (HCX.out _ B2.out).mono ?_ | with_reducible refine (HCX.out _ B4.out).mono ?_); rintro e w6 ⟨σ', pk', pn', r', rfl, hst, hrl, heq, hfo⟩; have HF6 := Lib.hid (fro_belowR (by first | exact B3.out | exact B2.out | exact B4.out) hfo); have HS6 := Lib.hid (HER.out.act hst hrl heq HF6.out); have hno := fun b q => (HER.out.st.ss.own_lt b q).2; have HY6 := Lib.hid (fro_boxR (by first | exact newBox3R wr | exact newBox2R wr | exact newBox4R wr) hfo hno); have HS8 := Lib.hid (HS6.out.other HY6.out.1 HY6.out.2 (lt_of_block HER.out.x) (.slice r'.sa r'.su.length r'.sc) (.slice r'.na r'.nw.length r'.nc) (.int .i64 r'.size) (.int .i64 r'.ep)); have HY8 := Lib.hid (row_set4 HY6.out.1 (.slice r'.sa r'.su.length r'.sc) (.slice r'.na r'.nw.length r'.nc) (.int .i64 r'.size) (.int .i64 r'.ep)); obtain ⟨⟨z0, z1, z2, z3⟩, t0, t1, t2, t3⟩ := row4_cells HY6.out.1; have KE := Lib.hid (HS6.out.cells HRA.out); have KG := Lib.hid (HS8.out.cells HRA.out); unfold ActXR Cells4 CellsAR at KE KG; unfold Rf.val; clear hst hrl heq hfo hno))
        all_goals clear KA KD KH KI KJ
        all_goals obtain ⟨⟨z0, z1, z2, z3⟩, _⟩ := row4_cells HY8.out
        all_goals obtain ⟨⟨q0, q1, q2, q3⟩, s0, s1, s2, s3⟩ := row4_cells HS8.out.x
        all_goals have HD := Lib.hid HS8.out.done
        all_goals clear HS8 HS6 HBW HAX HCX
        all_goals go_upto_region 14 with (fail)
        all_goals generalize hw : World.setCell _ _ _ = w7
        all_goals have HD7 := Lib.hid (show RnS W w7 P n m D g (i + 1) (N + 4000) σ' pk' pn' r' r' from hw ▸ HD.out)
        all_goals clear hw HD HY8
        all_goals try clear HS7
        all_goals try clear KE
        all_goals try clear KF
        all_goals try clear KG
        all_goals try clear HF6
        all_goals try clear HY6
        all_goals clear HER B0 B1 B2 B3 B4
        all_goals have HSM := Lib.hid (same_all HD7.out.st.ss HD7.out.rel HD7.out.st.rx (HD7.out.st.ok (by omega)) (by have := HNN.out; omega) HD7.out.st.qn)
        all_goals rw [HD7.out.eq.1] at HSM
        all_goals unfold Rf.val at HSM
        all_goals clear z0 z1 z2 z3 q0 q1 q2 q3 s0 s1 s2 s3
        all_goals obtain ⟨⟨q0, q1, q2, q3⟩, _⟩ := row4_cells HD7.out.x
        all_goals go_upto_region 16 with (go_at_call 13; refine HSM.out.mono ?_; rintro e w8 ⟨H8, rfl, hs8, hx8, hf8⟩; have HD8 := Lib.hid (HD7.out.turn hs8 hx8 hf8); clear hs8 hx8 hf8)
        all_goals clear q0 q1 q2 q3 HSM HD7
        all_goals generalize ({ σ' with H := H8 } : Sd) = σ8 at HD8
        all_goals have HRD := Lib.hid (read_all HD8.out.st.ss A.n (by have := HNN.out; omega))
        all_goals rw [rel_rd HD8.out.st.ss HD8.out.rel A.n, HD8.out.eq.1] at HRD
        all_goals have HAN := Lib.hid (fun (V : World) (hb : Below W.heap.size W V) => (cellsAR hb HRA.out).2.1)
        all_goals have a1 := HAN.out _ HD8.out.st.ss.sh.ps.b
        all_goals go_upto_region 17 with (go_at_call 14; refine HRD.out.mono ?_; rintro e w9 ⟨σ9, pg, ra, cap9, B, C, rfl, hs9, hf9, ⟨H9, rfl⟩, _, _⟩; have HD9 := Lib.hid (HD8.out.read hs9 hf9); clear hs9 hf9)
        all_goals generalize hw : w9.alloc _ = w10
        all_goals have HE := Lib.hid (show RnS W w10 P n m D g (i + 1) (N + 4000 + 400 + 2) _ pk' pn' r' r' from hw ▸ HD9.out.below (Sm.alX w9 _))
        all_goals clear hw HD9 HD8 HRD a1
        all_goals generalize ({ σ8 with H := H9 } : Sd) = σ9 at HE
        all_goals have HRF := Lib.hid (fun (V : World) (hb : Below w10.heap.size w10 V) => read_ref r' A.n V (HE.out.below hb).st.rx.at' (HE.out.st.ok (by omega)))
        all_goals unfold Rf.val at HRF
        all_goals generalize rdR r' A.n = c at HRF ⊢
        all_goals have B0 := Lib.hid (show Below w10.heap.size w10 w10 from Below.refl _ _)
        all_goals have B1 := Lib.hid (show Below w10.heap.size w10 w10.drew from (Below.refl _ _).drew)
        all_goals have B2 := Lib.hid (show Below w10.heap.size w10 (w10.alloc bxP0) from Sm.alX _ _)
        all_goals have B3 := Lib.hid (show Below w10.heap.size w10 (w10.alloc bxP0).drew from (Sm.alX _ _).drew)
        all_goals have B4 := Lib.hid (show Below w10.heap.size w10 (w10.drew.alloc bxP0) from (Below.refl _ _).drew.alloc (Nat.le_refl _) _)
        all_goals have HAX := Lib.hid (fun (V : World) (hb : Below w10.heap.size w10 V) => (show Cells4 V g r' ∧ V.cell? ⟨b, o + i * 7 + 1, none⟩ = some (.int .i64 A.n) from ⟨(row4_cells (HE.out.below hb).x).1, HAN.out V (HE.out.below hb).st.ss.sh.ps.b⟩))
        all_goals have HRa := Lib.hid (HRF.out _ B0.out)
        all_goals have HRb := Lib.hid (HRF.out _ B1.out)
        all_goals have HRc := Lib.hid (HRF.out _ B2.out)
        all_goals have HRd := Lib.hid (HRF.out _ B3.out)
        all_goals have HRe := Lib.hid (HRF.out _ B4.out)
        all_goals have KA := Lib.hid (HAX.out _ B0.out)
        all_goals have KD := Lib.hid (HAX.out _ B1.out)
        all_goals have KH := Lib.hid (HAX.out _ B2.out)
        all_goals have KI := Lib.hid (HAX.out _ B3.out)
        all_goals have KJ := Lib.hid (HAX.out _ B4.out)
        all_goals unfold Cells4 at KA KD KH KI KJ
        all_goals go_region_held3 (fun w' => (w'.cell? ⟨g, 0, none⟩ = some (.slice r'.sa r'.su.length r'.sc) ∧ w'.cell? ⟨g, 1, none⟩ = some (.slice r'.na r'.nw.length r'.nc) ∧ w'.cell? ⟨g, 2, none⟩ = some (.int .i64 r'.size) ∧ w'.cell? ⟨g, 3, none⟩ = some (.int .i64 r'.ep)) ∧ w'.cell? ⟨b, o + i * 7 + 1, none⟩ = some (.int .i64 A.n)) (first | with_reducible exact KD.out | with_reducible exact KA.out | with_reducible exact KH.out | with_reducible exact KI.out | with_reducible exact KJ.out | with_reducible exact KE.out | with_reducible exact KF.out | with_reducible exact KG.out) (first | (go_at_call 15; (first | with_reducible refine HRa.out.mono ?_ | with_reducible refine HRb.out.mono ?_); rintro e w11 ⟨k0, k1, k2, k3, ra3, q3, z3, rfl, hb⟩; have HB11 := Lib.hid (by first | exact hb | exact B1.out.trans hb : Below w10.heap.size w10 w11); have HB12 := Lib.hid (HB11.out.alloc HB11.out.size bxP0); have HB13 := Lib.hid (HB11.out.alloc HB11.out.size (.cells #[.int .u8 k0, .int .u32 k1, .int .u64 k2, .int .i64 k3, .slice ra3 q3 z3] 43)); have KE := Lib.hid (HAX.out _ HB11.out); have KF := Lib.hid (HAX.out _ HB12.out); have KG := Lib.hid (HAX.out _ HB13.out); unfold Cells4 at KE KF KG; clear hb) | (go_at_call 15; (first | with_reducible refine HRc.out.mono ?_ | with_reducible refine HRd.out.mono ?_ | with_reducible refine HRe.out.mono ?_); rintro e w11 ⟨k0, k1, k2, k3, ra3, q3, z3, rfl, hb⟩; have HB11 := Lib.hid (by first | exact bel_z B2.out hb | exact bel_z B3.out hb | exact bel_z B4.out hb : Below w10.heap.size w10 w11); have HY := Lib.hid (by first | exact blk_z1 hb | exact blk_z2 hb | exact blk_z3 hb : w11.heap[w10.heap.size]? = some bxP0); obtain ⟨⟨y0, y1, y2, y3, y4⟩, t0, t1, t2, t3, t4⟩ := Sm.row_cells HY.out; have HB13 := Lib.hid (((((HB11.out.setCell (p := ⟨w10.heap.size, 0, none⟩) (Nat.le_refl _) (.int .u8 k0)).setCell (p := ⟨w10.heap.size, 1, none⟩) (Nat.le_refl _) (.int .u32 k1)).setCell (p := ⟨w10.heap.size, 2, none⟩) (Nat.le_refl _) (.int .u64 k2)).setCell (p := ⟨w10.heap.size, 3, none⟩) (Nat.le_refl _) (.int .i64 k3)).setCell (p := ⟨w10.heap.size, 4, none⟩) (Nat.le_refl _) (.slice ra3 q3 z3)); have KE := Lib.hid (HAX.out _ HB11.out); have KG := Lib.hid (HAX.out _ HB13.out); unfold Cells4 at KE KG; clear hb))
        all_goals have HE2 := Lib.hid (HE.out.below HB13.out)
        all_goals clear HE HAX HRF HRa HRb HRc HRd HRe KA KD KH KI KJ B0 B1 B2 B3 B4 HB11 HB13 KE KG
        all_goals have HNM := Lib.hid (num_c c _ (HLD.out.below HE2.out.st.ss.sh.ps.b))
        all_goals go_wp2_with (go_at_call 16; refine HNM.out.mono ?_; rintro e w12 ⟨rfl, hb⟩; have HE3 := Lib.hid (HE2.out.below hb); clear hb)
        all_goals have HNX := Lib.hid (show ∃ N σ pk pn r, N ≤ 10000 + 5000 * (i + 1) ∧ RnS W w12 P n m D g (i + 1) N σ pk pn r r from ⟨_, _, _, _, _, by have := HNN.out; omega, HE3.out⟩)
        all_goals clear HE2 HE3 HNM HNN
        all_goals go_roundw
        case' rel => exact ⟨i + 1, by omega, by omega, by go_num, HNX⟩
        case' measure => simp [intOf]; omega
        case' rel => exact ⟨i + 1, by omega, by omega, by go_num, HNX⟩
        case' measure => simp [intOf]; omega
        case' rel => exact ⟨i + 1, by omega, by omega, by go_num, HNX⟩
        case' measure => simp [intOf]; omega
        case' rel => exact ⟨i + 1, by omega, by omega, by go_num, HNX⟩
        case' measure => simp [intOf]; omega
      have HE := Lib.hid (show ∃ N σ pk pn r, N ≤ 160000 ∧ RnS W wr P n m D g i N σ pk pn r r from ⟨N, σ, pk, pn, r, by have := HNN.out; omega, HER.out⟩)
      clear HA HER HNN
      rcases (show (i < len ∧ ¬ i < 30) ∨ ¬ i < len by omega) with ⟨q1, q2⟩ | q1
      case' inl =>
        have i1 : (i : Int) < (len : Int) := by omega
        have i2 : ¬ (i : Int) < 30 := by omega
        clear q1 q2 hlt
      case' inr =>
        have i1 : ¬ (i : Int) < (len : Int) := by omega
        clear q1 hlt
    all_goals
      obtain ⟨N, σ, pk, pn, r, hN, hrn⟩ := HE.out
      have HRN := Lib.hid hrn
      have HOP := Lib.hid (open_all hrn.st.ss m (by have := HM4.out; omega) (by have := HM4.out; omega) (by omega))
      rw [hrn.eq.2.2.2] at HOP
      obtain ⟨⟨x0, x1, x2, x3⟩, _⟩ := row4_cells hrn.x
      have HXX := Lib.hid hrn.x
      have hN2 := Lib.hid hN
      clear hrn hN HE
      go_upto_region 21 with (go_at_call 17; refine HOP.out.mono ?_; rintro e w4 ⟨τ, rfl, hs4, _, hst4, hD4, hn4, hm4, hk4, hw4, he4, ht4⟩; have HS4 := Lib.hid hs4; have HST4 := Lib.hid hst4; have HT4 := Lib.hid (show τ.kp = σ.kp ∧ τ.nw = σ.kp ∧ τ.ep = σ.ep ∧ τ.n = σ.n from ⟨hk4, hw4, he4, hn4⟩); clear hs4 hst4 hD4 hn4 hm4 hk4 hw4 he4 ht4)
      have HX4 := Lib.hid (show w4.heap[g]? = some (bxS r) from (HST4.out.block g (lt_of_block HXX.out) (fun q => HRN.out.o (.inl (all_h q)))).trans HXX.out)
      have HR4 := Lib.hid (rfx_abort ((HRN.out.st.rx.less (fun b q => all_h q)).stp HST4.out))
      have HRA := Lib.hid (rel_open HRN.out.rel HT4.out.1 HT4.out.2.1 HT4.out.2.2.1 HT4.out.2.2.2)
      have HOA := Lib.hid (ok_abort (HRN.out.st.ok (by omega)))
      have HQA := Lib.hid (show PgO τ.nw pk (τ.ep + 1) by rw [HT4.out.2.1, HT4.out.2.2.1]; exact HRN.out.st.qk.mono (by omega))
      have HAB := Lib.hid (abort_ref r w4)
      have HSA := Lib.hid (fun (V : World) (hb : Below w4.heap.size w4 V) => same_all (HS4.out.below hb) HRA.out (HR4.out.below hb) HOA.out (by have := hN2.out; omega) HQA.out)
      unfold abR at HSA
      unfold Rf.val at HAB HSA
      obtain ⟨⟨y0, y1, y2, y3⟩, _⟩ := row4_cells HX4.out
      clear x0 x1 x2 x3 HOP HRN HXX HR4 HRA HOA HQA HX4 HST4
      go_wp2_with (first | (go_at_call 18; refine HAB.out.mono ?_; rintro e w5 ⟨rfl, hb⟩; have HB5 := Lib.hid hb; clear hb) | (go_at_call 13; refine (HSA.out w5 HB5.out).mono ?_; rintro e w6 ⟨H6, rfl, hs6, _, _⟩; have HB6 := Lib.hid hs6.sh.ps.b; clear hs6) | (go_at_call 9; refine (sure_any _).mono ?_; rintro e w7 ⟨rfl, hb⟩; have HB7 := Lib.hid (HB6.out.trans (hb.mono HB6.out.size)); clear hb))
      go_ret
      exact ⟨rfl, HB7.out⟩
end Go.Proofs.YtokikeenfpligaaGreatDoor.Sh

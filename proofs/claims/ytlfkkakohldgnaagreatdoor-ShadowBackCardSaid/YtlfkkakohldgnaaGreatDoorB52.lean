/-
  ShadowBack, the walk. No condition but that the input could be read, and the package-level variable.
-/
import Derived.BigRegion
import Derived.Deep.RegionHeld3
import Derived.Deep.CutBlock
import Derived.Test.YtlfkkakohldgnaaGreatDoorB51
import Derived.Test.YtlfkkakohldgnaaGreatDoorB49
namespace Go.Proofs.YtlfkkakohldgnaaGreatDoor.Sh
open Go.RowKit Go.Maps

def rf0 (n : Int) : Rf := ⟨[], [], none, 0, none, 0, n, 0⟩
theorem numO_nil : NumO [] := fun _ h => absurd h (by simp)
/-- behind i acts, and the document's shadow in its box -/
structure BkR (W w : World) (P n g i : Nat) (σ : Sd) (pk pn : Nat → Sm.Pg) (r : Rf) : Prop where
  st : St W w (10000 + 4000 * i) σ pk pn r i
  P : σ.P = P
  n : σ.n = n
  x : w.heap[g]? = some (bxS r)
  o : ¬ σ.own g
  g : W.heap.size ≤ g
def CellsA (w : World) (b o : Nat) (A : ActV) : Prop := w.cell? ⟨b, o, none⟩ = some (.int .i64 A.kind) ∧ w.cell? ⟨b, o + 1, none⟩ = some (.int .i64 A.n) ∧ w.cell? ⟨b, o + 2, none⟩ = some (.int .u8 A.ki) ∧ w.cell? ⟨b, o + 2 + 1, none⟩ = some (.int .u32 A.nu) ∧ w.cell? ⟨b, o + 2 + 2, none⟩ = some (.int .u64 A.ep) ∧ w.cell? ⟨b, o + 2 + 3, none⟩ = some (.int .i64 A.si) ∧ w.cell? ⟨b, o + 2 + 4, none⟩ = some (.slice A.a A.q A.c)
theorem cellsA {W w : World} {b o : Nat} {A : ActV} (hb : Below W.heap.size W w) (h : W.rangeAt b o A.cells) : CellsA w b o A :=
  ⟨act_cell hb h 0 _ rfl, act_cell hb h 1 _ rfl, act_cell hb h 2 _ rfl, act_cell hb h 3 _ rfl, act_cell hb h 4 _ rfl, act_cell hb h 5 _ rfl, act_cell hb h 6 _ rfl⟩
theorem St.below {W w w' : World} {N : Nat} {σ : Sd} {pk pn : Nat → Sm.Pg} {r : Rf} {i : Nat} (h : St W w N σ pk pn r i) (hb : Below w.heap.size w w') : St W w' N σ pk pn r i :=
  ⟨h.ss.below hb, h.rx.below hb, h.l1, h.l2, h.b1, h.b2, h.s0, h.s1, h.e0, h.e1, h.ep, h.qk, h.qn⟩
theorem fro_drew {w w' : World} {σ σ' : Sd} (h : Fro w.drew w' σ σ') : Fro w w' σ σ' := ⟨frm_trans (frm_below ((Below.refl _ _).drew)) h.1, h.2⟩
theorem fro_below {w v w' : World} {σ σ' : Sd} (hb : Below w.heap.size w v) (h : Fro v w' σ σ') : Fro w w' σ σ' := ⟨frm_trans (frm_below hb) h.1, fun b q => by
  rcases h.2 b q with k | k
  · exact .inl k
  · exact .inr (Nat.le_trans hb.size k)⟩
/-- the world with the new box, by whichever order -/
def NewBox (w v : World) : Prop := Below w.heap.size w v ∧ v.heap[w.heap.size]? = some bxZ ∧ w.heap.size < v.heap.size
theorem newBox2 (w : World) : NewBox w (w.alloc bxZ) := ⟨Sm.alX _ _, heap_alloc_new w _, by simp⟩
theorem newBox3 (w : World) : NewBox w (w.alloc bxZ).drew := ⟨(Sm.alX _ _).drew, heap_alloc_new w _, by show w.heap.size < (w.alloc bxZ).heap.size; simp⟩
theorem newBox4 (w : World) : NewBox w (w.drew.alloc bxZ) := ⟨(Below.refl _ _).drew.alloc (Nat.le_refl _) _, heap_alloc_new w.drew _, by show w.heap.size < (w.drew.alloc bxZ).heap.size; rw [World.size_alloc]; exact Nat.lt_succ_self _⟩
theorem fro_box {w v w' : World} {σ σ' : Sd} (hv : NewBox w v) (h : Fro v w' σ σ') (hno : ∀ b, σ.own b → b < w.heap.size) : w'.heap[w.heap.size]? = some bxZ ∧ ¬ σ'.own w.heap.size := by
  refine ⟨(h.1.block _ hv.2.2 (fun q => by have := hno _ (.inl q); omega)).trans hv.2.1, fun q => ?_⟩
  rcases h.2 _ q with k | k
  · have := hno _ k; omega
  · have := hv.2.2; omega
/-- all that the region reads -/
def ActX (w : World) (g : Nat) (r : Rf) (b o : Nat) (A : ActV) : Prop := Cells4 w g r ∧ CellsA w b o A
/-- behind the act itself: the document's answer not yet in its box -/
structure BkS (W w : World) (P n g i : Nat) (σ : Sd) (pk pn : Nat → Sm.Pg) (r r' : Rf) : Prop where
  st : St W w (10000 + 4000 * i) σ pk pn r' i
  P : σ.P = P
  n : σ.n = n
  x : w.heap[g]? = some (bxS r)
  o : ¬ σ.own g
  g : W.heap.size ≤ g
theorem bkS {W w w' : World} {P n g i : Nat} {σ σ' : Sd} {pk pn pk' pn' : Nat → Sm.Pg} {r r' : Rf} (h : BkR W w P n g i σ pk pn r) (hs : St W w' (10000 + 4000 * i + 4000) σ' pk' pn' r' (i + 1)) (he : Eqs σ σ') (hf : Fro w w' σ σ') : BkS W w' P n g (i + 1) σ' pk' pn' r r' := by
  have hg : g < w.heap.size := lt_of_block h.x
  refine ⟨?_, he.1.trans h.P, he.2.2.1.trans h.n, (hf.1.block g hg (fun q => h.o (.inl q))).trans h.x, fun q => ?_, h.g⟩
  · have e : 10000 + 4000 * (i + 1) = 10000 + 4000 * i + 4000 := by omega
    rw [e]; exact hs
  · rcases hf.2 g q with q | q
    · exact h.o q
    · omega
theorem BkS.below {W w w' : World} {P n g i : Nat} {σ : Sd} {pk pn : Nat → Sm.Pg} {r r' : Rf} (h : BkS W w P n g i σ pk pn r r') (hb : Below w.heap.size w w') : BkS W w' P n g i σ pk pn r r' :=
  ⟨h.st.below hb, h.P, h.n, (hb.block g (lt_of_block h.x)).trans h.x, h.o, h.g⟩
theorem ents_other {w w' : World} {a : Option Addr} {L : List Ent} {g : Nat} {v0 v1 v2 v3 : Value} {T : TypeId} {fr : Nat × Nat} (h : Ents w a L) (hg : w.heap[g]? = some (.cells #[v0, v1, v2, v3] T fr)) (hw : Wrt (isB g) w w') : Ents w' a L := by
  intro i hi
  obtain ⟨b, off, ha, hr⟩ := h i hi
  refine ⟨b, off, ha, range_same hr (hw.block b (fun q => ?_))⟩
  obtain rfl : b = g := q
  have h6 := hr 6 _ rfl
  rw [cell_of_row w b _ _ _ _ hg] at h6
  have : (#[v0, v1, v2, v3] : Array Value)[off + i * 7 + 6]? = none := by
    rw [Array.getElem?_eq_none]
    show 4 ≤ _
    omega
  rw [this] at h6
  cases h6
theorem St.other {W w w' : World} {N : Nat} {σ : Sd} {pk pn : Nat → Sm.Pg} {r : Rf} {i g : Nat} {v0 v1 v2 v3 : Value} {T : TypeId} {fr : Nat × Nat} (h : St W w N σ pk pn r i) (hg : w.heap[g]? = some (.cells #[v0, v1, v2, v3] T fr)) (hw : Wrt (isB g) w w') (ho : ¬ σ.own g) (hW : W.heap.size ≤ g) : St W w' N σ pk pn r i :=
  ⟨h.ss.other hw ho hW, ⟨⟨ents_other h.rx.at'.s hg hw, ents_other h.rx.at'.n hg hw⟩, h.rx.s, h.rx.n⟩, h.l1, h.l2, h.b1, h.b2, h.s0, h.s1, h.e0, h.e1, h.ep, h.qk, h.qn⟩
theorem wrt_set4 (w : World) (g : Nat) (v0 v1 v2 v3 : Value) : Wrt (isB g) w ((((w.setCell ⟨g, 0, none⟩ v0).setCell ⟨g, 1, none⟩ v1).setCell ⟨g, 2, none⟩ v2).setCell ⟨g, 3, none⟩ v3) :=
  ((((Wrt.refl (isB g) w).set (show isB g g from rfl) 0 v0).set (show isB g g from rfl) 1 v1).set (show isB g g from rfl) 2 v2).set (show isB g g from rfl) 3 v3
theorem BkS.other {W w : World} {P n g i : Nat} {σ : Sd} {pk pn : Nat → Sm.Pg} {r r' : Rf} (h : BkS W w P n g i σ pk pn r r') {y : Nat} {u0 u1 u2 u3 : Value} {T : TypeId} {fr : Nat × Nat} (hy : w.heap[y]? = some (.cells #[u0, u1, u2, u3] T fr)) (ho : ¬ σ.own y) (hgy : g < y) (v0 v1 v2 v3 : Value) : BkS W ((((w.setCell ⟨y, 0, none⟩ v0).setCell ⟨y, 1, none⟩ v1).setCell ⟨y, 2, none⟩ v2).setCell ⟨y, 3, none⟩ v3) P n g i σ pk pn r r' :=
  ⟨h.st.other hy (wrt_set4 w y v0 v1 v2 v3) ho (by have := h.g; omega), h.P, h.n, (heap_set4 w y g v0 v1 v2 v3 (by omega)).trans h.x, h.o, h.g⟩
theorem BkS.done {W w : World} {P n g i : Nat} {σ : Sd} {pk pn : Nat → Sm.Pg} {r r' : Rf} (h : BkS W w P n g i σ pk pn r r') : BkR W ((((w.setCell ⟨g, 0, none⟩ (.slice r'.sa r'.su.length r'.sc)).setCell ⟨g, 1, none⟩ (.slice r'.na r'.nw.length r'.nc)).setCell ⟨g, 2, none⟩ (.int .i64 r'.size)).setCell ⟨g, 3, none⟩ (.int .i64 r'.ep)) P n g i σ pk pn r' :=
  ⟨h.st.other h.x (wrt_set4 w g _ _ _ _) h.o h.g, h.P, h.n, row_set4 h.x _ _ _ _, h.o, h.g⟩
theorem BkS.cells {W w : World} {P n g i : Nat} {σ : Sd} {pk pn : Nat → Sm.Pg} {r r' : Rf} (h : BkS W w P n g i σ pk pn r r') {b o : Nat} {A : ActV} (hra : W.rangeAt b o A.cells) : ActX w g r b o A := ⟨(row4_cells h.x).1, cellsA h.st.ss.sh.ps.b hra⟩
/-- behind Commit: what is kept, and the list of it -/
structure Bq (W w : World) (P F E : Nat) (kp : Nat → Nat) (tb : List Nat) (ao : Option Addr) (N : Nat) (σ : Sd) (pk pn : Nat → Sm.Pg) : Prop where
  ss : Ss W N w σ pk pn
  P : σ.P = P
  n : σ.n = 40
  kpe : σ.kp = kp
  tbe : σ.tb = tb
  ep : σ.ep = E
  fr : F + 2 + tb.length + (kl kp).length = 40
  qk : PgO kp pk E
  li : Ints w ao (zl (kl kp))
  lo : ∀ b o, ao = some ⟨b, o, none⟩ → ¬ σ.own b ∧ b < w.heap.size
theorem Bq.below {W w w' : World} {P F E : Nat} {kp : Nat → Nat} {tb : List Nat} {ao : Option Addr} {N : Nat} {σ : Sd} {pk pn : Nat → Sm.Pg} (h : Bq W w P F E kp tb ao N σ pk pn) (hb : Below w.heap.size w w') : Bq W w' P F E kp tb ao N σ pk pn :=
  ⟨h.ss.below hb, h.P, h.n, h.kpe, h.tbe, h.ep, h.fr, h.qk, ints_same h.li (fun b o e => hb.block b (h.lo b o e).2), fun b o e => ⟨(h.lo b o e).1, Nat.lt_of_lt_of_le (h.lo b o e).2 hb.size⟩⟩
theorem Bq.frm {W w w' : World} {P F E : Nat} {kp : Nat → Nat} {tb : List Nat} {ao : Option Addr} {N M : Nat} {σ σ' : Sd} {pk pn pn' : Nat → Sm.Pg} (h : Bq W w P F E kp tb ao N σ pk pn) (hs : Ss W M w' σ' pk pn') (hf : Frm w w' σ σ') (he : Eqs σ σ') (hk : σ'.kp = σ.kp) (ht : σ'.tb = σ.tb) (hp : σ'.ep = σ.ep) (ha : σ'.ta = σ.ta) : Bq W w' P F E kp tb ao M σ' pk pn' :=
  ⟨hs, he.1.trans h.P, he.2.2.1.trans h.n, hk.trans h.kpe, ht.trans h.tbe, hp.trans h.ep, h.fr, h.qk, ints_same h.li (fun b o e => hf.block b (h.lo b o e).2 (fun q => (h.lo b o e).1 (.inl q))), fun b o e => ⟨fun q => by
    rcases own_same hf ha b q with k | k
    · exact (h.lo b o e).1 k
    · have := (h.lo b o e).2; omega, Nat.lt_of_lt_of_le (h.lo b o e).2 hf.size⟩⟩
theorem Bq.free {W w : World} {P F E : Nat} {kp : Nat → Nat} {tb : List Nat} {ao : Option Addr} {N : Nat} {σ : Sd} {pk pn : Nat → Sm.Pg} (h : Bq W w P F E kp tb ao N σ pk pn) (hn : σ.nw = σ.kp) : σ.S.free = F := by
  have := h.ss.free
  have hf := h.fr
  rw [hn, lateL_same, h.kpe, h.tbe, h.n] at this
  simp only [List.length_nil] at this
  omega
set_option maxRecDepth 100000 in
set_option maxHeartbeats 4000000 in
theorem back_walk (a : Option Addr) (len cap : Nat) (l : Nat → ActV) (a2 : Option Addr) (len2 cap2 : Nat) (l2 : Nat → ActV) (W : World) (hw : IsActs W a len l) (hw2 : IsActs W a2 len2 l2) (hl : Laid W) :
    Calls Tryz.prog 7 #[.slice a len cap, .slice a2 len2 cap2] W fun e w' => e = .returned (.bool true) ∧ Below W.heap.size W w' := by
  have HA := Lib.hid hw
  have HA2 := Lib.hid hw2
  have HLD := Lib.hid hl
  have hlen := hw.1
  have hlen2 := hw2.1
  clear hw hw2 hl
  go_enter Tryz.func7, Tryz.ntmps7
  go_wp2_with fail
  refine (large_any a len cap l W HA.out).mono ?_
  rintro e w' ⟨B, rfl, rfl⟩
  cases B with
  | true =>
    go_wp2_with (go_at_call 9; refine (sure_any _).mono ?_; rintro e w' ⟨rfl, hb⟩; have HB := Lib.hid hb; clear hb)
    go_ret
    exact ⟨rfl, HB.out⟩
  | false =>
    go_wp2_with fail
    refine (large_any a2 len2 cap2 l2 W HA2.out).mono ?_
    rintro e w' ⟨B, rfl, rfl⟩
    cases B with
    | true =>
      go_wp2_with (go_at_call 9; refine (sure_any _).mono ?_; rintro e w' ⟨rfl, hb⟩; have HB := Lib.hid hb; clear hb)
      go_ret
      exact ⟨rfl, HB.out⟩
    | false =>
      go_wp2_with fail
      refine (disk_new (W := W) 40 W (Below.refl _ _) (by decide) (by decide)).mono ?_
      rintro e w1 ⟨D, H, rfl, hdk, _⟩
      have HDK := Lib.hid hdk
      clear hdk
      go_wp2_with fail
      refine (new_fresh 3 HDK.out (by decide) (by decide) (by decide) (by decide)).mono ?_
      rintro e w2 ⟨σ0, rfl, _, hss, e1, e2, e3, e4, e5, e6, e7⟩
      have HR0 := Lib.hid (show ∃ σ pk pn r, BkR W (w2.alloc (bxS (rf0 40))) σ0.P 40 w2.heap.size 0 σ pk pn r from ⟨σ0, p0, p0, rf0 40, ⟨hss.below (Sm.alX _ _), ⟨⟨ents_nil _ _, ents_nil _ _⟩, fun q => absurd rfl q, fun q => absurd rfl q⟩, Nat.le_refl _, Nat.le_refl _, numO_nil, numO_nil, by decide, by decide, by decide, by decide, by omega, fun k hk => by rw [e6] at hk; exact absurd rfl hk, fun k hk => by rw [e5] at hk; exact absurd rfl hk⟩, rfl, e2, heap_alloc_new w2 _, fun q => by have := (hss.own_lt _ q).2; omega, hss.sh.ps.b.size⟩)
      clear hss e1 e2 e3 e4 e5 e6 e7
      generalize σ0.P = P at HR0 ⊢
      clear HDK
      unfold rf0 at HR0
      go_upto_region 7 with (fail)
      go_cut [9] (fun v wx => v = .pointer (some ⟨w2.heap.size, 0, none⟩) ∧ Hid (∃ σ pk pn r, BkR W wx P 40 w2.heap.size 0 σ pk pn r))
      case first =>
        go_wp2
        go_meet
        case rel => exact ⟨rfl, HR0⟩
      obtain ⟨rfl, HR1⟩ := hcut
      clear HR0
      generalize w2.heap.size = g at HR1 ⊢
      rename_i hK
      refine hK _ _ ?_
      clear hK
      apply wp_seq_k
      intro K0 hK0
      go_cut [] (fun wx => Hid (∃ i σ pk pn r, i ≤ 20 ∧ BkR W wx P 40 g i σ pk pn r))
      case first =>
        go_wp2_with fail
        go_loopw [10, 11, 12] (fun x _ _ ws => ∃ i : Nat, i ≤ len ∧ i ≤ 20 ∧ x = .int .i64 i ∧ Hid (∃ σ pk pn r, BkR W ws P 40 g i σ pk pn r)) (fun x _ _ _ => len - (intOf x).toNat)
        case atStart => exact ⟨0, by omega, by omega, rfl, HR1⟩
        case round =>
          obtain ⟨i, hi, hi2, rfl, HR⟩ := hrel
          have i0 : (0 : Int) ≤ (i : Int) := by omega
          obtain ⟨σ, pk, pn, r, her⟩ := HR.out
          have HER := Lib.hid her
          clear her HR
          by_cases hlt : i < len ∧ i < 20
          · obtain ⟨hil, hi20⟩ := hlt
            obtain ⟨b, o, rfl, hra, hok⟩ := HA.out.2 i hil
            have HRA := Lib.hid hra
            have HOK := Lib.hid hok
            have i1 : (i : Int) < (len : Int) := by omega
            have i2 : (i : Int) < 20 := by omega
            clear hra hok
            go_upto_region 11 with (fail)
            have HCX := Lib.hid (fun (w' : World) (hb : Below wr.heap.size wr w') => act_any (HER.out.st.below hb) (by omega) (l i) HOK.out HLD.out (by omega))
            rw [HER.out.P] at HCX
            unfold Rf.val actVal at HCX
            have HBW := Lib.hid HER.out.st.ss.sh.ps.b
            have B0 := Lib.hid (show Below wr.heap.size wr wr from Below.refl _ _)
            have B1 := Lib.hid (show Below wr.heap.size wr wr.drew from (Below.refl _ _).drew)
            have B2 := Lib.hid (show Below wr.heap.size wr (wr.alloc bxZ) from Sm.alX _ _)
            have B3 := Lib.hid (show Below wr.heap.size wr (wr.alloc bxZ).drew from (Sm.alX _ _).drew)
            have B4 := Lib.hid (show Below wr.heap.size wr (wr.drew.alloc bxZ) from (Below.refl _ _).drew.alloc (Nat.le_refl _) _)
            have HAX := Lib.hid (fun (w' : World) (hb : Below wr.heap.size wr w') => (show ActX w' g r b (o + i * 7) (l i) from ⟨(row4_cells ((hb.block g (lt_of_block HER.out.x)).trans HER.out.x)).1, cellsA (HBW.out.trans (hb.mono HBW.out.size)) HRA.out⟩))
            generalize l i = A at HCX HAX HOK HRA
            have KA := Lib.hid (HAX.out _ B0.out)
            have KD := Lib.hid (HAX.out _ B1.out)
            have KH := Lib.hid (HAX.out _ B2.out)
            have KI := Lib.hid (HAX.out _ B3.out)
            have KJ := Lib.hid (HAX.out _ B4.out)
            unfold ActX Cells4 CellsA at KA KD KH KI KJ
            go_region_held3 (fun w' => (w'.cell? ⟨g, 0, none⟩ = some (.slice r.sa r.su.length r.sc) ∧ w'.cell? ⟨g, 1, none⟩ = some (.slice r.na r.nw.length r.nc) ∧ w'.cell? ⟨g, 2, none⟩ = some (.int .i64 r.size) ∧ w'.cell? ⟨g, 3, none⟩ = some (.int .i64 r.ep)) ∧ w'.cell? ⟨b, o + i * 7, none⟩ = some (.int .i64 A.kind) ∧ w'.cell? ⟨b, o + i * 7 + 1, none⟩ = some (.int .i64 A.n) ∧ w'.cell? ⟨b, o + i * 7 + 2, none⟩ = some (.int .u8 A.ki) ∧ w'.cell? ⟨b, o + i * 7 + 2 + 1, none⟩ = some (.int .u32 A.nu) ∧ w'.cell? ⟨b, o + i * 7 + 2 + 2, none⟩ = some (.int .u64 A.ep) ∧ w'.cell? ⟨b, o + i * 7 + 2 + 3, none⟩ = some (.int .i64 A.si) ∧ w'.cell? ⟨b, o + i * 7 + 2 + 4, none⟩ = some (.slice A.a A.q A.c)) (first | with_reducible exact KD.out | with_reducible exact KA.out | with_reducible exact KH.out | with_reducible exact KI.out | with_reducible exact KJ.out | with_reducible exact KE.out | with_reducible exact KF.out | with_reducible exact KG.out) (first | (go_at_call 12; (first | with_reducible refine (HCX.out _ B0.out).mono ?_ | with_reducible refine (HCX.out _ B1.out).mono ?_); rintro e w6 ⟨σ', pk', pn', r', bb, rfl, hst, heq, hfo⟩; have HS6 := Lib.hid (bkS HER.out hst heq (by first | exact hfo | exact fro_drew hfo)); have HS7 := Lib.hid (HS6.out.below (Sm.alX w6 bxZ)); have HS8 := Lib.hid (HS6.out.below (Sm.alX w6 (bxS r'))); have HY8 := Lib.hid (heap_alloc_new w6 (bxS r')); have KE := Lib.hid (HS6.out.cells HRA.out); have KF := Lib.hid (HS7.out.cells HRA.out); have KG := Lib.hid (HS8.out.cells HRA.out); unfold ActX Cells4 CellsA at KE KF KG; unfold Rf.val; clear hst heq hfo) | (go_at_call 12; (first | with_reducible refine (HCX.out _ B3.out).mono ?_ | with_reducible refine (HCX.out _ B2.out).mono ?_ | with_reducible refine (HCX.out _ B4.out).mono ?_); rintro e w6 ⟨σ', pk', pn', r', bb, rfl, hst, heq, hfo⟩; have HF6 := Lib.hid (fro_below (by first | exact B3.out | exact B2.out | exact B4.out) hfo); have HS6 := Lib.hid (bkS HER.out hst heq HF6.out); have hno := fun b q => (HER.out.st.ss.own_lt b q).2; have HY6 := Lib.hid (fro_box (by first | exact newBox3 wr | exact newBox2 wr | exact newBox4 wr) hfo hno); have HS8 := Lib.hid (HS6.out.other HY6.out.1 HY6.out.2 (lt_of_block HER.out.x) (.slice r'.sa r'.su.length r'.sc) (.slice r'.na r'.nw.length r'.nc) (.int .i64 r'.size) (.int .i64 r'.ep)); have HY8 := Lib.hid (row_set4 HY6.out.1 (.slice r'.sa r'.su.length r'.sc) (.slice r'.na r'.nw.length r'.nc) (.int .i64 r'.size) (.int .i64 r'.ep)); obtain ⟨⟨z0, z1, z2, z3⟩, t0, t1, t2, t3⟩ := row4_cells HY6.out.1; have KE := Lib.hid (HS6.out.cells HRA.out); have KG := Lib.hid (HS8.out.cells HRA.out); unfold ActX Cells4 CellsA at KE KG; unfold Rf.val; clear hst heq hfo hno))
            all_goals clear KA KD KH KI KJ
            all_goals obtain ⟨⟨z0, z1, z2, z3⟩, _⟩ := row4_cells HY8.out
            all_goals obtain ⟨⟨q0, q1, q2, q3⟩, s0, s1, s2, s3⟩ := row4_cells HS8.out.x
            all_goals have HD := Lib.hid HS8.out.done
            all_goals have HD2 := Lib.hid (show ∃ σ pk pn r, BkR W _ P 40 g (i + 1) σ pk pn r from ⟨_, _, _, _, HD.out⟩)
            all_goals clear HS8 HS6 HD HBW HAX HCX
            all_goals go_wp2
            all_goals go_roundw
            case' rel => exact ⟨i + 1, by omega, by omega, by go_num, HD2⟩
            case' measure => simp [intOf]; omega
            case' rel => exact ⟨i + 1, by omega, by omega, by go_num, HD2⟩
            case' measure => simp [intOf]; omega
          · have HM := Lib.hid (show ∃ i σ pk pn r, i ≤ 20 ∧ BkR W wr P 40 g i σ pk pn r from ⟨i, σ, pk, pn, r, hi2, HER.out⟩)
            clear HA
            by_cases hil : i < len
            · have i1 : (i : Int) < (len : Int) := by omega
              have i2 : ¬ (i : Int) < 20 := by omega
              go_wp2
              go_meet
              case rel => exact HM
            · have i1 : ¬ (i : Int) < (len : Int) := by omega
              go_wp2
              go_meet
              case rel => exact HM
      case rest =>
        refine hK0 _ _ ?_
        clear hK0
        obtain ⟨i, σ, pk, pn, r, hi2, hbk⟩ := hcut.out
        have HER := Lib.hid hbk
        obtain ⟨t, ht⟩ := istbl_ex hbk.st.ss.sh.vf.bnd
        have hsep := hbk.st.ep
        have HCM := Lib.hid (commit_all hbk.st.ss t ht (by omega) (by omega))
        rw [hbk.P] at HCM
        clear hbk ht hcut HA
        go_wp2_with fail
        refine HCM.out.mono ?_
        rintro e w4 ⟨σ2, rfl, hs2, _, hq2, _, hc2⟩
        by_cases hno : σ.S.free < t
        · rw [if_pos hno] at hs2 ⊢
          rw [errv1 (by decide)]
          have HB := Lib.hid hs2.sh.ps.b
          clear hs2 hq2 hc2 hno
          go_wp2_with (go_at_call 9; refine (sure_any _).mono ?_; rintro e w' ⟨rfl, hb⟩; have HB2 := Lib.hid (HB.out.trans (hb.mono HB.out.size)); clear hb)
          go_ret
          exact ⟨rfl, HB2.out⟩
        · rw [if_neg hno] at hs2 ⊢
          rw [errv0]
          obtain ⟨_, hk2, hn2, he2, _⟩ := hc2 hno
          have HS2 := Lib.hid hs2
          have HN2 := Lib.hid (hn2.trans hk2.symm)
          have HP2 := Lib.hid (hq2.1.trans HER.out.P)
          have HM2 := Lib.hid (hq2.2.2.1.trans HER.out.n)
          have HQ2 := Lib.hid (show PgO σ2.kp pn σ2.ep by rw [hk2, he2]; exact HER.out.st.qn)
          have hE : σ2.ep ≤ 21 := by omega
          have HFR := Lib.hid (free_any P σ2.G σ2.T σ2.S w4 (by have := hs2.sh.hd.c6; rw [HP2.out] at this; exact this) hs2.sh.sp)
          have c5 : w4.cell? ⟨P, 5, none⟩ = some (.int .i64 (σ2.ep : Int)) := by have := hs2.sh.hd.c5; rw [HP2.out] at this; exact this
          clear hs2 hq2 hc2 hno hk2 hn2 he2 HER HCM
          go_wp2_with (first | (go_at_call 23; refine (epoch_any _ (σ2.ep : Int) _ c5).mono ?_; rintro e w' ⟨rfl, rfl⟩) | (go_at_call 24; refine HFR.out.mono ?_; rintro e w' ⟨rfl, rfl⟩))
          clear c5
          have HPS := Lib.hid (pages_any HS2.out.sh (by omega))
          rw [HP2.out] at HPS
          refine HPS.out.mono ?_
          rintro e w5 ⟨ao, c1, rfl, hin, hb5, hlo⟩
          have HBQ := Lib.hid (show ∃ N σ pk pn, N ≤ 110000 ∧ Bq W w5 P σ2.S.free σ2.ep σ2.kp σ2.tb ao N σ pk pn from ⟨_, σ2, pn, pn, by omega, HS2.out.below hb5, HP2.out, HM2.out, rfl, rfl, rfl, by
            have := HS2.out.free
            rw [HN2.out, lateL_same, HM2.out] at this
            simp only [List.length_nil] at this
            omega, HQ2.out, by rw [← HN2.out]; exact hin, fun b o e => ⟨fun q => by have := (HS2.out.own_lt b q).2; have := (hlo b o e).1; omega, (hlo b o e).2⟩⟩)
          rw [HN2.out]
          clear hin hb5 hlo HPS HFR HS2 HN2 HP2 HM2 HQ2
          generalize σ2.S.free = F at HBQ ⊢
          generalize σ2.ep = E at HBQ hE ⊢
          generalize σ2.kp = kp at HBQ ⊢
          generalize σ2.tb = tb at HBQ
          go_upto_block 2 with (fail)
          go_cut [] (fun wx => Hid (∃ N σ pk pn, N ≤ 110200 ∧ Bq W wx P F E kp tb ao N σ pk pn))
          case first =>
            go_wp2_with fail
            go_loopw [16, 17] (fun x _ ws => ∃ j : Nat, j ≤ 20 ∧ x = .int .i64 j ∧ Hid (∃ N σ pk pn, N ≤ 110000 + 10 * j ∧ Bq W ws P F E kp tb ao N σ pk pn)) (fun x _ _ => 20 - (intOf x).toNat)
            case atStart => exact ⟨0, by omega, rfl, HBQ⟩
            case round =>
              obtain ⟨j, hj, rfl, HR⟩ := hrel
              have j0 : (0 : Int) ≤ (j : Int) := by omega
              obtain ⟨N, σ, pk, pn, hN, hbq⟩ := HR.out
              have HER := Lib.hid hbq
              clear hbq HR HBQ
              have HM := Lib.hid (show ∃ N σ pk pn, N ≤ 110200 ∧ Bq W wr P F E kp tb ao N σ pk pn from ⟨N, σ, pk, pn, by omega, HER.out⟩)
              by_cases hil : j < len2
              · have i1 : (j : Int) < (len2 : Int) := by omega
                by_cases h20 : j < 20
                · have i2 : (j : Int) < 20 := by omega
                  clear HM
                  obtain ⟨b, o, rfl, hra, hok⟩ := HA2.out.2 j hil
                  have HOK := Lib.hid hok
                  obtain ⟨c0, c1, c2, c3, c4, c5, c6⟩ := cellsA HER.out.ss.sh.ps.b hra
                  clear hra hok
                  generalize l2 j = A at HOK c0 c1 c2 c3 c4 c5 c6
                  go_upto_region 21 with (fail)
                  clear c0 c1 c2 c3 c4 c5 c6
                  have HE2 := Lib.hid (HER.out.below (Sm.alX wr (bxA A)))
                  obtain ⟨a0, a1, a2, a3, a4, a5, a6⟩ := row7_cells (heap_alloc_new wr (bxA A))
                  have HDR := Lib.hid (drop_all HE2.out.ss A.n)
                  have HWR := Lib.hid (write_all HE2.out.ss A.n A.ki A.nu A.ep A.si A.a A.q A.c A.rs HOK.out.pg.len HOK.out.pg.max HOK.out.pg.s1 (HOK.out.pg.recs.below HE2.out.ss.sh.ps.b) HOK.out.pg.k0 HOK.out.pg.k1 (by omega))
                  rw [HE2.out.P] at HDR HWR
                  obtain ⟨k, hk, hk4⟩ := red_nat A.kind 4 (by omega) (by omega)
                  by_cases hk0 : k = 0
                  · have hk1 : wrap64 ((IntKind.u64.wrap A.kind).tmod 4) = 0 := by omega
                    clear hk HWR
                    go_wp2_with (go_at_call 20; refine HDR.out.mono ?_; rintro e w6 ⟨σ', rfl, hs6, hf6, he6, ⟨q1, q2, q3, q4⟩, _, _⟩; have HM := Lib.hid (show ∃ N σ pk pn, N ≤ 110000 + 10 * (j + 1) ∧ Bq W w6 P F E kp tb ao N σ pk pn from ⟨_, σ', pk, pn, by omega, HE2.out.frm hs6 hf6 he6 q1 q2 q3 q4⟩); clear hs6 hf6 he6 q1 q2 q3 q4)
                    go_roundw
                    case rel => exact ⟨j + 1, by omega, by go_num, HM⟩
                    case measure => simp [intOf]; omega
                  · have hk1 : ¬ wrap64 ((IntKind.u64.wrap A.kind).tmod 4) = 0 := by omega
                    clear hk HDR
                    go_wp2_with (go_at_call 19; refine HWR.out.mono ?_; rintro e w6 ⟨σ', pn', rfl, hs6, hf6, he6, ⟨q1, q2, q3, q4⟩, _, _⟩; have HM := Lib.hid (show ∃ N σ pk pn, N ≤ 110000 + 10 * (j + 1) ∧ Bq W w6 P F E kp tb ao N σ pk pn from ⟨_, σ', pk, pn', by omega, HE2.out.frm hs6 hf6 he6 q1 q2 q3 q4⟩); clear hs6 hf6 he6 q1 q2 q3 q4)
                    go_roundw
                    case rel => exact ⟨j + 1, by omega, by go_num, HM⟩
                    case measure => simp [intOf]; omega
                · have i2 : ¬ (j : Int) < 20 := by omega
                  go_wp2
                  go_meet
                  case rel => exact HM
              · have i1 : ¬ (j : Int) < (len2 : Int) := by omega
                go_wp2
                go_meet
                case rel => exact HM
          case rest =>
            obtain ⟨N, σ, pk, pn, hN, hbq⟩ := hcut.out
            have HER := Lib.hid hbq
            have HAB := Lib.hid (abort_all hbq.ss)
            rw [hbq.P] at HAB
            clear hbq hcut HBQ HA2
            go_wp2_with (first | (go_at_call 22; refine HAB.out.mono ?_; rintro e w6 ⟨σ3, rfl, hs6, hf6, he6, d1, d2, d3, d4, d5⟩; have HB3 := Lib.hid (HER.out.frm hs6 hf6 he6 d1 d4 d3 d5); have HNW := Lib.hid (show σ3.nw = σ3.kp from d2.trans d1.symm); have HFE := Lib.hid (HB3.out.free HNW.out); have HFR := Lib.hid (free_any P σ3.G σ3.T σ3.S w6 (by have := hs6.sh.hd.c6; rw [HB3.out.P] at this; exact this) hs6.sh.sp); rw [HFE.out] at HFR; have c5 : w6.cell? ⟨P, 5, none⟩ = some (.int .i64 (E : Int)) := (by have := hs6.sh.hd.c5; rw [HB3.out.P, HB3.out.ep] at this; exact this); clear hs6 hf6 he6 d1 d2 d3 d4 d5) | (go_at_call 23; refine (epoch_any _ (E : Int) _ c5).mono ?_; rintro e w' ⟨rfl, rfl⟩) | (go_at_call 24; refine HFR.out.mono ?_; rintro e w' ⟨rfl, rfl⟩))
            have HPS := Lib.hid (pages_any HB3.out.ss.sh (by omega))
            rw [HB3.out.P, HNW.out, HB3.out.kpe] at HPS
            refine HPS.out.mono ?_
            rintro e w7 ⟨ao2, c2, rfl, hin, hb7, hlo⟩
            have HX := Lib.hid (show ∃ N σ, N ≤ 120000 ∧ σ.nw = σ.kp ∧ Bq W w7 P F E kp tb ao N σ pk pk ∧ Bq W w7 P F E kp tb ao2 N σ pk pk from ⟨N, σ3, by omega, HNW.out, HB3.out.below hb7, ⟨(HB3.out.below hb7).ss, HB3.out.P, HB3.out.n, HB3.out.kpe, HB3.out.tbe, HB3.out.ep, HB3.out.fr, HB3.out.qk, hin, fun b o e => ⟨fun q => by have := (HB3.out.ss.own_lt b q).2; have := (hlo b o e).1; omega, (hlo b o e).2⟩⟩⟩)
            clear hin hb7 hlo HPS HFR HFE HNW HB3 HAB HER c5
            have hkl : (kl kp).length ≤ 15006 := by
              have := List.length_filter_le (fun k => decide (kp k ≠ 0)) (List.range 15006)
              rw [List.length_range] at this
              exact this
            obtain ⟨L, hL⟩ : ∃ L, L = (kl kp).length := ⟨_, rfl⟩
            have HXF := Lib.hid (show ∀ j, j < L → ∃ x : Nat, x < 15006 ∧ kp x ≠ 0 ∧ ∀ (w : World) (a : Option Addr), Ints w a (zl (kl kp)) → ∃ b off, a = some ⟨b, off, none⟩ ∧ w.cell? ⟨b, off + j, none⟩ = some (.int .i64 (x : Int)) from fun j hj => by
              have hj2 : j < (kl kp).length := by omega
              have hm := List.mem_filter.1 (List.getElem_mem (l := kl kp) hj2)
              refine ⟨(kl kp)[j], List.mem_range.1 hm.1, of_decide_eq_true hm.2, fun w a h => ?_⟩
              obtain ⟨b, off, ha, hc⟩ := h j (by rw [zl_len]; exact hj2)
              exact ⟨b, off, ha, by rw [hc]; simp [zl]⟩)
            rw [← hL] at hkl ⊢
            clear hL
            go_wp2_with fail
            go_loopw [19, 20, 21] (fun x _ _ ws => ∃ j : Nat, j ≤ L ∧ x = .int .i64 j ∧ Hid (∃ N σ, N ≤ 120000 + 2 * j ∧ σ.nw = σ.kp ∧ Bq W ws P F E kp tb ao N σ pk pk ∧ Bq W ws P F E kp tb ao2 N σ pk pk)) (fun x _ _ _ => L - (intOf x).toNat)
            case atStart => exact ⟨0, by omega, rfl, HX⟩
            case round =>
              obtain ⟨j, hj, rfl, HR⟩ := hrel
              have j0 : (0 : Int) ≤ (j : Int) := by omega
              obtain ⟨N, σ, hN, hnk, hb1, hb2⟩ := HR.out
              have HNK := Lib.hid hnk
              have HB1 := Lib.hid hb1
              have HB2 := Lib.hid hb2
              clear hnk hb1 hb2 HR HX
              by_cases hil : j < L
              · have i1 : (j : Int) < (L : Int) := by omega
                obtain ⟨x, hx1, hx2, hxf⟩ := HXF.out j hil
                obtain ⟨p1, o1, rfl, _⟩ := hxf _ _ HB1.out.li
                obtain ⟨p2, o2, rfl, hc2⟩ := hxf _ _ HB2.out.li
                have HXX := Lib.hid (show ∀ w, Ints w (some ⟨p1, o1, none⟩) (zl (kl kp)) → Ints w (some ⟨p2, o2, none⟩) (zl (kl kp)) → w.cell? ⟨p1, o1 + j, none⟩ = some (.int .i64 (x : Int)) ∧ w.cell? ⟨p2, o2 + j, none⟩ = some (.int .i64 (x : Int)) from fun w h1 h2 => by
                  obtain ⟨b1, q1, e1, c1⟩ := hxf _ _ h1
                  obtain ⟨b2, q2, e2, c2⟩ := hxf _ _ h2
                  obtain ⟨rfl, rfl⟩ : p1 = b1 ∧ o1 = q1 := by simpa using e1
                  obtain ⟨rfl, rfl⟩ : p2 = b2 ∧ o2 = q2 := by simpa using e2
                  exact ⟨c1, c2⟩)
                have hnx : σ.nw x ≠ 0 := by rw [HNK.out, HB1.out.kpe]; exact hx2
                have HC0 := Lib.hid (show rdC σ (x : Int) = 0 by unfold rdC; rw [if_neg (by omega), Int.toNat_natCast, if_neg hnx])
                have HRD := Lib.hid (read_all HB1.out.ss (x : Int) (by omega))
                rw [HC0.out, HB1.out.P] at HRD
                have HPO := Lib.hid (HB1.out.qk x hx2)
                clear hxf hnx hx2
                go_wp2_with fail
                refine HRD.out.mono ?_
                rintro e w8 ⟨σ', pg, ra, cap8, B, C, rfl, hs8, hf8, ⟨H', rfl⟩, hpg, _⟩
                obtain ⟨hp0, _⟩ := hpg rfl
                rw [Int.toNat_natCast] at hp0
                subst hp0
                rw [errv0]
                have HD1 := Lib.hid (HB1.out.frm hs8 hf8 ⟨rfl, rfl, rfl, rfl⟩ rfl rfl rfl rfl)
                have HD2 := Lib.hid (HB2.out.frm hs8 hf8 ⟨rfl, rfl, rfl, rfl⟩ rfl rfl rfl rfl)
                have HNK2 := Lib.hid (show ({ σ with H := H' } : Sd).nw = ({ σ with H := H' } : Sd).kp from HNK.out)
                clear hs8 hf8 hpg HRD HC0 HB1 HB2 hc2
                have hn1 := HPO.out.1
                have hn2 := HPO.out.2.1
                have hn3 := HPO.out.2.2
                generalize Sm.Pg.number (pk x) = nu at hn1 ⊢
                subst hn1
                generalize Sm.Pg.epoch (pk x) = ep at hn2 hn3 ⊢
                generalize Sm.Pg.kind (pk x) = ki
                generalize Sm.Pg.size (pk x) = si
                generalize (Sm.Pg.recs (pk x)).length = q
                generalize ({ σ with H := H' } : Sd) = σ9 at HD1 HD2 HNK2
                have HA8 := Sm.alX w8 (.cells #[.int .u8 ki, .int .u32 (x : Int), .int .u64 ep, .int .i64 si, .slice ra q cap8] 47)
                have HE1 := Lib.hid (HD1.out.below HA8)
                have HE2 := Lib.hid (HD2.out.below HA8)
                have hbx := box_new w8 ki (x : Int) ep si (.slice ra q cap8)
                have x1 := hbx.f1
                have x2 := hbx.f2
                obtain ⟨y1, y2⟩ := HXX.out _ HE1.out.li HE2.out.li
                have hw1 : IntKind.i64.wrap (x : Int) = (x : Int) := IntWalk.i64_in _ ⟨by omega, by omega⟩
                have hw2 : IntKind.i64.wrap ep = ep := IntWalk.i64_in _ ⟨by omega, by omega⟩
                have hgt : ¬ (E : Int) < ep := by omega
                clear HA8 hbx HD1 HD2 HNK HPO HXX
                go_upto_region 34 with (fail)
                go_quiet (fail)
                have HNX := Lib.hid (show ∃ N σ, N ≤ 120000 + 2 * (j + 1) ∧ σ.nw = σ.kp ∧ Bq W _ P F E kp tb (some ⟨p1, o1, none⟩) N σ pk pk ∧ Bq W _ P F E kp tb (some ⟨p2, o2, none⟩) N σ pk pk from ⟨N + 2, σ9, by omega, HNK2.out, HE1.out.below (below_dn (Below.refl _ _) nq), HE2.out.below (below_dn (Below.refl _ _) nq)⟩)
                clear HE1 HE2 HNK2
                go_wp2
                go_roundw
                case rel => exact ⟨j + 1, by omega, by go_num, HNX⟩
                case measure => simp [intOf]; omega
              · have i1 : ¬ (j : Int) < (L : Int) := by omega
                have HB := Lib.hid HB1.out.ss.sh.ps.b
                clear HB1 HB2
                go_wp2_with (go_at_call 9; refine (sure_any _).mono ?_; rintro e w' ⟨rfl, hb⟩; have HBZ := Lib.hid (HB.out.trans (hb.mono HB.out.size)); clear hb)
                go_ret
                exact ⟨rfl, HBZ.out⟩
end Go.Proofs.YtlfkkakohldgnaaGreatDoor.Sh

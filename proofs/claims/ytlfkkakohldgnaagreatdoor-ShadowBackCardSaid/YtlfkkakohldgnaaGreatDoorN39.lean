/-
  A SHADOW IN MEMORY, and as plain data. Conditions: those that each lemma names.
  A SHADOW IS BEGUN: the walk of New. Conditions: those that each lemma names.
-/
import Derived.Test.YtlfkkakohldgnaaGreatDoorN38
namespace Go.Proofs.YtlfkkakohldgnaaGreatDoor.Sh
open Go.RowKit Go.Maps

structure Sd where
  P : Nat
  p : Nat
  D : Nat
  K : Nat
  V : Nat
  G : Nat
  T : Nat
  n : Nat
  m : Nat
  nK : Nat
  nV : Nat
  DK : DataW Unit
  DV : DataW Unit
  ta : Option Addr
  tc : Nat
  tb : List Nat
  kp : Nat → Nat
  nw : Nat → Nat
  root : Nat
  ep : Nat
  fl : Bool
  S : Spc
  ct : Nat → ByteArray
  H : Nat → Prop
/-- none of these blocks is another's -/
structure Sep (W w : World) (σ : Sd) : Prop where
  ne : σ.P ≠ σ.K ∧ σ.P ≠ σ.G ∧ σ.P ≠ σ.T ∧ σ.K ≠ σ.G ∧ σ.K ≠ σ.T
  nv : σ.V ≠ σ.P ∧ σ.V ≠ σ.K ∧ σ.V ≠ σ.G ∧ σ.V ≠ σ.T
  nh : ¬ σ.H σ.P ∧ ¬ σ.H σ.K ∧ ¬ σ.H σ.G ∧ ¬ σ.H σ.T ∧ ¬ σ.H σ.V
  lo : W.heap.size ≤ σ.P ∧ W.heap.size ≤ σ.K ∧ W.heap.size ≤ σ.G ∧ W.heap.size ≤ σ.T ∧ W.heap.size ≤ σ.V
  ta : ∀ b o, σ.ta = some ⟨b, o, none⟩ → b ≠ σ.P ∧ b ≠ σ.K ∧ b ≠ σ.G ∧ b ≠ σ.T ∧ b ≠ σ.V ∧ ¬ σ.H b ∧ W.heap.size ≤ b ∧ b < w.heap.size
structure Sh (W : World) (N : Nat) (w : World) (σ : Sd) (Q : Nat → Prop) : Prop where
  hd : Hd8 w σ.P σ.p σ.K σ.G (some σ.V) (.slice σ.ta σ.tb.length σ.tc) (σ.root : Int) (σ.ep : Int) σ.fl
  km : Owns w σ.K σ.nK σ.DK
  kf : MpF σ.kp σ.DK
  vm : Owns w σ.V σ.nV σ.DV
  vf : MpF σ.nw σ.DV
  ti : Ints w σ.ta (zl σ.tb)
  sp : SpAt w σ.G σ.T σ.S
  ps : PS W N w σ.p σ.D σ.ct Q σ.n σ.m σ.H
  se : Sep W w σ
  nb : σ.nK ≤ N ∧ σ.nV ≤ N
theorem ints_same {w w' : World} {a : Option Addr} {xs : List Int} (h : Ints w a xs) (hb : ∀ b o, a = some ⟨b, o, none⟩ → w'.heap[b]? = w.heap[b]?) : Ints w' a xs := by
  intro i hi
  obtain ⟨b, off, ha, hc⟩ := h i hi
  exact ⟨b, off, ha, (World.cell?_of_block (hb b off ha)).trans hc⟩
theorem Sh.below {W w w' : World} {N : Nat} {σ : Sd} {Q : Nat → Prop} (h : Sh W N w σ Q) (hb : Below w.heap.size w w') : Sh W N w' σ Q :=
  ⟨h.hd.same (hb.block _ (World.block_lt_of_cell? w _ h.hd.c0)), owns_same h.km (hb.block _ h.km.lt), h.kf, owns_same h.vm (hb.block _ h.vm.lt), h.vf, ints_same h.ti (fun b o e => hb.block b (h.se.ta b o e).2.2.2.2.2.2.2), h.sp.below hb, h.ps.below hb, ⟨h.se.ne, h.se.nv, h.se.nh, h.se.lo, fun b o e => by obtain ⟨a1, a2, a3, a4, a5, a6, a7, a8⟩ := h.se.ta b o e; exact ⟨a1, a2, a3, a4, a5, a6, a7, Nat.lt_of_lt_of_le a8 hb.size⟩⟩, h.nb⟩
/-- the pool alone turns -/
theorem Sh.pool {W w w' : World} {N M : Nat} {σ : Sd} {Q Q' H' : Nat → Prop} {ct' : Nat → ByteArray} (h : Sh W N w σ Q) (hp : PS W M w' σ.p σ.D ct' Q' σ.n σ.m H') (hs : Stp w σ.H w' H') (hM : N ≤ M) : Sh W M w' { σ with ct := ct', H := H' } Q' := by
  obtain ⟨h1, h2, h3, h4, h5⟩ := h.se.nh
  have lP : σ.P < w.heap.size := World.block_lt_of_cell? w _ h.hd.c0
  have hn : ∀ b, b < w.heap.size → ¬ σ.H b → ¬ H' b := fun b hb hq q => by rcases hs.own b q with e | e; exact hq e; omega
  exact ⟨h.hd.same (hs.block _ lP h1), owns_same h.km (hs.block _ h.km.lt h2), h.kf, owns_same h.vm (hs.block _ h.vm.lt h5), h.vf, ints_same h.ti (fun b o e => by obtain ⟨_, _, _, _, _, a6, _, a8⟩ := h.se.ta b o e; exact hs.block b a8 a6), h.sp.same (hs.block _ h.sp.ltG h3) (hs.block _ h.sp.ltT h4), hp,
    ⟨h.se.ne, h.se.nv, ⟨hn _ lP h1, hn _ h.km.lt h2, hn _ h.sp.ltG h3, hn _ h.sp.ltT h4, hn _ h.vm.lt h5⟩, h.se.lo, fun b o e => by obtain ⟨a1, a2, a3, a4, a5, a6, a7, a8⟩ := h.se.ta b o e; exact ⟨a1, a2, a3, a4, a5, hn b a8 a6, a7, Nat.lt_of_lt_of_le a8 hs.size⟩⟩, ⟨Nat.le_trans h.nb.1 hM, Nat.le_trans h.nb.2 hM⟩⟩
theorem Sh.mono {W w : World} {N M : Nat} {σ : Sd} {Q : Nat → Prop} (h : Sh W N w σ Q) (hN : N ≤ M) : Sh W M w σ Q := ⟨h.hd, h.km, h.kf, h.vm, h.vf, h.ti, h.sp, h.ps.mono hN, h.se, ⟨Nat.le_trans h.nb.1 hN, Nat.le_trans h.nb.2 hN⟩⟩
theorem Sh.less {W w : World} {N : Nat} {σ : Sd} {Q Q' : Nat → Prop} (h : Sh W N w σ Q) (hQ : ∀ q, Q' q → Q q) : Sh W N w σ Q' := ⟨h.hd, h.km, h.kf, h.vm, h.vf, h.ti, h.sp, h.ps.less hQ, h.se, h.nb⟩

/-- the i-th table of a map -/
def tbl (f : Nat → Nat) (i : Nat) : List Nat := (List.range 123).map fun j => f (i * 123 + j)
theorem tbl_len (f : Nat → Nat) (i : Nat) : (tbl f i).length = 123 := by simp [tbl]
/-- what a shadow is: pk, pn: the pages that are kept, and those that are now -/
structure Inv (σ : Sd) (Q : Nat → Prop) (pk pn : Nat → Sm.Pg) : Prop where
  n4 : 4 ≤ σ.n
  n1 : σ.n ≤ 16384
  m1 : 1 ≤ σ.m
  m2 : σ.m ≤ 1024
  sn : σ.S.n = σ.n
  tk : ∀ i, σ.S.t i = true ↔ i < 2 ∨ i ∈ σ.tb ∨ (∃ k, σ.kp k = i ∧ σ.kp k ≠ 0) ∨ (∃ k, σ.nw k = i ∧ σ.nw k ≠ 0)
  sk : Secs σ.n σ.tb σ.kp
  sw : Secs σ.n σ.tb σ.nw
  one : ∀ j k, σ.nw j ≠ 0 → σ.nw j = σ.kp k → j = k
  it : IsTbl σ.kp σ.tb.length
  ck : ∀ k, σ.kp k ≠ 0 → σ.ct (σ.kp k) = bt (pk k) ∧ PgOk (pk k) ∧ (pk k).number = k
  cn : ∀ k, σ.nw k ≠ 0 → σ.ct (σ.nw k) = bt (pn k) ∧ PgOk (pn k) ∧ (pn k).number = k
  tt : ∀ i (h : i < σ.tb.length), σ.ct σ.tb[i] = bt (pg4 84 i σ.ep (tbl σ.kp i))
  r2 : σ.root < 2
  e1 : σ.ep < 4611686018427387904
  st : ∃ st : Nat → Option (Nat × List Nat), (∀ r, r < 2 → Rt σ.ct r (st r)) ∧ st σ.root = some (σ.ep, σ.tb) ∧ best st 2 = some (σ.root, σ.ep, σ.tb)
  fl : σ.fl = false
  sq : (∀ q, q < 2 → Q q) ∧ (∀ x ∈ σ.tb, Q x) ∧ ∀ k, σ.kp k ≠ 0 → Q (σ.kp k)
/-- nothing is kept, and nothing is now -/
def p0 (_ : Nat) : Sm.Pg := .mkPg 0 0 0 0 []
end Go.Proofs.YtlfkkakohldgnaaGreatDoor.Sh
namespace Go.Proofs.YtlfkkakohldgnaaGreatDoor.Sh
open Go.RowKit Go.Maps

theorem other_any (r : Nat) (h : r < 2) (w : World) : Calls Tryz.prog 36 #[.int .i64 r] w fun e w' => e = .returned (.int .i64 ((1 - r : Nat) : Int)) ∧ w = w' := by
  have h0 : (0 : Int) ≤ (r : Int) := by omega
  have h1 : (r : Int) < 2 := by omega
  go_enter Tryz.func36, Tryz.ntmps36
  go_wp2
  go_ret
  exact ⟨Sm.ret_int (by omega), rfl⟩
theorem bsec_lt {st : Nat → Option (Nat × List Nat)} : bsec (best st 2) < 2 := by
  have h1 : ∀ k, bsec (best st k) < k ∨ best st k = none := by
    intro k
    induction k with
    | zero => exact .inr rfl
    | succ k ih =>
      cases hs : st k with
      | none => rw [best_none hs]; rcases ih with e | e; exact .inl (by omega); exact .inr e
      | some el =>
        obtain ⟨e, l⟩ := el
        cases hb : best st k with
        | none => rw [best_first hs hb]; exact .inl (by show k < k + 1; omega)
        | some sel =>
          obtain ⟨s, e', l'⟩ := sel
          by_cases he : e' < e
          · rw [best_more hs hb he]; exact .inl (by show k < k + 1; omega)
          · rw [best_stay hs hb he]
            rw [hb] at ih
            rcases ih with q | q
            · exact .inl (by have : s < k := q; show s < k + 1; omega)
            · cases q
  rcases h1 2 with e | e
  · exact e
  · rw [e]; decide
theorem mpf_none : MpF (fun _ => 0) (.map []) := by
  refine ⟨?_, fun z => ?_, fun k hk => absurd rfl hk, fun k hk => absurd rfl hk, fun k => by decide⟩
  · exact ⟨[], rfl, by simp⟩
  · constructor
    · intro h; cases h
    · rintro ⟨k, _, q⟩; exact absurd rfl q
theorem secs_none (n : Nat) : Secs n [] (fun _ => 0) := ⟨List.nodup_nil, fun x hx => absurd hx (by simp), fun k hk => absurd rfl hk, fun j k hj => absurd rfl hj, fun k hk => absurd rfl hk⟩
theorem PS.stp {W w w' : World} {N p D n m : Nat} {ct : Nat → ByteArray} {Q H S S' : Nat → Prop} (h : PS W N w p D ct Q n m H) (s : Stp w S w' S') (hd : ∀ b, H b → ¬ S b) (hlo : ∀ b, S b → W.heap.size ≤ b) : PS W N w' p D ct Q n m H := by
  obtain ⟨X, ⟨μ, h1, h2, h3, h4, rfl, h6⟩, rest⟩ := h
  exact ⟨X, ⟨μ, h1.moved s.size (fun b hb => s.block b (h1.lt b hb).2 (hd b hb)), h2, h3, h4, rfl, h6.trans (s.below hlo h6.size)⟩, rest⟩
theorem new_inv {n m c : Nat} {ct : Nat → ByteArray} (σ : Sd) (hc : c < 2) (h4 : 4 ≤ n) (hn : n ≤ 16384) (h1 : 1 ≤ m) (h2 : m ≤ 1024) (en : σ.n = n) (em : σ.m = m) (htk : Tk n [] (fun _ => 0) σ.S) (etb : σ.tb = []) (ekp : σ.kp = fun _ => 0) (enw : σ.nw = fun _ => 0) (ert : σ.root = 0) (eep : σ.ep = 0) (efl : σ.fl = false) (ect : σ.ct = updT (updT ct (1 - c) (bt (pg4 82 0 ((0 : Nat) : Int) []))) c (bt (pg4 82 0 ((0 : Nat) : Int) []))) : Inv σ (fun _ => True) p0 p0 := by
  refine ⟨by omega, by omega, by omega, by omega, htk.1.trans en.symm, fun i => ?_, by rw [etb, ekp]; exact secs_none _, by rw [etb, enw]; exact secs_none _, fun j k hj => absurd (by rw [enw]) hj, by rw [etb, ekp]; exact ⟨fun k hk => absurd rfl hk, .inl rfl⟩, fun k hk => absurd (by rw [ekp]) hk, fun k hk => absurd (by rw [enw]) hk, fun i hi => absurd hi (by rw [etb]; simp), by omega, by omega, ⟨fun _ => some (0, []), fun r hr => ?_, by rw [eep, etb], by rw [ert, eep, etb]; rfl⟩, efl, ⟨fun _ _ => trivial, fun _ _ => trivial, fun _ _ => trivial⟩⟩
  · rw [htk.2 i, etb, ekp, enw]
    simp
  · refine ⟨?_, by decide, fun x hx => absurd hx (by simp), by decide⟩
    rw [ect]
    unfold updT
    by_cases e : r = c
    · rw [if_pos e]
    · rw [if_neg e, if_pos (by omega)]
def rt0 : ByteArray := bt (pg4 82 0 ((0 : Nat) : Int) [])
def NewSh (W : World) (N : Nat) (D n m : Nat) (e : Ending) (w' : World) : Prop :=
  ∃ σ : Sd, e = .returned (.tuple #[.pointer (some ⟨σ.P, 0, none⟩), .nilIface]) ∧ Sh W N w' σ (fun _ => True) ∧ Inv σ (fun _ => True) p0 p0 ∧ σ.D = D ∧ σ.n = n ∧ σ.m = m ∧ σ.ep = 0 ∧ σ.nw = (fun _ => 0) ∧ σ.kp = (fun _ => 0) ∧ σ.tb = []
set_option maxRecDepth 100000 in
set_option maxHeartbeats 2000000 in
theorem new_any {W w : World} {D n N : Nat} {ct : Nat → ByteArray} {Hd : Nat → Prop} (m : Nat) (h : DkS W w D n ct N Hd) (hHd : ∀ k, Hd k → k < w.heap.size) (hW : W.heap.size ≤ w.heap.size) (h4 : 4 ≤ n) (hn : n ≤ 16384) (h1 : 1 ≤ m) (h2 : m ≤ 1024) (st : Nat → Option (Nat × List Nat)) (hst : ∀ r, r < 2 → Rt ct r (st r)) (hN : N + 10000 < 2305843009213693952) :
    Calls Tryz.prog 11 #[.pointer (some ⟨D, 0, none⟩), .int .i64 (m : Int)] w (NewSh W (N + 4 + (1 + m) + (1 + m)) D n m) := by
  have HD := Lib.hid h
  have HHD := Lib.hid hHd
  have HST := Lib.hid hst
  have HWW := Lib.hid hW
  clear h hHd hst hW
  go_enter Tryz.func11, Tryz.ntmps11
  go_wp2_with fail
  refine (on_any m HD.out HHD.out h4 hn h1 h2).mono ?_
  rintro e w1 ⟨P, p, K, G, T, H, rfl, hon⟩
  have HON := Lib.hid hon
  have HC0 := Lib.hid hon.hd.c0
  have HPH := Lib.hid hon.nh.1
  clear hon
  go_wp2_with fail
  refine (newest_any P HON.out.ps HC0.out HPH.out (by omega) st HST.out (by omega)).mono ?_
  rintro e w2 ⟨ra, cap, H2, B, C, rfl, hr, hB, hC, hdj, hps, hs2⟩
  have HPS2 := Lib.hid (hps.below (Sm.alX w2 (.cells #[.int .u8 (bpg (best st 2)).kind, .int .u32 (bpg (best st 2)).number, .int .u64 (bpg (best st 2)).epoch, .int .i64 (bpg (best st 2)).size, .slice ra (bpg (best st 2)).recs.length cap] 47)))
  have HS2 := Lib.hid (hs2.trans (.of_below (H := H2) (Sm.alX w2 (.cells #[.int .u8 (bpg (best st 2)).kind, .int .u32 (bpg (best st 2)).number, .int .u64 (bpg (best st 2)).epoch, .int .i64 (bpg (best st 2)).size, .slice ra (bpg (best st 2)).recs.length cap] 47))))
  have hc2 := bsec_lt (st := st)
  clear hr hB hC hdj hps hs2
  unfold pv
  go_wp2_with (go_at_call 36; refine (other_any _ hc2 _).mono ?_; rintro e w' ⟨rfl, rfl⟩)
  generalize bsec (best st 2) = c at hc2 ⊢
  obtain ⟨z, hz⟩ : ∃ z, z = w2.alloc (.cells #[.int .u8 (bpg (best st 2)).kind, .int .u32 (bpg (best st 2)).number, .int .u64 (bpg (best st 2)).epoch, .int .i64 (bpg (best st 2)).size, .slice ra (bpg (best st 2)).recs.length cap] 47) := ⟨_, rfl⟩
  have hzs : z.heap.size = w2.heap.size + 1 := by rw [hz]; simp
  rw [← hz] at HPS2 HS2 ⊢
  rw [← hzs]
  have HX0 := Lib.hid (cell_of_row _ _ 0 _ _ _ (heap_alloc_new z (.cells #[Value.int .i64 ((1 - c : Nat) : Int), .int .i64 (c : Int)] 3)))
  have HX1 := Lib.hid (cell_of_row _ _ 1 _ _ _ (heap_alloc_new z (.cells #[Value.int .i64 ((1 - c : Nat) : Int), .int .i64 (c : Int)] 3)))
  have HPS3 := Lib.hid (HPS2.out.below (Sm.alX z (.cells #[Value.int .i64 ((1 - c : Nat) : Int), .int .i64 (c : Int)] 3)))
  have HS3 := Lib.hid (HS2.out.trans (.of_below (H := H2) (Sm.alX z (.cells #[Value.int .i64 ((1 - c : Nat) : Int), .int .i64 (c : Int)] 3))))
  have HXN := Lib.hid (show ¬ H2 z.heap.size from fun q => by have := (HPS2.out.lt _ q).2; omega)
  have HXL := Lib.hid (show z.heap.size < (z.alloc (.cells #[Value.int .i64 ((1 - c : Nat) : Int), .int .i64 (c : Int)] 3)).heap.size by simp)
  generalize z.alloc (.cells #[Value.int .i64 ((1 - c : Nat) : Int), .int .i64 (c : Int)] 3) = w3 at HX0 HX1 HPS3 HS3 HXL ⊢
  clear hz hzs HPS2 HS2
  generalize z.heap.size = x at HX0 HX1 HXN HXL ⊢
  have x0 : w3.cell? ⟨x, 0, none⟩ = some (.int .i64 ((1 - c : Nat) : Int)) := HX0.out
  have HC3 := Lib.hid (HS3.out.cell HC0.out HPH.out)
  have HPH3 := Lib.hid (show ¬ H2 P from fun q => by
    rcases HS3.out.own P q with e | e
    · exact HPH.out e
    · have : P < w1.heap.size := World.block_lt_of_cell? w1 _ HC0.out
      omega)
  refine wp_loop_rounds 3 ?_
  rw [rounds_succ]
  go_wp2_with fail
  refine (layRoot_any P (HPS3.out.less (Q' := fun _ => False) (fun _ q => q.elim)) HC3.out (1 - c) (by omega) (fun q => q) HPH3.out 0 (by decide) [] none 0 0 rfl (by decide) (fun i hi => absurd hi (by simp [zl])) (fun x hx => absurd hx (by simp)) (by omega)).mono ?_
  rintro e w4 ⟨rfl, H4, hps4, hs4⟩
  have HPS4 := Lib.hid hps4
  have x1 : w4.cell? ⟨x, 1, none⟩ = some (.int .i64 (c : Int)) := hs4.cell HX1.out HXN.out
  have HC4 := Lib.hid (hs4.cell HC3.out HPH3.out)
  have HPH4 := Lib.hid (show ¬ H4 P from fun q => by
    rcases hs4.own P q with e | e
    · exact HPH3.out e
    · have : P < w3.heap.size := World.block_lt_of_cell? w3 _ HC3.out
      omega)
  have HS4 := Lib.hid (HS3.out.trans hs4)
  clear hps4 hs4 x0
  go_wp2
  rw [rounds_succ]
  go_wp2_with fail
  refine (layRoot_any P (HPS4.out.less (Q' := fun _ => False) (fun _ q => q.elim)) HC4.out c (by omega) (fun q => q) HPH4.out 0 (by decide) [] none 0 0 rfl (by decide) (fun i hi => absurd hi (by simp [zl])) (fun x hx => absurd hx (by simp)) (by omega)).mono ?_
  rintro e w5 ⟨rfl, H5, hps5, hs5⟩
  have HPS5 := Lib.hid hps5
  have HS5 := Lib.hid (HS4.out.trans hs5)
  have HPH5 := Lib.hid (show ∀ b, b < w1.heap.size → ¬ H b → ¬ H5 b from fun b hb hn q => by
    rcases HS5.out.own b q with e | e
    · exact hn e
    · omega)
  clear hps5 hs5 x1
  go_wp2
  rw [rounds_succ]
  have hd5 := HON.out.hd.same (HS5.out.block P (World.block_lt_of_cell? w1 _ HC0.out) HPH.out)
  have hsp5 := HON.out.sp.same (HS5.out.block G HON.out.sp.ltG HON.out.nh.2.2.1) (HS5.out.block T HON.out.sp.ltT HON.out.nh.2.2.2)
  have hkm5 := owns_same HON.out.km (HS5.out.block K HON.out.km.lt HON.out.nh.2.1)
  have HSE := Lib.hid (settle_any w5 P p K G T n 0 (.map []) none 0 0 none 0 0 false [] (fun _ => 0) _ hd5 rfl (fun i hi => absurd hi (by simp [zl])) (fun b o e => by cases e) hkm5 mpf_none hsp5 rfl (secs_none n) HON.out.ne (by decide))
  clear hd5 hsp5 hkm5
  go_wp2_with (go_at_call 38; refine HSE.out.mono ?_; rintro e w6 ⟨rfl, S, hse⟩; have HSS := Lib.hid hse; clear hse)
  go_ret2
  have hne := HON.out.ne
  have hnh := HON.out.nh
  have hlo := HON.out.lo
  have hb1 := HON.out.b.size
  have hWW := HWW.out
  have l1 : P < w1.heap.size := World.block_lt_of_cell? w1 _ HC0.out
  have l2 := HON.out.km.lt
  have l3 := HON.out.sp.ltG
  have l4 := HON.out.sp.ltT
  have h5s := HS5.out.size
  have k1 := HPH5.out P l1 hnh.1
  have k2 := HPH5.out K l2 hnh.2.1
  have k3 := HPH5.out G l3 hnh.2.2.1
  have k4 := HPH5.out T l4 hnh.2.2.2
  have k5 : ¬ H5 w5.heap.size := fun q => by have := (HPS5.out.lt _ q).2; omega
  have hkm5 := owns_same HON.out.km (HS5.out.block K HON.out.km.lt HON.out.nh.2.1)
  have nv : w5.heap.size ≠ P ∧ w5.heap.size ≠ K ∧ w5.heap.size ≠ G ∧ w5.heap.size ≠ T := by omega
  have lo : W.heap.size ≤ P ∧ W.heap.size ≤ K ∧ W.heap.size ≤ G ∧ W.heap.size ≤ T ∧ W.heap.size ≤ w5.heap.size := by omega
  refine ⟨{ P := P, p := p, D := D, K := K, V := w5.heap.size, G := G, T := T, n := n, m := m, nK := 0, nV := 0, DK := .map [], DV := .map [], ta := none, tc := 0, tb := [], kp := fun _ => 0, nw := fun _ => 0, root := 0, ep := 0, fl := false, S := S, ct := updT (updT ct (1 - c) (bt (pg4 82 0 ((0 : Nat) : Int) []))) c (bt (pg4 82 0 ((0 : Nat) : Int) [])), H := H5 }, rfl, ⟨HSS.out.hd, owns_same hkm5 (HSS.out.st.block K (by omega) (fun q => by rcases q with q | q | q; exact hne.1 q.symm; exact hne.2.2.2.1 q; exact hne.2.2.2.2 q)), mpf_none, HSS.out.vm, mpf_none, fun i hi => absurd hi (by simp [zl]), HSS.out.sp, ?_, ⟨hne, nv, ⟨k1, k2, k3, k4, k5⟩, lo, fun b o e => by cases e⟩, ⟨Nat.zero_le _, Nat.zero_le _⟩⟩, new_inv _ hc2 h4 hn h1 h2 rfl rfl HSS.out.tk rfl rfl rfl rfl rfl rfl rfl, rfl, rfl, rfl, rfl, rfl, rfl, rfl⟩
  exact (HPS5.out.mono (M := N + 4 + (1 + m) + (1 + m)) (by omega)).stp HSS.out.st (fun b hb q => by rcases q with q | q | q; exact k1 (q ▸ hb); exact k3 (q ▸ hb); exact k4 (q ▸ hb)) (fun b q => by rcases q with q | q | q <;> omega)
end Go.Proofs.YtlfkkakohldgnaaGreatDoor.Sh

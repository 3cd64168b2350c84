/-
  THE ROOT THAT COUNTS: the walk of newest. Conditions: those that each lemma names.
  A SHADOW ON A DISK, OF WHICH IT KNOWS NOTHING YET: the walk of on. Conditions: those that each lemma names.
-/
import Derived.Test.YtokikeenfpligaaGreatDoorU34
namespace Go.Proofs.YtokikeenfpligaaGreatDoor.Sh
open Go.RowKit Go.Maps

/-- what a root's sector is: not good, or a root's page of an epoch and of tables -/
def Rt (ct : Nat → ByteArray) (r : Nat) : Option (Nat × List Nat) → Prop
  | none => goodT (ct r) = false
  | some (e, l) => ct r = bt (pg4 82 0 e l) ∧ l.length ≤ 122 ∧ (∀ x ∈ l, x ≤ 16384) ∧ e ≤ 9223372036854775807
/-- the one that counts among the first k -/
def best (st : Nat → Option (Nat × List Nat)) : Nat → Option (Nat × Nat × List Nat)
  | 0 => none
  | k + 1 => match st k, best st k with
    | none, b => b
    | some (e, l), none => some (k, e, l)
    | some (e, l), some (s, e', l') => if e' < e then some (k, e, l) else some (s, e', l')
theorem best_none {st : Nat → Option (Nat × List Nat)} {k : Nat} (h : st k = none) : best st (k + 1) = best st k := by simp only [best, h]
theorem best_first {st : Nat → Option (Nat × List Nat)} {k e : Nat} {l : List Nat} (h : st k = some (e, l)) (hb : best st k = none) : best st (k + 1) = some (k, e, l) := by simp only [best, h, hb]
theorem best_more {st : Nat → Option (Nat × List Nat)} {k e s e' : Nat} {l l' : List Nat} (h : st k = some (e, l)) (hb : best st k = some (s, e', l')) (he : e' < e) : best st (k + 1) = some (k, e, l) := by simp only [best, h, hb]; rw [if_pos he]
theorem best_stay {st : Nat → Option (Nat × List Nat)} {k e s e' : Nat} {l l' : List Nat} (h : st k = some (e, l)) (hb : best st k = some (s, e', l')) (he : ¬ e' < e) : best st (k + 1) = some (s, e', l') := by simp only [best, h, hb]; rw [if_neg he]
def bsec : Option (Nat × Nat × List Nat) → Nat
  | none => 0
  | some (s, _) => s
def bpg : Option (Nat × Nat × List Nat) → Sm.Pg
  | none => .mkPg 0 0 0 0 []
  | some (_, e, l) => pg4 82 0 e l
structure NewRel (W : World) (N : Nat) (w wr : World) (p D : Nat) (ct : Nat → ByteArray) (Q : Nat → Prop) (n m : Nat) (H : Nat → Prop) (b : Option (Nat × Nat × List Nat)) (ra : Option Addr) (cap : Nat) (H1 : Nat → Prop) (B C : Nat) : Prop where
  z : wr.heap[w.heap.size]? = some (.cells #[.int .u8 0, .int .u32 0, .int .u64 0, .int .i64 0, .slice none 0 0] 47 (0, 0))
  nz : ¬ H1 w.heap.size
  c : wr.heap[w.heap.size + 1]? = some (.cells #[.int .u8 (bpg b).kind, .int .u32 (bpg b).number, .int .u64 (bpg b).epoch, .int .i64 (bpg b).size, .slice ra (bpg b).recs.length cap] 47 (0, 0))
  nc : ¬ H1 (w.heap.size + 1)
  r : OwnIn B C wr (.slice ra (bpg b).recs.length cap) (bpg b).recs.length (bpg b).recs
  hB : w.heap.size + 1 < B
  hC : C ≤ wr.heap.size
  dj : ∀ k, H1 k → k < B ∨ C ≤ k
  ps : PS W N wr p D ct Q n m H1
  st : Stp w H wr H1
theorem NewRel.stp {W w wr w2 : World} {N M p D n m : Nat} {ct : Nat → ByteArray} {Q H H1 H2 : Nat → Prop} {b : Option (Nat × Nat × List Nat)} {ra : Option Addr} {cap B C : Nat} (h : NewRel W N w wr p D ct Q n m H b ra cap H1 B C) (hp : PS W M w2 p D ct Q n m H2) (s : Stp wr H1 w2 H2) : NewRel W M w w2 p D ct Q n m H b ra cap H2 B C := by
  have l1 := lt_of_block h.z
  have l2 := lt_of_block h.c
  have hC := h.hC
  have hB := h.hB
  refine ⟨(s.block _ l1 h.nz).trans h.z, fun q => ?_, (s.block _ l2 h.nc).trans h.c, fun q => ?_, h.r.step fun k k1 k2 => s.block k (by omega) (fun q => by have := h.dj k q; omega), hB, Nat.le_trans hC s.size, fun k q => ?_, hp, h.st.trans s⟩
  · rcases s.own _ q with e | e
    · exact h.nz e
    · omega
  · rcases s.own _ q with e | e
    · exact h.nc e
    · omega
  · rcases s.own _ q with e | e
    · exact h.dj k e
    · right; omega
/-- another one counts now -/
theorem NewRel.take {W w w4 : World} {N p D n m : Nat} {ct : Nat → ByteArray} {Q H H2 : Nat → Prop} {b b' : Option (Nat × Nat × List Nat)} {ra ra' : Option Addr} {cap cap' B C B' C' : Nat} (h : NewRel W N w w4 p D ct Q n m H b ra cap H2 B C) (hr : OwnIn B' C' w4 (.slice ra' (bpg b').recs.length cap') (bpg b').recs.length (bpg b').recs) (hB : w.heap.size + 1 < B') (hC : C' ≤ w4.heap.size) (hdj : ∀ k, H2 k → k < B' ∨ C' ≤ k) (hW : W.heap.size ≤ w.heap.size) :
    NewRel W N w (((((w4.setCell ⟨w.heap.size + 1, 0, none⟩ (.int .u8 (bpg b').kind)).setCell ⟨w.heap.size + 1, 1, none⟩ (.int .u32 (bpg b').number)).setCell ⟨w.heap.size + 1, 2, none⟩ (.int .u64 (bpg b').epoch)).setCell ⟨w.heap.size + 1, 3, none⟩ (.int .i64 (bpg b').size)).setCell ⟨w.heap.size + 1, 4, none⟩ (.slice ra' (bpg b').recs.length cap')) p D ct Q n m H b' ra' cap' H2 B' C' := by
  have hn := h.nc
  have hg : W.heap.size ≤ w.heap.size + 1 := by omega
  have hs : w.heap.size ≤ w.heap.size + 1 := by omega
  exact ⟨(Sm.heap_set5 _ _ _ _ _ _ _ _ (by omega)).trans h.z, h.nz, Sm.row_set5 h.c _ _ _ _ _, hn, hr.step fun k k1 _ => Sm.heap_set5 _ _ _ _ _ _ _ _ (by omega), hB, by simpa using hC, hdj, ((((h.ps.other hn hg 0 _).other hn hg 1 _).other hn hg 2 _).other hn hg 3 _).other hn hg 4 _, ((((h.st.set hs 0 _).set hs 1 _).set hs 2 _).set hs 3 _).set hs 4 _⟩
def Newest (W : World) (N : Nat) (w : World) (p D : Nat) (ct : Nat → ByteArray) (Q : Nat → Prop) (n m : Nat) (H : Nat → Prop) (b : Option (Nat × Nat × List Nat)) (e : Ending) (w' : World) : Prop :=
  ∃ ra cap H1 B C, e = .returned (.tuple #[pv (bpg b).kind (bpg b).number (bpg b).epoch (bpg b).size ra (bpg b).recs.length cap, .int .i64 (bsec b : Int), .bool b.isSome]) ∧ OwnIn B C w' (.slice ra (bpg b).recs.length cap) (bpg b).recs.length (bpg b).recs ∧ w.heap.size < B ∧ C ≤ w'.heap.size ∧ (∀ k, H1 k → k < B ∨ C ≤ k) ∧ PS W N w' p D ct Q n m H1 ∧ Stp w H w' H1
theorem results_row_tmp2 {P : Program} {fn : Func} {p q r : Tmp} {ty : TypeId} (h : fn.results = #[.cell p ty, .tmp q, .tmp r]) (tmps : Array Value) (w : World) (g : Nat) (t : TypeId) (cs : Array Value) (fr : Nat × Nat) (d : TypeDesc) (v u : Value) (hp : tmps.getD p undef = .pointer (some ⟨g, 0, none⟩)) (hq : tmps.getD q undef = v) (hr : tmps.getD r undef = u) (hg : w.heap[g]? = some (.cells cs t fr)) (hu : P.underlying ty = some d) (hd : (match d with | .struct _ | .array _ _ => true | _ => false) = true) (hi : (P.info? ty).map (·.size) = some cs.size) : (results fn tmps).run P w = .ok (.tuple #[.agg cs, v, u]) w := by
  have hp' : tmps[p]?.getD undef = .pointer (some ⟨g, 0, none⟩) := by simpa using hp
  have hq' : tmps[q]?.getD undef = v := by simpa using hq
  have hr' : tmps[r]?.getD undef = u := by simpa using hr
  simp [results, h, hp', hq', hr', asAddr, run_loadVar_row w g t ty cs fr d hg hu hd hi]
theorem post_row_tmp2 {P : Program} {fn : Func} {R : Ending → World → Prop} {a : Act} {w : World} {p q r : Tmp} {ty : TypeId} (h : fn.results = #[.cell p ty, .tmp q, .tmp r]) (g : Nat) (t : TypeId) (cs : Array Value) (fr : Nat × Nat) (d : TypeDesc) (v u : Value) (hu : P.underlying ty = some d) (hd : (match d with | .struct _ | .array _ _ => true | _ => false) = true) (hi : (P.info? ty).map (·.size) = some cs.size) (hp : a.tmps.getD p undef = .pointer (some ⟨g, 0, none⟩)) (hq : a.tmps.getD q undef = v) (hr : a.tmps.getD r undef = u) (hg : w.heap[g]? = some (.cells cs t fr)) (hdf : a.defers = []) (hR : R (.returned (.tuple #[.agg cs, v, u])) w) : bodyPost P fn R .ret a w :=
  bodyPost_ret (results_row_tmp2 h a.tmps w g t cs fr d v u hp hq hr hg hu hd hi) hdf hR
set_option maxRecDepth 100000 in
set_option maxHeartbeats 1000000 in
theorem newest_any {W w : World} {N p D n m : Nat} {ct : Nat → ByteArray} {Q H : Nat → Prop} (P : Nat) (h : PS W N w p D ct Q n m H) (c0 : w.cell? ⟨P, 0, none⟩ = some (.pointer (some ⟨p, 0, none⟩))) (hPH : ¬ H P) (h2 : 2 ≤ n) (st : Nat → Option (Nat × List Nat)) (hst : ∀ r, r < 2 → Rt ct r (st r)) (hN : N + 6 < 2305843009213693952) :
    Calls Tryz.prog 35 #[.pointer (some ⟨P, 0, none⟩)] w (Newest W (N + 4) w p D ct Q n m H (best st 2)) := by
  have HS := Lib.hid h
  have hlt := World.block_lt_of_cell? w _ c0
  have HLT := Lib.hid hlt
  have HC0 := Lib.hid c0
  have HPH := Lib.hid hPH
  have HST := Lib.hid hst
  have HW := Lib.hid h.b.size
  have HHL := Lib.hid (fun b (hb : H b) => (h.lt b hb).2)
  clear h hPH hst hlt
  go_enter Tryz.func35, Tryz.ntmps35
  go_wp2
  have H0 : Hid (NewRel W (N + 2 * 0) w ((w.alloc (.cells #[.int .u8 0, .int .u32 0, .int .u64 0, .int .i64 0, .slice none 0 0] 47)).alloc (.cells #[.int .u8 0, .int .u32 0, .int .u64 0, .int .i64 0, .slice none 0 0] 47)) p D ct Q n m H (best st 0) none 0 H (w.heap.size + 2) (w.heap.size + 2)) := by
    have eN : w.heap.size + 1 = (w.alloc (.cells #[.int .u8 0, .int .u32 0, .int .u64 0, .int .i64 0, .slice none 0 0] 47)).heap.size := by simp
    have hT := heap_alloc_new w (.cells #[.int .u8 0, .int .u32 0, .int .u64 0, .int .i64 0, .slice none 0 0] 47)
    have hG := heap_alloc_new (w.alloc (.cells #[.int .u8 0, .int .u32 0, .int .u64 0, .int .i64 0, .slice none 0 0] 47)) (.cells #[.int .u8 0, .int .u32 0, .int .u64 0, .int .i64 0, .slice none 0 0] 47)
    rw [← eN] at hG
    have hb : Below w.heap.size w ((w.alloc (.cells #[.int .u8 0, .int .u32 0, .int .u64 0, .int .i64 0, .slice none 0 0] 47)).alloc (.cells #[.int .u8 0, .int .u32 0, .int .u64 0, .int .i64 0, .slice none 0 0] 47)) := ((Below.refl _ _).alloc (Nat.le_refl _) _).alloc (by simp) _
    exact Lib.hid ⟨(Go.heap_alloc_old _ _ (lt_of_block hT)).trans hT, fun q => by have := HHL.out _ q; omega, hG, fun q => by have := HHL.out _ q; omega, fun u _ => ⟨rfl, fun r hr => absurd hr (by simp [best, bpg]), [], rfl, World.ownsRow_nil _ _ _ _, fun i hi => absurd hi (by simp)⟩, by omega, by simp, fun k q => by have := HHL.out k q; omega, HS.out.below hb, .of_below hb⟩
  generalize (w.alloc (.cells #[.int .u8 0, .int .u32 0, .int .u64 0, .int .i64 0, .slice none 0 0] 47)).alloc (.cells #[.int .u8 0, .int .u32 0, .int .u64 0, .int .i64 0, .slice none 0 0] 47) = w1 at H0 ⊢
  clear c0
  go_loopw [11, 6, 7, 8, 9, 10] (fun i s f _ _ _ wr => ∃ (k : Nat) (ra : Option Addr) (cap : Nat) (H1 : Nat → Prop) (B C : Nat), k ≤ 2 ∧ i = .int .i64 k ∧ s = .int .i64 (bsec (best st k) : Int) ∧ f = .bool (best st k).isSome ∧ Hid (NewRel W (N + 2 * k) w wr p D ct Q n m H (best st k) ra cap H1 B C)) (fun i _ _ _ _ _ _ => 2 - (intOf i).toNat)
  case atStart => exact ⟨0, none, 0, _, _, _, by omega, rfl, rfl, rfl, H0⟩
  case round =>
    obtain ⟨k, ra, cap, H1, B, C, hk, rfl, rfl, rfl, HR⟩ := hrel
    have c0 : wr.cell? ⟨P, 0, none⟩ = some (.pointer (some ⟨p, 0, none⟩)) := HR.out.st.cell HC0.out HPH.out
    by_cases hlt2 : k < 2
    · have hs := HST.out k hlt2
      have k2 : (k : Int) < 2 := by omega
      cases hsk : st k with
      | none =>
        rw [hsk] at hs
        have HBK := Lib.hid (best_none hsk)
        have HBAD := Lib.hid (show goodT (ct k) = false from hs)
        clear hs hsk
        go_wp2_with (go_at_call 44; refine (look_bad P HR.out.ps c0 k (by omega) HBAD.out (by omega)).mono ?_; rintro e w2 ⟨rfl, hpg⟩; have HPG := Lib.hid hpg; clear hpg; unfold zpv)
        obtain ⟨H2, hp2, hs2⟩ := HPG.out
        have HN := Lib.hid (HR.out.stp (hp2.below (Sm.alX w2 (.cells #[.int .u8 0, .int .u32 0, .int .u64 0, .int .i64 0, .slice none 0 0] 47))) (hs2.trans (.of_below (H := H2) (Sm.alX _ _))))
        exact ⟨⟨k + 1, ra, cap, H2, B, C, by omega, by go_num, by rw [HBK.out], by rw [HBK.out], by rw [HBK.out]; exact HN⟩, by simp [intOf]; omega⟩
      | some el =>
        obtain ⟨ep, l⟩ := el
        rw [hsk] at hs
        obtain ⟨h1, h3, h4, h5⟩ := hs
        have HOK := Lib.hid (pg4_ok 82 0 ep l (by omega) (by decide) (by decide) (by decide) (by decide) (by omega) (by omega))
        have HCT := Lib.hid h1
        cases hbk : best st k with
        | none =>
          have HBK := Lib.hid (best_first hsk hbk)
          rw [hbk] at HR
          clear h1 hsk h4 hbk
          go_wp2_with (first | (go_at_call 44; refine (look_page P HR.out.ps c0 k (by omega) (pg4 82 0 ep l) HOK.out HCT.out (by omega)).mono ?_; rintro e w2 ⟨ra', cap', H2, rfl, hp2, hs2, B', hB1, hB2, hB3, hr⟩; have HP2 := Lib.hid hp2; have HS2 := Lib.hid hs2; have HB' := Lib.hid (And.intro hB1 (And.intro hB2 hB3)); have HRR := Lib.hid hr; clear hp2 hs2 hB1 hB2 hB3 hr; unfold pv) | (go_at_call 74; refine (isList_any _ _ _ _ _ _ _ _ _).mono ?_; rintro e w3 ⟨he, hb⟩; obtain rfl : e = .returned (.bool true) := he; have hbb := (Sm.alX w2 _).trans (hb.mono (by simp)); have HN3 := Lib.hid (HR.out.stp (HP2.out.below hbb) (HS2.out.trans (.of_below (H := H2) hbb))); have HZ3 := Lib.hid ((hb.block w2.heap.size (by simp)).trans (heap_alloc_new w2 _)); have HRR3 := Lib.hid (HRR.out.step (fun k _ k2 => hbb.block k k2)); have HSZ := Lib.hid hbb.size; clear hb hbb; obtain ⟨⟨z0, z1, z2, z3, z4⟩, t0, t1, t2, t3, t4⟩ := Sm.row_cells HZ3.out; obtain ⟨⟨x0, x1, x2, x3, x4⟩, y0, y1, y2, y3, y4⟩ := Sm.row_cells HN3.out.c))
          have HNN := Lib.hid (NewRel.take (b' := some (k, ep, l)) HN3.out HRR3.out (by have := HB'.out.1; have := lt_of_block HR.out.c; omega) HSZ.out (fun j hj => .inl (HB'.out.2.2 j hj)) HW.out)
          exact ⟨⟨k + 1, ra', cap', H2, B', _, by omega, by go_num, by rw [HBK.out]; rfl, by rw [HBK.out]; rfl, by rw [HBK.out]; exact HNN⟩, by simp [intOf]; omega⟩
        | some sel =>
          obtain ⟨s, e', l'⟩ := sel
          by_cases hee : e' < ep
          · have HBK := Lib.hid (best_more hsk hbk hee)
            rw [hbk] at HR
            have hei : ((bpg (some (s, e', l'))).epoch < (pg4 82 0 (ep : Int) l).epoch) := by show (e' : Int) < (ep : Int); omega
            clear h1 hsk h4 hbk hee
            go_wp2_with (first | (go_at_call 44; refine (look_page P HR.out.ps c0 k (by omega) (pg4 82 0 ep l) HOK.out HCT.out (by omega)).mono ?_; rintro e w2 ⟨ra', cap', H2, rfl, hp2, hs2, B', hB1, hB2, hB3, hr⟩; have HP2 := Lib.hid hp2; have HS2 := Lib.hid hs2; have HB' := Lib.hid (And.intro hB1 (And.intro hB2 hB3)); have HRR := Lib.hid hr; clear hp2 hs2 hB1 hB2 hB3 hr; unfold pv) | (go_at_call 74; refine (isList_any _ _ _ _ _ _ _ _ _).mono ?_; rintro e w3 ⟨he, hb⟩; obtain rfl : e = .returned (.bool true) := he; have hbb := (Sm.alX w2 _).trans (hb.mono (by simp)); have HN3 := Lib.hid (HR.out.stp (HP2.out.below hbb) (HS2.out.trans (.of_below (H := H2) hbb))); have HZ3 := Lib.hid ((hb.block w2.heap.size (by simp)).trans (heap_alloc_new w2 _)); have HRR3 := Lib.hid (HRR.out.step (fun k _ k2 => hbb.block k k2)); have HSZ := Lib.hid hbb.size; clear hb hbb; obtain ⟨⟨z0, z1, z2, z3, z4⟩, t0, t1, t2, t3, t4⟩ := Sm.row_cells HZ3.out; obtain ⟨⟨x0, x1, x2, x3, x4⟩, y0, y1, y2, y3, y4⟩ := Sm.row_cells HN3.out.c))
            have HNN := Lib.hid (NewRel.take (b' := some (k, ep, l)) HN3.out HRR3.out (by have := HB'.out.1; have := lt_of_block HR.out.c; omega) HSZ.out (fun j hj => .inl (HB'.out.2.2 j hj)) HW.out)
            exact ⟨⟨k + 1, ra', cap', H2, B', _, by omega, by go_num, by rw [HBK.out]; rfl, by rw [HBK.out]; rfl, by rw [HBK.out]; exact HNN⟩, by simp [intOf]; omega⟩
          · have HBK := Lib.hid (best_stay hsk hbk hee)
            rw [hbk] at HR
            have hei : ¬ ((bpg (some (s, e', l'))).epoch < (pg4 82 0 (ep : Int) l).epoch) := by show ¬ (e' : Int) < (ep : Int); omega
            clear h1 hsk h4 hbk hee
            go_wp2_with (first | (go_at_call 44; refine (look_page P HR.out.ps c0 k (by omega) (pg4 82 0 ep l) HOK.out HCT.out (by omega)).mono ?_; rintro e w2 ⟨ra', cap', H2, rfl, hp2, hs2, B', hB1, hB2, hB3, hr⟩; have HP2 := Lib.hid hp2; have HS2 := Lib.hid hs2; have HB' := Lib.hid (And.intro hB1 (And.intro hB2 hB3)); have HRR := Lib.hid hr; clear hp2 hs2 hB1 hB2 hB3 hr; unfold pv) | (go_at_call 74; refine (isList_any _ _ _ _ _ _ _ _ _).mono ?_; rintro e w3 ⟨he, hb⟩; obtain rfl : e = .returned (.bool true) := he; have hbb := (Sm.alX w2 _).trans (hb.mono (by simp)); have HN3 := Lib.hid (HR.out.stp (HP2.out.below hbb) (HS2.out.trans (.of_below (H := H2) hbb))); have HZ3 := Lib.hid ((hb.block w2.heap.size (by simp)).trans (heap_alloc_new w2 _)); have HRR3 := Lib.hid (HRR.out.step (fun k _ k2 => hbb.block k k2)); have HSZ := Lib.hid hbb.size; clear hb hbb; obtain ⟨⟨z0, z1, z2, z3, z4⟩, t0, t1, t2, t3, t4⟩ := Sm.row_cells HZ3.out; obtain ⟨⟨x0, x1, x2, x3, x4⟩, y0, y1, y2, y3, y4⟩ := Sm.row_cells HN3.out.c))
            exact ⟨⟨k + 1, ra, cap, H2, B, C, by omega, by go_num, by rw [HBK.out], by rw [HBK.out]; rfl, by rw [HBK.out]; exact HN3⟩, by simp [intOf]; omega⟩
    · obtain rfl : k = 2 := by omega
      obtain ⟨⟨z0, z1, z2, z3, z4⟩, t0, t1, t2, t3, t4⟩ := Sm.row_cells HR.out.z
      obtain ⟨⟨x0, x1, x2, x3, x4⟩, y0, y1, y2, y3, y4⟩ := Sm.row_cells HR.out.c
      have HZ := Lib.hid HR.out.z
      go_wp2
      refine post_row_tmp2 Tryz.results35 w.heap.size 47 #[.int .u8 (bpg (best st 2)).kind, .int .u32 (bpg (best st 2)).number, .int .u64 (bpg (best st 2)).epoch, .int .i64 (bpg (best st 2)).size, .slice ra (bpg (best st 2)).recs.length cap] (0, 0) _ (.int .i64 (bsec (best st 2) : Int)) (.bool (best st 2).isSome) Tryz.underlying47 rfl Sm.info_pg ?_ ?_ ?_ (Sm.row_set5 HZ.out _ _ _ _ _) ?_ ?_
      · rfl
      · rfl
      · rfl
      · rfl
      have hn := HR.out.nz
      have hB := HR.out.hB
      exact ⟨ra, cap, H1, B, C, rfl, HR.out.r.step fun j j1 _ => Sm.heap_set5 _ _ _ _ _ _ _ _ (by omega), by omega, by simpa using HR.out.hC, HR.out.dj, ((((HR.out.ps.other hn HW.out 0 _).other hn HW.out 1 _).other hn HW.out 2 _).other hn HW.out 3 _).other hn HW.out 4 _, ((((HR.out.st.set (Nat.le_refl _) 0 _).set (Nat.le_refl _) 1 _).set (Nat.le_refl _) 2 _).set (Nat.le_refl _) 3 _).set (Nat.le_refl _) 4 _⟩
end Go.Proofs.YtokikeenfpligaaGreatDoor.Sh
namespace Go.Proofs.YtokikeenfpligaaGreatDoor.Sh
open Go.RowKit Go.Maps

/-- the shadow's struct -/
structure Hd8 (w : World) (P p K G : Nat) (vo : Option Nat) (tv : Value) (root ep : Int) (fl : Bool) : Prop where
  c0 : w.cell? ⟨P, 0, none⟩ = some (.pointer (some ⟨p, 0, none⟩))
  c1 : w.cell? ⟨P, 1, none⟩ = some (.map (some K))
  c2 : w.cell? ⟨P, 2, none⟩ = some (.map vo)
  c3 : w.cell? ⟨P, 3, none⟩ = some tv
  c4 : w.cell? ⟨P, 4, none⟩ = some (.int .i64 root)
  c5 : w.cell? ⟨P, 5, none⟩ = some (.int .i64 ep)
  c6 : w.cell? ⟨P, 6, none⟩ = some (.pointer (some ⟨G, 0, none⟩))
  c7 : w.cell? ⟨P, 7, none⟩ = some (.bool fl)
  fz : ∀ i, w.frozen? ⟨P, i, none⟩ = false
theorem Hd8.same {w w' : World} {P p K G : Nat} {vo : Option Nat} {tv : Value} {root ep : Int} {fl : Bool} (h : Hd8 w P p K G vo tv root ep fl) (hb : w'.heap[P]? = w.heap[P]?) : Hd8 w' P p K G vo tv root ep fl := by
  have hc : ∀ o, w'.cell? ⟨P, o, none⟩ = w.cell? ⟨P, o, none⟩ := fun o => World.cell?_of_block hb
  exact ⟨(hc _).trans h.c0, (hc _).trans h.c1, (hc _).trans h.c2, (hc _).trans h.c3, (hc _).trans h.c4, (hc _).trans h.c5, (hc _).trans h.c6, (hc _).trans h.c7, fun i => (World.frozen?_of_block hb).trans (h.fz i)⟩
/-- a disk as what its sectors are -/
def DkS (W w : World) (D n : Nat) (ct : Nat → ByteArray) (N : Nat) (H : Nat → Prop) : Prop := ∃ d, DkN W w D d H ∧ d.n = n ∧ d.left = -1 ∧ 0 ≤ d.writes ∧ d.writes ≤ N ∧ ∀ q, q < n → d.cur q = ct q
theorem DkS.below {W w w' : World} {D n N : Nat} {ct : Nat → ByteArray} {H : Nat → Prop} (h : DkS W w D n ct N H) (hb : Below w.heap.size w w') : DkS W w' D n ct N H := by
  obtain ⟨d, h1, h2⟩ := h
  exact ⟨d, h1.below hb, h2⟩
theorem PS.disk {W w : World} {N p D n m : Nat} {ct : Nat → ByteArray} {H : Nat → Prop} (h : PS W N w p D ct (fun _ => True) n m H) : ∃ H', DkS W w D n ct N H' ∧ ∀ b, H' b → H b := by
  obtain ⟨X, h1, h2, h3, h4, h5, h6⟩ := h
  have ok := h1.ok
  obtain ⟨μ, k1, rfl, rfl, rfl, rfl, k6⟩ := h1
  exact ⟨μ.s.has, ⟨μ.X.d, ⟨μ.s, k1.core.d, k1.core.t, rfl, rfl, k6⟩, h4, h2.left, ok.w0, ok.wN, fun q hq => h6 q (by omega) trivial⟩, fun b hb => .inl (.inr (.inr (.inr hb)))⟩
def NewPS (W : World) (N : Nat) (w : World) (D : Nat) (ct : Nat → ByteArray) (n m : Nat) (H : Nat → Prop) (e : Ending) (w' : World) : Prop :=
  ∃ p H', e = .returned (.tuple #[.pointer (some ⟨p, 0, none⟩), .nilIface]) ∧ PS W N w' p D ct (fun _ => True) n m H' ∧ Below w.heap.size w w' ∧ ∀ k, H' k → H k ∨ w.heap.size ≤ k
theorem ps_new {W w : World} {D n N : Nat} {ct : Nat → ByteArray} {H : Nat → Prop} (m : Nat) (h : DkS W w D n ct N H) (h1 : 1 ≤ m) (h2 : m ≤ 1024) :
    Calls Tryz.prog 72 #[.pointer (some ⟨D, 0, none⟩), .int .i64 (m : Int)] w (NewPS W N w D ct n m H) := by
  obtain ⟨d, ⟨s, hd, ht, rfl, rfl, hB⟩, hn, hl, w0, wN, hc⟩ := h
  refine (newp_any (N := N) s d m w hd ht h1 h2 w0 wN).mono fun _ _ ⟨μ, he, hp, hs, hX, hb, hown⟩ => ⟨μ.P, μ.all, he, ⟨Px.fresh d m, ⟨μ, hp, rfl, by rw [hs], hX, rfl, hB.trans (hb.mono hB.size)⟩, ?_, Free.fresh _ _, hn, rfl, fun q hq _ => hc q (by show q < n; rw [← hn]; exact hq)⟩, hb, hown⟩
  exact ⟨fun _ hk => absurd hk (Nat.not_lt_zero _), fun _ hk => absurd hk (Nat.not_lt_zero _), fun _ hk => absurd hk (Nat.not_lt_zero _), fun _ hk => absurd hk (Nat.not_lt_zero _), fun q hq _ => hc q (by rw [← hn]; exact hq), hl⟩
structure OnAt (W : World) (N : Nat) (w w' : World) (D : Nat) (ct : Nat → ByteArray) (n m : Nat) (Hd : Nat → Prop) (P p K G T : Nat) (H : Nat → Prop) : Prop where
  hd : Hd8 w' P p K G none (.slice none 0 0) 0 0 false
  km : Owns w' K 0 (.map [])
  sp : SpAt w' G T (Spc.clear n)
  ps : PS W N w' p D ct (fun _ => True) n m H
  b : Below w.heap.size w w'
  own : ∀ k, H k → Hd k ∨ w.heap.size ≤ k
  lo : w.heap.size ≤ P ∧ w.heap.size ≤ K ∧ w.heap.size ≤ G ∧ w.heap.size ≤ T
  ne : P ≠ K ∧ P ≠ G ∧ P ≠ T ∧ K ≠ G ∧ K ≠ T
  nh : ¬ H P ∧ ¬ H K ∧ ¬ H G ∧ ¬ H T
def On (W : World) (N : Nat) (w : World) (D : Nat) (ct : Nat → ByteArray) (n m : Nat) (Hd : Nat → Prop) (e : Ending) (w' : World) : Prop :=
  ∃ P p K G T H, e = .returned (.tuple #[.pointer (some ⟨P, 0, none⟩), .nilIface]) ∧ OnAt W N w w' D ct n m Hd P p K G T H
theorem dks_size {W w : World} {D n N : Nat} {ct : Nat → ByteArray} {H : Nat → Prop} (h : DkS W w D n ct N H) : Calls Tryz.prog 71 #[.pointer (some ⟨D, 0, none⟩)] w fun e w' => e = .returned (.int .i64 (n : Int)) ∧ w = w' := by
  obtain ⟨d, ⟨s, hd, ht, rfl, rfl, hB⟩, hn, _⟩ := h
  have := size_any s w hd
  rw [← ht.n, hn] at this
  exact this
set_option maxRecDepth 100000 in
set_option maxHeartbeats 1000000 in
theorem on_any {W w : World} {D n N : Nat} {ct : Nat → ByteArray} {Hd : Nat → Prop} (m : Nat) (h : DkS W w D n ct N Hd) (hHd : ∀ k, Hd k → k < w.heap.size) (h4 : 4 ≤ n) (hn : n ≤ 16384) (h1 : 1 ≤ m) (h2 : m ≤ 1024) :
    Calls Tryz.prog 34 #[.pointer (some ⟨D, 0, none⟩), .int .i64 (m : Int)] w (On W N w D ct n m Hd) := by
  have hmm := @run_makeMap Tryz.prog
  have HD := Lib.hid h
  have HHD := Lib.hid hHd
  have n4 : ¬ (n : Int) < 4 := by omega
  clear h hHd
  go_enter Tryz.func34, Tryz.ntmps34
  go_wp2_with (first | (go_at_call 71; refine (dks_size (by first | exact HD.out | exact HD2.out)).mono ?_; rintro e w' ⟨rfl, rfl⟩) | (go_at_call 72; refine (ps_new m HD.out h1 h2).mono ?_; rintro e w1 ⟨p, H, rfl, hps, hb, hown⟩; have HPS := Lib.hid hps; have HB := Lib.hid hb; have HOW := Lib.hid hown; have HD2 := Lib.hid ((HD.out.below hb).below (Sm.alX w1 (.map #[] 0))); clear hps hb hown) | (go_at_call 73; refine (spaceOf_any n _ hn (by omega)).mono ?_; rintro e w2 ⟨G, T, rfl, hsp, hG, hT, hb2⟩; have HSP := Lib.hid hsp; have HG := Lib.hid hG; have HT := Lib.hid hT; have HB2 := Lib.hid hb2; clear hsp hG hT hb2))
  go_ret2
  have hb1 : Below w1.heap.size w1 w2 := (Sm.alX w1 _).trans (HB2.out.mono (by simp))
  have hb3 : Below w1.heap.size w1 (w2.alloc (Obj.cells #[.pointer (some ⟨p, 0, none⟩), .map (some w1.heap.size), .map none, .slice none 0 0, .int .i64 0, .int .i64 0, .pointer (some ⟨G, 0, none⟩), .bool false] 103)) := hb1.trans ((Sm.alX w2 _).mono hb1.size)
  have hN := heap_alloc_new w2 (Obj.cells #[.pointer (some ⟨p, 0, none⟩), .map (some w1.heap.size), .map none, .slice none 0 0, .int .i64 0, .int .i64 0, .pointer (some ⟨G, 0, none⟩), .bool false] 103)
  have hcc := fun j => cell_of_row _ _ j _ _ _ hN
  have hG := HG.out
  have hT := HT.out
  have hlG := HSP.out.ltG
  have hlT := HSP.out.ltT
  have hs0 := HB.out.size
  have hs1 := HB2.out.size
  rw [World.size_alloc] at hG hT hs1
  have hHl := fun k (hk : H k) => (HPS.out.lt k hk).2
  refine ⟨w2.heap.size, p, w1.heap.size, G, T, H, rfl, ⟨⟨hcc 0, hcc 1, hcc 2, hcc 3, hcc 4, hcc 5, hcc 6, hcc 7, fun i => frozen_of_row _ _ i _ _ hN⟩, ?_, HSP.out.below (Sm.alX w2 _), HPS.out.below hb3, HB.out.trans (hb3.mono hs0), HOW.out, by omega, by omega, ⟨fun q => ?_, fun q => ?_, fun q => ?_, fun q => ?_⟩⟩⟩
  · have hm := World.ownsMap_made (H := Unit) w1 Tryz.prog 3 (plainElem Tryz.prog 3)
    exact owns_same hm ((Go.heap_alloc_old _ _ (by omega)).trans (HB2.out.block _ (by simp)))
  · have := hHl _ q; omega
  · have := hHl _ q; omega
  · have := hHl _ q; omega
  · have := hHl _ q; omega
end Go.Proofs.YtokikeenfpligaaGreatDoor.Sh

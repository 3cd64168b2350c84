/-
  WHAT IS KEPT IS NOW: the walk of settle. Conditions: those that each lemma names.
  A SHADOW IN MEMORY, and as plain data. Conditions: those that each lemma names.
-/
import Derived.Test.YtokikeenfpligaaGreatDoorU35
namespace Go.Proofs.YtokikeenfpligaaGreatDoor.Sh
open Go.RowKit Go.Maps

/-- sectors that hold something: tables and pages, each its own, none a root -/
structure Secs (n : Nat) (tb : List Nat) (f : Nat → Nat) : Prop where
  nd : tb.Nodup
  tl : ∀ x ∈ tb, 2 ≤ x ∧ x < n
  fl : ∀ k, f k ≠ 0 → 2 ≤ f k ∧ f k < n
  inj : ∀ j k, f j ≠ 0 → f j = f k → j = k
  dj : ∀ k, f k ≠ 0 → f k ∉ tb
def TkN (n : Nat) (tb : List Nat) (f : Nat → Nat) (left : Lit → Bool) (S : Spc) : Prop := S.n = n ∧ ∀ i, S.t i = true ↔ i < 2 ∨ i ∈ tb ∨ ∃ k, f k = i ∧ f k ≠ 0 ∧ left (lk k) = false
def Tk (n : Nat) (tb : List Nat) (f : Nat → Nat) (S : Spc) : Prop := S.n = n ∧ ∀ i, S.t i = true ↔ i < 2 ∨ i ∈ tb ∨ ∃ k, f k = i ∧ f k ≠ 0
theorem not_true {b : Bool} (h : ¬ b = true) : b = false := by cases b; rfl; exact absurd rfl h
theorem clear_tk (n : Nat) (l : List Nat) : TkN n (l.take 0) (fun _ => 0) (fun _ => true) (Spc.clear n) := ⟨rfl, fun i => by
  show decide (i < 2) = true ↔ _
  simp⟩
theorem claim_tk {n : Nat} {tb : List Nat} {S : Spc} {k : Nat} (h : TkN n (tb.take k) (fun _ => 0) (fun _ => true) S) (hk : k < tb.length) (hs : tb.Nodup) (hl : ∀ x ∈ tb, 2 ≤ x ∧ x < n) : tb[k] < S.n ∧ S.t tb[k] = false ∧ TkN n (tb.take (k + 1)) (fun _ => 0) (fun _ => true) (S.claim tb[k]).1 := by
  obtain ⟨h1, h2⟩ := h
  have hb := hl tb[k] (List.getElem_mem hk)
  have ht : S.t tb[k] = false := by
    refine not_true fun e => ?_
    rcases (h2 _).1 e with q | q | ⟨j, _, q, _⟩
    · omega
    · rw [List.mem_take_iff_getElem] at q
      obtain ⟨j, hj, e⟩ := q
      have := (List.getElem_inj hs).1 e
      omega
    · exact q rfl
  obtain ⟨_, c1, _, c3⟩ := claim_t (S := S) (s := tb[k]) (by omega) ht
  refine ⟨by omega, ht, c3.trans h1, fun i => ?_⟩
  have hm : i ∈ tb.take (k + 1) ↔ i ∈ tb.take k ∨ i = tb[k] := by
    rw [List.take_succ_eq_append_getElem hk, List.mem_append, List.mem_singleton]
  rw [c1, hm]
  unfold updB
  by_cases e : i = tb[k]
  · rw [if_pos e]
    exact ⟨fun _ => .inr (.inl (.inr e)), fun _ => rfl⟩
  · rw [if_neg e, h2 i]
    constructor
    · rintro (q | q | q)
      · exact .inl q
      · exact .inr (.inl (.inl q))
      · exact .inr (.inr q)
    · rintro (q | (q | q) | q)
      · exact .inl q
      · exact .inr (.inl q)
      · exact absurd q e
      · exact .inr (.inr q)
theorem claim_tkm {n : Nat} {tb : List Nat} {f : Nat → Nat} {left : Lit → Bool} {S : Spc} {k : Nat} (h : TkN n tb f left S) (hs : Secs n tb f) (hk : f k ≠ 0) (hlk : left (lk k) = true) : f k < S.n ∧ S.t (f k) = false ∧ TkN n tb f (fun z => left z && !z.sameKey (lk k)) (S.claim (f k)).1 := by
  obtain ⟨h1, h2⟩ := h
  have hb := hs.fl k hk
  have ht : S.t (f k) = false := by
    refine not_true fun e => ?_
    rcases (h2 _).1 e with q | q | ⟨j, q, q2, q3⟩
    · omega
    · exact hs.dj k hk q
    · have := hs.inj k j hk q.symm
      subst this
      rw [hlk] at q3; cases q3
  obtain ⟨_, c1, _, c3⟩ := claim_t (S := S) (s := f k) (by omega) ht
  refine ⟨by omega, ht, c3.trans h1, fun i => ?_⟩
  rw [c1]
  unfold updB
  by_cases e : i = f k
  · rw [if_pos e]
    refine ⟨fun _ => .inr (.inr ⟨k, e.symm, hk, by simp [same_lk]⟩), fun _ => rfl⟩
  · rw [if_neg e, h2 i]
    constructor
    · rintro (q | q | ⟨j, q1, q2, q3⟩)
      · exact .inl q
      · exact .inr (.inl q)
      · exact .inr (.inr ⟨j, q1, q2, by simp [q3]⟩)
    · rintro (q | q | ⟨j, q1, q2, q3⟩)
      · exact .inl q
      · exact .inr (.inl q)
      · refine .inr (.inr ⟨j, q1, q2, ?_⟩)
        simp only [same_lk, Bool.and_eq_false_iff] at q3
        rcases q3 with q3 | q3
        · exact q3
        · have : j = k := by simpa using q3
          subst this
          exact absurd q1.symm e
theorem ranges_same {w w' : World} {b r n : Nat} {D : DataW Unit} {left : Lit → Bool} {cnt : Nat} (h : w.ranges Tryz.prog 3 (plainElem Tryz.prog 3) b r n D left cnt) (hb : w'.heap[b]? = w.heap[b]?) (hr : w'.heap[r]? = w.heap[r]?) : w'.ranges Tryz.prog 3 (plainElem Tryz.prog 3) b r n D left cnt := by
  obtain ⟨es, clock, since, seen, c0, q1, F, hs, hD, q2, rest⟩ := h
  exact ⟨es, clock, since, seen, c0, hb.trans q1, F, hs, hD, hr.trans q2, rest⟩
def stH (P G T b : Nat) : Prop := b = P ∨ b = G ∨ b = T
theorem Stp.mono3 {w w' : World} {P G T : Nat} (h : Wrt (spH G T) w w') : Stp w (stH P G T) w' (stH P G T) :=
  ⟨h.os, h.tape, h.output, Nat.le_of_eq h.size.symm, fun k _ hk => h.block k (fun q => hk (by rcases q with q | q; exact .inr (.inl q); exact .inr (.inr q))), fun _ q => .inl q⟩
structure Settled (w w' : World) (P p K G T n nK : Nat) (DK : DataW Unit) (tv : Value) (root ep : Int) (fl : Bool) (tb : List Nat) (f : Nat → Nat) (S : Spc) : Prop where
  hd : Hd8 w' P p K G (some w.heap.size) tv root ep fl
  vm : Owns w' w.heap.size nK DK
  sp : SpAt w' G T S
  tk : Tk n tb f S
  st : Stp w (stH P G T) w' (stH P G T)
def SettledE (w : World) (P p K G T n nK : Nat) (DK : DataW Unit) (tv : Value) (root ep : Int) (fl : Bool) (tb : List Nat) (f : Nat → Nat) (e : Ending) (w' : World) : Prop := e = .returned (.bool true) ∧ ∃ S, Settled w w' P p K G T n nK DK tv root ep fl tb f S
structure SetRel (w wr : World) (P p K G T V nK : Nat) (DK : DataW Unit) (tv : Value) (root ep : Int) (fl : Bool) (S : Spc) : Prop where
  hd : Hd8 wr P p K G (some V) tv root ep fl
  vm : Owns wr V nK DK
  km : Owns wr K nK DK
  sp : SpAt wr G T S
  st : Stp w (stH P G T) wr (stH P G T)
  sz : V < wr.heap.size
theorem SetRel.next {w wr w' : World} {P p K G T V nK : Nat} {DK : DataW Unit} {tv : Value} {root ep : Int} {fl : Bool} {S S' : Spc} (h : SetRel w wr P p K G T V nK DK tv root ep fl S) (hs : SpAt w' G T S') (hw : Wrt (spH G T) wr w') (hne : P ≠ K ∧ P ≠ G ∧ P ≠ T ∧ K ≠ G ∧ K ≠ T) (hV : G ≠ V ∧ T ≠ V ∧ P ≠ V) : SetRel w w' P p K G T V nK DK tv root ep fl S' :=
  ⟨h.hd.same (hw.block P (fun q => by rcases q with q | q; exact hne.2.1 q; exact hne.2.2.1 q)), owns_same h.vm (hw.block _ (fun q => by rcases q with q | q; exact hV.1 q.symm; exact hV.2.1 q.symm)), owns_same h.km (hw.block _ (fun q => by rcases q with q | q; exact hne.2.2.2.1 q; exact hne.2.2.2.2 q)), hs, h.st.trans (Stp.mono3 hw), by rw [hw.size]; exact h.sz⟩
theorem SetRel.below {w wr w' : World} {P p K G T V nK : Nat} {DK : DataW Unit} {tv : Value} {root ep : Int} {fl : Bool} {S : Spc} (h : SetRel w wr P p K G T V nK DK tv root ep fl S) (hb : Below wr.heap.size wr w') : SetRel w w' P p K G T V nK DK tv root ep fl S :=
  ⟨h.hd.same (hb.block P (World.block_lt_of_cell? wr _ h.hd.c0)), owns_same h.vm (hb.block _ h.sz), owns_same h.km (hb.block _ h.km.lt), h.sp.below hb, h.st.trans (.of_below hb), Nat.lt_of_lt_of_le h.sz hb.size⟩
theorem SetRel.grown {w wr w' : World} {P p K G T V nK R : Nat} {DK : DataW Unit} {tv : Value} {root ep : Int} {fl : Bool} {S : Spc} (h : SetRel w wr P p K G T V nK DK tv root ep fl S) (hg : wr.grownBy w' (some R)) (hR : R ≠ P ∧ R ≠ K ∧ R ≠ G ∧ R ≠ T ∧ R ≠ V) (hw : w.heap.size ≤ R) : SetRel w w' P p K G T V nK DK tv root ep fl S := by
  have hb : ∀ k, k < wr.heap.size → k ≠ R → w'.heap[k]? = wr.heap[k]? := fun k hk hn => hg.block k hk (fun e => hn (Option.some.inj e))
  obtain ⟨r1, r2, r3, r4, r5⟩ := hR
  exact ⟨h.hd.same (hb P (World.block_lt_of_cell? wr _ h.hd.c0) (fun e => r1 e.symm)), owns_same h.vm (hb _ h.sz (fun e => r5 e.symm)), owns_same h.km (hb _ h.km.lt (fun e => r2 e.symm)), h.sp.same (hb _ h.sp.ltG (fun e => r3 e.symm)) (hb _ h.sp.ltT (fun e => r4 e.symm)),
    ⟨hg.os.trans h.st.os, hg.tape.trans h.st.tape, hg.output.trans h.st.output, Nat.le_trans h.st.size hg.size, fun k hk hn => (hb k (Nat.lt_of_lt_of_le hk h.st.size) (by omega)).trans (h.st.block k hk hn), h.st.own⟩, Nat.lt_of_lt_of_le h.sz hg.size⟩
set_option maxRecDepth 100000 in
set_option maxHeartbeats 1000000 in
theorem settle_any (w : World) (P p K G T n nK : Nat) (DK : DataW Unit) (ta : Option Addr) (tl tc : Nat) (vo : Option Nat) (root ep : Int) (fl : Bool) (tb : List Nat) (f : Nat → Nat) (S0 : Spc) (hd : Hd8 w P p K G vo (.slice ta tl tc) root ep fl) (hl : tb.length = tl) (hti : Ints w ta (zl tb)) (hta : ∀ b o, ta = some ⟨b, o, none⟩ → b ≠ P ∧ b ≠ G ∧ b ≠ T) (hm : Owns w K nK DK) (hf : MpF f DK) (hsp : SpAt w G T S0) (hn : S0.n = n) (hs : Secs n tb f) (hne : P ≠ K ∧ P ≠ G ∧ P ≠ T ∧ K ≠ G ∧ K ≠ T) (h130 : tl ≤ 130) :
    Calls Tryz.prog 38 #[.pointer (some ⟨P, 0, none⟩)] w (SettledE w P p K G T n nK DK (.slice ta tl tc) root ep fl tb f) := by
  have c1 := hd.c1
  have c2 := hd.c2
  have f2 := hd.fz 2
  have HD := Lib.hid hd
  have HL := Lib.hid hl
  have HTI := Lib.hid hti
  have HTA := Lib.hid hta
  have HM := Lib.hid hm
  have HF := Lib.hid hf
  have HSP := Lib.hid hsp
  have HS := Lib.hid hs
  have HN := Lib.hid hn
  have HNE := Lib.hid hne
  have hPl := World.block_lt_of_cell? w _ hd.c0
  have HPL := Lib.hid (show P < w.heap.size from hPl)
  clear hd hl hti hta hm hf hsp hs hne hn hPl
  go_enter Tryz.func38, Tryz.ntmps38
  go_wp2_with fail
  refine (clone_any K nK DK _ HM.out).mono ?_
  rintro e w1 ⟨rfl, hv, hb⟩
  have HV := Lib.hid hv
  have HB1 := Lib.hid hb
  have c2' := (hb.cell (p := ⟨P, 2, none⟩) HPL.out).trans c2
  have f2' := (hb.frozen (p := ⟨P, 2, none⟩) HPL.out).trans f2
  have HD1 := Lib.hid (HD.out.same (hb.block P HPL.out))
  have HS1 := Lib.hid ((HSP.out.below hb).raw)
  have HS1' := Lib.hid (HSP.out.below hb)
  have HPLG := Lib.hid (show G ≠ w.heap.size ∧ T ≠ w.heap.size ∧ P ≠ w.heap.size by have := HSP.out.ltG; have := HSP.out.ltT; have := HPL.out; omega)
  have c6' : (w1.setCell ⟨P, 2, none⟩ (.map (some w.heap.size))).cell? ⟨P, 6, none⟩ = some (.pointer (some ⟨G, 0, none⟩)) := set_ne HD1.out.c6 (.inr (by decide))
  have HD2 := Lib.hid (show Hd8 (w1.setCell ⟨P, 2, none⟩ (.map (some w.heap.size))) P p K G (some w.heap.size) (.slice ta tl tc) root ep fl from
    ⟨set_ne HD1.out.c0 (.inr (by decide)), set_ne HD1.out.c1 (.inr (by decide)), World.cell?_setCell_same _ _ _ HD1.out.c2, set_ne HD1.out.c3 (.inr (by decide)), set_ne HD1.out.c4 (.inr (by decide)), set_ne HD1.out.c5 (.inr (by decide)), c6', set_ne HD1.out.c7 (.inr (by decide)), fun i => by rw [World.frozen?_setCell]; exact HD1.out.fz i⟩)
  have HV2 := Lib.hid (HV.out.setCell (a := ⟨P, 2, none⟩) (fun e => HPLG.out.2.2 e.symm) (.map (some w.heap.size)))
  have HST2 := Lib.hid ((Stp.of_below (H := stH P G T) HB1.out).trans (((Wrt.refl (stH P G T) w1).set (.inl rfl) 2 (.map (some w.heap.size))).stp))
  have HR2 := Lib.hid (SpAt.raw (HS1'.out.wrt ((Wrt.refl (fun b => b = P) w1).set rfl 2 (.map (some w.heap.size))) (fun e => HNE.out.2.1 e.symm) (fun e => HNE.out.2.2.1 e.symm)))
  have hHM2 : (w1.setCell ⟨P, 2, none⟩ (.map (some w.heap.size))).heap[K]? = w.heap[K]? := (Below.heap_setCell _ _ _ _ (fun e => HNE.out.1 (by have e2 : K = P := e; exact e2.symm))).trans (HB1.out.block K HM.out.lt)
  have HM2 := Lib.hid (owns_same HM.out hHM2)
  have HSZ2 := Lib.hid (show w.heap.size < (w1.setCell ⟨P, 2, none⟩ (.map (some w.heap.size))).heap.size by rw [World.size_setCell]; exact HV.out.lt)
  clear hv hb c1 c2 f2 hHM2
  go_wp2_with fail
  refine (clear_any G T _ _ _ _ _ HR2.out).mono ?_
  rintro e w3 ⟨rfl, hsp3, hw3⟩
  have HD3 := Lib.hid (HD2.out.same (hw3.block P (fun q => by rcases q with q | q; exact HNE.out.2.1 q; exact HNE.out.2.2.1 q)))
  have HV3 := Lib.hid (owns_same HV2.out (hw3.block _ (fun q => by rcases q with q | q; exact HPLG.out.1 q.symm; exact HPLG.out.2.1 q.symm)))
  have HM3 := Lib.hid (owns_same HM2.out (hw3.block _ (fun q => by rcases q with q | q; exact HNE.out.2.2.2.1 q; exact HNE.out.2.2.2.2 q)))
  have HST3 := Lib.hid (HST2.out.trans (Stp.mono3 hw3))
  have HSP3 := Lib.hid hsp3
  have HSZ3 := Lib.hid (show w.heap.size < w3.heap.size by rw [hw3.size]; exact HSZ2.out)
  clear hsp3 hw3 c6' c2' f2' HD1 HS1 HS1' HR2 HV2 HM2 HD2 HST2
  have HSR := Lib.hid (show SetRel w w3 P p K G T w.heap.size nK DK (.slice ta tl tc) root ep fl (Spc.clear n) from ⟨HD3.out, HV3.out, HM3.out, by have := HSP3.out; rw [HN.out] at this; exact this, HST3.out, HSZ3.out⟩)
  have HTK := Lib.hid (clear_tk n tb)
  have c3 := HD3.out.c3
  clear HD3 HV3 HM3 HSP3 HST3 HSZ3
  go_wp2
  clear c3
  go_loopw [26, 3, 5] (fun i b _ wr => ∃ (k : Nat) (S : Spc), k ≤ tl ∧ i = .int .i64 k ∧ b = .bool true ∧ Hid (SetRel w wr P p K G T w.heap.size nK DK (.slice ta tl tc) root ep fl S) ∧ Hid (TkN n (tb.take k) (fun _ => 0) (fun _ => true) S)) (fun i _ _ _ => tl - (intOf i).toNat)
  case atStart => exact ⟨0, _, by omega, rfl, rfl, HSR, HTK⟩
  case round =>
    obtain ⟨k, S, hk, rfl, rfl, HR, HT⟩ := hrel
    have c6 := HR.out.hd.c6
    by_cases hlt : k < tl
    · have hkl : k < tb.length := by rw [HL.out]; exact hlt
      obtain ⟨ba, oa, hae, hcx⟩ := HTI.out k (by rw [zl_len]; exact hkl)
      obtain ⟨q1, q2, q3⟩ := HTA.out ba oa hae
      have hcx2 := HR.out.st.cell hcx (fun q => by rcases q with q | q | q; exact q1 q; exact q2 q; exact q3 q)
      rw [show (zl tb)[k]'(by rw [zl_len]; exact hkl) = (tb[k] : Int) by simp [zl]] at hcx2
      obtain ⟨g1, g2, g3⟩ := claim_tk HT.out hkl HS.out.nd HS.out.tl
      subst hae
      generalize tb[k] = x at hcx2 g1 g2 g3
      have HG := Lib.hid (And.intro g1 g2)
      have HTN := Lib.hid g3
      have k1 : (k : Int) < (tl : Int) := by omega
      clear hcx g1 g2 g3 q1 q2 q3
      go_wp2_with (go_at_call 54; refine (claim_yes_any G T S x _ HR.out.sp HG.out.1 HG.out.2).mono ?_; rintro e w4 ⟨rfl, hsp, hw⟩; have HRN := Lib.hid (HR.out.next hsp hw HNE.out HPLG.out); clear hsp hw)
      go_roundw
      case rel => exact ⟨k + 1, _, by omega, by go_num, rfl, HRN, HTN⟩
      case measure => simp [intOf]; omega
    · obtain rfl : k = tl := by omega
      have HT2 := Lib.hid (show TkN n tb f (Maps.has DK) S by
        obtain ⟨t1, t2⟩ := HT.out
        refine ⟨t1, fun i => ?_⟩
        rw [t2 i, List.take_of_length_le (by rw [HL.out]; exact Nat.le_refl _)]
        constructor
        · rintro (q | q | ⟨_, _, q, _⟩)
          · exact .inl q
          · exact .inr (.inl q)
          · exact absurd rfl q
        · rintro (q | q | ⟨j, q1, q2, q3⟩)
          · exact .inl q
          · exact .inr (.inl q)
          · have := (HF.out.has (j : Int)).2 ⟨j, rfl, q2⟩
            rw [show (Lit.int .i64 (j : Int)) = lk j from rfl, q3] at this
            cases this)
      have c1 := HR.out.hd.c1
      clear HT HTK HSR
      go_wp2_with (at_range; refine wpList_range_own _ rfl _ 100 rfl 3 3 klaw Tryz.underlying100 _ K nK _ rfl HR.out.km ?_; intro w4 hrg0 hg0 hs0)
      go_frame
      have HR4 := Lib.hid (HR.out.below ((Below.refl wr.heap.size wr).grown hg0 (Nat.le_refl _) (fun j hj => by cases hj)))
      have HRG := Lib.hid hrg0
      obtain ⟨R, hR⟩ : ∃ R, R = wr.heap.size := ⟨_, rfl⟩
      have HRN := Lib.hid (show (R ≠ P ∧ R ≠ K ∧ R ≠ G ∧ R ≠ T ∧ R ≠ w.heap.size) ∧ w.heap.size ≤ R by
        have a1 := World.block_lt_of_cell? wr _ HR.out.hd.c0
        have a1' : P < wr.heap.size := a1
        have a2 := HR.out.km.lt
        have a3 := HR.out.sp.ltG
        have a4 := HR.out.sp.ltT
        have a5 := HR.out.sz
        have a6 := HR.out.st.size
        omega)
      rw [← hR] at HRG ⊢
      clear hR hrg0 hg0 hs0 HR c6 c1
      go_loopw [3, 7] (fun b _ wq => ∃ (left : Lit → Bool) (cnt : Nat) (S : Spc), b = .bool true ∧ Hid (wq.ranges Tryz.prog 3 (plainElem Tryz.prog 3) K R nK DK left cnt) ∧ Hid (SetRel w wq P p K G T w.heap.size nK DK (.slice ta k tc) root ep fl S) ∧ Hid (TkN n tb f left S)) (fun _ _ wq => wq.rangeLeft K R)
      case atStart => exact ⟨_, _, _, rfl, HRG, HR4, HT2⟩
      case round =>
        obtain ⟨left, cnt, S2, rfl, HQ, HR, HT⟩ := hrel
        go_wp2_with (at_next; refine wpList_next_ranges_ii _ rfl _ rfl 3 3 .i64 .i64 klaw Tryz.underlying3 Tryz.underlying3 K R nK _ _ _ rfl HQ.out ?_ ?_)
        · intro hc0 hl0
          have HE := Lib.hid (show SettledE w P p K G T n nK DK (.slice ta k tc) root ep fl tb f (.returned (.bool true)) wr from ⟨rfl, S2, HR.out.hd, HR.out.vm, HR.out.sp, ⟨HT.out.1, fun i => by rw [HT.out.2 i]; simp [hl0]⟩, HR.out.st⟩)
          clear hl0
          go_wp2
          go_ret
          exact HE.out
        · intro x y w5 cnt1 hwx hwy hlx hat hrg1 hlt1 hg1 hs1 hen
          obtain ⟨j, rfl, hj, rfl⟩ := HF.out.key_of hat
          obtain ⟨g1, g2, g3⟩ := claim_tkm HT.out HS.out hj hlx
          have HG := Lib.hid (And.intro g1 g2)
          have HTN := Lib.hid g3
          have HR5 := Lib.hid (HR.out.grown hg1 HRN.out.1 HRN.out.2)
          have c6 := HR5.out.hd.c6
          have HQ5 := Lib.hid hrg1
          have HLT := Lib.hid hlt1
          clear hat hrg1 hlt1 hg1 hs1 hwx hwy hlx hj g1 g2 g3
          go_wp2_with (go_at_call 54; refine (claim_yes_any G T S2 (f j) _ HR5.out.sp HG.out.1 HG.out.2).mono ?_; rintro e w6 ⟨rfl, hsp, hw⟩; have HRN6 := Lib.hid (HR5.out.next hsp hw HNE.out HPLG.out); have HQ6 := Lib.hid (ranges_same HQ5.out (hw.block K (fun q => by rcases q with q | q; exact HNE.out.2.2.2.1 q; exact HNE.out.2.2.2.2 q)) (hw.block R (fun q => by rcases q with q | q; exact HRN.out.1.2.2.1 q; exact HRN.out.1.2.2.2.1 q))); clear hsp hw)
          exact ⟨⟨_, cnt1, _, rfl, HQ6, HRN6, HTN⟩, by rw [HQ6.out.left_eq, HQ.out.left_eq]; exact HLT.out⟩
end Go.Proofs.YtokikeenfpligaaGreatDoor.Sh
namespace Go.Proofs.YtokikeenfpligaaGreatDoor.Sh
open Go.RowKit Go.Maps

structure Sd where
  P : Nat
  p : Nat
  D : Nat
  K : Nat
  V : Nat
  G : Nat
  T : Nat
  n : Nat
  m : Nat
  nK : Nat
  nV : Nat
  DK : DataW Unit
  DV : DataW Unit
  ta : Option Addr
  tc : Nat
  tb : List Nat
  kp : Nat → Nat
  nw : Nat → Nat
  root : Nat
  ep : Nat
  fl : Bool
  S : Spc
  ct : Nat → ByteArray
  H : Nat → Prop
/-- none of these blocks is another's -/
structure Sep (W w : World) (σ : Sd) : Prop where
  ne : σ.P ≠ σ.K ∧ σ.P ≠ σ.G ∧ σ.P ≠ σ.T ∧ σ.K ≠ σ.G ∧ σ.K ≠ σ.T
  nv : σ.V ≠ σ.P ∧ σ.V ≠ σ.K ∧ σ.V ≠ σ.G ∧ σ.V ≠ σ.T
  nh : ¬ σ.H σ.P ∧ ¬ σ.H σ.K ∧ ¬ σ.H σ.G ∧ ¬ σ.H σ.T ∧ ¬ σ.H σ.V
  lo : W.heap.size ≤ σ.P ∧ W.heap.size ≤ σ.K ∧ W.heap.size ≤ σ.G ∧ W.heap.size ≤ σ.T ∧ W.heap.size ≤ σ.V
  ta : ∀ b o, σ.ta = some ⟨b, o, none⟩ → b ≠ σ.P ∧ b ≠ σ.K ∧ b ≠ σ.G ∧ b ≠ σ.T ∧ b ≠ σ.V ∧ ¬ σ.H b ∧ W.heap.size ≤ b ∧ b < w.heap.size
structure Sh (W : World) (N : Nat) (w : World) (σ : Sd) (Q : Nat → Prop) : Prop where
  hd : Hd8 w σ.P σ.p σ.K σ.G (some σ.V) (.slice σ.ta σ.tb.length σ.tc) (σ.root : Int) (σ.ep : Int) σ.fl
  km : Owns w σ.K σ.nK σ.DK
  kf : MpF σ.kp σ.DK
  vm : Owns w σ.V σ.nV σ.DV
  vf : MpF σ.nw σ.DV
  ti : Ints w σ.ta (zl σ.tb)
  sp : SpAt w σ.G σ.T σ.S
  ps : PS W N w σ.p σ.D σ.ct Q σ.n σ.m σ.H
  se : Sep W w σ
  nb : σ.nK ≤ N ∧ σ.nV ≤ N
theorem ints_same {w w' : World} {a : Option Addr} {xs : List Int} (h : Ints w a xs) (hb : ∀ b o, a = some ⟨b, o, none⟩ → w'.heap[b]? = w.heap[b]?) : Ints w' a xs := by
  intro i hi
  obtain ⟨b, off, ha, hc⟩ := h i hi
  exact ⟨b, off, ha, (World.cell?_of_block (hb b off ha)).trans hc⟩
theorem Sh.below {W w w' : World} {N : Nat} {σ : Sd} {Q : Nat → Prop} (h : Sh W N w σ Q) (hb : Below w.heap.size w w') : Sh W N w' σ Q :=
  ⟨h.hd.same (hb.block _ (World.block_lt_of_cell? w _ h.hd.c0)), owns_same h.km (hb.block _ h.km.lt), h.kf, owns_same h.vm (hb.block _ h.vm.lt), h.vf, ints_same h.ti (fun b o e => hb.block b (h.se.ta b o e).2.2.2.2.2.2.2), h.sp.below hb, h.ps.below hb, ⟨h.se.ne, h.se.nv, h.se.nh, h.se.lo, fun b o e => by obtain ⟨a1, a2, a3, a4, a5, a6, a7, a8⟩ := h.se.ta b o e; exact ⟨a1, a2, a3, a4, a5, a6, a7, Nat.lt_of_lt_of_le a8 hb.size⟩⟩, h.nb⟩
/-- the pool alone turns -/
theorem Sh.pool {W w w' : World} {N M : Nat} {σ : Sd} {Q Q' H' : Nat → Prop} {ct' : Nat → ByteArray} (h : Sh W N w σ Q) (hp : PS W M w' σ.p σ.D ct' Q' σ.n σ.m H') (hs : Stp w σ.H w' H') (hM : N ≤ M) : Sh W M w' { σ with ct := ct', H := H' } Q' := by
  obtain ⟨h1, h2, h3, h4, h5⟩ := h.se.nh
  have lP : σ.P < w.heap.size := World.block_lt_of_cell? w _ h.hd.c0
  have hn : ∀ b, b < w.heap.size → ¬ σ.H b → ¬ H' b := fun b hb hq q => by rcases hs.own b q with e | e; exact hq e; omega
  exact ⟨h.hd.same (hs.block _ lP h1), owns_same h.km (hs.block _ h.km.lt h2), h.kf, owns_same h.vm (hs.block _ h.vm.lt h5), h.vf, ints_same h.ti (fun b o e => by obtain ⟨_, _, _, _, _, a6, _, a8⟩ := h.se.ta b o e; exact hs.block b a8 a6), h.sp.same (hs.block _ h.sp.ltG h3) (hs.block _ h.sp.ltT h4), hp,
    ⟨h.se.ne, h.se.nv, ⟨hn _ lP h1, hn _ h.km.lt h2, hn _ h.sp.ltG h3, hn _ h.sp.ltT h4, hn _ h.vm.lt h5⟩, h.se.lo, fun b o e => by obtain ⟨a1, a2, a3, a4, a5, a6, a7, a8⟩ := h.se.ta b o e; exact ⟨a1, a2, a3, a4, a5, hn b a8 a6, a7, Nat.lt_of_lt_of_le a8 hs.size⟩⟩, ⟨Nat.le_trans h.nb.1 hM, Nat.le_trans h.nb.2 hM⟩⟩
theorem Sh.mono {W w : World} {N M : Nat} {σ : Sd} {Q : Nat → Prop} (h : Sh W N w σ Q) (hN : N ≤ M) : Sh W M w σ Q := ⟨h.hd, h.km, h.kf, h.vm, h.vf, h.ti, h.sp, h.ps.mono hN, h.se, ⟨Nat.le_trans h.nb.1 hN, Nat.le_trans h.nb.2 hN⟩⟩
theorem Sh.less {W w : World} {N : Nat} {σ : Sd} {Q Q' : Nat → Prop} (h : Sh W N w σ Q) (hQ : ∀ q, Q' q → Q q) : Sh W N w σ Q' := ⟨h.hd, h.km, h.kf, h.vm, h.vf, h.ti, h.sp, h.ps.less hQ, h.se, h.nb⟩

/-- the i-th table of a map -/
def tbl (f : Nat → Nat) (i : Nat) : List Nat := (List.range 123).map fun j => f (i * 123 + j)
theorem tbl_len (f : Nat → Nat) (i : Nat) : (tbl f i).length = 123 := by simp [tbl]
/-- what a shadow is: pk, pn: the pages that are kept, and those that are now -/
structure Inv (σ : Sd) (Q : Nat → Prop) (pk pn : Nat → Sm.Pg) : Prop where
  n4 : 4 ≤ σ.n
  n1 : σ.n ≤ 16384
  m1 : 1 ≤ σ.m
  m2 : σ.m ≤ 1024
  sn : σ.S.n = σ.n
  tk : ∀ i, σ.S.t i = true ↔ i < 2 ∨ i ∈ σ.tb ∨ (∃ k, σ.kp k = i ∧ σ.kp k ≠ 0) ∨ (∃ k, σ.nw k = i ∧ σ.nw k ≠ 0)
  sk : Secs σ.n σ.tb σ.kp
  sw : Secs σ.n σ.tb σ.nw
  one : ∀ j k, σ.nw j ≠ 0 → σ.nw j = σ.kp k → j = k
  it : IsTbl σ.kp σ.tb.length
  ck : ∀ k, σ.kp k ≠ 0 → σ.ct (σ.kp k) = bt (pk k) ∧ PgOk (pk k) ∧ (pk k).number = k
  cn : ∀ k, σ.nw k ≠ 0 → σ.ct (σ.nw k) = bt (pn k) ∧ PgOk (pn k) ∧ (pn k).number = k
  tt : ∀ i (h : i < σ.tb.length), σ.ct σ.tb[i] = bt (pg4 84 i σ.ep (tbl σ.kp i))
  r2 : σ.root < 2
  e1 : σ.ep < 4611686018427387904
  st : ∃ st : Nat → Option (Nat × List Nat), (∀ r, r < 2 → Rt σ.ct r (st r)) ∧ st σ.root = some (σ.ep, σ.tb) ∧ best st 2 = some (σ.root, σ.ep, σ.tb)
  fl : σ.fl = false
  sq : (∀ q, q < 2 → Q q) ∧ (∀ x ∈ σ.tb, Q x) ∧ ∀ k, σ.kp k ≠ 0 → Q (σ.kp k)
/-- nothing is kept, and nothing is now -/
def p0 (_ : Nat) : Sm.Pg := .mkPg 0 0 0 0 []
end Go.Proofs.YtokikeenfpligaaGreatDoor.Sh

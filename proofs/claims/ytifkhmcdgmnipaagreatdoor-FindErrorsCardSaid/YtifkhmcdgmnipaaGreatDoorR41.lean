/-
  THE WALK of counted. Conditions: the counter lies in memory; the part is cut to its square.
-/
import Derived.Test.YtifkhmcdgmnipaaGreatDoorR40
namespace Go.Proofs.YtifkhmcdgmnipaaGreatDoor
open Go.RowKit Ti Qd Ce Cl Go.Maps Go.WideMaps

/-- what is asked of count, at a level -/
def CountP (B P : Nat) (L : List Sq) (room : Nat) (H : Nat → Prop) (C M : Nat) (E : Cnr) (n : Nat) : Prop :=
  ∀ (id : Int) (lo hi : Cel) (w : World), Ct B P L room H C M E w → Lv L n id → AskM E n lo hi →
    Calls Tryz.prog 24 #[.pointer (some ⟨C, 0, none⟩), pv (id, lo, hi)] w fun e w' => e = .returned (.tuple #[.int .i64 (inV L n id lo hi), .nilIface]) ∧ Cg L E M w w'
/-- corners within a square -/
structure InW (n : Nat) (lo hi : Cel) : Prop where
  a : 0 ≤ lo.1 ∧ lo.1 < ((2 ^ (n + 3) : Nat) : Int)
  b : 0 ≤ lo.2 ∧ lo.2 < ((2 ^ (n + 3) : Nat) : Int)
  c : 0 ≤ hi.1 ∧ hi.1 < ((2 ^ (n + 3) : Nat) : Int)
  d : 0 ≤ hi.2 ∧ hi.2 < ((2 ^ (n + 3) : Nat) : Int)
set_option maxRecDepth 100000 in
set_option maxHeartbeats 2000000 in
theorem counted_tile {B P : Nat} {L : List Sq} {room : Nat} {H : Nat → Prop} {C M : Nat} {E : Cnr} {w : World} (hct : Ct B P L room H C M E w) (id : Int) (hl : Lv L 0 id) (lo hi : Cel) :
    Calls Tryz.prog 46 #[.pointer (some ⟨C, 0, none⟩), qv (at' L id), pv (id, lo, hi)] w fun e w' => e = .returned (.tuple #[.int .i64 (inV L 0 id lo hi), .nilIface]) ∧ Cg L E M w w' := by
  have e5 : (w.alloc (fq (at' L id))).heap.size = w.heap.size + 1 := by simp
  have e8 : ((w.alloc (fq (at' L id))).alloc (pb id lo hi)).heap.size = w.heap.size + 1 + 1 := by simp
  have h5 := heap_alloc_new (w.alloc (fq (at' L id))) (pb id lo hi)
  rw [e5] at h5
  have h8 := heap_alloc_new ((w.alloc (fq (at' L id))).alloc (pb id lo hi)) (in1 0)
  rw [e8] at h8
  have h4 := row_keep (row_keep (heap_alloc_new w (fq (at' L id))) (alX _ (pb id lo hi)) (Nat.le_refl _)) (alX ((w.alloc (fq (at' L id))).alloc (pb id lo hi)) (in1 0)) (Nat.le_refl _)
  have hb : Below w.heap.size w (((w.alloc (fq (at' L id))).alloc (pb id lo hi)).alloc (in1 0)) := (bstep (alX w _) (alX _ _)).trans ((alX _ _).mono (by simp; omega))
  have hlt : (tl (at' L id).til).length ≤ 64 := by
    unfold tl
    rw [List.length_map]
    exact Nat.le_trans (List.length_filter_le _ _) (by simp)
  have HE := Lib.hid (eachOf_ok (count_tk id lo hi (w.heap.size + 1 + 1) (w.heap.size + 1)) (at' L id).til [] _ _ ⟨h8, row_keep h5 (alX _ (in1 0)) (Nat.le_refl _), by omega, rfl⟩ (hct.tab.below hb) (by have := hct.tab.lt; rintro (g | g) <;> omega) (by simpa using hlt) (by decide))
  have HV := Lib.hid (show inV L 0 id lo hi = (((([] ++ tl (at' L id).til).filter (inb lo hi)).length : Nat) : Int) from by
    have h1 : cin L 0 id lo hi ≤ 64 := Nat.le_trans (List.length_filter_le _ _) hlt
    have h2 : cin L 0 id lo hi = (([] ++ tl (at' L id).til).filter (inb lo hi)).length := rfl
    unfold inV big
    rw [← h2]
    omega)
  have HB := Lib.hid (And.intro hb (And.intro h4 hct))
  have hlev := hl.2
  clear hct hl e5 e8 h5 h8 h4 hb hlt
  generalize inV L 0 id lo hi = x at *
  generalize hq : at' L id = q at *
  obtain ⟨lev, cnt, til, k0, k1, k2, k3⟩ := q
  unfold qv pv at *
  simp only at *
  subst hlev
  clear hq
  obtain ⟨⟨c0, c1, c2, c3, c4, c5, c6⟩, _⟩ := row7 HB.out.2.1
  go_enter Tryz.func46, Tryz.ntmps46
  go_wp2_with fail
  refine HE.out.mono ?_
  rintro e w2 ⟨rfl, F2, ⟨q8, q5, _, rfl⟩, hs2⟩
  have HS := Lib.hid (HB.out.2.2.below (HB.out.1.trans (hs2.below (B := w.heap.size) (fun b hb => by rcases hb with rfl | rfl <;> omega) HB.out.1.size)))
  rw [← HV.out] at q8
  obtain ⟨d0, _⟩ := row_cl1 q8
  clear hs2 q8 q5 HE c0 c1 c2 c3 c4 c5 c6
  go_wp2
  go_ret2
  exact ⟨rfl, HS.out⟩
structure CnS (L : List Sq) (E : Cnr) (M : Nat) (w0 : World) (q : Sq) (id : Int) (lo hi : Cel) (x : Int) (w : World) : Prop where
  cg : Cg L E M w0 w
  r4 : w.heap[w0.heap.size]? = some (fq q)
  r5 : w.heap[w0.heap.size + 1]? = some (pb id lo hi)
  r8 : w.heap[w0.heap.size + 1 + 1]? = some (in1 x)
  mm : M < w0.heap.size
theorem CnS.step {L : List Sq} {E : Cnr} {M : Nat} {w0 w w' : World} {q : Sq} {id : Int} {lo hi : Cel} {x : Int} (h : CnS L E M w0 q id lo hi x w) (hg : Cg L E M w w') : CnS L E M w0 q id lo hi x w' :=
  ⟨h.cg.trans hg, hg.row h.r4 (by have := h.mm; omega), hg.row h.r5 (by have := h.mm; omega), hg.row h.r8 (by have := h.mm; omega), h.mm⟩
theorem CnS.below {L : List Sq} {E : Cnr} {M : Nat} {w0 w w' : World} {q : Sq} {id : Int} {lo hi : Cel} {x : Int} (h : CnS L E M w0 q id lo hi x w) (hb : Below w.heap.size w w') : CnS L E M w0 q id lo hi x w' :=
  h.step ⟨.of_below hb, h.cg.k.moved (hb.block _ h.cg.k.lt)⟩
theorem CnS.put {L : List Sq} {E : Cnr} {M : Nat} {w0 w : World} {q : Sq} {id : Int} {lo hi : Cel} {x : Int} (h : CnS L E M w0 q id lo hi x w) (y : Int) : CnS L E M w0 q id lo hi y (w.setCell ⟨w0.heap.size + 1 + 1, 0, none⟩ (.int .i64 y)) := by
  have hm := h.mm
  have hne : ∀ k, ¬ k = w0.heap.size + 1 + 1 → (w.setCell ⟨w0.heap.size + 1 + 1, 0, none⟩ (.int .i64 y)).heap[k]? = w.heap[k]? := fun k hk => Below.heap_setCell _ _ _ _ hk
  refine ⟨⟨⟨h.cg.s.os, h.cg.s.tape, h.cg.s.output, Nat.le_trans h.cg.s.size (by simp), fun k hk hn => (hne k (by omega)).trans (h.cg.s.block k hk hn), fun k hk => h.cg.s.own k hk⟩, h.cg.k.moved (hne _ (by omega))⟩, (hne _ (by omega)).trans h.r4, (hne _ (by omega)).trans h.r5, row_set1 h.r8 _, hm⟩
set_option maxRecDepth 100000 in
set_option maxHeartbeats 4000000 in
theorem counted_node {B P : Nat} {L : List Sq} {room : Nat} {H : Nat → Prop} {C M : Nat} {E : Cnr} {w : World} (n : Nat) (hn : n ≤ 36) (ih : CountP B P L room H C M E n) (hct : Ct B P L room H C M E w) (id : Int) (hl : Lv L (n + 1) id) (lo hi : Cel) (hk : KeyM E (n + 1) lo hi) (hw : InW (n + 1) lo hi) :
    Calls Tryz.prog 46 #[.pointer (some ⟨C, 0, none⟩), qv (at' L id), pv (id, lo, hi)] w fun e w' => e = .returned (.tuple #[.int .i64 (inV L (n + 1) id lo hi), .nilIface]) ∧ Cg L E M w w' := by
  have e5 : (w.alloc (fq (at' L id))).heap.size = w.heap.size + 1 := by simp
  have e8 : ((w.alloc (fq (at' L id))).alloc (pb id lo hi)).heap.size = w.heap.size + 1 + 1 := by simp
  have h5 := heap_alloc_new (w.alloc (fq (at' L id))) (pb id lo hi)
  rw [e5] at h5
  have h8 := heap_alloc_new ((w.alloc (fq (at' L id))).alloc (pb id lo hi)) (in1 0)
  rw [e8] at h8
  have h4 := row_keep (row_keep (heap_alloc_new w (fq (at' L id))) (alX _ (pb id lo hi)) (Nat.le_refl _)) (alX ((w.alloc (fq (at' L id))).alloc (pb id lo hi)) (in1 0)) (Nat.le_refl _)
  have hb : Below w.heap.size w (((w.alloc (fq (at' L id))).alloc (pb id lo hi)).alloc (in1 0)) := (bstep (alX w _) (alX _ _)).trans ((alX _ _).mono (by simp; omega))
  have HS := Lib.hid (CnS.mk (hct.below hb) h4 (row_keep h5 (alX _ (in1 0)) (Nat.le_refl _)) (show _ = some (in1 (kin L n id lo hi 0)) from by rw [kin_zero]; exact h8) hct.kn.lt)
  have hlev : (at' L id).lev = (n : Int) + 4 := by rw [hl.2]; omega
  have HC := Lib.hid (fun k (hk : k < 4) W => corner_at n (at' L id) hlev hn k (k : Int) rfl hk W)
  have HIX := Lib.hid (fun k (hk : k < 4) W => kid_idx (at' L id) hk W)
  have HNX := Lib.hid (fun k => kin_next L n id lo hi k)
  have HLE := Lib.hid (fun k => And.intro (kin_le L n id lo hi k) (inV_le L n (kid (at' L id) k) (mi lo (crn (2 ^ (n + 3)) k)) (mi hi (crn (2 ^ (n + 3)) k))))
  have HALL := Lib.hid (kin_all L n id lo hi)
  have HIH := Lib.hid (fun (k : Nat) (hk4 : k < 4) (W : World) (hg : Cg L E M w W) => ih (kid (at' L id) k) (mi lo (crn (2 ^ (n + 3)) k)) (mi hi (crn (2 ^ (n + 3)) k)) W (hct.go hg) (hct.st.inv.kid hl k) (hk.kid hk4))
  have HMI := Lib.hid (fun (k : Nat) (hk4 : k < 4) (ax ay : Int) (h : (ax = lo.1 ∧ ay = lo.2) ∨ (ax = hi.1 ∧ ay = hi.2)) (W : World) => minus_ok (ax, ay) (crn (2 ^ (n + 3)) k) (by
    have h1 := (crn_or (2 ^ (n + 3)) k).1
    have h2 := hw.a
    have h3 := hw.c
    have h4 := two40 (n := n) (by omega)
    rw [show 2 ^ (n + 1 + 3) = 2 ^ (n + 3) * 2 from Nat.pow_succ ..] at h2 h3
    generalize (crn (2 ^ (n + 3)) k).1 = cr at *
    generalize 2 ^ (n + 3) = m at *
    simp only
    omega) (by
    have h1 := (crn_or (2 ^ (n + 3)) k).2 hk4
    have h2 := hw.b
    have h3 := hw.d
    have h4 := two40 (n := n) (by omega)
    rw [show 2 ^ (n + 1 + 3) = 2 ^ (n + 3) * 2 from Nat.pow_succ ..] at h2 h3
    generalize (crn (2 ^ (n + 3)) k).2 = cr at *
    generalize 2 ^ (n + 3) = m at *
    simp only
    omega) W)
  have hl3 : ((at' L id).lev == 3) = false := by rw [beq_eq_false_iff_ne]; omega
  clear e5 e8 h5 h8 h4 hb hct hl ih hk hw hlev hn
  unfold qv pv cv at *
  simp only at *
  generalize at' L id = q at *
  generalize hk4 : kin L n id lo hi = kf at *
  generalize inV L (n + 1) id lo hi = x at *
  clear hk4
  obtain ⟨⟨c0, c1, c2, c3, c4, c5, c6⟩, _⟩ := row7 HS.out.r4
  go_enter Tryz.func46, Tryz.ntmps46
  go_wp2_with fail
  clear c0 c1 c2 c3 c4 c5 c6
  generalize World.alloc _ _ = W at HS ⊢
  generalize hV : Value.agg #[.int .i64 q.k0, .int .i64 q.k1, .int .i64 q.k2, .int .i64 q.k3] = V at HIX ⊢
  clear hV
  go_loopw [24] (fun i wr => ∃ k : Nat, k ≤ 4 ∧ i = .int .i64 (k : Int) ∧ Hid (CnS L E M w q id lo hi (kf k) wr)) (fun i _ => 4 - (intOf i).toNat)
  case atStart => exact ⟨0, by omega, rfl, HS⟩
  case round =>
    clear HS
    obtain ⟨k, hk, rfl, HR⟩ := hrel
    have k0 : (0 : Int) ≤ (k : Int) := by omega
    by_cases hlt : k < 4
    · have k1 : (k : Int) < 4 := by omega
      have HLT := Lib.hid hlt
      have hx := HIX.out k hlt
      have HC1 := Lib.hid (HC.out k hlt)
      have HM1 := Lib.hid (HMI.out k hlt)
      have HI1 := Lib.hid (HIH.out k hlt)
      have HN1 := Lib.hid (And.intro (HNX.out k) (And.intro (HLE.out k) (HLE.out (k + 1)).1))
      clear hlt
      obtain ⟨⟨c0, c1, c2, c3, c4, c5, c6⟩, _⟩ := row7 HR.out.r4
      go_wp2_with fail
      refine (HC1.out _).mono ?_
      rintro e w1 ⟨rfl, hb⟩
      generalize crn (2 ^ (n + 3)) k = cr at *
      have HR1 := Lib.hid ((HR.out.below hb).below (alX w1 (ca2 cr)))
      have HR0 := Lib.hid (HR.out.below hb)
      have H11 := Lib.hid (heap_alloc_new w1 (ca2 cr))
      clear hb HC1 c0 c1 c2 c3 c4 c5 c6 hx
      go_upto_region 9 with (fail)
      generalize World.alloc _ _ = W1 at HR1 H11 ⊢
      have HM11 := Lib.hid (show ¬ w1.heap.size = M from by have := HR0.out.mm; have := HR0.out.cg.s.size; omega)
      generalize w1.heap.size = g11 at H11 HM11 ⊢
      clear HR HR0
      have HB0 : Below W1.heap.size W1 W1.drew := (Below.refl _ _).drew
      have HB00 : Below W1.heap.size W1 W1 := Below.refl _ _
      have HSS := Lib.hid (fun (W' : World) (hb : Below W1.heap.size W1 W') => And.intro (row_p5 (HR1.out.below hb).r5) (row_cl (row_keep H11.out hb (Nat.le_refl _))))
      have HSC := Lib.hid (fun (W' W2 : World) (hb : Below W1.heap.size W1 W') (hg : Cg L E M W' W2) => And.intro (row_p5 ((HR1.out.below hb).step hg).r5) (row_cl (hg.row (row_keep H11.out hb (Nat.le_refl _)) HM11.out)))
      have HCT := Lib.hid (fun (W' : World) (hb : Below W1.heap.size W1 W') => HI1.out W' (HR1.out.below hb).cg)
      go_region_held3 (fun w' => (w'.cell? ⟨w.heap.size + 1, 0, none⟩ = some (.int .i64 id) ∧ w'.cell? ⟨w.heap.size + 1, 1, none⟩ = some (.int .i64 lo.1) ∧ w'.cell? ⟨w.heap.size + 1, 2, none⟩ = some (.int .i64 lo.2) ∧ w'.cell? ⟨w.heap.size + 1, 3, none⟩ = some (.int .i64 hi.1) ∧ w'.cell? ⟨w.heap.size + 1, 4, none⟩ = some (.int .i64 hi.2)) ∧ (w'.cell? ⟨g11, 0, none⟩ = some (.int .i64 cr.1) ∧ w'.cell? ⟨g11, 1, none⟩ = some (.int .i64 cr.2) ∧ w'.frozen? ⟨g11, 0, none⟩ = false ∧ w'.frozen? ⟨g11, 1, none⟩ = false)) (first | with_reducible exact HSS.out _ (by assumption) | with_reducible exact HSC.out _ _ (by assumption) (by assumption)) (first | (go_at_call 73; refine (HM1.out _ _ (by first | exact .inl ⟨rfl, rfl⟩ | exact .inr ⟨rfl, rfl⟩) _).mono ?_; rintro e w2 ⟨rfl, hb⟩; have hb1 := bstep (W0 := W1) (by assumption) hb; clear hb) | (go_at_call 24; refine (HCT.out _ (by assumption)).mono ?_; rintro e w4 ⟨rfl, hg4⟩))
      rename_i hHeld
      clear hHeld
      have HR4 := Lib.hid ((HR1.out.below (show Below W1.heap.size W1 _ by assumption)).step hg4)
      obtain ⟨c8, f8⟩ := row_cl1 HR4.out.r8
      clear hg4
      obtain ⟨⟨⟨a0, a1⟩, a2, a3⟩, a4, a5⟩ := HN1.out.2
      have hnx := HN1.out.1
      unfold big at a1 a3 a5 hnx
      have HQ := Lib.hid hnx
      rw [hnx] at a4 a5
      clear hnx
      generalize inV L n (kid q k) (mi lo cr) (mi hi cr) = y at *
      generalize kf k = z at *
      go_wp2
      go_roundw
      case rel =>
        refine ⟨k + 1, by have := HLT.out; omega, by go_num, ?_⟩
        rw [HQ.out]
        exact Lib.hid (HR4.out.put _)
      case measure => have := HLT.out; simp [intOf]; omega
    · obtain rfl : k = 4 := by omega
      rw [HALL.out] at HR
      obtain ⟨c8, _⟩ := row_cl1 HR.out.r8
      go_wp2
      go_ret2
      exact ⟨rfl, HR.out.cg⟩
end Go.Proofs.YtifkhmcdgmnipaaGreatDoor

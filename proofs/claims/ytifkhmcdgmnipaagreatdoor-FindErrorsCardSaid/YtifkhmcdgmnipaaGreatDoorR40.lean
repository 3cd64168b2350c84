/-
  THE WALK of has and of the closure that counts; a counter in memory. Conditions: those that each lemma names.
-/
import Derived.Test.YtifkhmcdgmnipaaGreatDoorR39
namespace Go.Proofs.YtifkhmcdgmnipaaGreatDoor
open Go.RowKit Ti Qd Ce Cl Go.Maps Go.WideMaps

abbrev pb (id : Int) (lo hi : Cel) : Obj := .cells #[.int .i64 id, .int .i64 lo.1, .int .i64 lo.2, .int .i64 hi.1, .int .i64 hi.2] 66
theorem inb_f1 {lo hi c : Cel} (h : ¬ lo.1 ≤ c.1) : inb lo hi c = false := by unfold inb; rw [decide_eq_false_iff_not]; omega
theorem inb_f2 {lo hi c : Cel} (h : ¬ c.1 ≤ hi.1) : inb lo hi c = false := by unfold inb; rw [decide_eq_false_iff_not]; omega
theorem inb_f3 {lo hi c : Cel} (h : ¬ lo.2 ≤ c.2) : inb lo hi c = false := by unfold inb; rw [decide_eq_false_iff_not]; omega
theorem inb_f4 {lo hi c : Cel} (h1 : lo.1 ≤ c.1) (h2 : c.1 ≤ hi.1) (h3 : lo.2 ≤ c.2) : inb lo hi c = decide (c.2 ≤ hi.2) := by unfold inb; rw [decide_eq_decide]; omega
set_option maxRecDepth 100000 in
set_option maxHeartbeats 1000000 in
theorem has_ok (id : Int) (lo hi c : Cel) (w : World) :
    Calls Tryz.prog 72 #[pv (id, lo, hi), cv c] w fun e w' => e = .returned (.bool (inb lo hi c)) ∧ Below w.heap.size w w' := by
  have HB := Lib.hid (show Below w.heap.size w ((w.alloc (pb id lo hi)).alloc (ca2 c)) from (alX w _).trans ((alX _ _).mono (by simp)))
  have f1 := Lib.hid (inb_f1 (lo := lo) (hi := hi) (c := c))
  have f2 := Lib.hid (inb_f2 (lo := lo) (hi := hi) (c := c))
  have f3 := Lib.hid (inb_f3 (lo := lo) (hi := hi) (c := c))
  have f4 := Lib.hid (inb_f4 (lo := lo) (hi := hi) (c := c))
  generalize inb lo hi c = b at *
  obtain ⟨lx, ly⟩ := lo
  obtain ⟨hx, hy⟩ := hi
  obtain ⟨cx, cy⟩ := c
  simp only at f1 f2 f3 f4
  unfold pv cv
  by_cases h1 : lx ≤ cx
  · by_cases h2 : cx ≤ hx
    · by_cases h3 : ly ≤ cy
      · have e := f4.out h1 h2 h3
        subst e
        go_enter Tryz.func72, Tryz.ntmps72
        go_wp2
        go_ret
        exact ⟨rfl, HB.out⟩
      · have e := f3.out h3
        subst e
        go_enter Tryz.func72, Tryz.ntmps72
        go_wp2
        go_ret
        exact ⟨rfl, HB.out⟩
    · have e := f2.out h2
      subst e
      go_enter Tryz.func72, Tryz.ntmps72
      go_wp2
      go_ret
      exact ⟨rfl, HB.out⟩
  · have e := f1.out h1
    subst e
    go_enter Tryz.func72, Tryz.ntmps72
    go_wp2
    go_ret
    exact ⟨rfl, HB.out⟩
/-- how many so far -/
def In (id : Int) (lo hi : Cel) (g8 g5 : Nat) (pre : List Cel) (W : World) (F : Nat → Prop) : Prop :=
  W.heap[g8]? = some (in1 (((pre.filter (inb lo hi)).length : Nat) : Int)) ∧ W.heap[g5]? = some (pb id lo hi) ∧ ¬ g8 = g5 ∧ F = fun b => b = g8 ∨ b = g5
theorem row_p5 {w : World} {g : Nat} {id : Int} {lo hi : Cel} (h : w.heap[g]? = some (pb id lo hi)) : w.cell? ⟨g, 0, none⟩ = some (.int .i64 id) ∧ w.cell? ⟨g, 1, none⟩ = some (.int .i64 lo.1) ∧ w.cell? ⟨g, 2, none⟩ = some (.int .i64 lo.2) ∧ w.cell? ⟨g, 3, none⟩ = some (.int .i64 hi.1) ∧ w.cell? ⟨g, 4, none⟩ = some (.int .i64 hi.2) :=
  ⟨cell_of_row w g 0 _ _ _ h, cell_of_row w g 1 _ _ _ h, cell_of_row w g 2 _ _ _ h, cell_of_row w g 3 _ _ _ h, cell_of_row w g 4 _ _ _ h⟩
theorem row_p5f {w : World} {g : Nat} {id : Int} {lo hi : Cel} (h : w.heap[g]? = some (pb id lo hi)) : w.frozen? ⟨g, 0, none⟩ = false ∧ w.frozen? ⟨g, 1, none⟩ = false ∧ w.frozen? ⟨g, 2, none⟩ = false ∧ w.frozen? ⟨g, 3, none⟩ = false ∧ w.frozen? ⟨g, 4, none⟩ = false :=
  ⟨frozen_of_row w g 0 _ _ h, frozen_of_row w g 1 _ _ h, frozen_of_row w g 2 _ _ h, frozen_of_row w g 3 _ _ h, frozen_of_row w g 4 _ _ h⟩
set_option maxRecDepth 100000 in
set_option maxHeartbeats 2000000 in
theorem counted1_ok (id : Int) (lo hi : Cel) (g8 g5 : Nat) (pre : List Cel) (c : Cel) (w : World) (F : Nat → Prop) (hN : pre.length < 64) (hI : In id lo hi g8 g5 pre w F) :
    Calls Tryz.prog 71 #[cv c, .pointer (some ⟨g5, 0, none⟩), .pointer (some ⟨g8, 0, none⟩)] w fun e w' => e = .returned (.tuple #[]) ∧ ∃ F', In id lo hi g8 g5 (pre ++ [c]) w' F' ∧ Stp w F w' F' := by
  obtain ⟨h8, h5, hne, rfl⟩ := hI
  have hlen : (pre.filter (inb lo hi)).length < 64 := Nat.lt_of_le_of_lt (List.length_filter_le _ _) hN
  have HH := Lib.hid (has_ok id lo hi c (w.alloc (ca2 c)))
  have HA := Lib.hid (And.intro (alX w (ca2 c)) (And.intro (row_keep h8 (alX w (ca2 c)) (Nat.le_refl _)) (row_keep h5 (alX w (ca2 c)) (Nat.le_refl _))))
  have HNX := Lib.hid (show (((pre ++ [c]).filter (inb lo hi)).length : Int) = ((pre.filter (inb lo hi)).length : Int) + (if inb lo hi c = true then 1 else 0) by
    rw [List.filter_append, List.length_append]
    by_cases e : inb lo hi c = true
    · rw [if_pos e]
      simp [e]
    · rw [if_neg e]
      simp [e])
  have HNE := Lib.hid hne
  clear h8 h5 hne hN
  generalize (pre.filter (inb lo hi)).length = m at *
  have HF := Lib.hid (fun (W : World) (x : Int) (hb : Below w.heap.size w W) (r8 : W.heap[g8]? = some (in1 x)) (r5 : W.heap[g5]? = some (pb id lo hi)) (hx : (((pre ++ [c]).filter (inb lo hi)).length : Int) = x) =>
    (show ∃ F', In id lo hi g8 g5 (pre ++ [c]) W F' ∧ Stp w (fun b => b = g8 ∨ b = g5) W F' from ⟨_, ⟨by rw [hx]; exact r8, r5, HNE.out, rfl⟩, hb.os, hb.tape, hb.output, hb.size, fun k hk _ => hb.block k hk, fun k hk => .inl hk⟩))
  obtain ⟨p0, p1, p2, p3, p4⟩ := row_p5 HA.out.2.2
  have hcs := row_cl (heap_alloc_new w (ca2 c))
  obtain ⟨d0, d1, _, _⟩ := hcs
  have HFS := Lib.hid (fun (W : World) (hb : Below w.heap.size w W) (r8 : W.heap[g8]? = some (in1 (m : Int))) (r5 : W.heap[g5]? = some (pb id lo hi)) (x : Int) (hx : (((pre ++ [c]).filter (inb lo hi)).length : Int) = x) =>
    (show ∃ F', In id lo hi g8 g5 (pre ++ [c]) (W.setCell ⟨g8, 0, none⟩ (.int .i64 x)) F' ∧ Stp w (fun b => b = g8 ∨ b = g5) (W.setCell ⟨g8, 0, none⟩ (.int .i64 x)) F' from
      ⟨_, ⟨by rw [hx]; exact row_set1 r8 _, (Below.heap_setCell _ _ _ _ (fun e => HNE.out e.symm)).trans r5, HNE.out, rfl⟩, hb.os, hb.tape, hb.output, Nat.le_trans hb.size (by simp), fun k hk hn => (Below.heap_setCell _ _ _ _ (fun e => hn (.inl e))).trans (hb.block k hk), fun k hk => .inl hk⟩))
  unfold pv cv at *
  generalize inb lo hi c = b at *
  go_enter Tryz.func71, Tryz.ntmps71
  go_wp2_with fail
  refine HH.out.mono ?_
  rintro e w2 ⟨rfl, hb⟩
  have hb2 := bstep HA.out.1 hb
  have HR := Lib.hid (And.intro hb2 (And.intro (row_keep HA.out.2.1 hb (Nat.le_refl _)) (row_keep HA.out.2.2 hb (Nat.le_refl _))))
  obtain ⟨c8, f8⟩ := row_cl1 HR.out.2.1
  have m0 : (0 : Int) ≤ (m : Int) := by omega
  have m1 : (m : Int) < 64 := by omega
  clear hb hb2 HH p0 p1 p2 p3 p4 d0 d1
  cases b
  · go_wp2
    go_end0
    exact ⟨rfl, HF.out w2 (m : Int) HR.out.1 HR.out.2.1 HR.out.2.2 (by rw [HNX.out]; simp)⟩
  · go_wp2
    go_end0
    exact ⟨rfl, HFS.out w2 HR.out.1 HR.out.2.1 HR.out.2.2 _ (by rw [HNX.out]; simp)⟩
theorem count_tk (id : Int) (lo hi : Cel) (g8 g5 : Nat) : Tk 64 8 71 #[] #[.pointer (some ⟨g5, 0, none⟩), .pointer (some ⟨g8, 0, none⟩)] (In id lo hi g8 g5) where
  enter := enter_run Tryz.func71 (by kernel_rfl) (by kernel_rfl)
  lt := by
    rintro pre w F ⟨h1, h2, h3, rfl⟩ b (rfl | rfl)
    · exact lt_of_block h1
    · exact lt_of_block h2
  up := by
    rintro pre w w' F ⟨h1, h2, h3, rfl⟩ _ hb
    exact ⟨(hb g8 (.inl rfl)).trans h1, (hb g5 (.inr rfl)).trans h2, h3, rfl⟩
  call := fun pre c w F hn _ hI => counted1_ok id lo hi g8 g5 pre c w F hn hI
/-- what comes of a counter: the map alone turns -/
structure Cg (L : List Sq) (E : Cnr) (M : Nat) (w w' : World) : Prop where
  s : Stp w (fun b => b = M) w' (fun b => b = M)
  k : KAtP L E w' M
structure Ct (B P : Nat) (L : List Sq) (room : Nat) (H : Nat → Prop) (C M : Nat) (E : Cnr) (w : World) : Prop where
  st : St B w P L room H
  row : w.heap[C]? = some (.cells #[.pointer (some ⟨P, 0, none⟩), .map (some M)] 63)
  kn : KAtP L E w M
  hM : ¬ H M
  cM : ¬ C = M
  tab : TabZ w
  tM : ¬ 2 = M
theorem Ct.go {B P : Nat} {L : List Sq} {room : Nat} {H : Nat → Prop} {C M : Nat} {E : Cnr} {w w' : World} (h : Ct B P L room H C M E w) (hg : Cg L E M w w') : Ct B P L room H C M E w' :=
  ⟨h.st.moved fun b hb => hg.s.block b (h.st.lt b hb).2 (fun e => h.hM (e ▸ hb)), hg.s.row h.row h.cM, hg.k, h.hM, h.cM, (h.tab.stp h.tM hg.s).1, h.tM⟩
theorem Ct.below {B P : Nat} {L : List Sq} {room : Nat} {H : Nat → Prop} {C M : Nat} {E : Cnr} {w w' : World} (h : Ct B P L room H C M E w) (hb : Below w.heap.size w w') : Cg L E M w w' :=
  ⟨.of_below hb, h.kn.moved (hb.block _ h.kn.lt)⟩
theorem Cg.trans {L : List Sq} {E : Cnr} {M : Nat} {a b c : World} (h : Cg L E M a b) (k : Cg L E M b c) : Cg L E M a c := ⟨h.s.trans k.s, k.k⟩
theorem Cg.row {L : List Sq} {E : Cnr} {M : Nat} {a b : World} {g : Nat} {o : Obj} (h : Cg L E M a b) (hr : a.heap[g]? = some o) (hn : ¬ g = M) : b.heap[g]? = some o := h.s.row hr hn
end Go.Proofs.YtifkhmcdgmnipaaGreatDoor

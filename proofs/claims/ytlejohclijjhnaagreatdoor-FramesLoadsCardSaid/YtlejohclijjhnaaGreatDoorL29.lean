/-
  WALKS of the small calls of frames: farthest, partsOf, goesOn, fourAt. Conditions: the levels are small; the slice is as long as it must be.
  WALK of sixteen: the four of each of a square's four. Conditions: the store lies in memory, the square is of level 5 or above.
-/
import Derived.Test.YtlejohclijjhnaaGreatDoorL28
namespace Go.Proofs.YtlejohclijjhnaaGreatDoor.Fm
open Go.RowKit Ti Qd Go.Maps Go.WideMaps Ru

theorem farthest_f (n : Int) (h0 : 0 ≤ n) (h1 : n ≤ 100) (w : World) : Calls Tryz.prog 33 #[.int .i64 n] w fun e w' => e = .returned (.int .i64 (n - 2)) ∧ w = w' := by
  go_enter Tryz.func33, Tryz.ntmps33
  go_wp2
  go_ret
  exact ⟨rfl, rfl⟩
def parts (lev : Int) : Int := if lev = 4 then 0 else 13
theorem partsOf_f (n : Int) (w : World) : Calls Tryz.prog 52 #[.int .i64 n] w fun e w' => e = .returned (.int .i64 (parts n)) ∧ w = w' := by
  unfold parts
  by_cases h : n = 4
  · subst h
    go_enter Tryz.func52, Tryz.ntmps52
    go_wp2
    go_ret
    exact ⟨rfl, rfl⟩
  · rw [if_neg h]
    have hd : (n == 4) = false := by simpa using h
    go_enter Tryz.func52, Tryz.ntmps52
    go_wp2
    go_ret
    exact ⟨rfl, rfl⟩
def goB (lev j : Int) : Bool := decide (4 ≤ lev ∧ 0 ≤ j ∧ j ≤ lev - 2)
set_option maxRecDepth 100000 in
theorem goesOn_f (lev j : Int) (h0 : 3 ≤ lev) (h1 : lev ≤ 40) (w : World) : Calls Tryz.prog 22 #[.int .i64 lev, .int .i64 j] w fun e w' => e = .returned (.bool (goB lev j)) ∧ w = w' := by
  by_cases a : 4 ≤ lev
  · by_cases c : 0 ≤ j
    · by_cases d : j ≤ lev - 2
      · have e : goB lev j = true := decide_eq_true ⟨a, c, d⟩
        rw [e]
        go_enter Tryz.func22, Tryz.ntmps22
        go_wp2_with (first | (go_at_call 33; refine (farthest_f _ (by omega) (by omega) _).mono ?_; rintro e w' ⟨rfl, rfl⟩))
        go_ret
        exact ⟨rfl, rfl⟩
      · have e : goB lev j = false := decide_eq_false fun h => d h.2.2
        have hd : decide (j ≤ lev - 2) = false := decide_eq_false d
        rw [e]
        go_enter Tryz.func22, Tryz.ntmps22
        go_wp2_with (first | (go_at_call 33; refine (farthest_f _ (by omega) (by omega) _).mono ?_; rintro e w' ⟨rfl, rfl⟩))
        go_ret
        exact ⟨rfl, rfl⟩
    · have e : goB lev j = false := decide_eq_false fun h => c h.2.1
      have hd : decide (0 ≤ j) = false := decide_eq_false c
      rw [e]
      go_enter Tryz.func22, Tryz.ntmps22
      go_wp2
      go_ret
      exact ⟨rfl, rfl⟩
  · have e : goB lev j = false := decide_eq_false fun h => a h.1
    have hd : decide (4 ≤ lev) = false := decide_eq_false a
    rw [e]
    go_enter Tryz.func22, Tryz.ntmps22
    go_wp2
    go_ret
    exact ⟨rfl, rfl⟩
set_option maxRecDepth 100000 in
set_option maxHeartbeats 2000000 in
theorem four_4 (g o i n c : Nat) (hi : i < 9) (hn : 16 ≤ n) (hc : n ≤ c) (hm : c ≤ 9223372036854775807) (F : Nat → Int) (w : World) (h : ∀ i, i < n → w.cell? ⟨g, o + i, none⟩ = some (.int .i64 (F i))) :
    Calls Tryz.prog 53 #[.slice (some ⟨g, o, none⟩) n c, .int .i64 4, .int .i64 i] w fun e w' => e = .returned (.agg #[.int .i64 (F (at4 4 i)), .int .i64 (F (at4 4 i + 1)), .int .i64 (F (at4 4 i + 4)), .int .i64 (F (at4 4 i + 4 + 1))]) ∧ Below w.heap.size w w' := by
  obtain ⟨k, hk⟩ : ∃ k, k = at4 4 i := ⟨_, rfl⟩
  rw [← hk]
  have k1 : k + 4 + 1 < n := by unfold at4 at hk; omega
  have hg : g < w.heap.size := World.block_lt_of_cell? w _ (h 0 (by omega))
  have hb := alX w z4
  have hz := heap_alloc_new w z4
  have ce : ∀ i, i < n → (w.alloc z4).cell? ⟨g, o + i, none⟩ = some (.int .i64 (F i)) := fun i hi => (World.cell?_of_block (hb.block _ hg)).trans (h i hi)
  have hne : ¬ w.heap.size = g := by omega
  have HB := Lib.hid hb
  have HZ := Lib.hid hz
  have c0 := ce k (by omega)
  have c1 := ce (k + 1) (by omega)
  have c2 := ce (k + 4) (by omega)
  have c3 := ce (k + 4 + 1) k1
  generalize F k = x0 at *
  generalize F (k + 1) = x1 at *
  generalize F (k + 4) = x2 at *
  generalize F (k + 4 + 1) = x3 at *
  have k2 : (k : Int) + 4 + 1 < (n : Int) := by omega
  have n1 : (n : Int) ≤ (c : Int) := by omega
  have c9 : (c : Int) ≤ 9223372036854775807 := by omega
  clear h hb ce hg hn hc hm k1
  have HK := Lib.hid hk
  clear hk
  go_enter Tryz.func53, Tryz.ntmps53
  go_wp2
  go_quiet (fail)
  go_wp2
  have e : (i : Int) / 3 * 4 + (i : Int) % 3 = (k : Int) := by rw [HK.out]; unfold at4; omega
  rw [e]
  have HB2 := Lib.hid (Below.drewN' HB.out nq)
  have HZ2 := Lib.hid (show ((w.alloc z4).drewN nq).heap[w.heap.size]? = some z4 from HZ.out)
  have c0 : ((w.alloc z4).drewN nq).cell? ⟨g, o + k, none⟩ = some (.int .i64 x0) := c0
  have c1 : ((w.alloc z4).drewN nq).cell? ⟨g, o + (k + 1), none⟩ = some (.int .i64 x1) := c1
  have c2 : ((w.alloc z4).drewN nq).cell? ⟨g, o + (k + 4), none⟩ = some (.int .i64 x2) := c2
  have c3 : ((w.alloc z4).drewN nq).cell? ⟨g, o + (k + 4 + 1), none⟩ = some (.int .i64 x3) := c3
  clear e HB HZ hz hi
  generalize ((w.alloc z4).drewN nq) = W at *
  obtain ⟨b0, b1, b2, b3⟩ := row4 HZ2.out
  have f0 := frozen_of_row _ _ 0 _ _ HZ2.out
  have f1 := frozen_of_row _ _ 1 _ _ HZ2.out
  have f2 := frozen_of_row _ _ 2 _ _ HZ2.out
  have f3 := frozen_of_row _ _ 3 _ _ HZ2.out
  go_region
  go_wp2
  refine post_cell_row Tryz.results53 w.heap.size 93 #[.int .i64 x0, .int .i64 x1, .int .i64 x2, .int .i64 x3] (0, 0) _ Tryz.underlying93 rfl info_4 ?_ (row_set4 HZ2.out _ _ _ _) ?_ ?_
  · rfl
  · rfl
  exact ⟨rfl, (below_set4 HB2.out (Nat.le_refl _) _ _ _ _).drew⟩
set_option maxRecDepth 100000 in
set_option maxHeartbeats 2000000 in
theorem four_3 (g o i n c : Nat) (hi : i < 4) (hn : 9 ≤ n) (hc : n ≤ c) (hm : c ≤ 9223372036854775807) (F : Nat → Int) (w : World) (h : ∀ i, i < n → w.cell? ⟨g, o + i, none⟩ = some (.int .i64 (F i))) :
    Calls Tryz.prog 53 #[.slice (some ⟨g, o, none⟩) n c, .int .i64 3, .int .i64 i] w fun e w' => e = .returned (.agg #[.int .i64 (F (at4 3 i)), .int .i64 (F (at4 3 i + 1)), .int .i64 (F (at4 3 i + 3)), .int .i64 (F (at4 3 i + 3 + 1))]) ∧ Below w.heap.size w w' := by
  obtain ⟨k, hk⟩ : ∃ k, k = at4 3 i := ⟨_, rfl⟩
  rw [← hk]
  have k1 : k + 3 + 1 < n := by unfold at4 at hk; omega
  have hg : g < w.heap.size := World.block_lt_of_cell? w _ (h 0 (by omega))
  have hb := alX w z4
  have hz := heap_alloc_new w z4
  have ce : ∀ i, i < n → (w.alloc z4).cell? ⟨g, o + i, none⟩ = some (.int .i64 (F i)) := fun i hi => (World.cell?_of_block (hb.block _ hg)).trans (h i hi)
  have hne : ¬ w.heap.size = g := by omega
  have HB := Lib.hid hb
  have HZ := Lib.hid hz
  have c0 := ce k (by omega)
  have c1 := ce (k + 1) (by omega)
  have c2 := ce (k + 3) (by omega)
  have c3 := ce (k + 3 + 1) k1
  generalize F k = x0 at *
  generalize F (k + 1) = x1 at *
  generalize F (k + 3) = x2 at *
  generalize F (k + 3 + 1) = x3 at *
  have k2 : (k : Int) + 3 + 1 < (n : Int) := by omega
  have n1 : (n : Int) ≤ (c : Int) := by omega
  have c9 : (c : Int) ≤ 9223372036854775807 := by omega
  clear h hb ce hg hn hc hm k1
  have HK := Lib.hid hk
  clear hk
  go_enter Tryz.func53, Tryz.ntmps53
  go_wp2
  go_quiet (fail)
  go_wp2
  have e : (i : Int) / 2 * 3 + (i : Int) % 2 = (k : Int) := by rw [HK.out]; unfold at4; omega
  rw [e]
  have HB2 := Lib.hid (Below.drewN' HB.out nq)
  have HZ2 := Lib.hid (show ((w.alloc z4).drewN nq).heap[w.heap.size]? = some z4 from HZ.out)
  have c0 : ((w.alloc z4).drewN nq).cell? ⟨g, o + k, none⟩ = some (.int .i64 x0) := c0
  have c1 : ((w.alloc z4).drewN nq).cell? ⟨g, o + (k + 1), none⟩ = some (.int .i64 x1) := c1
  have c2 : ((w.alloc z4).drewN nq).cell? ⟨g, o + (k + 3), none⟩ = some (.int .i64 x2) := c2
  have c3 : ((w.alloc z4).drewN nq).cell? ⟨g, o + (k + 3 + 1), none⟩ = some (.int .i64 x3) := c3
  clear e HB HZ hz hi
  generalize ((w.alloc z4).drewN nq) = W at *
  obtain ⟨b0, b1, b2, b3⟩ := row4 HZ2.out
  have f0 := frozen_of_row _ _ 0 _ _ HZ2.out
  have f1 := frozen_of_row _ _ 1 _ _ HZ2.out
  have f2 := frozen_of_row _ _ 2 _ _ HZ2.out
  have f3 := frozen_of_row _ _ 3 _ _ HZ2.out
  go_region
  go_wp2
  refine post_cell_row Tryz.results53 w.heap.size 93 #[.int .i64 x0, .int .i64 x1, .int .i64 x2, .int .i64 x3] (0, 0) _ Tryz.underlying93 rfl info_4 ?_ (row_set4 HZ2.out _ _ _ _) ?_ ?_
  · rfl
  · rfl
  exact ⟨rfl, (below_set4 HB2.out (Nat.le_refl _) _ _ _ _).drew⟩
set_option maxRecDepth 100000 in
set_option maxHeartbeats 2000000 in
theorem four_2 (g o n c : Nat) (hn : 4 ≤ n) (hc : n ≤ c) (hm : c ≤ 9223372036854775807) (F : Nat → Int) (w : World) (h : ∀ i, i < n → w.cell? ⟨g, o + i, none⟩ = some (.int .i64 (F i))) :
    Calls Tryz.prog 53 #[.slice (some ⟨g, o, none⟩) n c, .int .i64 2, .int .i64 0] w fun e w' => e = .returned (.agg #[.int .i64 (F (at4 2 0)), .int .i64 (F (at4 2 0 + 1)), .int .i64 (F (at4 2 0 + 2)), .int .i64 (F (at4 2 0 + 2 + 1))]) ∧ Below w.heap.size w w' := by
  show Calls _ _ _ w fun e w' => e = .returned (.agg #[.int .i64 (F 0), .int .i64 (F 1), .int .i64 (F 2), .int .i64 (F 3)]) ∧ Below w.heap.size w w'
  have hg : g < w.heap.size := World.block_lt_of_cell? w _ (h 0 (by omega))
  have hb := alX w z4
  have hz := heap_alloc_new w z4
  have ce : ∀ i, i < n → (w.alloc z4).cell? ⟨g, o + i, none⟩ = some (.int .i64 (F i)) := fun i hi => (World.cell?_of_block (hb.block _ hg)).trans (h i hi)
  have hne : ¬ w.heap.size = g := by omega
  have HB := Lib.hid hb
  have HZ := Lib.hid hz
  have c0 := ce 0 (by omega)
  have c1 := ce 1 (by omega)
  have c2 := ce 2 (by omega)
  have c3 := ce 3 (by omega)
  generalize F 0 = x0 at *
  generalize F 1 = x1 at *
  generalize F 2 = x2 at *
  generalize F 3 = x3 at *
  have k2 : (3 : Int) < (n : Int) := by omega
  have k3 : (0 : Int) < (n : Int) := by omega
  have k4 : (1 : Int) < (n : Int) := by omega
  have k5 : (2 : Int) < (n : Int) := by omega
  have n1 : (n : Int) ≤ (c : Int) := by omega
  have c9 : (c : Int) ≤ 9223372036854775807 := by omega
  clear h hb ce hg hn hc hm
  go_enter Tryz.func53, Tryz.ntmps53
  go_wp2
  go_quiet (fail)
  go_wp2
  have HB2 := Lib.hid (Below.drewN' HB.out nq)
  have HZ2 := Lib.hid (show ((w.alloc z4).drewN nq).heap[w.heap.size]? = some z4 from HZ.out)
  have c0 : ((w.alloc z4).drewN nq).cell? ⟨g, o, none⟩ = some (.int .i64 x0) := c0
  have c1 : ((w.alloc z4).drewN nq).cell? ⟨g, o + 1, none⟩ = some (.int .i64 x1) := c1
  have c2 : ((w.alloc z4).drewN nq).cell? ⟨g, o + 2, none⟩ = some (.int .i64 x2) := c2
  have c3 : ((w.alloc z4).drewN nq).cell? ⟨g, o + 3, none⟩ = some (.int .i64 x3) := c3
  clear HB HZ hz
  generalize ((w.alloc z4).drewN nq) = W at *
  obtain ⟨b0, b1, b2, b3⟩ := row4 HZ2.out
  have f0 := frozen_of_row _ _ 0 _ _ HZ2.out
  have f1 := frozen_of_row _ _ 1 _ _ HZ2.out
  have f2 := frozen_of_row _ _ 2 _ _ HZ2.out
  have f3 := frozen_of_row _ _ 3 _ _ HZ2.out
  go_region
  go_wp2
  refine post_cell_row Tryz.results53 w.heap.size 93 #[.int .i64 x0, .int .i64 x1, .int .i64 x2, .int .i64 x3] (0, 0) _ Tryz.underlying93 rfl info_4 ?_ (row_set4 HZ2.out _ _ _ _) ?_ ?_
  · rfl
  · rfl
  exact ⟨rfl, (below_set4 HB2.out (Nat.le_refl _) _ _ _ _).drew⟩
end Go.Proofs.YtlejohclijjhnaaGreatDoor.Fm
namespace Go.Proofs.YtlejohclijjhnaaGreatDoor.Fm
open Go.RowKit Ti Qd Go.Maps Go.WideMaps Ru

/-- only new blocks -/
def T0 : World → (Nat → Prop) → Prop := fun _ H => H = fun _ => False
theorem t0_fpt : Fpt 0 T0 where
  lt := by
    rintro w H rfl x hx
    exact hx.elim
  mv := fun h _ => h
abbrev Bw (w0 : World) (bx : List (Nat × Obj)) (w : World) : Prop := Bs T0 w0 (fun _ => False) bx w
theorem Bs.bel {w0 w : World} {bx : List (Nat × Obj)} (h : Bw w0 bx w) : Below w0.heap.size w0 w := by
  obtain ⟨⟨H, h1, h2, _⟩, _⟩ := h
  rw [h1] at h2
  exact h2.below (fun b hb => by cases hb) (Nat.le_refl _)
theorem bw_start (w : World) : Bw w [] w := Bs.start rfl
theorem cell_bel {w w' : World} {g o : Nat} {v : Value} (h : w.cell? ⟨g, o, none⟩ = some v) (hb : Below w.heap.size w w') : w'.cell? ⟨g, o, none⟩ = some v :=
  (World.cell?_of_block (hb.block g (World.block_lt_of_cell? w _ h))).trans h
theorem _root_.Go.Proofs.YtlejohclijjhnaaGreatDoor.St.bel {B : Nat} {w w' : World} {P : Nat} {L : List Sq} {room : Nat} {H : Nat → Prop} (h : St B w P L room H) (hb : Below w.heap.size w w') : St B w' P L room H := h.below hb (Nat.le_refl _)
abbrev box4 (q : Sq) : Obj := .cells #[.int .i64 q.k0, .int .i64 q.k1, .int .i64 q.k2, .int .i64 q.k3] 93
abbrev o16 (F : Nat → Int) : Obj := .cells (ir F 16) 139
set_option maxRecDepth 100000 in
set_option maxHeartbeats 4000000 in
theorem sixteen_f {B : Nat} {w : World} {P : Nat} {L : List Sq} {room : Nat} {Hs : Nat → Prop} {G : Nat} (hst : St B w P L room Hs) (hc : w.cell? ⟨G, 0, none⟩ = some (.pointer (some ⟨P, 0, none⟩))) (id : Int) (n : Nat) (hl : Lv L (n + 2) id) :
    Calls Tryz.prog 54 #[.pointer (some ⟨G, 0, none⟩), .int .i64 id] w fun e w' => e = .returned (.tuple #[.agg (ir (sxt L id) 16), .nilIface]) ∧ Below w.heap.size w w' := by
  have HS : Hid (Bw w [(w.heap.size + 1, o16 (lyF (sxt L id) (4 * 0))), (w.heap.size, o16 (fun _ => 0))] ((w.alloc z16).alloc z16)) := Lib.hid (((bw_start w).alloc t0_fpt (o16 (fun _ => 0)) rfl).alloc t0_fpt (o16 (fun _ => 0)) (n := w.heap.size + 1) (by simp))
  have HST := Lib.hid hst
  have HC := Lib.hid hc
  have hi := hst.inv
  have HF := Lib.hid (fun i (_ : i < 4) => hi.kid hl i)
  have HX := Lib.hid (fun i j (h1 : i < 4) (h2 : j < 4) => (show sxt L id (lyP i j) = kid (at' L (kid (at' L id) i)) j from sx4_at L (fun i => kid (at' L id) i) i j h1 h2))
  have HL := Lib.hid hl
  clear hst hc hi hl
  generalize hS : sxt L id = S at *
  have HSS := Lib.hid hS
  clear hS
  generalize hq : at' L id = q at *
  have HQ := Lib.hid hq
  clear hq
  go_enter Tryz.func54, Tryz.ntmps54
  go_upto_region 2 with (fail)
  generalize World.alloc _ _ = W at HS ⊢
  have hc := cell_bel HC.out HS.out.bel
  have HK := Lib.hid (kids_ok (HST.out.bel HS.out.bel) (n + 1) id HL.out q HQ.out)
  go_wp2_with fail
  refine HK.out.mono ?_
  rintro e w1 ⟨rfl, hb⟩
  have HS1 := Lib.hid ((HS.out.below t0_fpt hb).alloc t0_fpt (box4 q) rfl)
  clear hb HS hc HK
  go_upto_region 3 with (fail)
  generalize hg7 : w1.heap.size = g7 at *
  clear hg7
  generalize World.alloc _ _ = W1 at HS1 ⊢
  obtain ⟨c0, c1, c2, c3⟩ := row4 HS1.out.b0
  have HS2 := Lib.hid HS1.out.tail
  clear HS1
  go_wp2
  go_loopw [29] (fun i wr => ∃ k : Nat, k ≤ 4 ∧ i = .int .i64 k ∧ Hid (Bw w [(w.heap.size + 1, o16 (lyF S (4 * k))), (w.heap.size, o16 (fun _ => 0))] wr)) (fun i _ => 4 - (intOf i).toNat)
  case atStart => exact ⟨0, by omega, rfl, HS2⟩
  case round =>
    clear HS2 c0 c1 c2 c3
    obtain ⟨k, hk, rfl, HR⟩ := hrel
    have k0 : (0 : Int) ≤ (k : Int) := by omega
    by_cases hlt : k < 4
    · have k1 : (k : Int) < 4 := by omega
      have hx : ∀ W, (Instr.index 93 (.agg #[.int .i64 q.k0, .int .i64 q.k1, .int .i64 q.k2, .int .i64 q.k3]) (.int .i64 (k : Int))).run Tryz.prog W = .ok (.int .i64 (kid q k)) W := idx4 (kid q) k hlt
      have hp := cell_bel HC.out HR.out.bel
      have HC1 := Lib.hid (kids_ok (HST.out.bel HR.out.bel) n (kid q k) (HF.out k hlt) _ rfl)
      have HLT := Lib.hid hlt
      have HAT := Lib.hid (fun j hj => HX.out k j hlt hj)
      generalize kid q k = fk at *
      generalize at' L fk = y at *
      go_wp2_with fail
      refine HC1.out.mono ?_
      rintro e w2 ⟨rfl, hb⟩
      have HR1 := Lib.hid ((HR.out.below t0_fpt hb).alloc t0_fpt (box4 y) rfl)
      clear hb HR hx hp HC1
      go_upto_region 9 with (fail)
      generalize hg9 : w2.heap.size = g9 at *
      clear hg9
      generalize World.alloc _ _ = W2 at HR1 ⊢
      obtain ⟨c0, c1, c2, c3⟩ := row4 HR1.out.b0
      have HR2 : Hid (Bw w [(w.heap.size + 1, o16 (lyF S (4 * k + 0))), (w.heap.size, o16 (fun _ => 0))] W2) := Lib.hid HR1.out.tail
      clear HR1
      go_wp2
      go_loopw [47] (fun i wr => ∃ j : Nat, j ≤ 4 ∧ i = .int .i64 j ∧ Hid (Bw w [(w.heap.size + 1, o16 (lyF S (4 * k + j))), (w.heap.size, o16 (fun _ => 0))] wr)) (fun i _ => 4 - (intOf i).toNat)
      case atStart => exact ⟨0, by omega, rfl, HR2⟩
      case round =>
        clear HR2 c0 c1 c2 c3
        obtain ⟨j, hj, rfl, HQ2⟩ := hrel
        have j0 : (0 : Int) ≤ (j : Int) := by omega
        by_cases hjt : j < 4
        · have j1 : (j : Int) < 4 := by omega
          have hx : ∀ W, (Instr.index 93 (.agg #[.int .i64 y.k0, .int .i64 y.k1, .int .i64 y.k2, .int .i64 y.k3]) (.int .i64 (j : Int))).run Tryz.prog W = .ok (.int .i64 (kid y j)) W := idx4 (kid y) j hjt
          have HAJ := Lib.hid (HAT.out j hjt)
          have HJ := Lib.hid hjt
          generalize kid y j = x at *
          have b2 : 4 * (k / 2 * 2 + j / 2) + k % 2 * 2 + j % 2 < 16 := by omega
          have b0 : (0 : Int) ≤ 4 * ((k : Int) / 2 * 2 + (j : Int) / 2) + (k : Int) % 2 * 2 + (j : Int) % 2 := by omega
          have b1 : 4 * ((k : Int) / 2 * 2 + (j : Int) / 2) + (k : Int) % 2 * 2 + (j : Int) % 2 < 16 := by omega
          have hc := ir_cell HQ2.out.b0 (4 * (k / 2 * 2 + j / 2) + k % 2 * 2 + j % 2) b2
          have hf := ir_fro HQ2.out.b0 (4 * (k / 2 * 2 + j / 2) + k % 2 * 2 + j % 2)
          have HP := Lib.hid (show (wr.setCell ⟨w.heap.size + 1, 4 * (k / 2 * 2 + j / 2) + k % 2 * 2 + j % 2, none⟩ (.int .i64 x)).heap[w.heap.size + 1]? = some (o16 (lyF S (4 * k + (j + 1)))) from by
            rw [← ly_step S k j HLT.out HJ.out, HAJ.out]
            exact ir_put HQ2.out.b0 (lyP k j) x)
          generalize lyF S (4 * k + j) (4 * (k / 2 * 2 + j / 2) + k % 2 * 2 + j % 2) = old at *
          go_wp2
          go_roundw
          case rel => exact ⟨j + 1, by have := HJ.out; omega, by go_num, Lib.hid (HQ2.out.set t0_fpt HP.out)⟩
          case measure => have := HJ.out; simp [intOf]; omega
        · obtain rfl : j = 4 := by omega
          go_wp2
          go_roundw
          case rel => exact ⟨k + 1, by have := HLT.out; omega, by go_num, Lib.hid HQ2.out⟩
          case measure => have := HLT.out; simp [intOf]; omega
    · obtain rfl : k = 4 := by omega
      have h0 : wr.heap[w.heap.size + 1]? = some (.cells (ir S 16) 139 (0, 0)) := by rw [← ly_all]; exact HR.out.b0
      have h1 : wr.heap[w.heap.size]? = some (.cells (ir (fun _ => 0) 16) 139 (0, 0)) := HR.out.b1
      have HB := Lib.hid HR.out.bel
      have HR0 := Lib.hid h0
      have HR1 := Lib.hid h1
      have hone := ir_one S 16
      have hinf := info_16 S
      have hsz : (ir (fun _ => 0) 16).size = (ir S 16).size := by rw [ir_size, ir_size]
      have HA := Lib.hid (And.intro hone (And.intro hinf hsz))
      generalize hV : ir S 16 = V at *
      have HV := Lib.hid hV
      generalize ir (fun _ => 0) 16 = Z at *
      clear h0 h1 HR hone hinf hsz hV
      go_wp2_with (first
        | (refine wpList_load_row rfl _ (.tmp 6) rfl (w.heap.size + 1) rfl _ V (0, 0) _ HR0.out Tryz.underlying139 rfl HA.out.2.1 ?_)
        | (refine wpList_store_row rfl 139 (.tmp 4) (.tmp 69) rfl w.heap.size V rfl rfl 139 _ HR1.out HA.out.2.1 HA.out.2.2 HA.out.1 ?_))
      refine post_row_tmp Tryz.results54 w.heap.size 139 V (0, 0) _ .nilIface Tryz.underlying139 rfl HA.out.2.1 ?_ ?_ (setRow_heap _ _ _ _ _ _ HR1.out) ?_ ?_
      · rfl
      · rfl
      · rfl
      exact ⟨by rw [HV.out], ⟨HB.out.os, HB.out.tape, HB.out.output, by simpa using HB.out.size, fun k hk => (setRow_other _ _ _ _ (fun e => by omega)).trans (HB.out.block k hk)⟩⟩
end Go.Proofs.YtlejohclijjhnaaGreatDoor.Fm

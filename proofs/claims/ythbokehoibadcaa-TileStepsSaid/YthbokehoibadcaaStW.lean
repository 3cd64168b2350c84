/-
  TileSteps, the walk. No condition but that the input could be read.
-/
import Derived.Test.YthbokehoibadcaaSg
namespace Go.Proofs.Ythbokehoibadcaa
open Go.RowKit Ti Ru

/-- what lies behind the start: the rule, the nine that came in, their copy -/
structure StAt (W : World) (G r l : Nat) (q : Nat → T6) (F : Nat → T6) (w : World) : Prop where
  rule : w.heap[W.heap.size]? = some (.cells #[.int .u16 r, .int .u16 l] 24)
  src : w.heap[W.heap.size + 1]? = some (.cells (trow q 9) 41)
  dst : w.heap[G]? = some (.cells (trow F 9) 42)
  far : W.heap.size + 2 ≤ G
  below : Below W.heap.size W w
theorem StAt.on {W : World} {G r l : Nat} {q F : Nat → T6} {w w' : World} (h : StAt W G r l q F w) (k : Below w.heap.size w w') : StAt W G r l q F w' :=
  ⟨(k.block _ (lt_of_block h.rule)).trans h.rule, (k.block _ (lt_of_block h.src)).trans h.src, (k.block _ (lt_of_block h.dst)).trans h.dst, h.far, h.below.trans (k.mono h.below.size)⟩
theorem StAt.set {W : World} {G r l : Nat} {q F : Nat → T6} {w : World} (h : StAt W G r l q F w) (i : Nat) (x : T6) : StAt W G r l q (upd F i x) (w.setCell ⟨G, i, none⟩ (.int .u64 (rg x))) := by
  have hf := h.far
  exact ⟨(heap_setCell_other _ _ _ _ (by show ¬ W.heap.size = G; omega)).trans h.rule, (heap_setCell_other _ _ _ _ (by show ¬ W.heap.size + 1 = G; omega)).trans h.src, tr_set h.dst x, hf, h.below.setCell (p := ⟨G, i, none⟩) (by show W.heap.size ≤ G; omega) _⟩
theorem StAt.cells {W : World} {G r l : Nat} {q F : Nat → T6} {w : World} (h : StAt W G r l q F w) : (w.cell? ⟨W.heap.size, 0, none⟩ = some (.int .u16 r) ∧ w.cell? ⟨W.heap.size, 1, none⟩ = some (.int .u16 l)) ∧ w.cell? ⟨G, 0, none⟩ = some (.int .u64 (rg (F 0))) ∧ w.cell? ⟨G, 1, none⟩ = some (.int .u64 (rg (F 1))) ∧ w.cell? ⟨G, 3, none⟩ = some (.int .u64 (rg (F 3))) ∧ w.cell? ⟨G, 4, none⟩ = some (.int .u64 (rg (F 4))) :=
  ⟨⟨cell_of_row _ _ 0 _ _ _ h.rule, cell_of_row _ _ 1 _ _ _ h.rule⟩, (tr_cell h.dst (by decide)).1, (tr_cell h.dst (by decide)).1, (tr_cell h.dst (by decide)).1, (tr_cell h.dst (by decide)).1⟩
theorem StAt.all {W : World} {G r l : Nat} {q : Nat → T6} {w : World} (h : StAt W G r l q (cpF q 9) w) : StAt W G r l q q w := ⟨h.rule, h.src, by rw [← cp_all]; exact h.dst, h.far, h.below⟩
theorem StAt.nine {W : World} {G r l : Nat} {q : Nat → T6} {a b c d e f g i j : T6} {w : World} (h : StAt W G r l q (q9 a b c d e f g i j) w) : (w.cell? ⟨W.heap.size, 0, none⟩ = some (.int .u16 r) ∧ w.cell? ⟨W.heap.size, 1, none⟩ = some (.int .u16 l)) ∧ w.cell? ⟨G, 0, none⟩ = some (.int .u64 (rg a)) ∧ w.cell? ⟨G, 1, none⟩ = some (.int .u64 (rg b)) ∧ w.cell? ⟨G, 3, none⟩ = some (.int .u64 (rg d)) ∧ w.cell? ⟨G, 4, none⟩ = some (.int .u64 (rg e)) := h.cells
theorem StAt.whole {W : World} {G r l : Nat} {q : Nat → T6} {a b c d e f g i j : T6} {w : World} (h : StAt W G r l q (q9 a b c d e f g i j) w) : w.heap[G]? = some (box9 a b c d e f g i j) := h.dst
theorem grow_one (r l : Nat) (h : mayR r l = true) (a b c d : T6) (w : World) :
    Calls Try.prog 13 #[Rv r l, .agg #[.int .u64 (rg a), .int .u64 (rg b), .int .u64 (rg c), .int .u64 (rg d)], .int .i64 1] w fun x w' => x = .returned (.tuple #[.int .u64 (rg (growB r l 1 (q4 a b c d))), .nilIface]) ∧ Below w.heap.size w w' := grow_fine r l h a b c d 1 (by decide) w
theorem grow_none (r l : Nat) (h : mayR r l = true) (a b c d : T6) (w : World) :
    Calls Try.prog 13 #[Rv r l, .agg #[.int .u64 (rg a), .int .u64 (rg b), .int .u64 (rg c), .int .u64 (rg d)], .int .i64 0] w fun x w' => x = .returned (.tuple #[.int .u64 (rg (growB r l 0 (q4 a b c d))), .nilIface]) ∧ Below w.heap.size w w' := grow_fine r l h a b c d 0 (by decide) w
theorem st_start (r l : Nat) (q : Nat → T6) (W w1 : World) (h : Below ((W.alloc (.cells #[.int .u16 r, .int .u16 l] 24)).alloc (.cells (trow q 9) 41)).heap.size ((W.alloc (.cells #[.int .u16 r, .int .u16 l] 24)).alloc (.cells (trow q 9) 41)) w1) : StAt W w1.heap.size r l q (cpF q 0) (w1.alloc (.cells (trow (cpF q 0) 9) 42)) := by
  have ht := two_boxes W (.cells #[.int .u16 r, .int .u16 l] 24) (.cells (trow q 9) 41)
  have hr := (h.block _ (lt_of_block ht.1)).trans ht.1
  have hs := (h.block _ (lt_of_block ht.2.1)).trans ht.2.1
  have hb := ht.2.2.1.trans (h.mono ht.2.2.1.size)
  exact ⟨((alX w1 _).block _ (lt_of_block hr)).trans hr, ((alX w1 _).block _ (lt_of_block hs)).trans hs, heap_alloc_new _ _, by have := h.size; rw [ht.2.2.2] at this; exact this, hb.trans ((alX w1 _).mono hb.size)⟩
set_option maxRecDepth 100000 in
set_option maxHeartbeats 1000000 in
theorem steps_walk (r l : Nat) (a b c d e f g h i : T6) (s : Int) (W : World) (_w0 : r < 65536 ∧ l < 65536) (w2 : (Lit.int .u64 s).wf = true) :
    Calls Try.prog 4 #[.agg #[.int .u16 r, .int .u16 l], .agg #[.int .u64 (rg a), .int .u64 (rg b), .int .u64 (rg c), .int .u64 (rg d), .int .u64 (rg e), .int .u64 (rg f), .int .u64 (rg g), .int .u64 (rg h), .int .u64 (rg i)], .int .u64 s] W fun x w' => x = .returned (.bool true) ∧ Below W.heap.size W w' := by
  obtain ⟨s, rfl⟩ := one_open w2
  have HS := Lib.hid sure_any
  have HM := Lib.hid (fun w => may_ref r l w)
  have HBX := Lib.hid (two_boxes W (.cells #[.int .u16 r, .int .u16 l] 24) (.cells #[.int .u64 (rg a), .int .u64 (rg b), .int .u64 (rg c), .int .u64 (rg d), .int .u64 (rg e), .int .u64 (rg f), .int .u64 (rg g), .int .u64 (rg h), .int .u64 (rg i)] 41)).2.2.1
  cases hm : mayR r l
  · rw [hm] at HM
    unfold Rv at HM
    clear hm _w0 w2
    go_enter Try.func4, Try.ntmps4
    go_wp2_with (first | (go_at_call 11; refine (HM.out _).mono ?_; rintro x w4 ⟨rfl, hb4⟩; have HA2 := Lib.hid (HBX.out.trans (hb4.mono HBX.out.size)); clear hb4) | (go_at_call 12; refine (HS.out _).mono ?_; rintro x w5 ⟨rfl, hb5⟩; have HB5 := Lib.hid (HA2.out.trans (hb5.mono HA2.out.size)); clear hb5))
    go_ret
    exact ⟨rfl, HB5.out⟩
  · rw [hm] at HM
    have HST := Lib.hid (st_start r l (q9 a b c d e f g h i) W)
    obtain ⟨q, hq⟩ : ∃ q, Hid (q = q9 a b c d e f g h i) := ⟨_, Lib.hid rfl⟩
    have HG1 := Lib.hid (fun w => grow_one r l hm a b d e w)
    have HG0 := Lib.hid (fun w => grow_none r l hm a b d e w)
    have HMi := Lib.hid (fun w => middle_any a b d e w)
    have HN := Lib.hid (fun w => next_fine r l hm a b c d e f g h i w)
    have HGf := Lib.hid (fun w => grow_one r l hm (a ^^^ (s &&& 217020518514294783#64)) b d e w)
    rw [grow_far, ← xor_rg, ← and_rg] at HGf
    rw [grow_nought] at HG0
    have HP := Lib.hid (corner_bit r l a b c d e f g h i)
    generalize growB r l 1 (q4 a b d e) = A at HG1 HGf HP
    generalize growB 0 0 0 (q4 a b d e) = Z at HG0 HMi
    generalize nextB r l (q9 a b c d e f g h i) = M at HN HP
    have e217 : rg 217020518514294783#64 = 217020518514294783 := rfl
    rw [e217] at HGf
    unfold Rv at HM HG1 HG0 HN HGf
    clear hm _w0 w2 e217
    go_enter Try.func4, Try.ntmps4
    go_wp2_with (first | (go_at_call 11; refine (HM.out _).mono ?_; rintro x w1 ⟨rfl, hb1⟩; have HA0 := Lib.hid (HST.out _ hb1); clear hb1))
    change Code.wp _ _ _ _ (World.alloc w1 (.cells (trow (cpF q 0) 9) 42))
    rw [← hq.out] at HA0
    generalize w1.alloc (.cells (trow (cpF q 0) 9) 42) = w2 at HA0 ⊢
    clear HST HM
    go_loopw [8] (fun i ws => ∃ m : Nat, m ≤ 9 ∧ i = .int .i64 (m : Int) ∧ Hid (StAt W w1.heap.size r l q (cpF q m) ws)) (fun i _ => 9 - (intOf i).toNat)
    case atStart => exact ⟨0, by omega, rfl, HA0⟩
    case round =>
      obtain ⟨m, hm, rfl, HR⟩ := hrel
      have m0 : (0 : Int) ≤ (m : Int) := by omega
      by_cases hlt : m < 9
      · have m1 : (m : Int) < 9 := by omega
        have c0 := (tr_cell HR.out.src hlt).1
        obtain ⟨c1, c2⟩ := tr_cell HR.out.dst hlt
        have HR2 := Lib.hid (HR.out.set m (q m))
        rw [cp_step] at HR2
        clear hlt
        go_wp2
        go_roundw
        case rel => exact ⟨m + 1, by omega, by go_num, HR2⟩
        case measure => simp [intOf]; omega
      · obtain rfl : m = 9 := by omega
        have HA1 := Lib.hid HR.out.all
        rw [hq.out] at HA1
        clear hq HR HA0
        obtain ⟨⟨r0, r1⟩, p0, p1, p2, p3⟩ := HA1.out.nine
        go_wp2_with (first
          | (go_at_call 13; with_reducible refine (HG1.out _).mono ?_; rintro x w3 ⟨rfl, hb⟩; have HA2 := Lib.hid (HA1.out.on hb); obtain ⟨⟨s0, s1⟩, t0, t1, t2, t3⟩ := HA2.out.nine; clear hb)
          | (go_at_call 13; with_reducible refine (HG0.out _).mono ?_; rintro x w4 ⟨rfl, hb⟩; have HA3 := Lib.hid (HA2.out.on hb); have HX3 := Lib.hid HA3.out.whole; obtain ⟨⟨u0, u1⟩, _, _, _, _⟩ := HA3.out.nine; clear hb)
          | (refine wpList_load_row rfl 42 (.tmp 7) rfl w1.heap.size rfl 42 _ (0, 0) _ HX3.out Try.underlying42 rfl (by kernel_rfl) ?_)
          | (go_at_call 14; with_reducible refine (HN.out _).mono ?_; rintro x w5 ⟨rfl, hb⟩; have HA4 := Lib.hid (HA3.out.on hb); obtain ⟨⟨x0, x1⟩, y0, y1, y2, y3⟩ := HA4.out.nine; clear hb)
          | (go_at_call 15; with_reducible refine (HMi.out _).mono ?_; rintro x w6 ⟨rfl, hb⟩; have HA5 := Lib.hid (HA4.out.on hb); clear hb))
        clear HG1 HG0 HMi HN HA1 HA2 HA3 HA4 HX3 r0 r1 p0 p1 p2 p3
        go_loop [15] (fun i => ∃ k : Nat, k ≤ 16 ∧ i = .int .i64 (k : Int)) (fun i => 16 - (intOf i).toNat)
        case atStart => exact ⟨0, by omega, rfl⟩
        case round =>
          obtain ⟨k, hk, rfl⟩ := hrel
          have k0 : (0 : Int) ≤ (k : Int) := by omega
          by_cases hlt : k < 16
          · have k1 : (k : Int) < 16 := by omega
            have HQ1 := Lib.hid (fun w => get_a A k hlt w)
            have HQ2 := Lib.hid (fun w => get_m M k hlt w)
            rw [HP.out k hlt] at HQ1
            generalize M.getLsbD (8 * (k / 4) + k % 4) = z at HQ1 HQ2
            clear hlt
            go_wp2_with (first | (go_at_call 16; with_reducible refine (HQ1.out _).mono ?_; rintro x w' ⟨rfl, rfl⟩) | (go_at_call 16; with_reducible refine (HQ2.out _).mono ?_; rintro x w' ⟨rfl, rfl⟩))
            go_round
            case rel => exact ⟨k + 1, by omega, by go_num⟩
            case measure => simp [intOf]; omega
          · obtain rfl : k = 16 := by omega
            obtain ⟨⟨r0, r1⟩, p0, p1, p2, p3⟩ := HA5.out.nine
            go_wp2_with (first | (go_at_call 13; with_reducible refine (HGf.out _).mono ?_; rintro x w7 ⟨rfl, hb⟩; have HA6 := Lib.hid (HA5.out.on hb); clear hb) | (go_at_call 12; refine (HS.out _).mono ?_; rintro x w8 ⟨rfl, hb⟩; have HB8 := Lib.hid (HA6.out.on hb).below; clear hb))
            go_ret
            exact ⟨rfl, HB8.out⟩
end Go.Proofs.Ythbokehoibadcaa

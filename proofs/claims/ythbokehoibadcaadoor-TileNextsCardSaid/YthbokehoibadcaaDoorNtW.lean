/-
  TileNexts, the walk. No condition but that the input could be read, and the package-level variable.
-/
import Derived.Test.YthbokehoibadcaaDoorSg
import Derived.Test.YthbokehoibadcaaDoorGg
import Derived.Test.YthbokehoibadcaaDoorErr
namespace Go.Proofs.YthbokehoibadcaaDoor
open Go.RowKit Ti Ru

/-- what lies behind the start: the rule, the nine that came in, their copy -/
structure NvAt (W : World) (G r l : Nat) (q : Nat → T6) (F : Nat → T6) (w : World) : Prop where
  rule : w.heap[W.heap.size]? = some (.cells #[.int .u16 r, .int .u16 l] 39)
  src : w.heap[W.heap.size + 1]? = some (.cells (trow q 9) 54)
  dst : w.heap[G]? = some (.cells (trow F 9) 55)
  far : W.heap.size + 2 ≤ G
  below : Below W.heap.size W w
theorem NvAt.on {W : World} {G r l : Nat} {q F : Nat → T6} {w w' : World} (h : NvAt W G r l q F w) (k : Below w.heap.size w w') : NvAt W G r l q F w' :=
  ⟨(k.block _ (lt_of_block h.rule)).trans h.rule, (k.block _ (lt_of_block h.src)).trans h.src, (k.block _ (lt_of_block h.dst)).trans h.dst, h.far, h.below.trans (k.mono h.below.size)⟩
theorem NvAt.set {W : World} {G r l : Nat} {q F : Nat → T6} {w : World} (h : NvAt W G r l q F w) (i : Nat) (x : T6) : NvAt W G r l q (upd F i x) (w.setCell ⟨G, i, none⟩ (.int .u64 (rg x))) := by
  have hf := h.far
  exact ⟨(heap_setCell_other _ _ _ _ (by show ¬ W.heap.size = G; omega)).trans h.rule, (heap_setCell_other _ _ _ _ (by show ¬ W.heap.size + 1 = G; omega)).trans h.src, tr_set h.dst x, hf, h.below.setCell (p := ⟨G, i, none⟩) (by show W.heap.size ≤ G; omega) _⟩
theorem NvAt.rules {W : World} {G r l : Nat} {q F : Nat → T6} {w : World} (h : NvAt W G r l q F w) : w.cell? ⟨W.heap.size, 0, none⟩ = some (.int .u16 r) ∧ w.cell? ⟨W.heap.size, 1, none⟩ = some (.int .u16 l) :=
  ⟨cell_of_row _ _ 0 _ _ _ h.rule, cell_of_row _ _ 1 _ _ _ h.rule⟩
theorem NvAt.all {W : World} {G r l : Nat} {q : Nat → T6} {w : World} (h : NvAt W G r l q (cpF q 9) w) : NvAt W G r l q q w := ⟨h.rule, h.src, by rw [← cp_all]; exact h.dst, h.far, h.below⟩
theorem NvAt.whole {W : World} {G r l : Nat} {q : Nat → T6} {a b c d e f g i j : T6} {w : World} (h : NvAt W G r l q (q9 a b c d e f g i j) w) : w.heap[G]? = some (box9 a b c d e f g i j) := h.dst
theorem NvAt.came {W : World} {G r l : Nat} {F : Nat → T6} {a b c d e f g i j : T6} {w : World} (h : NvAt W G r l (q9 a b c d e f g i j) F w) : w.cell? ⟨W.heap.size + 1, 0, none⟩ = some (.int .u64 (rg a)) ∧ w.cell? ⟨W.heap.size + 1, 1, none⟩ = some (.int .u64 (rg b)) ∧ w.cell? ⟨W.heap.size + 1, 2, none⟩ = some (.int .u64 (rg c)) ∧ w.cell? ⟨W.heap.size + 1, 3, none⟩ = some (.int .u64 (rg d)) ∧ w.cell? ⟨W.heap.size + 1, 4, none⟩ = some (.int .u64 (rg e)) ∧ w.cell? ⟨W.heap.size + 1, 5, none⟩ = some (.int .u64 (rg f)) ∧ w.cell? ⟨W.heap.size + 1, 6, none⟩ = some (.int .u64 (rg g)) ∧ w.cell? ⟨W.heap.size + 1, 7, none⟩ = some (.int .u64 (rg i)) ∧ w.cell? ⟨W.heap.size + 1, 8, none⟩ = some (.int .u64 (rg j)) :=
  ⟨(tr_cell h.src (by decide)).1, (tr_cell h.src (by decide)).1, (tr_cell h.src (by decide)).1, (tr_cell h.src (by decide)).1, (tr_cell h.src (by decide)).1, (tr_cell h.src (by decide)).1, (tr_cell h.src (by decide)).1, (tr_cell h.src (by decide)).1, (tr_cell h.src (by decide)).1⟩
theorem laid_nv {W w : World} {G r l : Nat} {q F : Nat → T6} (h : NvAt W G r l q F w) (hl : Laid W) : Laid w := hl.below h.below
theorem nv_start (r l : Nat) (q : Nat → T6) (W : World) : NvAt W (W.heap.size + 1 + 1) r l q (cpF q 0) (((W.alloc (.cells #[.int .u16 r, .int .u16 l] 39)).alloc (.cells (trow q 9) 54)).alloc (.cells (trow (cpF q 0) 9) 55)) := by
  have ht := two_boxes W (.cells #[.int .u16 r, .int .u16 l] 39) (.cells (trow q 9) 54)
  generalize (W.alloc (.cells #[.int .u16 r, .int .u16 l] 39)).alloc (.cells (trow q 9) 54) = w1 at ht
  refine ⟨((alX w1 _).block _ (lt_of_block ht.1)).trans ht.1, ((alX w1 _).block _ (lt_of_block ht.2.1)).trans ht.2.1, ?_, Nat.le_refl _, ht.2.2.1.trans ((alX w1 _).mono ht.2.2.1.size)⟩
  rw [← (show w1.heap.size = W.heap.size + 1 + 1 from ht.2.2.2)]
  exact heap_alloc_new _ _
set_option maxRecDepth 100000 in
set_option maxHeartbeats 1000000 in
theorem nexts_walk (r l : Nat) (a b c d e f g h i : T6) (W : World) (w0 : r < 65536 ∧ l < 65536) (hl : Laid W) :
    Calls Tryd.prog 5 #[.agg #[.int .u16 r, .int .u16 l], .agg #[.int .u64 (rg a), .int .u64 (rg b), .int .u64 (rg c), .int .u64 (rg d), .int .u64 (rg e), .int .u64 (rg f), .int .u64 (rg g), .int .u64 (rg h), .int .u64 (rg i)]] W fun x w' => x = .returned (.bool true) ∧ Below W.heap.size W w' := by
  have HL := Lib.hid hl
  have HS := Lib.hid sure_any
  have HM := Lib.hid (fun w => may_ref r l w)
  have HA0 := Lib.hid (nv_start r l (q9 a b c d e f g h i) W)
  obtain ⟨q, hq⟩ : ∃ q, Hid (q = q9 a b c d e f g h i) := ⟨_, Lib.hid rfl⟩
  clear hl
  cases hm : mayR r l
  · have HN := Lib.hid (fun w => next_bad r l w0.1 w0.2 hm a b c d e f g h i w)
    rw [hm] at HM
    unfold Rv at *
    clear hm w0
    go_enter Tryd.func5, Tryd.ntmps5
    go_wp2
    change Code.wp _ _ _ _ (World.alloc (World.alloc (World.alloc W (.cells #[.int .u16 r, .int .u16 l] 39)) (.cells (trow (q9 a b c d e f g h i) 9) 54)) (.cells (trow (cpF (q9 a b c d e f g h i) 0) 9) 55))
    rw [← hq.out] at HA0 ⊢
    generalize World.alloc (World.alloc (World.alloc W (.cells #[.int .u16 r, .int .u16 l] 39)) (.cells (trow q 9) 54)) (.cells (trow (cpF q 0) 9) 55) = w2 at HA0 ⊢
    go_loopw [6] (fun i ws => ∃ m : Nat, m ≤ 9 ∧ i = .int .i64 (m : Int) ∧ Hid (NvAt W (W.heap.size + 1 + 1) r l q (cpF q m) ws)) (fun i _ => 9 - (intOf i).toNat)
    case atStart => exact ⟨0, by omega, rfl, HA0⟩
    case round =>
      obtain ⟨m, hm, rfl, HR⟩ := hrel
      have m0 : (0 : Int) ≤ (m : Int) := by omega
      by_cases hlt : m < 9
      · have m1 : (m : Int) < 9 := by omega
        have c0 := (tr_cell HR.out.src hlt).1
        obtain ⟨c1, c2⟩ := tr_cell HR.out.dst hlt
        have HR2 := Lib.hid (HR.out.set m (q m))
        rw [cp_step] at HR2
        clear hlt
        go_wp2
        go_roundw
        case rel => exact ⟨m + 1, by omega, by go_num, HR2⟩
        case measure => simp [intOf]; omega
      · obtain rfl : m = 9 := by omega
        have HA1 := Lib.hid HR.out.all
        rw [hq.out] at HA1
        clear hq HR HA0
        have HX1 := Lib.hid HA1.out.whole
        obtain ⟨c0, c1⟩ := HA1.out.rules
        go_wp2_with (first | (refine wpList_load_row rfl 55 (.tmp 5) rfl (W.heap.size + 1 + 1) rfl 55 _ (0, 0) _ HX1.out Tryd.underlying55 rfl (by kernel_rfl) ?_) | (go_at_call 22; with_reducible refine (HN.out _).mono ?_; rintro x w3 ⟨rfl, hb⟩; have HA2 := Lib.hid (HA1.out.on hb); obtain ⟨c0, c1⟩ := HA2.out.rules; clear hb) | (go_at_call 20; with_reducible refine (HM.out _).mono ?_; rintro x w4 ⟨rfl, hb⟩; have HA3 := Lib.hid (HA2.out.on hb); obtain ⟨c0, c1⟩ := HA3.out.rules; obtain ⟨s0, s1, s2, s3, s4, s5, s6, s7, s8⟩ := HA3.out.came; clear hb) | (go_at_call 13; refine (num_err 11 _ (laid_nv HA3.out HL.out)).mono ?_; rintro x w5 ⟨rfl, hb⟩; have HA4 := Lib.hid (HA3.out.on hb); clear hb) | (go_at_call 14; with_reducible refine (HS.out _).mono ?_; rintro x w6 ⟨rfl, hb⟩; have HB := Lib.hid (HA4.out.on hb).below; clear hb))
        go_ret
        exact ⟨rfl, HB.out⟩
  · have HN := Lib.hid (fun w => next_fine r l hm a b c d e f g h i w)
    have HR9 := Lib.hid (fun w => nine_ref r l w0.1 w0.2 a b c d e f g h i w)
    rw [hm] at HM
    unfold Rv at *
    clear hm w0
    generalize nextB r l (q9 a b c d e f g h i) = X at HN HR9
    go_enter Tryd.func5, Tryd.ntmps5
    go_wp2
    change Code.wp _ _ _ _ (World.alloc (World.alloc (World.alloc W (.cells #[.int .u16 r, .int .u16 l] 39)) (.cells (trow (q9 a b c d e f g h i) 9) 54)) (.cells (trow (cpF (q9 a b c d e f g h i) 0) 9) 55))
    rw [← hq.out] at HA0 ⊢
    generalize World.alloc (World.alloc (World.alloc W (.cells #[.int .u16 r, .int .u16 l] 39)) (.cells (trow q 9) 54)) (.cells (trow (cpF q 0) 9) 55) = w2 at HA0 ⊢
    go_loopw [6] (fun i ws => ∃ m : Nat, m ≤ 9 ∧ i = .int .i64 (m : Int) ∧ Hid (NvAt W (W.heap.size + 1 + 1) r l q (cpF q m) ws)) (fun i _ => 9 - (intOf i).toNat)
    case atStart => exact ⟨0, by omega, rfl, HA0⟩
    case round =>
      obtain ⟨m, hm, rfl, HR⟩ := hrel
      have m0 : (0 : Int) ≤ (m : Int) := by omega
      by_cases hlt : m < 9
      · have m1 : (m : Int) < 9 := by omega
        have c0 := (tr_cell HR.out.src hlt).1
        obtain ⟨c1, c2⟩ := tr_cell HR.out.dst hlt
        have HR2 := Lib.hid (HR.out.set m (q m))
        rw [cp_step] at HR2
        clear hlt
        go_wp2
        go_roundw
        case rel => exact ⟨m + 1, by omega, by go_num, HR2⟩
        case measure => simp [intOf]; omega
      · obtain rfl : m = 9 := by omega
        have HA1 := Lib.hid HR.out.all
        rw [hq.out] at HA1
        clear hq HR HA0
        have HX1 := Lib.hid HA1.out.whole
        obtain ⟨c0, c1⟩ := HA1.out.rules
        go_wp2_with (first | (refine wpList_load_row rfl 55 (.tmp 5) rfl (W.heap.size + 1 + 1) rfl 55 _ (0, 0) _ HX1.out Tryd.underlying55 rfl (by kernel_rfl) ?_) | (go_at_call 22; with_reducible refine (HN.out _).mono ?_; rintro x w3 ⟨rfl, hb⟩; have HA2 := Lib.hid (HA1.out.on hb); obtain ⟨c0, c1⟩ := HA2.out.rules; clear hb) | (go_at_call 20; with_reducible refine (HM.out _).mono ?_; rintro x w4 ⟨rfl, hb⟩; have HA3 := Lib.hid (HA2.out.on hb); obtain ⟨c0, c1⟩ := HA3.out.rules; obtain ⟨s0, s1, s2, s3, s4, s5, s6, s7, s8⟩ := HA3.out.came; clear hb) | (go_at_call 23; with_reducible refine (HR9.out _).mono ?_; rintro x w5 ⟨rfl, hb⟩; have HA4 := Lib.hid (HA3.out.on hb); clear hb) | (go_at_call 14; with_reducible refine (HS.out _).mono ?_; rintro x w6 ⟨rfl, hb⟩; have HB := Lib.hid (HA4.out.on hb).below; clear hb))
        go_ret
        exact ⟨rfl, HB.out⟩
end Go.Proofs.YthbokehoibadcaaDoor

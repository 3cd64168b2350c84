/-
  THE WALK of the document's Laid. Conditions: the tiles lie there.
-/
import Derived.Test.YthbokehoibadcaaDoorTill
namespace Go.Proofs.YthbokehoibadcaaDoor
open Go.RowKit Ti

/-- the cells of tiles laid side by side, in a row -/
def laidP (k N : Nat) (t : Nat → T6) : Nat → Bool := fun i => (t (i / N / 8 * k + i % N / 8)).getLsbD (8 * (i / N % 8) + i % N % 8)
theorem one_grid (I : Int) (a : Option Addr) (n c : Nat) : (#[.int .i64 I, .slice a n c] : Array Value).all (·.oneCell') = true := by simp [Value.oneCell']
theorem grid_row {w : World} {M g R : Nat} {P : Nat → Bool} (h : GridAt w M g P) {old cs : Array Value} (_hR : w.heap[R]? = some (.cells old 48)) (hne : ¬ g = R) : GridAt (w.setRow R cs) M g P :=
  ⟨by have := h.lt; simpa using this, fun i hi => (World.cell?_of_block (a := ⟨g, i, none⟩) (setRow_other w R g cs hne)).trans (h.at_ i hi)⟩
theorem out_start (I : Int) (P : Nat → Bool) (w : World) : OutAt w ((w.alloc (.cells #[.int .i64 0, .slice none 0 0] 48)).alloc (.cells #[.int .i64 I, .slice none 0 0] 48)) w.heap.size (w.heap.size + 1) (w.heap.size + 2) I P 0 (.slice none 0 0) := by
  have h := two_boxes w (.cells #[.int .i64 0, .slice none 0 0] 48) (.cells #[.int .i64 I, .slice none 0 0] 48)
  exact ⟨h.2.1, h.1, World.ownsRow_nil _ _ _ _, h.2.2.1, by rw [h.2.2.2]; exact Nat.le_refl _, by omega⟩
theorem OutAt.lo {w ws : World} {R X Bs : Nat} {I : Int} {P : Nat → Bool} {m : Nat} {v : Value} (h : OutAt w ws R X Bs I P m v) : w.heap.size ≤ Bs := by have := h.order; omega
theorem kp3 {w ws : World} {R X Bs : Nat} {I : Int} {P : Nat → Bool} {m : Nat} {v u : Value} {p : Addr} (h : OutAt w ws R X Bs I P m v) (k : ws.cell? p = some u) : ws.cell? ⟨X, 1, none⟩ = some v ∧ ws.cell? p = some u ∧ ws.frozen? ⟨X, 1, none⟩ = false := ⟨h.cells.1, k, h.cells.2.1⟩
theorem kp3b {w ws w2 : World} {R X Bs : Nat} {I : Int} {P : Nat → Bool} {m : Nat} {v v2 u : Value} {p : Addr} (h : OutAt w (w2.setCell ⟨X, 1, none⟩ v2) R X Bs I P m v2 ∧ w2.cell? ⟨X, 1, none⟩ = some v ∧ w2.frozen? ⟨X, 1, none⟩ = false ∧ w2.cell? ⟨X, 0, none⟩ = some (.int .i64 I) ∧ Below Bs ws w2) (k : w2.cell? p = some u) : w2.cell? ⟨X, 1, none⟩ = some v ∧ w2.cell? p = some u ∧ w2.frozen? ⟨X, 1, none⟩ = false := ⟨h.2.1, k, h.2.2.1⟩
theorem laid_plane2 (t : Nat → T6) : gpl 16 (laidP 2 16 t) = tp 2 t := by
  funext x y
  by_cases h : x < 0 ∨ y < 0 ∨ (16 : Int) ≤ x ∨ (16 : Int) ≤ y
  · rw [gpl_out _ _ _ _ (by omega), tp_out _ _ _ _ (by omega)]
  · obtain ⟨x, rfl⟩ := Int.eq_ofNat_of_zero_le (show 0 ≤ x by omega)
    obtain ⟨y, rfl⟩ := Int.eq_ofNat_of_zero_le (show 0 ≤ y by omega)
    have hx : x < 16 := by omega
    have hy : y < 16 := by omega
    rw [gpl_nat _ _ _ _ hx hy, tp_nat, decide_eq_true (show x < 8 * 2 by omega), decide_eq_true (show y < 8 * 2 by omega)]
    unfold laidP
    rw [show (16 * y + x) / 16 = y by omega, show (16 * y + x) % 16 = x by omega]
    simp
theorem cell_at2 (t : Nat → T6) (x y : Nat) (hx : x < 16) (_hy : y < 16) (w : World) : Calls Tryd.prog 8 #[.int .u64 (rg (t (y / 8 * 2 + x / 8))), .int .i64 ((x : Int) % 8), .int .i64 ((y : Int) % 8)] w fun e w' => e = .returned (.bool (laidP 2 16 t (16 * y + x))) ∧ w = w' := by
  have h := cell_ref (t (y / 8 * 2 + x / 8)) (x % 8) (y % 8) (by omega) (by omega) w
  unfold laidP
  rw [show (16 * y + x) / 16 = y by omega, show (16 * y + x) % 16 = x by omega]
  exact h
theorem wr2 (x y : Nat) (hx : x < 16) (hy : y < 16) : IntKind.i64.wrap ((y : Int) / 8 * 2) = (y : Int) / 8 * 2 ∧ IntKind.i64.wrap ((y : Int) / 8 * 2 + (x : Int) / 8) = ((y / 8 * 2 + x / 8 : Nat) : Int) := by
  rw [show (y : Int) / 8 * 2 = ((y / 8 * 2 : Nat) : Int) by omega, show ((y / 8 * 2 : Nat) : Int) + (x : Int) / 8 = ((y / 8 * 2 + x / 8 : Nat) : Int) by omega]
  exact ⟨wrapn _ (by omega), wrapn _ (by omega)⟩
theorem wq2 (x : Nat) (hx : x < 16) : IntKind.i64.wrap ((x : Int) / 8) = (x : Int) / 8 ∧ Int.tmod (x : Int) 8 = (x : Int) % 8 := by
  rw [show (x : Int) / 8 = ((x / 8 : Nat) : Int) by omega]
  exact ⟨wrapn _ (by omega), Int.tmod_eq_emod_of_nonneg (by omega)⟩
theorem idx2 (x y : Nat) (hx : x < 16) (hy : y < 16) : y / 8 * 2 + x / 8 < 4 ∧ (y : Int) / 8 * 2 + (x : Int) / 8 = ((y / 8 * 2 + x / 8 : Nat) : Int) := by omega
set_option maxRecDepth 100000 in
set_option maxHeartbeats 1000000 in
theorem laid_ref2 (B cp : Nat) (t : Nat → T6) (w : World) (hB : B < w.heap.size) (ht : ∀ i, i < 4 → w.cell? ⟨B, i, none⟩ = some (.int .u64 (rg (t i)))) :
    Calls Tryd.prog 19 #[.slice (some ⟨B, 0, none⟩) 4 cp, .int .i64 2] w fun e w' => ∃ g cap, e = .returned (Gv 16 (.slice (some ⟨g, 0, none⟩) 256 cap)) ∧ GridAt w' 256 g (laidP 2 16 t) ∧ Below w.heap.size w w' := by
  have HO0 := Lib.hid (out_start 16 (laidP 2 16 t) w)
  obtain ⟨P, hP⟩ : ∃ P, P = laidP 2 16 t := ⟨_, rfl⟩
  have HC := Lib.hid (cell_at2 t)
  rw [← hP] at HO0 HC ⊢
  clear hP
  go_enter Tryd.func19, Tryd.ntmps19
  go_wp2
  generalize ((w.alloc (.cells #[.int .i64 0, .slice none 0 0] 48)).alloc (.cells #[.int .i64 16, .slice none 0 0] 48)) = W1 at HO0 ⊢
  go_loopw [6] (fun i ws => ∃ (y : Nat) (v : Value), y ≤ 16 ∧ i = .int .i64 (y : Int) ∧ Hid (OutAt w ws w.heap.size (w.heap.size + 1) (w.heap.size + 2) 16 P (16 * y) v)) (fun i _ => 16 - (intOf i).toNat)
  case atStart => exact ⟨0, _, by omega, rfl, HO0⟩
  case round =>
    obtain ⟨y, v0, hy, rfl, HY⟩ := hrel
    have y0 : (0 : Int) ≤ (y : Int) := by omega
    by_cases hly : y < 16
    · have y1 : (y : Int) < 16 := by omega
      go_wp2
      go_loopw [7] (fun i ws => ∃ (x : Nat) (v : Value), x ≤ 16 ∧ i = .int .i64 (x : Int) ∧ Hid (OutAt w ws w.heap.size (w.heap.size + 1) (w.heap.size + 2) 16 P (16 * y + x) v)) (fun i _ => 16 - (intOf i).toNat)
      case atStart => exact ⟨0, v0, by omega, rfl, HY⟩
      case round =>
        obtain ⟨x, v, hx, rfl, HX⟩ := hrel
        have x0 : (0 : Int) ≤ (x : Int) := by omega
        by_cases hlx : x < 16
        · have x1 : (x : Int) < 16 := by omega
          obtain ⟨hj, E1⟩ := idx2 x y hlx hly
          obtain ⟨W0, W2⟩ := wr2 x y hlx hly
          obtain ⟨Wx, Wxm⟩ := wq2 x hlx
          obtain ⟨Wy, Wym⟩ := wq2 y hly
          have HCe := Lib.hid (fun w => HC.out x y hlx hly w)
          have HM := Lib.hid (show 16 * y + x ≤ 600 by omega)
          obtain ⟨q, hq⟩ : ∃ q, q = P (16 * y + x) := ⟨_, rfl⟩
          rw [← hq] at HCe
          have HQ := Lib.hid hq
          clear hq
          generalize y / 8 * 2 + x / 8 = j at hj E1 W2 HCe
          have jw := wrapn j (Nat.lt_trans hj (by decide))
          have j0 : (0 : Int) ≤ (j : Int) := Int.natCast_nonneg _
          have j1 : (j : Int) < 4 := Int.ofNat_lt.2 hj
          have HD := Lib.hid HX.out.drew
          have HT := Lib.hid (fun w' (h : Below w.heap.size w w') => (h.cell (p := ⟨B, j, none⟩) hB).trans (ht j hj))
          have hS0 := tillS (fun w' => w'.cell? ⟨w.heap.size + 1, 1, none⟩ = some v ∧ w'.cell? ⟨B, j, none⟩ = some (.int .u64 (rg (t j)))) wr.drew ⟨HD.out.cells.1, HT.out _ HD.out.below⟩
          have HOA := Lib.hid (HD.out.on (alX _ (.cells #[.bool q] 4)))
          have hS1 := tillS (fun w' => w'.cell? ⟨w.heap.size + 1, 1, none⟩ = some v ∧ w'.cell? ⟨B, j, none⟩ = some (.int .u64 (rg (t j)))) (wr.drew.alloc (.cells #[.bool q] 4)) ⟨HOA.out.cells.1, HT.out _ HOA.out.below⟩
          go_wp2
          refine Till.region (s := 20) (S := TillS (fun w' => w'.cell? ⟨w.heap.size + 1, 1, none⟩ = some v ∧ w'.cell? ⟨B, j, none⟩ = some (.int .u64 (rg (t j))))) (by kernel_rfl) ?_
          simp only [List.size_toArray, List.length_cons, List.length_nil]
          refine Till.move (i := 0) (d := 23) (v := ?_) rfl rfl (by kernel_rfl) (by kernel_rfl) (by kernel_rfl) (by kernel_rfl) (fun _ _ _ h => h) hS0 ?_ (by rfl) (by kernel_rfl) ?_
          rotate_left 1
          · intro w
            go_simp
            try with_reducible rfl
          dsimp only [Act.put]
          simp only [List.setIfInBounds_toArray, List.set_cons_zero, List.set_cons_succ]
          refine Till.load (i := 1) (d := 24) (v := ?_) rfl rfl (by kernel_rfl) (by kernel_rfl) (by kernel_rfl) (by kernel_rfl) (fun _ _ _ h => h) hS0 ?_ (by rfl) ?_
          rotate_left 1
          · intro w' hx
            obtain ⟨z1, z2⟩ := hx rfl
            go_simp
            try with_reducible rfl
          dsimp only [Act.put]
          simp only [List.setIfInBounds_toArray, List.set_cons_zero, List.set_cons_succ]
          refine Till.move (i := 2) (d := 25) (v := ?_) rfl rfl (by kernel_rfl) (by kernel_rfl) (by kernel_rfl) (by kernel_rfl) (fun _ _ _ h => h) hS0 ?_ (by rfl) (by kernel_rfl) ?_
          rotate_left 1
          · intro w
            go_simp
            try with_reducible rfl
          dsimp only [Act.put]
          simp only [List.setIfInBounds_toArray, List.set_cons_zero, List.set_cons_succ]
          refine Till.move (i := 3) (d := 26) (v := ?_) rfl rfl (by kernel_rfl) (by kernel_rfl) (by kernel_rfl) (by kernel_rfl) (fun _ _ _ h => h) hS0 ?_ (by rfl) (by kernel_rfl) ?_
          rotate_left 1
          · intro w
            go_simp
            try with_reducible rfl
          dsimp only [Act.put]
          simp only [List.setIfInBounds_toArray, List.set_cons_zero, List.set_cons_succ]
          refine Till.move (i := 4) (d := 27) (v := ?_) rfl rfl (by kernel_rfl) (by kernel_rfl) (by kernel_rfl) (by kernel_rfl) (fun _ _ _ h => h) hS0 ?_ (by rfl) (by kernel_rfl) ?_
          rotate_left 1
          · intro w
            go_simp
            try with_reducible rfl
          dsimp only [Act.put]
          simp only [List.setIfInBounds_toArray, List.set_cons_zero, List.set_cons_succ]
          refine Till.move (i := 5) (d := 28) (v := ?_) rfl rfl (by kernel_rfl) (by kernel_rfl) (by kernel_rfl) (by kernel_rfl) (fun _ _ _ h => h) hS0 ?_ (by rfl) (by kernel_rfl) ?_
          rotate_left 1
          · intro w
            go_simp
            try with_reducible rfl
          dsimp only [Act.put]
          simp only [List.setIfInBounds_toArray, List.set_cons_zero, List.set_cons_succ]
          refine Till.move (i := 6) (d := 29) (v := ?_) rfl rfl (by kernel_rfl) (by kernel_rfl) (by kernel_rfl) (by kernel_rfl) (fun _ _ _ h => h) hS0 ?_ (by rfl) (by kernel_rfl) ?_
          rotate_left 1
          · intro w
            go_simp
            try with_reducible rfl
          dsimp only [Act.put]
          simp only [List.setIfInBounds_toArray, List.set_cons_zero, List.set_cons_succ]
          refine Till.move (i := 7) (d := 30) (v := ?_) rfl rfl (by kernel_rfl) (by kernel_rfl) (by kernel_rfl) (by kernel_rfl) (fun _ _ _ h => h) hS0 ?_ (by rfl) (by kernel_rfl) ?_
          rotate_left 1
          · intro w
            go_simp
            try with_reducible rfl
          dsimp only [Act.put]
          simp only [List.setIfInBounds_toArray, List.set_cons_zero, List.set_cons_succ]
          refine Till.move (i := 8) (d := 31) (v := ?_) rfl rfl (by kernel_rfl) (by kernel_rfl) (by kernel_rfl) (by kernel_rfl) (fun _ _ _ h => h) hS0 ?_ (by rfl) (by kernel_rfl) ?_
          rotate_left 1
          · intro w
            go_simp
            try with_reducible rfl
          dsimp only [Act.put]
          simp only [List.setIfInBounds_toArray, List.set_cons_zero, List.set_cons_succ]
          refine Till.move (i := 9) (d := 32) (v := ?_) rfl rfl (by kernel_rfl) (by kernel_rfl) (by kernel_rfl) (by kernel_rfl) (fun _ _ _ h => h) hS0 ?_ (by rfl) (by kernel_rfl) ?_
          rotate_left 1
          · intro w
            go_simp
            try with_reducible rfl
          dsimp only [Act.put]
          simp only [List.setIfInBounds_toArray, List.set_cons_zero, List.set_cons_succ]
          refine Till.move (i := 10) (d := 33) (v := ?_) rfl rfl (by kernel_rfl) (by kernel_rfl) (by kernel_rfl) (by kernel_rfl) (fun _ _ _ h => h) hS0 ?_ (by rfl) (by kernel_rfl) ?_
          rotate_left 1
          · intro w
            go_simp
            try with_reducible rfl
          dsimp only [Act.put]
          simp only [List.setIfInBounds_toArray, List.set_cons_zero, List.set_cons_succ]
          refine Till.load (i := 11) (d := 34) (v := ?_) rfl rfl (by kernel_rfl) (by kernel_rfl) (by kernel_rfl) (by kernel_rfl) (fun _ _ _ h => h) hS0 ?_ (by rfl) ?_
          rotate_left 1
          · intro w' hx
            obtain ⟨z1, z2⟩ := hx rfl
            go_simp
            try with_reducible rfl
          dsimp only [Act.put]
          simp only [List.setIfInBounds_toArray, List.set_cons_zero, List.set_cons_succ]
          refine Till.move (i := 12) (d := 35) (v := ?_) rfl rfl (by kernel_rfl) (by kernel_rfl) (by kernel_rfl) (by kernel_rfl) (fun _ _ _ h => h) hS0 ?_ (by rfl) (by kernel_rfl) ?_
          rotate_left 1
          · intro w
            go_simp
            try with_reducible rfl
          dsimp only [Act.put]
          simp only [List.setIfInBounds_toArray, List.set_cons_zero, List.set_cons_succ]
          refine Till.move (i := 13) (d := 36) (v := ?_) rfl rfl (by kernel_rfl) (by kernel_rfl) (by kernel_rfl) (by kernel_rfl) (fun _ _ _ h => h) hS0 ?_ (by rfl) (by kernel_rfl) ?_
          rotate_left 1
          · intro w
            go_simp
            try with_reducible rfl
          dsimp only [Act.put]
          simp only [List.setIfInBounds_toArray, List.set_cons_zero, List.set_cons_succ]
          refine Till.move (i := 14) (d := 37) (v := ?_) rfl rfl (by kernel_rfl) (by kernel_rfl) (by kernel_rfl) (by kernel_rfl) (fun _ _ _ h => h) hS0 ?_ (by rfl) (by kernel_rfl) ?_
          rotate_left 1
          · intro w
            go_simp
            try with_reducible rfl
          dsimp only [Act.put]
          simp only [List.setIfInBounds_toArray, List.set_cons_zero, List.set_cons_succ]
          refine Till.move (i := 15) (d := 38) (v := ?_) rfl rfl (by kernel_rfl) (by kernel_rfl) (by kernel_rfl) (by kernel_rfl) (fun _ _ _ h => h) hS0 ?_ (by rfl) (by kernel_rfl) ?_
          rotate_left 1
          · intro w
            go_simp
            try with_reducible rfl
          dsimp only [Act.put]
          simp only [List.setIfInBounds_toArray, List.set_cons_zero, List.set_cons_succ]
          refine Till.only false (i := 16) rfl (by kernel_rfl) (by rfl) (by kernel_rfl) fun K hK => ?_
          go_simp
          refine (HCe.out _).mono ?_
          rintro e w' ⟨rfl, rfl⟩
          refine hK.out _ _ hS0 ?_
          clear hK K
          refine Till.only false (i := 17) rfl (by kernel_rfl) (by rfl) (by kernel_rfl) fun K hK => ?_
          go_simp
          refine hK.out _ _ hS1 ?_
          clear hK K
          refine Till.only false (i := 18) rfl (by kernel_rfl) (by rfl) (by kernel_rfl) fun K hK => ?_
          refine wp_appB (.tmp 24) (.tmp 40) rfl (w.heap.size + 2) (16 * y + x) v (bls P (16 * y + x)) rfl HOA.out.own ⟨wr.heap.size, 0, none⟩ q rfl (cell_of_row _ _ 0 _ _ _ (heap_alloc_new _ _)) HM.out HOA.out.size rfl 41 rfl ?_
          intro v2 w2 hown hgrow
          obtain ⟨g2, c2, rfl⟩ := ownsRow_succ hown
          have HR := Lib.hid (HD.out.grow HQ.out hown hgrow)
          clear hown hgrow
          have b3 := HR.out.2.1
          have b4 := HR.out.2.2.1
          have hS2 := tillS (fun w' => w'.cell? ⟨w.heap.size + 1, 1, none⟩ = some v ∧ w'.cell? ⟨B, j, none⟩ = some (.int .u64 (rg (t j)))) w2 ⟨b3, HT.out _ (HD.out.below.trans (HR.out.2.2.2.2.mono HD.out.lo))⟩
          refine hK.out _ _ hS2 ?_
          clear hK K
          dsimp only [Act.put]
          simp only [List.setIfInBounds_toArray, List.set_cons_zero, List.set_cons_succ]
          refine Till.move (i := 19) (d := 42) (v := ?_) rfl rfl (by kernel_rfl) (by kernel_rfl) (by kernel_rfl) (by kernel_rfl) (fun _ _ _ h => h) hS2 ?_ (by rfl) (by kernel_rfl) ?_
          rotate_left 1
          · intro w
            go_simp
            try with_reducible rfl
          dsimp only [Act.put]
          simp only [List.setIfInBounds_toArray, List.set_cons_zero, List.set_cons_succ]
          refine Till.only true (i := 20) rfl (by kernel_rfl) (by rfl) (by kernel_rfl) fun K hK => ?_
          go_simp
          refine hK.out _ _ (tillS_true _ _) ?_
          clear hK K
          refine Till.done (by kernel_rfl) ?_ _
          go_wp2
          go_roundw
          case rel => exact ⟨x + 1, _, by omega, by go_num, Lib.hid HR.out.1⟩
          case measure => simp [intOf]; omega
        · obtain rfl : x = 16 := by omega
          go_wp2
          go_roundw
          case rel => exact ⟨y + 1, v, by omega, by go_num, by rw [show 16 * (y + 1) = 16 * y + 16 by omega]; exact HX⟩
          case measure => simp [intOf]; omega
    · obtain rfl : y = 16 := by omega
      obtain ⟨g, cap, rfl, hg, hgl, hc⟩ := own_bls HY.out.own (by decide)
      have HGr := Lib.hid (show GridAt wr 256 g P from ⟨hgl, hc⟩)
      have b0 := HY.out.cells.1
      have b1 := HY.out.cells.2.2
      have HRs := Lib.hid HY.out.res
      have HNe := Lib.hid (show ¬ g = w.heap.size by omega)
      clear hg hgl hc
      go_wp2_with (refine wpList_store_row rfl 48 (.tmp 4) (.tmp 43) rfl w.heap.size #[.int .i64 16, .slice (some ⟨g, 0, none⟩) 256 cap] rfl rfl 48 _ HRs.out (by kernel_rfl) rfl (one_grid _ _ _ _) ?_)
      refine bodyPost_ret (results_cell_row Tryd.results19 _ _ w.heap.size 48 #[.int .i64 16, .slice (some ⟨g, 0, none⟩) 256 cap] (0, 0) _ rfl (setRow_heap _ _ _ _ _ _ HRs.out) Tryd.underlying48 rfl (by kernel_rfl)) rfl ⟨g, cap, rfl, grid_row HGr.out HRs.out HNe.out, below_setRow HY.out.below _ (Nat.le_refl _) _⟩
theorem laid_plane3 (t : Nat → T6) : gpl 24 (laidP 3 24 t) = tp 3 t := by
  funext x y
  by_cases h : x < 0 ∨ y < 0 ∨ (24 : Int) ≤ x ∨ (24 : Int) ≤ y
  · rw [gpl_out _ _ _ _ (by omega), tp_out _ _ _ _ (by omega)]
  · obtain ⟨x, rfl⟩ := Int.eq_ofNat_of_zero_le (show 0 ≤ x by omega)
    obtain ⟨y, rfl⟩ := Int.eq_ofNat_of_zero_le (show 0 ≤ y by omega)
    have hx : x < 24 := by omega
    have hy : y < 24 := by omega
    rw [gpl_nat _ _ _ _ hx hy, tp_nat, decide_eq_true (show x < 8 * 3 by omega), decide_eq_true (show y < 8 * 3 by omega)]
    unfold laidP
    rw [show (24 * y + x) / 24 = y by omega, show (24 * y + x) % 24 = x by omega]
    simp
theorem cell_at3 (t : Nat → T6) (x y : Nat) (hx : x < 24) (_hy : y < 24) (w : World) : Calls Tryd.prog 8 #[.int .u64 (rg (t (y / 8 * 3 + x / 8))), .int .i64 ((x : Int) % 8), .int .i64 ((y : Int) % 8)] w fun e w' => e = .returned (.bool (laidP 3 24 t (24 * y + x))) ∧ w = w' := by
  have h := cell_ref (t (y / 8 * 3 + x / 8)) (x % 8) (y % 8) (by omega) (by omega) w
  unfold laidP
  rw [show (24 * y + x) / 24 = y by omega, show (24 * y + x) % 24 = x by omega]
  exact h
theorem wr3 (x y : Nat) (hx : x < 24) (hy : y < 24) : IntKind.i64.wrap ((y : Int) / 8 * 3) = (y : Int) / 8 * 3 ∧ IntKind.i64.wrap ((y : Int) / 8 * 3 + (x : Int) / 8) = ((y / 8 * 3 + x / 8 : Nat) : Int) := by
  rw [show (y : Int) / 8 * 3 = ((y / 8 * 3 : Nat) : Int) by omega, show ((y / 8 * 3 : Nat) : Int) + (x : Int) / 8 = ((y / 8 * 3 + x / 8 : Nat) : Int) by omega]
  exact ⟨wrapn _ (by omega), wrapn _ (by omega)⟩
theorem wq3 (x : Nat) (hx : x < 24) : IntKind.i64.wrap ((x : Int) / 8) = (x : Int) / 8 ∧ Int.tmod (x : Int) 8 = (x : Int) % 8 := by
  rw [show (x : Int) / 8 = ((x / 8 : Nat) : Int) by omega]
  exact ⟨wrapn _ (by omega), Int.tmod_eq_emod_of_nonneg (by omega)⟩
theorem idx3 (x y : Nat) (hx : x < 24) (hy : y < 24) : y / 8 * 3 + x / 8 < 9 ∧ (y : Int) / 8 * 3 + (x : Int) / 8 = ((y / 8 * 3 + x / 8 : Nat) : Int) := by omega
set_option maxRecDepth 100000 in
set_option maxHeartbeats 1000000 in
theorem laid_ref3 (B cp : Nat) (t : Nat → T6) (w : World) (hB : B < w.heap.size) (ht : ∀ i, i < 9 → w.cell? ⟨B, i, none⟩ = some (.int .u64 (rg (t i)))) :
    Calls Tryd.prog 19 #[.slice (some ⟨B, 0, none⟩) 9 cp, .int .i64 3] w fun e w' => ∃ g cap, e = .returned (Gv 24 (.slice (some ⟨g, 0, none⟩) 576 cap)) ∧ GridAt w' 576 g (laidP 3 24 t) ∧ Below w.heap.size w w' := by
  have HO0 := Lib.hid (out_start 24 (laidP 3 24 t) w)
  obtain ⟨P, hP⟩ : ∃ P, P = laidP 3 24 t := ⟨_, rfl⟩
  have HC := Lib.hid (cell_at3 t)
  rw [← hP] at HO0 HC ⊢
  clear hP
  go_enter Tryd.func19, Tryd.ntmps19
  go_wp2
  generalize ((w.alloc (.cells #[.int .i64 0, .slice none 0 0] 48)).alloc (.cells #[.int .i64 24, .slice none 0 0] 48)) = W1 at HO0 ⊢
  go_loopw [6] (fun i ws => ∃ (y : Nat) (v : Value), y ≤ 24 ∧ i = .int .i64 (y : Int) ∧ Hid (OutAt w ws w.heap.size (w.heap.size + 1) (w.heap.size + 2) 24 P (24 * y) v)) (fun i _ => 24 - (intOf i).toNat)
  case atStart => exact ⟨0, _, by omega, rfl, HO0⟩
  case round =>
    obtain ⟨y, v0, hy, rfl, HY⟩ := hrel
    have y0 : (0 : Int) ≤ (y : Int) := by omega
    by_cases hly : y < 24
    · have y1 : (y : Int) < 24 := by omega
      go_wp2
      go_loopw [7] (fun i ws => ∃ (x : Nat) (v : Value), x ≤ 24 ∧ i = .int .i64 (x : Int) ∧ Hid (OutAt w ws w.heap.size (w.heap.size + 1) (w.heap.size + 2) 24 P (24 * y + x) v)) (fun i _ => 24 - (intOf i).toNat)
      case atStart => exact ⟨0, v0, by omega, rfl, HY⟩
      case round =>
        obtain ⟨x, v, hx, rfl, HX⟩ := hrel
        have x0 : (0 : Int) ≤ (x : Int) := by omega
        by_cases hlx : x < 24
        · have x1 : (x : Int) < 24 := by omega
          obtain ⟨hj, E1⟩ := idx3 x y hlx hly
          obtain ⟨W0, W2⟩ := wr3 x y hlx hly
          obtain ⟨Wx, Wxm⟩ := wq3 x hlx
          obtain ⟨Wy, Wym⟩ := wq3 y hly
          have HCe := Lib.hid (fun w => HC.out x y hlx hly w)
          have HM := Lib.hid (show 24 * y + x ≤ 600 by omega)
          obtain ⟨q, hq⟩ : ∃ q, q = P (24 * y + x) := ⟨_, rfl⟩
          rw [← hq] at HCe
          have HQ := Lib.hid hq
          clear hq
          generalize y / 8 * 3 + x / 8 = j at hj E1 W2 HCe
          have jw := wrapn j (Nat.lt_trans hj (by decide))
          have j0 : (0 : Int) ≤ (j : Int) := Int.natCast_nonneg _
          have j1 : (j : Int) < 9 := Int.ofNat_lt.2 hj
          have HD := Lib.hid HX.out.drew
          have HT := Lib.hid (fun w' (h : Below w.heap.size w w') => (h.cell (p := ⟨B, j, none⟩) hB).trans (ht j hj))
          have hS0 := tillS (fun w' => w'.cell? ⟨w.heap.size + 1, 1, none⟩ = some v ∧ w'.cell? ⟨B, j, none⟩ = some (.int .u64 (rg (t j)))) wr.drew ⟨HD.out.cells.1, HT.out _ HD.out.below⟩
          have HOA := Lib.hid (HD.out.on (alX _ (.cells #[.bool q] 4)))
          have hS1 := tillS (fun w' => w'.cell? ⟨w.heap.size + 1, 1, none⟩ = some v ∧ w'.cell? ⟨B, j, none⟩ = some (.int .u64 (rg (t j)))) (wr.drew.alloc (.cells #[.bool q] 4)) ⟨HOA.out.cells.1, HT.out _ HOA.out.below⟩
          go_wp2
          refine Till.region (s := 20) (S := TillS (fun w' => w'.cell? ⟨w.heap.size + 1, 1, none⟩ = some v ∧ w'.cell? ⟨B, j, none⟩ = some (.int .u64 (rg (t j))))) (by kernel_rfl) ?_
          simp only [List.size_toArray, List.length_cons, List.length_nil]
          refine Till.move (i := 0) (d := 23) (v := ?_) rfl rfl (by kernel_rfl) (by kernel_rfl) (by kernel_rfl) (by kernel_rfl) (fun _ _ _ h => h) hS0 ?_ (by rfl) (by kernel_rfl) ?_
          rotate_left 1
          · intro w
            go_simp
            try with_reducible rfl
          dsimp only [Act.put]
          simp only [List.setIfInBounds_toArray, List.set_cons_zero, List.set_cons_succ]
          refine Till.load (i := 1) (d := 24) (v := ?_) rfl rfl (by kernel_rfl) (by kernel_rfl) (by kernel_rfl) (by kernel_rfl) (fun _ _ _ h => h) hS0 ?_ (by rfl) ?_
          rotate_left 1
          · intro w' hx
            obtain ⟨z1, z2⟩ := hx rfl
            go_simp
            try with_reducible rfl
          dsimp only [Act.put]
          simp only [List.setIfInBounds_toArray, List.set_cons_zero, List.set_cons_succ]
          refine Till.move (i := 2) (d := 25) (v := ?_) rfl rfl (by kernel_rfl) (by kernel_rfl) (by kernel_rfl) (by kernel_rfl) (fun _ _ _ h => h) hS0 ?_ (by rfl) (by kernel_rfl) ?_
          rotate_left 1
          · intro w
            go_simp
            try with_reducible rfl
          dsimp only [Act.put]
          simp only [List.setIfInBounds_toArray, List.set_cons_zero, List.set_cons_succ]
          refine Till.move (i := 3) (d := 26) (v := ?_) rfl rfl (by kernel_rfl) (by kernel_rfl) (by kernel_rfl) (by kernel_rfl) (fun _ _ _ h => h) hS0 ?_ (by rfl) (by kernel_rfl) ?_
          rotate_left 1
          · intro w
            go_simp
            try with_reducible rfl
          dsimp only [Act.put]
          simp only [List.setIfInBounds_toArray, List.set_cons_zero, List.set_cons_succ]
          refine Till.move (i := 4) (d := 27) (v := ?_) rfl rfl (by kernel_rfl) (by kernel_rfl) (by kernel_rfl) (by kernel_rfl) (fun _ _ _ h => h) hS0 ?_ (by rfl) (by kernel_rfl) ?_
          rotate_left 1
          · intro w
            go_simp
            try with_reducible rfl
          dsimp only [Act.put]
          simp only [List.setIfInBounds_toArray, List.set_cons_zero, List.set_cons_succ]
          refine Till.move (i := 5) (d := 28) (v := ?_) rfl rfl (by kernel_rfl) (by kernel_rfl) (by kernel_rfl) (by kernel_rfl) (fun _ _ _ h => h) hS0 ?_ (by rfl) (by kernel_rfl) ?_
          rotate_left 1
          · intro w
            go_simp
            try with_reducible rfl
          dsimp only [Act.put]
          simp only [List.setIfInBounds_toArray, List.set_cons_zero, List.set_cons_succ]
          refine Till.move (i := 6) (d := 29) (v := ?_) rfl rfl (by kernel_rfl) (by kernel_rfl) (by kernel_rfl) (by kernel_rfl) (fun _ _ _ h => h) hS0 ?_ (by rfl) (by kernel_rfl) ?_
          rotate_left 1
          · intro w
            go_simp
            try with_reducible rfl
          dsimp only [Act.put]
          simp only [List.setIfInBounds_toArray, List.set_cons_zero, List.set_cons_succ]
          refine Till.move (i := 7) (d := 30) (v := ?_) rfl rfl (by kernel_rfl) (by kernel_rfl) (by kernel_rfl) (by kernel_rfl) (fun _ _ _ h => h) hS0 ?_ (by rfl) (by kernel_rfl) ?_
          rotate_left 1
          · intro w
            go_simp
            try with_reducible rfl
          dsimp only [Act.put]
          simp only [List.setIfInBounds_toArray, List.set_cons_zero, List.set_cons_succ]
          refine Till.move (i := 8) (d := 31) (v := ?_) rfl rfl (by kernel_rfl) (by kernel_rfl) (by kernel_rfl) (by kernel_rfl) (fun _ _ _ h => h) hS0 ?_ (by rfl) (by kernel_rfl) ?_
          rotate_left 1
          · intro w
            go_simp
            try with_reducible rfl
          dsimp only [Act.put]
          simp only [List.setIfInBounds_toArray, List.set_cons_zero, List.set_cons_succ]
          refine Till.move (i := 9) (d := 32) (v := ?_) rfl rfl (by kernel_rfl) (by kernel_rfl) (by kernel_rfl) (by kernel_rfl) (fun _ _ _ h => h) hS0 ?_ (by rfl) (by kernel_rfl) ?_
          rotate_left 1
          · intro w
            go_simp
            try with_reducible rfl
          dsimp only [Act.put]
          simp only [List.setIfInBounds_toArray, List.set_cons_zero, List.set_cons_succ]
          refine Till.move (i := 10) (d := 33) (v := ?_) rfl rfl (by kernel_rfl) (by kernel_rfl) (by kernel_rfl) (by kernel_rfl) (fun _ _ _ h => h) hS0 ?_ (by rfl) (by kernel_rfl) ?_
          rotate_left 1
          · intro w
            go_simp
            try with_reducible rfl
          dsimp only [Act.put]
          simp only [List.setIfInBounds_toArray, List.set_cons_zero, List.set_cons_succ]
          refine Till.load (i := 11) (d := 34) (v := ?_) rfl rfl (by kernel_rfl) (by kernel_rfl) (by kernel_rfl) (by kernel_rfl) (fun _ _ _ h => h) hS0 ?_ (by rfl) ?_
          rotate_left 1
          · intro w' hx
            obtain ⟨z1, z2⟩ := hx rfl
            go_simp
            try with_reducible rfl
          dsimp only [Act.put]
          simp only [List.setIfInBounds_toArray, List.set_cons_zero, List.set_cons_succ]
          refine Till.move (i := 12) (d := 35) (v := ?_) rfl rfl (by kernel_rfl) (by kernel_rfl) (by kernel_rfl) (by kernel_rfl) (fun _ _ _ h => h) hS0 ?_ (by rfl) (by kernel_rfl) ?_
          rotate_left 1
          · intro w
            go_simp
            try with_reducible rfl
          dsimp only [Act.put]
          simp only [List.setIfInBounds_toArray, List.set_cons_zero, List.set_cons_succ]
          refine Till.move (i := 13) (d := 36) (v := ?_) rfl rfl (by kernel_rfl) (by kernel_rfl) (by kernel_rfl) (by kernel_rfl) (fun _ _ _ h => h) hS0 ?_ (by rfl) (by kernel_rfl) ?_
          rotate_left 1
          · intro w
            go_simp
            try with_reducible rfl
          dsimp only [Act.put]
          simp only [List.setIfInBounds_toArray, List.set_cons_zero, List.set_cons_succ]
          refine Till.move (i := 14) (d := 37) (v := ?_) rfl rfl (by kernel_rfl) (by kernel_rfl) (by kernel_rfl) (by kernel_rfl) (fun _ _ _ h => h) hS0 ?_ (by rfl) (by kernel_rfl) ?_
          rotate_left 1
          · intro w
            go_simp
            try with_reducible rfl
          dsimp only [Act.put]
          simp only [List.setIfInBounds_toArray, List.set_cons_zero, List.set_cons_succ]
          refine Till.move (i := 15) (d := 38) (v := ?_) rfl rfl (by kernel_rfl) (by kernel_rfl) (by kernel_rfl) (by kernel_rfl) (fun _ _ _ h => h) hS0 ?_ (by rfl) (by kernel_rfl) ?_
          rotate_left 1
          · intro w
            go_simp
            try with_reducible rfl
          dsimp only [Act.put]
          simp only [List.setIfInBounds_toArray, List.set_cons_zero, List.set_cons_succ]
          refine Till.only false (i := 16) rfl (by kernel_rfl) (by rfl) (by kernel_rfl) fun K hK => ?_
          go_simp
          refine (HCe.out _).mono ?_
          rintro e w' ⟨rfl, rfl⟩
          refine hK.out _ _ hS0 ?_
          clear hK K
          refine Till.only false (i := 17) rfl (by kernel_rfl) (by rfl) (by kernel_rfl) fun K hK => ?_
          go_simp
          refine hK.out _ _ hS1 ?_
          clear hK K
          refine Till.only false (i := 18) rfl (by kernel_rfl) (by rfl) (by kernel_rfl) fun K hK => ?_
          refine wp_appB (.tmp 24) (.tmp 40) rfl (w.heap.size + 2) (24 * y + x) v (bls P (24 * y + x)) rfl HOA.out.own ⟨wr.heap.size, 0, none⟩ q rfl (cell_of_row _ _ 0 _ _ _ (heap_alloc_new _ _)) HM.out HOA.out.size rfl 41 rfl ?_
          intro v2 w2 hown hgrow
          obtain ⟨g2, c2, rfl⟩ := ownsRow_succ hown
          have HR := Lib.hid (HD.out.grow HQ.out hown hgrow)
          clear hown hgrow
          have b3 := HR.out.2.1
          have b4 := HR.out.2.2.1
          have hS2 := tillS (fun w' => w'.cell? ⟨w.heap.size + 1, 1, none⟩ = some v ∧ w'.cell? ⟨B, j, none⟩ = some (.int .u64 (rg (t j)))) w2 ⟨b3, HT.out _ (HD.out.below.trans (HR.out.2.2.2.2.mono HD.out.lo))⟩
          refine hK.out _ _ hS2 ?_
          clear hK K
          dsimp only [Act.put]
          simp only [List.setIfInBounds_toArray, List.set_cons_zero, List.set_cons_succ]
          refine Till.move (i := 19) (d := 42) (v := ?_) rfl rfl (by kernel_rfl) (by kernel_rfl) (by kernel_rfl) (by kernel_rfl) (fun _ _ _ h => h) hS2 ?_ (by rfl) (by kernel_rfl) ?_
          rotate_left 1
          · intro w
            go_simp
            try with_reducible rfl
          dsimp only [Act.put]
          simp only [List.setIfInBounds_toArray, List.set_cons_zero, List.set_cons_succ]
          refine Till.only true (i := 20) rfl (by kernel_rfl) (by rfl) (by kernel_rfl) fun K hK => ?_
          go_simp
          refine hK.out _ _ (tillS_true _ _) ?_
          clear hK K
          refine Till.done (by kernel_rfl) ?_ _
          go_wp2
          go_roundw
          case rel => exact ⟨x + 1, _, by omega, by go_num, Lib.hid HR.out.1⟩
          case measure => simp [intOf]; omega
        · obtain rfl : x = 24 := by omega
          go_wp2
          go_roundw
          case rel => exact ⟨y + 1, v, by omega, by go_num, by rw [show 24 * (y + 1) = 24 * y + 24 by omega]; exact HX⟩
          case measure => simp [intOf]; omega
    · obtain rfl : y = 24 := by omega
      obtain ⟨g, cap, rfl, hg, hgl, hc⟩ := own_bls HY.out.own (by decide)
      have HGr := Lib.hid (show GridAt wr 576 g P from ⟨hgl, hc⟩)
      have b0 := HY.out.cells.1
      have b1 := HY.out.cells.2.2
      have HRs := Lib.hid HY.out.res
      have HNe := Lib.hid (show ¬ g = w.heap.size by omega)
      clear hg hgl hc
      go_wp2_with (refine wpList_store_row rfl 48 (.tmp 4) (.tmp 43) rfl w.heap.size #[.int .i64 24, .slice (some ⟨g, 0, none⟩) 576 cap] rfl rfl 48 _ HRs.out (by kernel_rfl) rfl (one_grid _ _ _ _) ?_)
      refine bodyPost_ret (results_cell_row Tryd.results19 _ _ w.heap.size 48 #[.int .i64 24, .slice (some ⟨g, 0, none⟩) 576 cap] (0, 0) _ rfl (setRow_heap _ _ _ _ _ _ HRs.out) Tryd.underlying48 rfl (by kernel_rfl)) rfl ⟨g, cap, rfl, grid_row HGr.out HRs.out HNe.out, below_setRow HY.out.below _ (Nat.le_refl _) _⟩
end Go.Proofs.YthbokehoibadcaaDoor

/-
  THE WALKS of the document's Grow and Nine. Conditions: the rule's parts are numbers of 16 bits; no more than four generations.
-/
import Derived.Test.YthbokehoibadcaaDoorGf
namespace Go.Proofs.YthbokehoibadcaaDoor
open Go.RowKit Ti Ru

theorem u4_cells {w : World} {g : Nat} {a b c d : T6} {T : TypeId} (h : w.heap[g]? = some (.cells #[.int .u64 (rg a), .int .u64 (rg b), .int .u64 (rg c), .int .u64 (rg d)] T)) : ∀ i, i < 4 → w.cell? ⟨g, i, none⟩ = some (.int .u64 (rg (q4 a b c d i))) := by
  intro i hi
  rw [cell_of_row _ _ i _ _ _ h]
  rcases (show i = 0 ∨ i = 1 ∨ i = 2 ∨ i = 3 by omega) with rfl | rfl | rfl | rfl <;> rfl
theorem u9_cells {w : World} {G : Nat} {a b c d e f g h i : T6} {T : TypeId} (H : w.heap[G]? = some (.cells #[.int .u64 (rg a), .int .u64 (rg b), .int .u64 (rg c), .int .u64 (rg d), .int .u64 (rg e), .int .u64 (rg f), .int .u64 (rg g), .int .u64 (rg h), .int .u64 (rg i)] T)) : ∀ k, k < 9 → w.cell? ⟨G, k, none⟩ = some (.int .u64 (rg (q9 a b c d e f g h i k))) := by
  intro k hk
  rw [cell_of_row _ _ k _ _ _ H]
  rcases (show k = 0 ∨ k = 1 ∨ k = 2 ∨ k = 3 ∨ k = 4 ∨ k = 5 ∨ k = 6 ∨ k = 7 ∨ k = 8 by omega) with rfl | rfl | rfl | rfl | rfl | rfl | rfl | rfl | rfl <;> rfl
/-- a grid in its box, so many generations on -/
structure GrAt (w ws : World) (r l G k : Nat) (t : Nat → T6) (g cap : Nat) (L : Nat → Bool) : Prop where
  box : ws.heap[G]? = some (.cells #[.int .i64 16, .slice (some ⟨g, 0, none⟩) 256 cap] 48)
  grid : GridAt ws 256 g L
  ag : Ag (gpl 16 L) (gens r l (tp 2 t) k) (k : Int) (15 - k) (k : Int) (15 - k)
  rb : ws.heap[w.heap.size]? = some (.cells #[.int .u16 r, .int .u16 l] 39)
  below : Below w.heap.size w ws
  far : w.heap.size < G
theorem GridAt.ne {w : World} {M g G : Nat} {L : Nat → Bool} {cs : Array Value} {T : TypeId} {v : Value} (h : GridAt w M g L) (hM : 0 < M) (k : w.heap[G]? = some (.cells cs T)) (hv : cs[0]? = some v) (hb : ∀ b, v ≠ .bool b) : ¬ g = G := by
  intro e
  subst e
  have h1 := h.at_ 0 hM
  rw [cell_of_row _ _ 0 _ _ _ k, hv] at h1
  cases h1
  exact hb _ rfl
theorem GrAt.next {w ws w2 : World} {r l G k : Nat} {t : Nat → T6} {g cap g2 cap2 : Nat} {L : Nat → Bool} (h : GrAt w ws r l G k t g cap L) (hk : k ≤ 4) (hg : GridAt w2 256 g2 (nxP r l 16 L)) (hb : Below ws.heap.size ws w2) :
    GrAt w (w2.setRow G #[.int .i64 16, .slice (some ⟨g2, 0, none⟩) 256 cap2]) r l G (k + 1) t g2 cap2 (nxP r l 16 L) ∧ w2.heap[G]? = some (.cells #[.int .i64 16, .slice (some ⟨g, 0, none⟩) 256 cap] 48) := by
  have hG := (hb.block _ (lt_of_block h.box)).trans h.box
  have hne := hg.ne (by decide) hG (v := .int .i64 16) rfl (by intro b e; cases e)
  have hf := h.far
  refine ⟨⟨setRow_heap _ _ _ _ _ _ hG, grid_row hg hG hne, ?_, (setRow_other w2 G _ _ (by omega)).trans ((hb.block _ (lt_of_block h.rb)).trans h.rb), below_setRow (h.below.trans (hb.mono h.below.size)) _ (by omega) _, h.far⟩, hG⟩
  have h1 := nxP_plane r l 16 L
  have h2 := gen_ag r l h.ag
  exact (h1.sub (x2 := ((k + 1 : Nat) : Int)) (x3 := 15 - ((k + 1 : Nat) : Int)) (y2 := ((k + 1 : Nat) : Int)) (y3 := 15 - ((k + 1 : Nat) : Int)) (by omega) (by omega) (by omega) (by omega)).trans (h2.sub (by omega) (by omega) (by omega) (by omega))
theorem GrAt.cells {w ws : World} {r l G k : Nat} {t : Nat → T6} {g cap : Nat} {L : Nat → Bool} (h : GrAt w ws r l G k t g cap L) : (ws.cell? ⟨w.heap.size, 0, none⟩ = some (.int .u16 r) ∧ ws.cell? ⟨w.heap.size, 1, none⟩ = some (.int .u16 l)) ∧ ws.cell? ⟨G, 0, none⟩ = some (.int .i64 16) ∧ ws.cell? ⟨G, 1, none⟩ = some (.slice (some ⟨g, 0, none⟩) 256 cap) :=
  ⟨⟨cell_of_row _ _ 0 _ _ _ h.rb, cell_of_row _ _ 1 _ _ _ h.rb⟩, cell_of_row _ _ 0 _ _ _ h.box, cell_of_row _ _ 1 _ _ _ h.box⟩
theorem GrAt.cut {w ws : World} {r l G n : Nat} {t : Nat → T6} {g cap : Nat} {L : Nat → Bool} (h : GrAt w ws r l G n t g cap L) (hn : n ≤ 4) : cutB (gpl 16 L) 4 4 = growB r l n t :=
  cuts_eq ((cutB_cuts (gpl 16 L) 4 4).ag h.ag (by omega) (by omega) (by omega) (by omega))
theorem is16 : isN 16 256 16 := .inl ⟨rfl, rfl, rfl⟩
theorem is24 : isN 24 576 24 := .inr ⟨rfl, rfl, rfl⟩
theorem gr_start {w w1 : World} {r l g cap : Nat} {t : Nat → T6} {o : Obj} (h : Below ((w.alloc (.cells #[.int .u16 r, .int .u16 l] 39)).alloc o).heap.size ((w.alloc (.cells #[.int .u16 r, .int .u16 l] 39)).alloc o) w1) (hg : GridAt w1 256 g (laidP 2 16 t)) : GrAt w (w1.alloc (.cells #[.int .i64 16, .slice (some ⟨g, 0, none⟩) 256 cap] 48)) r l w1.heap.size 0 t g cap (laidP 2 16 t) := by
  have k := two_boxes w (.cells #[.int .u16 r, .int .u16 l] 39) o
  have b1 := k.2.2.1.trans (h.mono k.2.2.1.size)
  have r1 := (h.block _ (lt_of_block k.1)).trans k.1
  refine ⟨heap_alloc_new _ _, hg.on (alX _ _) (Nat.le_refl _), ?_, ((alX w1 _).block _ (lt_of_block r1)).trans r1, b1.trans ((alX w1 _).mono b1.size), lt_of_block r1⟩
  rw [laid_plane2]
  exact fun _ _ _ _ _ _ => rfl
set_option maxRecDepth 100000 in
set_option maxHeartbeats 1000000 in
theorem grow_ref (r l : Nat) (hr : r < 65536) (hl : l < 65536) (a b c d : T6) (n : Nat) (hn : n ≤ 4) (w : World) :
    Calls Tryd.prog 21 #[Rv r l, .agg #[.int .u64 (rg a), .int .u64 (rg b), .int .u64 (rg c), .int .u64 (rg d)], .int .i64 (n : Int)] w fun e w' => e = .returned (.int .u64 (rg (growB r l n (q4 a b c d)))) ∧ Below w.heap.size w w' := by
  have HT := Lib.hid (two_boxes w (.cells #[.int .u16 r, .int .u16 l] 39) (.cells #[.int .u64 (rg a), .int .u64 (rg b), .int .u64 (rg c), .int .u64 (rg d)] 40))
  have HL := Lib.hid (laid_ref2 (w.heap.size + 1) 4 (q4 a b c d) _ (lt_of_block HT.out.2.1) (u4_cells HT.out.2.1))
  have HNX := Lib.hid (fun g cp L w hG => next_grid r l 16 256 g cp 16 L hr hl is16 w hG)
  have HCut := Lib.hid (fun g cp L w hG => cut_ref 16 256 g cp 16 4 4 L is16 (by decide) (by decide) (by decide) (by decide) w hG)
  have HN := Lib.hid hn
  have n0 : (0 : Int) ≤ (n : Int) := by omega
  have n1 : (n : Int) ≤ 4 := by omega
  unfold Rv at *
  clear hr hl hn
  go_enter Tryd.func21, Tryd.ntmps21
  go_wp2_with (go_at_call 19; refine HL.out.mono ?_; rintro e w1 ⟨g, cap, rfl, hg, hb⟩; have HS := Lib.hid (gr_start (cap := cap) hb hg); clear hg hb)
  generalize w1.heap.size = G at HS ⊢
  generalize w1.alloc (.cells #[.int .i64 16, .slice (some ⟨g, 0, none⟩) 256 cap] 48) = w2 at HS ⊢
  go_loopw [8] (fun i ws => ∃ (k : Nat) (g cap : Nat) (L : Nat → Bool), k ≤ n ∧ i = .int .i64 (k : Int) ∧ Hid (GrAt w ws r l G k (q4 a b c d) g cap L)) (fun i _ => n - (intOf i).toNat)
  case atStart => exact ⟨0, _, _, _, by omega, rfl, HS⟩
  case round =>
    obtain ⟨k, g1, cap1, L, hk, rfl, HK⟩ := hrel
    have k0 : (0 : Int) ≤ (k : Int) := by omega
    obtain ⟨⟨c0, c1⟩, c2, c3⟩ := HK.out.cells
    have hn4 := HN.out
    by_cases hlk : k < n
    · have k1 : (k : Int) < (n : Int) := by omega
      go_wp2_with first
        | (go_at_call 36; refine (HNX.out _ _ _ _ HK.out.grid).mono ?_; rintro e w3 ⟨g2, cap2, rfl, hg, hb⟩; have HM := Lib.hid (HK.out.next (cap2 := cap2) (by omega) hg hb); clear hg hb)
        | (refine wpList_store_row rfl 48 (.tmp 7) (.tmp 18) rfl G #[.int .i64 16, .slice (some ⟨g2, 0, none⟩) 256 cap2] rfl rfl 48 _ HM.out.2 (by kernel_rfl) rfl (one_grid _ _ _ _) ?_)
      go_roundw
      case rel => exact ⟨k + 1, g2, cap2, _, by omega, rfl, Lib.hid HM.out.1⟩
      case measure => simp [intOf]; omega
    · have k1 : ¬ (k : Int) < (n : Int) := by omega
      obtain rfl : k = n := by omega
      go_wp2_with (go_at_call 18; refine (HCut.out _ _ _ _ HK.out.grid).mono ?_; rintro e w3 ⟨rfl, hb⟩)
      go_ret
      exact ⟨by rw [HK.out.cut hn4]; rfl, HK.out.below.trans (hb.mono HK.out.below.size)⟩
/-- the rule in its box, while the document reckons on -/
structure NiAt (w ws : World) (r l : Nat) : Prop where
  rb : ws.heap[w.heap.size]? = some (.cells #[.int .u16 r, .int .u16 l] 39)
  below : Below w.heap.size w ws
theorem NiAt.on {w ws w2 : World} {r l : Nat} (h : NiAt w ws r l) (k : Below ws.heap.size ws w2) : NiAt w w2 r l := ⟨(k.block _ (lt_of_block h.rb)).trans h.rb, h.below.trans (k.mono h.below.size)⟩
theorem NiAt.cells {w ws : World} {r l : Nat} (h : NiAt w ws r l) : ws.cell? ⟨w.heap.size, 0, none⟩ = some (.int .u16 r) ∧ ws.cell? ⟨w.heap.size, 1, none⟩ = some (.int .u16 l) := ⟨cell_of_row _ _ 0 _ _ _ h.rb, cell_of_row _ _ 1 _ _ _ h.rb⟩
theorem nine_cut (r l : Nat) (q : Nat → T6) : cutB (gpl 24 (nxP r l 24 (laidP 3 24 q))) 8 8 = nextB r l q := by
  have h1 := nxP_plane r l 24 (laidP 3 24 q)
  rw [laid_plane3] at h1
  exact cuts_eq ((cutB_cuts _ 8 8).ag h1 (by omega) (by omega) (by omega) (by omega))
set_option maxRecDepth 100000 in
set_option maxHeartbeats 1000000 in
theorem nine_ref (r l : Nat) (hr : r < 65536) (hl : l < 65536) (a b c d e f g h i : T6) (w : World) :
    Calls Tryd.prog 23 #[Rv r l, .agg #[.int .u64 (rg a), .int .u64 (rg b), .int .u64 (rg c), .int .u64 (rg d), .int .u64 (rg e), .int .u64 (rg f), .int .u64 (rg g), .int .u64 (rg h), .int .u64 (rg i)]] w fun x w' => x = .returned (.int .u64 (rg (nextB r l (q9 a b c d e f g h i)))) ∧ Below w.heap.size w w' := by
  have HT := two_boxes w (.cells #[.int .u16 r, .int .u16 l] 39) (.cells #[.int .u64 (rg a), .int .u64 (rg b), .int .u64 (rg c), .int .u64 (rg d), .int .u64 (rg e), .int .u64 (rg f), .int .u64 (rg g), .int .u64 (rg h), .int .u64 (rg i)] 54)
  have HL := Lib.hid (laid_ref3 (w.heap.size + 1) 9 (q9 a b c d e f g h i) (World.drew ((w.alloc (.cells #[.int .u16 r, .int .u16 l] 39)).alloc (.cells #[.int .u64 (rg a), .int .u64 (rg b), .int .u64 (rg c), .int .u64 (rg d), .int .u64 (rg e), .int .u64 (rg f), .int .u64 (rg g), .int .u64 (rg h), .int .u64 (rg i)] 54))) (lt_of_block HT.2.1) (u9_cells (w := World.drew ((w.alloc (.cells #[.int .u16 r, .int .u16 l] 39)).alloc (.cells #[.int .u64 (rg a), .int .u64 (rg b), .int .u64 (rg c), .int .u64 (rg d), .int .u64 (rg e), .int .u64 (rg f), .int .u64 (rg g), .int .u64 (rg h), .int .u64 (rg i)] 54))) HT.2.1))
  have HA0 := Lib.hid (⟨HT.1, HT.2.2.1.drew⟩ : NiAt w (World.drew ((w.alloc (.cells #[.int .u16 r, .int .u16 l] 39)).alloc (.cells #[.int .u64 (rg a), .int .u64 (rg b), .int .u64 (rg c), .int .u64 (rg d), .int .u64 (rg e), .int .u64 (rg f), .int .u64 (rg g), .int .u64 (rg h), .int .u64 (rg i)] 54))) r l)
  have KD := Lib.hid HA0.out.cells
  have HNX := Lib.hid (fun g cp L w hG => next_grid r l 24 576 g cp 24 L hr hl is24 w hG)
  have HCut := Lib.hid (fun g cp L w hG => cut_ref 24 576 g cp 24 8 8 L is24 (by decide) (by decide) (by decide) (by decide) w hG)
  have HE := Lib.hid (nine_cut r l (q9 a b c d e f g h i))
  unfold Rv at *
  clear hr hl HT
  generalize q9 a b c d e f g h i = q at HL HE ⊢
  go_enter Tryd.func23, Tryd.ntmps23
  go_wp2
  generalize ((w.alloc (.cells #[.int .u16 r, .int .u16 l] 39)).alloc (.cells #[.int .u64 (rg a), .int .u64 (rg b), .int .u64 (rg c), .int .u64 (rg d), .int .u64 (rg e), .int .u64 (rg f), .int .u64 (rg g), .int .u64 (rg h), .int .u64 (rg i)] 54)) = W2 at HL HA0 KD ⊢
  go_region_held3 (fun w' => w'.cell? ⟨w.heap.size, 0, none⟩ = some (.int .u16 r) ∧ w'.cell? ⟨w.heap.size, 1, none⟩ = some (.int .u16 l)) (first | with_reducible exact KD.out | with_reducible exact ks) (first
    | (go_at_call 19; with_reducible refine HL.out.mono ?_; rintro x w1 ⟨g1, cap1, rfl, hg, hb⟩; have HG1 := Lib.hid hg; have HA1 := Lib.hid (HA0.out.on hb); have ks := HA1.out.cells; clear hg hb)
    | (go_at_call 36; with_reducible refine (HNX.out _ _ _ _ HG1.out).mono ?_; rintro x w2 ⟨g2, cap2, rfl, hg, hb⟩; have HG2 := Lib.hid hg; have HA2 := Lib.hid (HA1.out.on hb); have ks := HA2.out.cells; clear hg hb)
    | (go_at_call 18; with_reducible refine (HCut.out _ _ _ _ HG2.out).mono ?_; rintro x w3 ⟨rfl, hb⟩; have HA3 := Lib.hid (HA2.out.on hb); have ks := HA3.out.cells; clear hb))
  all_goals
    go_wp2
    go_ret
    exact ⟨by rw [← HE.out]; rfl, HA3.out.below⟩
end Go.Proofs.YthbokehoibadcaaDoor

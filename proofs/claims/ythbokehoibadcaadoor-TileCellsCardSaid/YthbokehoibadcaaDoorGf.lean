/-
  THE WALK of the document's Next: a grid one generation on. Conditions: the rule's parts are numbers of 16 bits; the grid's cells lie there.
-/
import Derived.Test.YthbokehoibadcaaDoorGe
import Derived.Test.YthbokehoibadcaaDoorRe
namespace Go.Proofs.YthbokehoibadcaaDoor
open Go.RowKit Ti Ru

/-- the grid one generation on, in a row -/
def nxP (b l N : Nat) (L : Nat → Bool) : Nat → Bool := fun i => gen b l (gpl N L) ((i % N : Nat) : Int) ((i / N : Nat) : Int)
theorem nxP_at (b l N : Nat) (L : Nat → Bool) (x y : Nat) (hx : x < N) : nxP b l N L (N * y + x) = gen b l (gpl N L) (x : Int) (y : Int) := by
  unfold nxP
  rw [Nat.mul_add_mod, Nat.mod_eq_of_lt hx, Nat.mul_add_div (by omega), Nat.div_eq_of_lt hx, Nat.add_zero]
theorem nxP_plane (b l N : Nat) (L : Nat → Bool) : Ag (gpl N (nxP b l N L)) (gen b l (gpl N L)) 0 ((N : Int) - 1) 0 ((N : Int) - 1) := by
  intro x y x0 x1 y0 y1
  obtain ⟨x, rfl⟩ := Int.eq_ofNat_of_zero_le x0
  obtain ⟨y, rfl⟩ := Int.eq_ofNat_of_zero_le y0
  rw [gpl_nat _ _ _ _ (by omega) (by omega), nxP_at _ _ _ _ _ _ (by omega)]
/-- neighbours, the first so many of nine -/
def cn9 (p : Pl) (x y : Nat) : Nat → Nat
  | 0 => 0
  | k + 1 => cn9 p x y k + (if k = 4 then 0 else (p ((x : Int) + (k : Int) % 3 - 1) ((y : Int) + (k : Int) / 3 - 1)).toNat)
theorem cn9_le (p : Pl) (x y : Nat) : ∀ k, cn9 p x y k ≤ k
  | 0 => Nat.le_refl _
  | k + 1 => by
    have := cn9_le p x y k
    have h := toNat_le (p ((x : Int) + (k : Int) % 3 - 1) ((y : Int) + (k : Int) / 3 - 1))
    rw [cn9]
    split <;> omega
theorem cn9_all (p : Pl) (x y : Nat) : cn9 p x y 9 = nbr p x y := by
  simp only [cn9]
  unfold nbr
  simp
  have ex : (x : Int) + 2 - 1 = (x : Int) + 1 := by omega
  have ey : (y : Int) + 2 - 1 = (y : Int) + 1 := by omega
  rw [ex, ey]
  omega
theorem nbr_le (p : Pl) (x y : Int) : nbr p x y ≤ 8 := by
  unfold nbr
  have h1 := toNat_le (p (x - 1) (y - 1))
  have h2 := toNat_le (p x (y - 1))
  have h3 := toNat_le (p (x + 1) (y - 1))
  have h4 := toNat_le (p (x - 1) (y + 1))
  have h5 := toNat_le (p x (y + 1))
  have h6 := toNat_le (p (x + 1) (y + 1))
  have h7 := toNat_le (p (x - 1) y)
  have h8 := toNat_le (p (x + 1) y)
  omega
/-- where the next grid is built, with the rule and the grid beside it -/
structure NxAt (w ws : World) (r l : Nat) (I : Int) (M g cp : Nat) (P : Nat → Bool) (m : Nat) (v : Value) : Prop where
  out : OutAt w ws (w.heap.size + 2) (w.heap.size + 3) (w.heap.size + 4) I P m v
  rb : ws.heap[w.heap.size]? = some (.cells #[.int .u16 r, .int .u16 l] 39)
  gb : ws.heap[w.heap.size + 1]? = some (.cells #[.int .i64 I, .slice (some ⟨g, 0, none⟩) M cp] 48)
theorem NxAt.on {w ws w' : World} {r l M g cp m : Nat} {I : Int} {P : Nat → Bool} {v : Value} (h : NxAt w ws r l I M g cp P m v) (k : Below ws.heap.size ws w') : NxAt w w' r l I M g cp P m v :=
  ⟨h.out.on k, (k.block _ (lt_of_block h.rb)).trans h.rb, (k.block _ (lt_of_block h.gb)).trans h.gb⟩
theorem NxAt.keep {w ws : World} {r l M g cp m : Nat} {I : Int} {P : Nat → Bool} {v : Value} (h : NxAt w ws r l I M g cp P m v) :
    (ws.cell? ⟨w.heap.size + 3, 1, none⟩ = some v ∧ ws.cell? ⟨w.heap.size, 0, none⟩ = some (.int .u16 r) ∧ ws.cell? ⟨w.heap.size, 1, none⟩ = some (.int .u16 l)) ∧ ws.cell? ⟨w.heap.size + 1, 0, none⟩ = some (.int .i64 I) ∧ ws.cell? ⟨w.heap.size + 1, 1, none⟩ = some (.slice (some ⟨g, 0, none⟩) M cp) :=
  ⟨⟨h.out.cells.1, cell_of_row _ _ 0 _ _ _ h.rb, cell_of_row _ _ 1 _ _ _ h.rb⟩, cell_of_row _ _ 0 _ _ _ h.gb, cell_of_row _ _ 1 _ _ _ h.gb⟩
theorem NxAt.grow {w ws w2 : World} {r l M g cp m : Nat} {I : Int} {P : Nat → Bool} {v v2 : Value} {q : Bool} (h : NxAt w ws r l I M g cp P m v) (hq : q = P m) (hown : w2.ownsRow (w.heap.size + 4) 4 1 v2 (m + 1) (bls P m ++ [.bool q])) (hg : (ws.alloc (.cells #[.bool q] 4)).grownBy w2 v.ownBlock) :
    NxAt w (w2.setCell ⟨w.heap.size + 3, 1, none⟩ v2) r l I M g cp P (m + 1) v2 ∧ ((w2.cell? ⟨w.heap.size + 3, 1, none⟩ = some v ∧ w2.cell? ⟨w.heap.size, 0, none⟩ = some (.int .u16 r) ∧ w2.cell? ⟨w.heap.size, 1, none⟩ = some (.int .u16 l)) ∧ w2.cell? ⟨w.heap.size + 1, 0, none⟩ = some (.int .i64 I) ∧ w2.cell? ⟨w.heap.size + 1, 1, none⟩ = some (.slice (some ⟨g, 0, none⟩) M cp)) ∧ w2.frozen? ⟨w.heap.size + 3, 1, none⟩ = false := by
  have k := h.out.grow hq hown hg
  have h0 := (k.2.2.2.2.block w.heap.size (by omega)).trans h.rb
  have h1 := (k.2.2.2.2.block (w.heap.size + 1) (by omega)).trans h.gb
  exact ⟨⟨k.1, (heap_setCell_other _ _ _ _ (by show ¬ w.heap.size = w.heap.size + 3; omega)).trans h0, (heap_setCell_other _ _ _ _ (by show ¬ w.heap.size + 1 = w.heap.size + 3; omega)).trans h1⟩,
    ⟨⟨k.2.1, cell_of_row _ _ 0 _ _ _ h0, cell_of_row _ _ 1 _ _ _ h0⟩, cell_of_row _ _ 0 _ _ _ h1, cell_of_row _ _ 1 _ _ _ h1⟩, k.2.2.1⟩
theorem four_boxes (w : World) (o1 o2 o3 o4 : Obj) : ((((w.alloc o1).alloc o2).alloc o3).alloc o4).heap[w.heap.size]? = some o1 ∧ ((((w.alloc o1).alloc o2).alloc o3).alloc o4).heap[w.heap.size + 1]? = some o2 ∧ ((((w.alloc o1).alloc o2).alloc o3).alloc o4).heap[w.heap.size + 2]? = some o3 ∧ ((((w.alloc o1).alloc o2).alloc o3).alloc o4).heap[w.heap.size + 3]? = some o4 ∧ Below w.heap.size w ((((w.alloc o1).alloc o2).alloc o3).alloc o4) ∧ ((((w.alloc o1).alloc o2).alloc o3).alloc o4).heap.size = w.heap.size + 4 := by
  have h1 := two_boxes w o1 o2
  generalize (w.alloc o1).alloc o2 = w2 at *
  have h2 := two_boxes w2 o3 o4
  have e : w2.heap.size = w.heap.size + 2 := h1.2.2.2
  refine ⟨(h2.2.2.1.block _ (by omega)).trans h1.1, (h2.2.2.1.block _ (by omega)).trans h1.2.1, by rw [← e]; exact h2.1, by rw [show w.heap.size + 3 = w2.heap.size + 1 by omega]; exact h2.2.1, h1.2.2.1.trans (h2.2.2.1.mono (by omega)), by rw [h2.2.2.2]; omega⟩
theorem nx_start (r l : Nat) (I : Int) (M g cp : Nat) (P : Nat → Bool) (w : World) : NxAt w ((((w.alloc (.cells #[.int .u16 r, .int .u16 l] 39)).alloc (.cells #[.int .i64 I, .slice (some ⟨g, 0, none⟩) M cp] 48)).alloc (.cells #[.int .i64 0, .slice none 0 0] 48)).alloc (.cells #[.int .i64 I, .slice none 0 0] 48)) r l I M g cp P 0 (.slice none 0 0) := by
  have h := four_boxes w (.cells #[.int .u16 r, .int .u16 l] 39) (.cells #[.int .i64 I, .slice (some ⟨g, 0, none⟩) M cp] 48) (.cells #[.int .i64 0, .slice none 0 0] 48) (.cells #[.int .i64 I, .slice none 0 0] 48)
  exact ⟨⟨h.2.2.2.1, h.2.2.1, World.ownsRow_nil _ _ _ _, h.2.2.2.2.1, by rw [h.2.2.2.2.2]; exact Nat.le_refl _, by omega⟩, h.1, h.2.1⟩
theorem isN_facts {N M : Nat} {I : Int} (h : isN N M I) : I = (N : Int) ∧ N ≤ 24 ∧ 0 < N ∧ M = N * N := by
  rcases h with ⟨rfl, rfl, rfl⟩ | ⟨rfl, rfl, rfl⟩ <;> decide
theorem ny_le {N x y : Nat} (hN : N ≤ 24) (hx : x ≤ N) (hy : y < N) : N * y + x ≤ 600 := by
  have h1 : N * y ≤ N * N := Nat.mul_le_mul_left N (by omega)
  have h2 : N * N ≤ 24 * 24 := Nat.mul_le_mul hN hN
  omega
set_option maxRecDepth 100000 in
set_option maxHeartbeats 2000000 in
theorem next_grid (r l : Nat) (N M g cp : Nat) (I : Int) (L : Nat → Bool) (hr : r < 65536) (hl : l < 65536) (hN : isN N M I) (w : World) (hG : GridAt w M g L) :
    Calls Tryd.prog 36 #[Rv r l, Gv I (.slice (some ⟨g, 0, none⟩) M cp)] w fun e w' => ∃ g' cap, e = .returned (Gv I (.slice (some ⟨g', 0, none⟩) M cap)) ∧ GridAt w' M g' (nxP r l N L) ∧ Below w.heap.size w w' := by
  obtain ⟨hI, hN24, hN0, hM⟩ := isN_facts hN
  have HAT := Lib.hid (fun x y w (h : GridAt w M g L) => at_ref N M g cp I L x y hN w h.lt h.at_)
  have HNX := Lib.hid (fun x n hn w => next_ref r l x n hr hl hn w)
  have HGr := Lib.hid hG
  have HO0 := Lib.hid (nx_start r l I M g cp (nxP r l N L) w)
  have HPA := Lib.hid (nxP_at r l N L)
  obtain ⟨P, hP⟩ : ∃ P, P = nxP r l N L := ⟨_, rfl⟩
  rw [← hP] at HO0 HPA ⊢
  clear hP hG hN
  obtain ⟨p, hp⟩ : ∃ p, p = gpl N L := ⟨_, rfl⟩
  rw [← hp] at HAT HPA
  clear hp
  have HMN := Lib.hid hM
  have HIN := Lib.hid hI
  have i0 : (0 : Int) ≤ I := by omega
  have i1 : I ≤ 24 := by omega
  unfold Rv at *
  clear hM hI
  go_enter Tryd.func36, Tryd.ntmps36
  go_wp2
  generalize ((((w.alloc (.cells #[.int .u16 r, .int .u16 l] 39)).alloc (.cells #[.int .i64 I, .slice (some ⟨g, 0, none⟩) M cp] 48)).alloc (.cells #[.int .i64 0, .slice none 0 0] 48)).alloc (.cells #[.int .i64 I, .slice none 0 0] 48)) = W1 at HO0 ⊢
  go_loopw [6] (fun i ws => ∃ (y : Nat) (v : Value), y ≤ N ∧ i = .int .i64 (y : Int) ∧ Hid (NxAt w ws r l I M g cp P (N * y) v)) (fun i _ => N - (intOf i).toNat)
  case atStart => exact ⟨0, _, by omega, rfl, HO0⟩
  case round =>
    obtain ⟨y, v0, hy, rfl, HY⟩ := hrel
    have y0 : (0 : Int) ≤ (y : Int) := by omega
    have n0 := HY.out.keep.2.1
    by_cases hly : y < N
    · have y1 : (y : Int) < I := by rw [HIN.out]; omega
      go_wp2
      go_loopw [7] (fun i ws => ∃ (x : Nat) (v : Value), x ≤ N ∧ i = .int .i64 (x : Int) ∧ Hid (NxAt w ws r l I M g cp P (N * y + x) v)) (fun i _ => N - (intOf i).toNat)
      case atStart => exact ⟨0, v0, by omega, rfl, HY⟩
      case round =>
        obtain ⟨x, v, hx, rfl, HX⟩ := hrel
        have x0 : (0 : Int) ≤ (x : Int) := by omega
        have n0 := HX.out.keep.2.1
        by_cases hlx : x < N
        · have x1 : (x : Int) < I := by rw [HIN.out]; omega
          go_wp2
          go_loopw [8, 9] (fun c i ws => ∃ k : Nat, k ≤ 9 ∧ i = .int .i64 (k : Int) ∧ c = .int .i64 ((cn9 p x y k : Nat) : Int) ∧ Hid (NxAt w ws r l I M g cp P (N * y + x) v)) (fun _ i _ => 9 - (intOf i).toNat)
          case atStart => exact ⟨0, by omega, rfl, rfl, HX⟩
          case round =>
            obtain ⟨k, hk, rfl, rfl, HZ⟩ := hrel
            have k0 : (0 : Int) ≤ (k : Int) := by omega
            have hcl := Lib.hid (cn9_le p x y k)
            have c0 : (0 : Int) ≤ ((cn9 p x y k : Nat) : Int) := by omega
            have c1 : ((cn9 p x y k : Nat) : Int) ≤ 9 := by have := hcl.out; omega
            by_cases hlk : k < 9
            · have k1 : (k : Int) < 9 := by omega
              have hstep := Lib.hid (show cn9 p x y (k + 1) = cn9 p x y k + (if k = 4 then 0 else (p ((x : Int) + (k : Int) % 3 - 1) ((y : Int) + (k : Int) / 3 - 1)).toNat) from rfl)
              by_cases h4 : k = 4
              · subst h4
                have hs2 := Lib.hid (show cn9 p x y 5 = cn9 p x y 4 from hstep.out.trans (by simp))
                go_wp2
                go_roundw
                case rel => exact ⟨5, by omega, rfl, by rw [hs2.out], HZ⟩
                case measure => simp [intOf]
              · have h4i : ¬ (k : Int) = 4 := by omega
                have HAt := Lib.hid (fun w h => HAT.out ((x : Int) + (k : Int) % 3 - 1) ((y : Int) + (k : Int) / 3 - 1) w h)
                rw [if_neg h4] at hstep
                obtain ⟨z0, z1⟩ := HZ.out.keep.2
                generalize p ((x : Int) + (k : Int) % 3 - 1) ((y : Int) + (k : Int) / 3 - 1) = q at HAt hstep
                cases q
                all_goals
                  go_wp2_with (go_at_call 35; refine (HAt.out _ (HGr.out.on HZ.out.out.below (Nat.le_refl _))).mono ?_; rintro e w3 ⟨rfl, hb⟩; have HZ2 := Lib.hid (HZ.out.on hb); clear hb)
                  go_roundw
                  case rel => exact ⟨k + 1, by omega, by go_num, by rw [hstep.out]; simp, HZ2⟩
                  case measure => simp [intOf]; omega
            · obtain rfl : k = 9 := by omega
              have HCN := Lib.hid (cn9_all p x y)
              rw [HCN.out] at c0 c1 ⊢
              have HNx := Lib.hid (fun w => HNX.out (p x y) (nbr p x y) (nbr_le p x y) w)
              have HM := Lib.hid (ny_le hN24 hx hly)
              have HD := Lib.hid (HZ.out.on (Below.refl _ wr).drew)
              obtain ⟨q, hq⟩ : ∃ q, q = P (N * y + x) := ⟨_, rfl⟩
              have HQ := Lib.hid hq
              have HPx := Lib.hid (show pick r l (p x y) (nbr p x y) = q by rw [hq, HPA.out x y hlx]; rfl)
              rw [HPx.out] at HNx
              have HAt := Lib.hid (fun w h => HAT.out (x : Int) (y : Int) w h)
              clear hq hcl HPx HCN
              generalize nbr p x y = nb at HNx c0 c1 ⊢
              generalize p x y = px at HNx HAt
              have hS0 := tillS (fun w' => (w'.cell? ⟨w.heap.size + 3, 1, none⟩ = some v ∧ w'.cell? ⟨w.heap.size, 0, none⟩ = some (.int .u16 r) ∧ w'.cell? ⟨w.heap.size, 1, none⟩ = some (.int .u16 l)) ∧ w'.cell? ⟨w.heap.size + 1, 0, none⟩ = some (.int .i64 I) ∧ w'.cell? ⟨w.heap.size + 1, 1, none⟩ = some (.slice (some ⟨g, 0, none⟩) M cp)) wr.drew HD.out.keep
              go_wp2
              refine Till.region (s := 12) (S := TillS (fun w' => (w'.cell? ⟨w.heap.size + 3, 1, none⟩ = some v ∧ w'.cell? ⟨w.heap.size, 0, none⟩ = some (.int .u16 r) ∧ w'.cell? ⟨w.heap.size, 1, none⟩ = some (.int .u16 l)) ∧ w'.cell? ⟨w.heap.size + 1, 0, none⟩ = some (.int .i64 I) ∧ w'.cell? ⟨w.heap.size + 1, 1, none⟩ = some (.slice (some ⟨g, 0, none⟩) M cp))) (by kernel_rfl) ?_
              simp only [List.size_toArray, List.length_cons, List.length_nil]
              refine Till.move (i := 0) (d := 47) (v := ?_) rfl rfl (by kernel_rfl) (by kernel_rfl) (by kernel_rfl) (by kernel_rfl) (fun _ _ _ h => h) hS0 ?_ (by rfl) (by kernel_rfl) ?_
              rotate_left 1
              · intro w
                go_simp
                try with_reducible rfl
              dsimp only [Act.put]
              simp only [List.setIfInBounds_toArray, List.set_cons_zero, List.set_cons_succ]
              refine Till.load (i := 1) (d := 48) (v := ?_) rfl rfl (by kernel_rfl) (by kernel_rfl) (by kernel_rfl) (by kernel_rfl) (fun _ _ _ h => h) hS0 ?_ (by rfl) ?_
              rotate_left 1
              · intro w' hx
                obtain ⟨⟨z1, z2, z3⟩, z4, z5⟩ := hx rfl
                go_simp
                try with_reducible rfl
              dsimp only [Act.put]
              simp only [List.setIfInBounds_toArray, List.set_cons_zero, List.set_cons_succ]
              refine Till.load (i := 2) (d := 49) (v := ?_) rfl rfl (by kernel_rfl) (by kernel_rfl) (by kernel_rfl) (by kernel_rfl) (fun _ _ _ h => h) hS0 ?_ (by rfl) ?_
              rotate_left 1
              · intro w' hx
                obtain ⟨⟨z1, z2, z3⟩, z4, z5⟩ := hx rfl
                go_simp
                try with_reducible rfl
              dsimp only [Act.put]
              simp only [List.setIfInBounds_toArray, List.set_cons_zero, List.set_cons_succ]
              refine Till.load (i := 3) (d := 50) (v := ?_) rfl rfl (by kernel_rfl) (by kernel_rfl) (by kernel_rfl) (by kernel_rfl) (fun _ _ _ h => h) hS0 ?_ (by rfl) ?_
              rotate_left 1
              · intro w' hx
                obtain ⟨⟨z1, z2, z3⟩, z4, z5⟩ := hx rfl
                go_simp
                try with_reducible rfl
              dsimp only [Act.put]
              simp only [List.setIfInBounds_toArray, List.set_cons_zero, List.set_cons_succ]
              refine Till.move (i := 4) (d := 51) (v := ?_) rfl rfl (by kernel_rfl) (by kernel_rfl) (by kernel_rfl) (by kernel_rfl) (fun _ _ _ h => h) hS0 ?_ (by rfl) (by kernel_rfl) ?_
              rotate_left 1
              · intro w
                go_simp
                try with_reducible rfl
              dsimp only [Act.put]
              simp only [List.setIfInBounds_toArray, List.set_cons_zero, List.set_cons_succ]
              refine Till.move (i := 5) (d := 52) (v := ?_) rfl rfl (by kernel_rfl) (by kernel_rfl) (by kernel_rfl) (by kernel_rfl) (fun _ _ _ h => h) hS0 ?_ (by rfl) (by kernel_rfl) ?_
              rotate_left 1
              · intro w
                go_simp
                try with_reducible rfl
              dsimp only [Act.put]
              simp only [List.setIfInBounds_toArray, List.set_cons_zero, List.set_cons_succ]
              refine Till.move (i := 7) (d := 54) (v := ?_) rfl rfl (by kernel_rfl) (by kernel_rfl) (by kernel_rfl) (by kernel_rfl) (fun _ _ _ h => h) hS0 ?_ (by rfl) (by kernel_rfl) ?_
              rotate_left 1
              · intro w
                go_simp
                try with_reducible rfl
              dsimp only [Act.put]
              simp only [List.setIfInBounds_toArray, List.set_cons_zero, List.set_cons_succ]
              refine Till.only false (i := 6) rfl (by kernel_rfl) (by rfl) (by kernel_rfl) fun K hK => ?_
              go_simp
              refine (HAt.out _ (HGr.out.on HD.out.out.below (Nat.le_refl _))).mono ?_
              rintro e w3 ⟨rfl, hb3⟩
              have HD3 := Lib.hid (HD.out.on hb3)
              clear hb3
              have hS3 := tillS (fun w' => (w'.cell? ⟨w.heap.size + 3, 1, none⟩ = some v ∧ w'.cell? ⟨w.heap.size, 0, none⟩ = some (.int .u16 r) ∧ w'.cell? ⟨w.heap.size, 1, none⟩ = some (.int .u16 l)) ∧ w'.cell? ⟨w.heap.size + 1, 0, none⟩ = some (.int .i64 I) ∧ w'.cell? ⟨w.heap.size + 1, 1, none⟩ = some (.slice (some ⟨g, 0, none⟩) M cp)) w3 HD3.out.keep
              refine hK.out _ _ hS3 ?_
              clear hK K
              refine Till.only false (i := 8) rfl (by kernel_rfl) (by rfl) (by kernel_rfl) fun K hK => ?_
              go_simp
              refine (HNx.out _).mono ?_
              rintro e w4 ⟨rfl, hb4⟩
              have HD4 := Lib.hid (HD3.out.on hb4)
              clear hb4
              have hS4 := tillS (fun w' => (w'.cell? ⟨w.heap.size + 3, 1, none⟩ = some v ∧ w'.cell? ⟨w.heap.size, 0, none⟩ = some (.int .u16 r) ∧ w'.cell? ⟨w.heap.size, 1, none⟩ = some (.int .u16 l)) ∧ w'.cell? ⟨w.heap.size + 1, 0, none⟩ = some (.int .i64 I) ∧ w'.cell? ⟨w.heap.size + 1, 1, none⟩ = some (.slice (some ⟨g, 0, none⟩) M cp)) w4 HD4.out.keep
              refine hK.out _ _ hS4 ?_
              clear hK K
              have HOA := Lib.hid (HD4.out.on (alX _ (.cells #[.bool q] 4)))
              have hS5 := tillS (fun w' => (w'.cell? ⟨w.heap.size + 3, 1, none⟩ = some v ∧ w'.cell? ⟨w.heap.size, 0, none⟩ = some (.int .u16 r) ∧ w'.cell? ⟨w.heap.size, 1, none⟩ = some (.int .u16 l)) ∧ w'.cell? ⟨w.heap.size + 1, 0, none⟩ = some (.int .i64 I) ∧ w'.cell? ⟨w.heap.size + 1, 1, none⟩ = some (.slice (some ⟨g, 0, none⟩) M cp)) (w4.alloc (.cells #[.bool q] 4)) HOA.out.keep
              refine Till.only false (i := 9) rfl (by kernel_rfl) (by rfl) (by kernel_rfl) fun K hK => ?_
              go_simp
              refine hK.out _ _ hS5 ?_
              clear hK K
              refine Till.only false (i := 10) rfl (by kernel_rfl) (by rfl) (by kernel_rfl) fun K hK => ?_
              refine wp_appB (.tmp 48) (.tmp 56) rfl (w.heap.size + 4) (N * y + x) v (bls P (N * y + x)) rfl HOA.out.out.own ⟨w4.heap.size, 0, none⟩ q rfl (cell_of_row _ _ 0 _ _ _ (heap_alloc_new _ _)) HM.out HOA.out.out.size rfl 57 rfl ?_
              intro v2 w2 hown hgrow
              obtain ⟨g2, c2, rfl⟩ := ownsRow_succ hown
              have HR := Lib.hid (HD4.out.grow HQ.out hown hgrow)
              clear hown hgrow
              have b3 := HR.out.2.1.1.1
              have b4 := HR.out.2.2
              have hS6 := tillS (fun w' => (w'.cell? ⟨w.heap.size + 3, 1, none⟩ = some v ∧ w'.cell? ⟨w.heap.size, 0, none⟩ = some (.int .u16 r) ∧ w'.cell? ⟨w.heap.size, 1, none⟩ = some (.int .u16 l)) ∧ w'.cell? ⟨w.heap.size + 1, 0, none⟩ = some (.int .i64 I) ∧ w'.cell? ⟨w.heap.size + 1, 1, none⟩ = some (.slice (some ⟨g, 0, none⟩) M cp)) w2 HR.out.2.1
              refine hK.out _ _ hS6 ?_
              clear hK K
              dsimp only [Act.put]
              simp only [List.setIfInBounds_toArray, List.set_cons_zero, List.set_cons_succ]
              refine Till.move (i := 11) (d := 58) (v := ?_) rfl rfl (by kernel_rfl) (by kernel_rfl) (by kernel_rfl) (by kernel_rfl) (fun _ _ _ h => h) hS6 ?_ (by rfl) (by kernel_rfl) ?_
              rotate_left 1
              · intro w
                go_simp
                try with_reducible rfl
              dsimp only [Act.put]
              simp only [List.setIfInBounds_toArray, List.set_cons_zero, List.set_cons_succ]
              refine Till.only true (i := 12) rfl (by kernel_rfl) (by rfl) (by kernel_rfl) fun K hK => ?_
              go_simp
              refine hK.out _ _ (tillS_true _ _) ?_
              clear hK K
              refine Till.done (by kernel_rfl) ?_ _
              go_wp2
              go_roundw
              case rel => exact ⟨x + 1, _, by omega, by go_num, Lib.hid HR.out.1⟩
              case measure => simp [intOf]; omega
        · have x1 : ¬ (x : Int) < I := by rw [HIN.out]; omega
          obtain rfl : x = N := by omega
          go_wp2
          go_roundw
          case rel => exact ⟨y + 1, v, by omega, by go_num, by rw [Nat.mul_succ]; exact HX⟩
          case measure => simp [intOf]; omega
    · have y1 : ¬ (y : Int) < I := by rw [HIN.out]; omega
      have HMe := Lib.hid (show y * y = M by rw [HMN.out]; have : y = N := by omega
                                             rw [this])
      obtain rfl : y = N := by omega
      obtain ⟨g3, cap, rfl, hg, hgl, hc⟩ := own_bls HY.out.out.own (Nat.mul_pos hN0 hN0)
      rw [HMe.out] at hc
      have HGr3 := Lib.hid (show GridAt wr M g3 P from ⟨hgl, hc⟩)
      have b0 := HY.out.out.cells.1
      have b1 := HY.out.out.cells.2.2
      rw [HMe.out] at b0
      have HRs := Lib.hid HY.out.out.res
      have HNe := Lib.hid (show ¬ g3 = w.heap.size + 2 by omega)
      clear hg hgl hc
      go_wp2_with (refine wpList_store_row rfl 48 (.tmp 4) (.tmp 59) rfl (w.heap.size + 2) #[.int .i64 I, .slice (some ⟨g3, 0, none⟩) M cap] rfl rfl 48 _ HRs.out (by kernel_rfl) rfl (one_grid _ _ _ _) ?_)
      refine bodyPost_ret (results_cell_row Tryd.results36 _ _ (w.heap.size + 2) 48 #[.int .i64 I, .slice (some ⟨g3, 0, none⟩) M cap] (0, 0) _ rfl (setRow_heap _ _ _ _ _ _ HRs.out) Tryd.underlying48 rfl (by kernel_rfl)) rfl ⟨g3, ⟨cap, rfl⟩, grid_row HGr3.out HRs.out HNe.out, below_setRow HY.out.out.below _ (Nat.le_add_right _ 2) _⟩
end Go.Proofs.YthbokehoibadcaaDoor

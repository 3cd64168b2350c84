/-
  TileGrows, the walk. No condition but that the input could be read, and the package-level variable.
-/
import Derived.Test.YthbokehoibadcaaDoorGg
import Derived.Test.YthbokehoibadcaaDoorErr
import Derived.Test.YthbokehoibadcaaDoorSu
namespace Go.Proofs.YthbokehoibadcaaDoor
open Go.RowKit Ti Ru

/-- the rule and the four that came in, in their boxes -/
structure GwAt (W w : World) (r l : Nat) (a b c d : T6) : Prop where
  rule : w.heap[W.heap.size]? = some (.cells #[.int .u16 r, .int .u16 l] 39)
  src : w.heap[W.heap.size + 1]? = some (.cells #[.int .u64 (rg a), .int .u64 (rg b), .int .u64 (rg c), .int .u64 (rg d)] 40)
  below : Below W.heap.size W w
theorem GwAt.on {W w w2 : World} {r l : Nat} {a b c d : T6} (h : GwAt W w r l a b c d) (k : Below w.heap.size w w2) : GwAt W w2 r l a b c d := ⟨(k.block _ (lt_of_block h.rule)).trans h.rule, (k.block _ (lt_of_block h.src)).trans h.src, h.below.trans (k.mono h.below.size)⟩
theorem GwAt.cells {W w : World} {r l : Nat} {a b c d : T6} (h : GwAt W w r l a b c d) : w.cell? ⟨W.heap.size, 0, none⟩ = some (.int .u16 r) ∧ w.cell? ⟨W.heap.size, 1, none⟩ = some (.int .u16 l) ∧ w.cell? ⟨W.heap.size + 1, 0, none⟩ = some (.int .u64 (rg a)) ∧ w.cell? ⟨W.heap.size + 1, 1, none⟩ = some (.int .u64 (rg b)) ∧ w.cell? ⟨W.heap.size + 1, 2, none⟩ = some (.int .u64 (rg c)) ∧ w.cell? ⟨W.heap.size + 1, 3, none⟩ = some (.int .u64 (rg d)) :=
  ⟨cell_of_row _ _ 0 _ _ _ h.rule, cell_of_row _ _ 1 _ _ _ h.rule, cell_of_row _ _ 0 _ _ _ h.src, cell_of_row _ _ 1 _ _ _ h.src, cell_of_row _ _ 2 _ _ _ h.src, cell_of_row _ _ 3 _ _ _ h.src⟩
theorem gw_start (r l : Nat) (a b c d : T6) (W : World) : GwAt W ((W.alloc (.cells #[.int .u16 r, .int .u16 l] 39)).alloc (.cells #[.int .u64 (rg a), .int .u64 (rg b), .int .u64 (rg c), .int .u64 (rg d)] 40)) r l a b c d := by
  have h := two_boxes W (.cells #[.int .u16 r, .int .u16 l] 39) (.cells #[.int .u64 (rg a), .int .u64 (rg b), .int .u64 (rg c), .int .u64 (rg d)] 40)
  exact ⟨h.1, h.2.1, h.2.2.1⟩
theorem laid_gw {W w : World} {r l : Nat} {a b c d : T6} (h : GwAt W w r l a b c d) (hl : Laid W) : Laid w := hl.below h.below
theorem mid_cut (q : Nat → T6) : cutB (gpl 16 (laidP 2 16 q)) 4 4 = growB 0 0 0 q := by rw [laid_plane2]; rfl
set_option maxRecDepth 100000 in
set_option maxHeartbeats 2000000 in
theorem grows_walk (r l : Nat) (a b c d : T6) (n : Int) (W : World) (w0 : r < 65536 ∧ l < 65536) (_w2 : (Lit.int .i64 n).wf = true) (hl : Laid W) :
    Calls Tryd.prog 4 #[.agg #[.int .u16 r, .int .u16 l], .agg #[.int .u64 (rg a), .int .u64 (rg b), .int .u64 (rg c), .int .u64 (rg d)], .int .i64 n] W fun x w' => x = .returned (.bool true) ∧ Below W.heap.size W w' := by
  have HL := Lib.hid hl
  have HGi := Lib.hid (fun w => give_any (rg a) (rg b) (rg c) (rg d) w)
  have HMi := Lib.hid (fun w => middle_any a b c d w)
  have HLa := Lib.hid (fun w (h : GwAt W w r l a b c d) => laid_ref2 (W.heap.size + 1) 4 (q4 a b c d) w (lt_of_block h.src) (u4_cells h.src))
  have HCu := Lib.hid (fun g cp w hG => cut_ref 16 256 g cp 16 4 4 (laidP 2 16 (q4 a b c d)) is16 (by decide) (by decide) (by decide) (by decide) w hG)
  rw [mid_cut] at HCu
  have HM := Lib.hid (fun w => may_ref r l w)
  have HS := Lib.hid sure_any
  have HA0 := Lib.hid (gw_start r l a b c d W)
  clear hl
  cases hm : mayR r l
  · have HG := Lib.hid (fun w => grow_bad r l w0.1 w0.2 hm a b c d n w)
    rw [hm] at HM
    unfold Rv at *
    clear hm w0 _w2
    generalize growB 0 0 0 (q4 a b c d) = Z at HMi HCu
    generalize laidP 2 16 (q4 a b c d) = L at HLa HCu
    go_enter Tryd.func4, Tryd.ntmps4
    go_wp2
    generalize ((W.alloc (.cells #[.int .u16 r, .int .u16 l] 39)).alloc (.cells #[.int .u64 (rg a), .int .u64 (rg b), .int .u64 (rg c), .int .u64 (rg d)] 40)) = W2 at HA0 ⊢
    have HA1 := Lib.hid (HA0.out.on (Below.refl _ W2).drew)
    have KD := Lib.hid HA1.out.cells
    go_region_held3 (fun w' => w'.cell? ⟨W.heap.size, 0, none⟩ = some (.int .u16 r) ∧ w'.cell? ⟨W.heap.size, 1, none⟩ = some (.int .u16 l) ∧ w'.cell? ⟨W.heap.size + 1, 0, none⟩ = some (.int .u64 (rg a)) ∧ w'.cell? ⟨W.heap.size + 1, 1, none⟩ = some (.int .u64 (rg b)) ∧ w'.cell? ⟨W.heap.size + 1, 2, none⟩ = some (.int .u64 (rg c)) ∧ w'.cell? ⟨W.heap.size + 1, 3, none⟩ = some (.int .u64 (rg d))) (first | with_reducible exact KD.out | with_reducible exact ks) (first
      | (go_at_call 16; with_reducible refine (HGi.out _).mono ?_; rintro x w1 ⟨rfl, hb⟩; have HA2 := Lib.hid (HA1.out.on hb); have ks := HA2.out.cells; clear hb)
      | (go_at_call 15; with_reducible refine (HG.out _).mono ?_; rintro x w2 ⟨rfl, hb⟩; have HA3 := Lib.hid (HA2.out.on hb); have ks := HA3.out.cells; clear hb))
    go_wp2
    have HA4 := Lib.hid (HA3.out.on (Below.refl _ w2).drew)
    have KE := Lib.hid HA4.out.cells
    go_region_held3 (fun w' => w'.cell? ⟨W.heap.size, 0, none⟩ = some (.int .u16 r) ∧ w'.cell? ⟨W.heap.size, 1, none⟩ = some (.int .u16 l) ∧ w'.cell? ⟨W.heap.size + 1, 0, none⟩ = some (.int .u64 (rg a)) ∧ w'.cell? ⟨W.heap.size + 1, 1, none⟩ = some (.int .u64 (rg b)) ∧ w'.cell? ⟨W.heap.size + 1, 2, none⟩ = some (.int .u64 (rg c)) ∧ w'.cell? ⟨W.heap.size + 1, 3, none⟩ = some (.int .u64 (rg d))) (first | with_reducible exact KE.out | with_reducible exact ks) (first
      | (go_at_call 16; with_reducible refine (HGi.out _).mono ?_; rintro x w3 ⟨rfl, hb⟩; have HA5 := Lib.hid (HA4.out.on hb); have ks := HA5.out.cells; clear hb)
      | (go_at_call 17; with_reducible refine (HMi.out _).mono ?_; rintro x w4 ⟨rfl, hb⟩; have HA6 := Lib.hid (HA5.out.on hb); have ks := HA6.out.cells; clear hb)
      | (go_at_call 19; with_reducible refine (HLa.out _ HA6.out).mono ?_; rintro x w5 ⟨g1, cap1, rfl, hg, hb⟩; have HG1 := Lib.hid hg; have HA7 := Lib.hid (HA6.out.on hb); have ks := HA7.out.cells; clear hg hb)
      | (go_at_call 18; with_reducible refine (HCu.out _ _ _ HG1.out).mono ?_; rintro x w6 ⟨rfl, hb⟩; have HA8 := Lib.hid (HA7.out.on hb); have ks := HA8.out.cells; clear hb))
    obtain ⟨k0, k1, k2, k3, k4, k5⟩ := HA8.out.cells
    go_wp2_with (first | (go_at_call 20; with_reducible refine (HM.out _).mono ?_; rintro x w7 ⟨rfl, hb⟩; have HA9 := Lib.hid (HA8.out.on hb); obtain ⟨k0, k1, k2, k3, k4, k5⟩ := HA9.out.cells; clear hb) | (go_at_call 13; refine (num_err 11 _ (laid_gw HA9.out HL.out)).mono ?_; rintro x w8 ⟨rfl, hb⟩; have HA10 := Lib.hid (HA9.out.on hb); clear hb) | (go_at_call 14; with_reducible refine (HS.out _).mono ?_; rintro x w9 ⟨rfl, hb⟩; have HB := Lib.hid (HA10.out.on hb).below; clear hb))
    go_ret
    exact ⟨rfl, HB.out⟩
  · rcases (show (n < 0 ∨ (¬ n < 0 ∧ 4 < n)) ∨ (0 ≤ n ∧ n ≤ 4) by omega) with hn | hn
    · have HG := Lib.hid (fun w => grow_arg r l hm a b c d n (by omega) w)
      rw [hm] at HM
      unfold Rv at *
      clear hm w0 _w2
      generalize growB 0 0 0 (q4 a b c d) = Z at HMi HCu
      generalize laidP 2 16 (q4 a b c d) = L at HLa HCu
      go_enter Tryd.func4, Tryd.ntmps4
      go_wp2
      generalize ((W.alloc (.cells #[.int .u16 r, .int .u16 l] 39)).alloc (.cells #[.int .u64 (rg a), .int .u64 (rg b), .int .u64 (rg c), .int .u64 (rg d)] 40)) = W2 at HA0 ⊢
      have HA1 := Lib.hid (HA0.out.on (Below.refl _ W2).drew)
      have KD := Lib.hid HA1.out.cells
      go_region_held3 (fun w' => w'.cell? ⟨W.heap.size, 0, none⟩ = some (.int .u16 r) ∧ w'.cell? ⟨W.heap.size, 1, none⟩ = some (.int .u16 l) ∧ w'.cell? ⟨W.heap.size + 1, 0, none⟩ = some (.int .u64 (rg a)) ∧ w'.cell? ⟨W.heap.size + 1, 1, none⟩ = some (.int .u64 (rg b)) ∧ w'.cell? ⟨W.heap.size + 1, 2, none⟩ = some (.int .u64 (rg c)) ∧ w'.cell? ⟨W.heap.size + 1, 3, none⟩ = some (.int .u64 (rg d))) (first | with_reducible exact KD.out | with_reducible exact ks) (first
        | (go_at_call 16; with_reducible refine (HGi.out _).mono ?_; rintro x w1 ⟨rfl, hb⟩; have HA2 := Lib.hid (HA1.out.on hb); have ks := HA2.out.cells; clear hb)
        | (go_at_call 15; with_reducible refine (HG.out _).mono ?_; rintro x w2 ⟨rfl, hb⟩; have HA3 := Lib.hid (HA2.out.on hb); have ks := HA3.out.cells; clear hb))
      go_wp2
      have HA4 := Lib.hid (HA3.out.on (Below.refl _ w2).drew)
      have KE := Lib.hid HA4.out.cells
      go_region_held3 (fun w' => w'.cell? ⟨W.heap.size, 0, none⟩ = some (.int .u16 r) ∧ w'.cell? ⟨W.heap.size, 1, none⟩ = some (.int .u16 l) ∧ w'.cell? ⟨W.heap.size + 1, 0, none⟩ = some (.int .u64 (rg a)) ∧ w'.cell? ⟨W.heap.size + 1, 1, none⟩ = some (.int .u64 (rg b)) ∧ w'.cell? ⟨W.heap.size + 1, 2, none⟩ = some (.int .u64 (rg c)) ∧ w'.cell? ⟨W.heap.size + 1, 3, none⟩ = some (.int .u64 (rg d))) (first | with_reducible exact KE.out | with_reducible exact ks) (first
        | (go_at_call 16; with_reducible refine (HGi.out _).mono ?_; rintro x w3 ⟨rfl, hb⟩; have HA5 := Lib.hid (HA4.out.on hb); have ks := HA5.out.cells; clear hb)
        | (go_at_call 17; with_reducible refine (HMi.out _).mono ?_; rintro x w4 ⟨rfl, hb⟩; have HA6 := Lib.hid (HA5.out.on hb); have ks := HA6.out.cells; clear hb)
        | (go_at_call 19; with_reducible refine (HLa.out _ HA6.out).mono ?_; rintro x w5 ⟨g1, cap1, rfl, hg, hb⟩; have HG1 := Lib.hid hg; have HA7 := Lib.hid (HA6.out.on hb); have ks := HA7.out.cells; clear hg hb)
        | (go_at_call 18; with_reducible refine (HCu.out _ _ _ HG1.out).mono ?_; rintro x w6 ⟨rfl, hb⟩; have HA8 := Lib.hid (HA7.out.on hb); have ks := HA8.out.cells; clear hb))
      obtain ⟨k0, k1, k2, k3, k4, k5⟩ := HA8.out.cells
      rcases hn with h1 | ⟨h1, h2⟩
      all_goals
        go_wp2_with (first | (go_at_call 20; with_reducible refine (HM.out _).mono ?_; rintro x w7 ⟨rfl, hb⟩; have HA9 := Lib.hid (HA8.out.on hb); obtain ⟨k0, k1, k2, k3, k4, k5⟩ := HA9.out.cells; clear hb) | (go_at_call 13; refine (num_err 1 _ (laid_gw HA9.out HL.out)).mono ?_; rintro x w8 ⟨rfl, hb⟩; have HA10 := Lib.hid (HA9.out.on hb); clear hb) | (go_at_call 14; with_reducible refine (HS.out _).mono ?_; rintro x w9 ⟨rfl, hb⟩; have HB := Lib.hid (HA10.out.on hb).below; clear hb))
        go_ret
        exact ⟨rfl, HB.out⟩
    · obtain ⟨k, rfl⟩ := Int.eq_ofNat_of_zero_le hn.1
      have HG := Lib.hid (fun w => grow_fine r l hm a b c d k (by omega) w)
      have HR := Lib.hid (fun w => grow_ref r l w0.1 w0.2 a b c d k (by omega) w)
      have n0 : ¬ (k : Int) < 0 := by omega
      have n1 : ¬ (4 : Int) < (k : Int) := by omega
      rw [hm] at HM
      unfold Rv at *
      clear hm w0 _w2 hn
      generalize growB r l k (q4 a b c d) = X at HG HR
      generalize growB 0 0 0 (q4 a b c d) = Z at HMi HCu
      generalize laidP 2 16 (q4 a b c d) = L at HLa HCu
      go_enter Tryd.func4, Tryd.ntmps4
      go_wp2
      generalize ((W.alloc (.cells #[.int .u16 r, .int .u16 l] 39)).alloc (.cells #[.int .u64 (rg a), .int .u64 (rg b), .int .u64 (rg c), .int .u64 (rg d)] 40)) = W2 at HA0 ⊢
      have HA1 := Lib.hid (HA0.out.on (Below.refl _ W2).drew)
      have KD := Lib.hid HA1.out.cells
      go_region_held3 (fun w' => w'.cell? ⟨W.heap.size, 0, none⟩ = some (.int .u16 r) ∧ w'.cell? ⟨W.heap.size, 1, none⟩ = some (.int .u16 l) ∧ w'.cell? ⟨W.heap.size + 1, 0, none⟩ = some (.int .u64 (rg a)) ∧ w'.cell? ⟨W.heap.size + 1, 1, none⟩ = some (.int .u64 (rg b)) ∧ w'.cell? ⟨W.heap.size + 1, 2, none⟩ = some (.int .u64 (rg c)) ∧ w'.cell? ⟨W.heap.size + 1, 3, none⟩ = some (.int .u64 (rg d))) (first | with_reducible exact KD.out | with_reducible exact ks) (first
        | (go_at_call 16; with_reducible refine (HGi.out _).mono ?_; rintro x w1 ⟨rfl, hb⟩; have HA2 := Lib.hid (HA1.out.on hb); have ks := HA2.out.cells; clear hb)
        | (go_at_call 15; with_reducible refine (HG.out _).mono ?_; rintro x w2 ⟨rfl, hb⟩; have HA3 := Lib.hid (HA2.out.on hb); have ks := HA3.out.cells; clear hb))
      go_wp2
      have HA4 := Lib.hid (HA3.out.on (Below.refl _ w2).drew)
      have KE := Lib.hid HA4.out.cells
      go_region_held3 (fun w' => w'.cell? ⟨W.heap.size, 0, none⟩ = some (.int .u16 r) ∧ w'.cell? ⟨W.heap.size, 1, none⟩ = some (.int .u16 l) ∧ w'.cell? ⟨W.heap.size + 1, 0, none⟩ = some (.int .u64 (rg a)) ∧ w'.cell? ⟨W.heap.size + 1, 1, none⟩ = some (.int .u64 (rg b)) ∧ w'.cell? ⟨W.heap.size + 1, 2, none⟩ = some (.int .u64 (rg c)) ∧ w'.cell? ⟨W.heap.size + 1, 3, none⟩ = some (.int .u64 (rg d))) (first | with_reducible exact KE.out | with_reducible exact ks) (first
        | (go_at_call 16; with_reducible refine (HGi.out _).mono ?_; rintro x w3 ⟨rfl, hb⟩; have HA5 := Lib.hid (HA4.out.on hb); have ks := HA5.out.cells; clear hb)
        | (go_at_call 17; with_reducible refine (HMi.out _).mono ?_; rintro x w4 ⟨rfl, hb⟩; have HA6 := Lib.hid (HA5.out.on hb); have ks := HA6.out.cells; clear hb)
        | (go_at_call 19; with_reducible refine (HLa.out _ HA6.out).mono ?_; rintro x w5 ⟨g1, cap1, rfl, hg, hb⟩; have HG1 := Lib.hid hg; have HA7 := Lib.hid (HA6.out.on hb); have ks := HA7.out.cells; clear hg hb)
        | (go_at_call 18; with_reducible refine (HCu.out _ _ _ HG1.out).mono ?_; rintro x w6 ⟨rfl, hb⟩; have HA8 := Lib.hid (HA7.out.on hb); have ks := HA8.out.cells; clear hb))
      obtain ⟨k0, k1, k2, k3, k4, k5⟩ := HA8.out.cells
      go_wp2_with (first | (go_at_call 20; with_reducible refine (HM.out _).mono ?_; rintro x w7 ⟨rfl, hb⟩; have HA9 := Lib.hid (HA8.out.on hb); obtain ⟨k0, k1, k2, k3, k4, k5⟩ := HA9.out.cells; clear hb) | (go_at_call 21; with_reducible refine (HR.out _).mono ?_; rintro x w8 ⟨rfl, hb⟩; have HA10 := Lib.hid (HA9.out.on hb); clear hb) | (go_at_call 14; with_reducible refine (HS.out _).mono ?_; rintro x w9 ⟨rfl, hb⟩; have HB := Lib.hid (HA10.out.on hb).below; clear hb))
      go_ret
      exact ⟨rfl, HB.out⟩
end Go.Proofs.YthbokehoibadcaaDoor

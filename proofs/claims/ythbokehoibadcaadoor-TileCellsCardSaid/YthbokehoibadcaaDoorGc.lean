/-
  THE WALK of the document's Cut. Conditions: the grid's cells lie there.
-/
import Derived.Test.YthbokehoibadcaaDoorGb
namespace Go.Proofs.YthbokehoibadcaaDoor
open Go.RowKit Ti

theorem info_bl : (Tryd.prog.info? 4).map (fun i => (i.zero, i.size, i.bytes)) = some (some (.bool false), 1, 1) := by kernel_rfl
/-- one truth more in a row that one owns -/
theorem push_row {W1 w3 w2 : World} {v v2 : Value} {m : Nat} {P : Nat → Bool} {x : Bool} (hb : Below W1.heap.size W1 w3) (ho : w3.ownsRow W1.heap.size 4 1 v m (bls P m)) (hx : x = P m) (hown : w2.ownsRow W1.heap.size 4 1 v2 (m + 1) (bls P m ++ [.bool x]))
    (hgrow : (w3.alloc (.cells #[.bool x] 4)).grownBy w2 v.ownBlock) : w2.ownsRow W1.heap.size 4 1 v2 (m + 1) (bls P (m + 1)) ∧ Below W1.heap.size W1 w2 := by
  rw [hx, bls_succ] at hown
  exact ⟨hown, (hb.alloc hb.size (.cells #[.bool x] 4)).grown hgrow (by have := hb.size; simp; omega) (fun j hj => (ho.lt j hj).1)⟩
theorem row_bytes (m : Nat) (h : m ≤ 600) : m + 1 ≤ maxLen ∧ (m + 1) * 1 ≤ 140737488355328 := by
  unfold maxLen; omega
/-- a grid in memory: its cells lie there -/
structure GridAt (w : World) (M g : Nat) (L : Nat → Bool) : Prop where
  lt : g < w.heap.size
  at_ : ∀ i, i < M → w.cell? ⟨g, i, none⟩ = some (.bool (L i))
theorem GridAt.on {w w' : World} {M g : Nat} {L : Nat → Bool} (h : GridAt w M g L) {n₀ : Nat} (k : Below n₀ w w') (hn : w.heap.size ≤ n₀) : GridAt w' M g L :=
  ⟨by have := h.lt; have := k.size; omega, fun i hi => (k.cell (p := ⟨g, i, none⟩) (by have := h.lt; show g < n₀; omega)).trans (h.at_ i hi)⟩
def cutP (N : Nat) (L : Nat → Bool) (x y : Int) : Nat → Bool := fun i => gpl N L (x + (i : Int) % 8) (y + (i : Int) / 8)
theorem cutP_cut (N : Nat) (L : Nat → Bool) (x y : Int) : mkT (cutP N L x y) = cutB (gpl N L) x y := by
  symm
  apply eq_mkT
  intro i hi
  rw [cutB_cuts _ _ _ i hi]
  unfold cutP
  rw [Int.natCast_emod, Int.natCast_ediv]
  rfl
set_option maxRecDepth 100000 in
theorem cut_ref (N M g cp : Nat) (I x y : Int) (L : Nat → Bool) (hN : isN N M I) (x0 : 0 ≤ x) (x1 : x ≤ 8) (y0 : 0 ≤ y) (y1 : y ≤ 8) (w : World) (h : GridAt w M g L) :
    Calls Tryd.prog 18 #[Gv I (.slice (some ⟨g, 0, none⟩) M cp), .int .i64 x, .int .i64 y] w fun e w' => e = .returned (.int .u64 (rg (cutB (gpl N L) x y))) ∧ Below w.heap.size w w' := by
  have HN := Lib.hid hN
  have HBox := Lib.hid (heap_alloc_new w (.cells #[.int .i64 I, .slice (some ⟨g, 0, none⟩) M cp] 48))
  have HB0 := Lib.hid (alX w (.cells #[.int .i64 I, .slice (some ⟨g, 0, none⟩) M cp] 48))
  have HG0 := Lib.hid (h.on HB0.out (Nat.le_refl _))
  obtain ⟨i0, hi, hz0, hz1, hz2⟩ := info_parts info_bl
  have HI := Lib.hid hi
  have HI0 := Lib.hid hz0
  have HI1 := Lib.hid hz1
  have HI2 := Lib.hid hz2
  have HEnd := Lib.hid (cutP_cut N L x y)
  clear hN h hi hz0 hz1 hz2
  go_enter Tryd.func18, Tryd.ntmps18
  go_wp2
  generalize w.alloc (.cells #[.int .i64 I, .slice (some ⟨g, 0, none⟩) M cp] 48) = W1 at HBox HB0 HG0 ⊢
  go_loopw [7, 8] (fun v i ws => ∃ m : Nat, m ≤ 64 ∧ i = .int .i64 (m : Int) ∧ Hid (ws.ownsRow W1.heap.size 4 1 v m (bls (cutP N L x y) m)) ∧ Hid (Below W1.heap.size W1 ws)) (fun _ i _ => 64 - (intOf i).toNat)
  case atStart => exact ⟨0, by omega, rfl, Lib.hid (World.ownsRow_nil _ _ _ _), Lib.hid (Below.refl _ _)⟩
  case round =>
    obtain ⟨m, hm, rfl, HO, HB⟩ := hrel
    have m0 : (0 : Int) ≤ (m : Int) := by omega
    have HBx := Lib.hid ((HB.out.block _ (lt_of_block HBox.out)).trans HBox.out)
    by_cases hlt : m < 64
    · have m1 : (m : Int) < 64 := by omega
      have c0 := cell_of_row _ _ 0 _ _ _ HBx.out
      have c1 := cell_of_row _ _ 1 _ _ _ HBx.out
      have HA := Lib.hid (at_ref N M g cp I L (x + (m : Int) % 8) (y + (m : Int) / 8) HN.out wr (HG0.out.on HB.out (Nat.le_refl _)).lt (HG0.out.on HB.out (Nat.le_refl _)).at_)
      have HP := Lib.hid (show gpl N L (x + (m : Int) % 8) (y + (m : Int) / 8) = cutP N L x y m from rfl)
      have HS := Lib.hid (row_bytes m (by omega))
      generalize gpl N L (x + (m : Int) % 8) (y + (m : Int) / 8) = q at HA HP
      go_wp2_with (first
        | (go_at_call 35; with_reducible refine HA.out.mono ?_; rintro e w3 ⟨rfl, hb⟩; have HB3 := Lib.hid (HB.out.trans (hb.mono HB.out.size)); have HO3 := Lib.hid (bls_keep HO.out hb (Nat.le_refl _)); clear hb)
        | (at_builtin; refine wpList_append_own _ rfl (.tmp 13) (.tmp 24) 30 rfl W1.heap.size 4 i0 (.bool false) 1 1 Tryd.underlying30 HI.out HI0.out HI1.out HI2.out rfl (by decide) u7 m (bls (cutP N L x y) m) rfl (HO3.out.alloc _) ⟨w3.heap.size, 0, none⟩ 1 1 [.bool q] rfl rfl (cell_one_new _ _ _) (by simp [Value.oneCell']) HS.out.1 HS.out.2 (by have := HB3.out.size; simp; omega) ?_; intro v2 w2 hown hgrow _; have HR := Lib.hid (push_row HB3.out HO3.out HP.out hown hgrow); clear hown hgrow))
      go_roundw
      case rel => exact ⟨m + 1, by omega, by go_num, HR.out.1, HR.out.2⟩
      case measure => simp [intOf]; omega
    · obtain rfl : m = 64 := by omega
      obtain ⟨g2, cap2, rfl, hg2, hl2, hc2⟩ := own_bls HO.out (by decide)
      have HM := Lib.hid (made_ref g2 cap2 (cutP N L x y) wr hc2)
      clear hg2 hl2 hc2
      go_wp2_with (go_at_call 11; with_reducible refine HM.out.mono ?_; rintro e w4 ⟨rfl, rfl⟩)
      go_ret
      exact ⟨by rw [← HEnd.out]; rfl, HB0.out.trans (HB.out.mono HB0.out.size)⟩
end Go.Proofs.YthbokehoibadcaaDoor

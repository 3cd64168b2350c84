/-
  THE WALKS of the pool's Frames and Dirty. Conditions: a pool lies in memory.
-/
import Derived.Test.YtkmedlbokneegaaDoorFl
namespace Go.Proofs.YtkmedlbokneegaaDoor
open Go.RowKit Go.Maps

def Px.secs (X : Px) (k : Nat) : List Int := (List.range k).map fun j => (X.fr j).i
def Px.dirt (X : Px) (k : Nat) : List Int := ((List.range k).filter fun j => (X.fr j).d).map fun (j : Nat) => (j : Int)
theorem secs_next (X : Px) (k : Nat) : il (X.secs k) ++ [Value.int .i64 (X.fr k).i] = il (X.secs (k + 1)) := by
  unfold Px.secs il
  rw [List.range_succ]
  simp
theorem secs_len (X : Px) (k : Nat) : (X.secs k).length = k := by simp [Px.secs]
theorem dirt_yes {X : Px} {k : Nat} (h : (X.fr k).d = true) : il (X.dirt k) ++ [Value.int .i64 (k : Int)] = il (X.dirt (k + 1)) := by
  unfold Px.dirt il
  rw [List.range_succ, List.filter_append]
  simp [h]
theorem dirt_no {X : Px} {k : Nat} (h : (X.fr k).d = false) : X.dirt (k + 1) = X.dirt k := by
  unfold Px.dirt
  rw [List.range_succ, List.filter_append]
  simp [h]
theorem dirt_len (X : Px) (k : Nat) : (X.dirt k).length ≤ k := by
  unfold Px.dirt
  rw [List.length_map]
  exact Nat.le_trans (List.length_filter_le _ _) (by simp)
def IntsAt (w : World) (xs : List Int) (e : Ending) (w' : World) : Prop :=
  ∃ ao cap, e = .returned (.slice ao xs.length cap) ∧ Ints w' ao xs ∧ xs.length ≤ cap ∧ Below w.heap.size w w'
set_option maxRecDepth 100000 in
set_option maxHeartbeats 1000000 in
theorem frames_any {B N : Nat} (μ : Mp) (w : World) (h : PoolAt B N w μ) : Calls Tryd.prog 20 #[.pointer (some ⟨μ.P, 0, none⟩)] w (IntsAt w (μ.X.secs μ.X.m)) := by
  have c1 := h.core.hd.c1
  have hm1 := h.core.ok.m1
  have HR := Lib.hid h.core.row
  obtain ⟨i0, hi, hz0, hz1, hz2⟩ := info_parts info_i
  have HI := Lib.hid hi
  have HI0 := Lib.hid hz0
  have HI1 := Lib.hid hz1
  have HI2 := Lib.hid hz2
  clear h hi hz0 hz1 hz2
  go_enter Tryd.func20, Tryd.ntmps20
  go_wp2
  go_loopw [3, 13, 5] (fun v i _ wr => ∃ k : Nat, k ≤ μ.X.m ∧ i = .int .i64 k ∧ Hid (wr.ownsRow w.heap.size 3 1 v k (il (μ.X.secs k))) ∧ Hid (Below w.heap.size w wr)) (fun _ i _ _ => μ.X.m - (intOf i).toNat)
  case atStart => exact ⟨0, by omega, rfl, Lib.hid (World.ownsRow_nil _ _ _ _), Lib.hid (Below.refl _ _)⟩
  case round =>
    obtain ⟨k, hk, rfl, HO, HB⟩ := hrel
    by_cases hlt : k < μ.X.m
    · have R := HR.out.same (w' := wr) HB.out.size (HB.out.block _ HR.out.lt)
      have g0 := R.at0 hlt
      have g1 := R.at1 hlt
      have g2 := R.at2 hlt
      have g3 := R.at3 hlt
      have g4 := R.at4 hlt
      have j0 : (0 : Int) ≤ (k : Int) := by omega
      have j1 : (k : Int) < (μ.X.m : Int) := by omega
      clear R
      go_upto_region 7 with (fail)
      have x0 : (wr.alloc (.cells #[.int .i64 (μ.X.fr k).i, .slice (μ.a k) (μ.X.fr k).t.size (μ.cp k), .bool (μ.X.fr k).d, .bool (μ.X.fr k).u, .int .i64 ((μ.X.fr k).h : Int)] 73)).cell? ⟨wr.heap.size, 0, none⟩ = some (.int .i64 (μ.X.fr k).i) := cell_of_row _ _ _ _ _ _ (heap_alloc_new _ _)
      have HO1 := Lib.hid (HO.out.alloc (.cells #[.int .i64 (μ.X.fr k).i, .slice (μ.a k) (μ.X.fr k).t.size (μ.cp k), .bool (μ.X.fr k).d, .bool (μ.X.fr k).u, .int .i64 ((μ.X.fr k).h : Int)] 73))
      have HB1 := Lib.hid (HB.out.alloc HB.out.size (.cells #[.int .i64 (μ.X.fr k).i, .slice (μ.a k) (μ.X.fr k).t.size (μ.cp k), .bool (μ.X.fr k).d, .bool (μ.X.fr k).u, .int .i64 ((μ.X.fr k).h : Int)] 73))
      generalize wr.alloc (.cells #[.int .i64 (μ.X.fr k).i, .slice (μ.a k) (μ.X.fr k).t.size (μ.cp k), .bool (μ.X.fr k).d, .bool (μ.X.fr k).u, .int .i64 ((μ.X.fr k).h : Int)] 73) = W1 at x0 HO1 HB1 ⊢
      have HN := Lib.hid (secs_next μ.X k)
      generalize (μ.X.fr k).i = x at x0 HN ⊢
      clear g0 g1 g2 g3 g4 HO HB
      go_wp2_with (at_builtin; refine wpList_append_own _ rfl (.tmp 17) (.tmp 20) 33 rfl w.heap.size 3 i0 (.int .i64 0) 1 8 Tryd.underlying33 HI.out HI0.out HI1.out HI2.out rfl (by decide) u3 k (il (μ.X.secs k)) rfl (HO1.out.alloc _) ⟨W1.heap.size, 0, none⟩ 1 1 [Value.int .i64 x] rfl rfl (cell_one_new _ _ _) (by simp [Value.oneCell']) (by unfold maxLen; omega) (by omega) (by have := HB1.out.size; simp; omega) ?_; intro v2 w2 hown hgrow _)
      have HO2 := Lib.hid hown
      have HB2 := Lib.hid ((HB1.out.alloc HB1.out.size (.cells #[Value.int .i64 x] 3)).grown hgrow (by have := HB1.out.size; simp; omega) (fun j hj => (HO1.out.lt j hj).1))
      clear hown hgrow
      go_roundw
      case rel => exact ⟨k + 1, by omega, by go_num, Lib.hid (by rw [← HN.out]; exact HO2.out), HB2⟩
      case measure => simp [intOf]; omega
    · obtain rfl : k = μ.X.m := by omega
      obtain ⟨ao, cap, rfl, hx, hc, hl⟩ := own_ints HO.out
      go_wp2
      go_ret
      exact ⟨ao, cap, by rw [secs_len]; rfl, hx, by rw [secs_len]; exact hc, HB.out⟩
set_option maxRecDepth 100000 in
set_option maxHeartbeats 1000000 in
theorem dirty_any {B N : Nat} (μ : Mp) (w : World) (h : PoolAt B N w μ) : Calls Tryd.prog 21 #[.pointer (some ⟨μ.P, 0, none⟩)] w (IntsAt w (μ.X.dirt μ.X.m)) := by
  have c1 := h.core.hd.c1
  have hm1 := h.core.ok.m1
  have HR := Lib.hid h.core.row
  obtain ⟨i0, hi, hz0, hz1, hz2⟩ := info_parts info_i
  have HI := Lib.hid hi
  have HI0 := Lib.hid hz0
  have HI1 := Lib.hid hz1
  have HI2 := Lib.hid hz2
  clear h hi hz0 hz1 hz2
  go_enter Tryd.func21, Tryd.ntmps21
  go_wp2
  go_loopw [3, 13, 4, 5] (fun v i _ _ wr => ∃ k : Nat, k ≤ μ.X.m ∧ i = .int .i64 k ∧ Hid (wr.ownsRow w.heap.size 3 1 v (μ.X.dirt k).length (il (μ.X.dirt k))) ∧ Hid (Below w.heap.size w wr)) (fun _ i _ _ _ => μ.X.m - (intOf i).toNat)
  case atStart => exact ⟨0, by omega, rfl, Lib.hid (World.ownsRow_nil _ _ _ _), Lib.hid (Below.refl _ _)⟩
  case round =>
    obtain ⟨k, hk, rfl, HO, HB⟩ := hrel
    by_cases hlt : k < μ.X.m
    · have R := HR.out.same (w' := wr) HB.out.size (HB.out.block _ HR.out.lt)
      have g0 := R.at0 hlt
      have g1 := R.at1 hlt
      have g2 := R.at2 hlt
      have g3 := R.at3 hlt
      have g4 := R.at4 hlt
      have j0 : (0 : Int) ≤ (k : Int) := by omega
      have j1 : (k : Int) < (μ.X.m : Int) := by omega
      clear R
      go_upto_region 7 with (fail)
      have x2 : (wr.alloc (.cells #[.int .i64 (μ.X.fr k).i, .slice (μ.a k) (μ.X.fr k).t.size (μ.cp k), .bool (μ.X.fr k).d, .bool (μ.X.fr k).u, .int .i64 ((μ.X.fr k).h : Int)] 73)).cell? ⟨wr.heap.size, 2, none⟩ = some (.bool (μ.X.fr k).d) := cell_of_row _ _ _ _ _ _ (heap_alloc_new _ _)
      have HO1 := Lib.hid (HO.out.alloc (.cells #[.int .i64 (μ.X.fr k).i, .slice (μ.a k) (μ.X.fr k).t.size (μ.cp k), .bool (μ.X.fr k).d, .bool (μ.X.fr k).u, .int .i64 ((μ.X.fr k).h : Int)] 73))
      have HB1 := Lib.hid (HB.out.alloc HB.out.size (.cells #[.int .i64 (μ.X.fr k).i, .slice (μ.a k) (μ.X.fr k).t.size (μ.cp k), .bool (μ.X.fr k).d, .bool (μ.X.fr k).u, .int .i64 ((μ.X.fr k).h : Int)] 73))
      generalize wr.alloc (.cells #[.int .i64 (μ.X.fr k).i, .slice (μ.a k) (μ.X.fr k).t.size (μ.cp k), .bool (μ.X.fr k).d, .bool (μ.X.fr k).u, .int .i64 ((μ.X.fr k).h : Int)] 73) = W1 at x2 HO1 HB1 ⊢
      have hlen := dirt_len μ.X k
      clear g0 g1 g2 g3 g4 HO HB
      cases hd : (μ.X.fr k).d
      · rw [hd] at x2
        have HN := Lib.hid (dirt_no hd)
        clear hd
        go_wp2
        go_roundw
        case rel => exact ⟨k + 1, by omega, by go_num, Lib.hid (by rw [HN.out]; exact HO1.out), HB1⟩
        case measure => simp [intOf]; omega
      · rw [hd] at x2
        have HN := Lib.hid (dirt_yes hd)
        have HL := Lib.hid (show (μ.X.dirt (k + 1)).length = (μ.X.dirt k).length + 1 by have := congrArg List.length HN.out; simpa [il] using this.symm)
        clear hd
        generalize (μ.X.dirt k).length = n at hlen HO1 HL
        go_wp2_with (at_builtin; refine wpList_append_own _ rfl (.tmp 20) (.tmp 22) 33 rfl w.heap.size 3 i0 (.int .i64 0) 1 8 Tryd.underlying33 HI.out HI0.out HI1.out HI2.out rfl (by decide) u3 n (il (μ.X.dirt k)) rfl (HO1.out.alloc _) ⟨W1.heap.size, 0, none⟩ 1 1 [Value.int .i64 (k : Int)] rfl rfl (cell_one_new _ _ _) (by simp [Value.oneCell']) (by unfold maxLen; omega) (by omega) (by have := HB1.out.size; simp; omega) ?_; intro v2 w2 hown hgrow _)
        have HO2 := Lib.hid hown
        have HB2 := Lib.hid ((HB1.out.alloc HB1.out.size (.cells #[Value.int .i64 (k : Int)] 3)).grown hgrow (by have := HB1.out.size; simp; omega) (fun j hj => (HO1.out.lt j hj).1))
        clear hown hgrow
        go_roundw
        case rel => exact ⟨k + 1, by omega, by go_num, Lib.hid (by rw [HL.out, ← HN.out]; exact HO2.out), HB2⟩
        case measure => simp [intOf]; omega
    · obtain rfl : k = μ.X.m := by omega
      obtain ⟨ao, cap, rfl, hx, hc, hl⟩ := own_ints HO.out
      go_wp2
      go_ret
      exact ⟨ao, cap, rfl, hx, hc, HB.out⟩
end Go.Proofs.YtkmedlbokneegaaDoor

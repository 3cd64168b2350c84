/-
  THE WALKS of slices.Repeat of one empty frame, and of the pool's New. Conditions: the number of frames is one that can be.
-/
import Derived.Test.YtkmedlbokneegaaDoorRe
import Derived.Deep.RegionLaw
namespace Go.Proofs.YtkmedlbokneegaaDoor
open Go.RowKit Go.Maps

def RepAt (w : World) (m : Nat) (e : Ending) (w' : World) : Prop :=
  ∃ G, e = .returned (.slice (some ⟨G, 0, none⟩) m m) ∧ w'.heap[G]? = some (.cells (rw5 m m).toArray 73 (0, 0)) ∧ w.heap.size ≤ G ∧ Below w.heap.size w w'
set_option maxRecDepth 100000 in
set_option maxHeartbeats 1000000 in
theorem repeat_any (g c m : Nat) (w : World) (h1 : 1 ≤ m) (h2 : m ≤ 1024) (hg : ∀ j v, (rw5 1 1)[j]? = some v → w.cell? ((⟨g, 0, none⟩ : Addr).add j) = some v) (hgl : g < w.heap.size) :
    Calls Tryd.prog 25 #[.slice (some ⟨g, 0, none⟩) 1 c, .int .i64 (m : Int)] w (RepAt w m) := by
  have hmk := make_fr m h2
  have m0 : (0 : Int) ≤ (m : Int) := by omega
  have m1 : (m : Int) ≤ 1024 := by omega
  have m2 : ¬ (m : Int) < 0 := by omega
  have m3 : ¬ (9223372036854775807 : Int) < (m : Int) := by omega
  have HB0 := Lib.hid ((Below.refl w.heap.size w).alloc (Nat.le_refl _) (.cells (rw5 0 m).toArray 73))
  have HSRC := Lib.hid (show ∀ j v, (rw5 1 1)[j]? = some v → (w.alloc (.cells (rw5 0 m).toArray 73)).cell? ((⟨g, 0, none⟩ : Addr).add j) = some v from fun j v e => (HB0.out.cell (p := (⟨g, 0, none⟩ : Addr).add j) (by rw [Addr.add_mid]; exact hgl)).trans (hg j v e))
  have HF := Lib.hid (rw5_first m h1)
  have HG0 := Lib.hid (heap_alloc_new w (.cells (rw5 0 m).toArray 73))
  clear hg hgl
  go_enter Tryd.func25, Tryd.ntmps25
  go_wp2_with (first | (go_at_call 45; refine (mul_one' m _ h2).mono ?_; rintro e w1 ⟨rfl, rfl⟩) | (refine wpList_copy5 rfl (.tmp 31) (.tmp 32) rfl w.heap.size 0 m m ⟨g, 0, none⟩ 1 c rfl rfl (rw5 0 m) 73 HG0.out (rw5 1 1) 1 (Nat.min_eq_left h1) (by rw [rw5_len]) HSRC.out (by rw [rw5_len, rw5_len]; omega) (rw5_one 1 1) w.heap.size w HB0.out (Nat.le_refl _) ?_; intro w2 hG2 hB2; rw [HF.out] at hG2))
  generalize hG : w.heap.size = G at hG2 hB2 ⊢
  go_loopw [8] (fun n wr => ∃ k : Nat, 1 ≤ k ∧ k ≤ m ∧ n = .int .i64 k ∧ Hid (wr.heap[G]? = some (.cells (rw5 k m).toArray 73 (0, 0))) ∧ Hid (Below G w wr)) (fun n _ => m - (intOf n).toNat)
  case atStart => exact ⟨1, by omega, h1, rfl, hG2, hB2⟩
  case round =>
    obtain ⟨k, k1, k2, rfl, HG, HB⟩ := hrel
    by_cases hlt : k < m
    · have i0 : (0 : Int) ≤ (k : Int) := by omega
      have i1 : (k : Int) < (m : Int) := by omega
      have i2 : (k : Int) ≤ (m : Int) := by omega
      have i3 : ¬ (k : Int) = (m : Int) := by omega
      have i4 : ¬ k = m := by omega
      have i6 : ¬ m = k := by omega
      have i5 : ¬ m - k = 0 := by omega
      obtain ⟨q, hq⟩ : ∃ q, Nat.min k (m - k) = q := ⟨_, rfl⟩
      have hq1 : q ≤ k := by rw [← hq]; exact Nat.min_le_left _ _
      have hq2 : k + q ≤ m := by have : q ≤ m - k := by rw [← hq]; exact Nat.min_le_right _ _
                                 omega
      have hq3 : 1 ≤ q := by
        rw [← hq]
        rcases Nat.le_total k (m - k) with e | e
        · rw [show Nat.min k (m - k) = k from Nat.min_eq_left e]; omega
        · rw [show Nat.min k (m - k) = m - k from Nat.min_eq_right e]; omega
      have HQ := Lib.hid hq
      have HGD : Hid (wr.drew.heap[G]? = some (.cells (rw5 k m).toArray 73 (0, 0))) := HG
      have HBD : Hid (Below G w wr.drew) := Lib.hid HB.out.drew
      have HSC := Lib.hid (show ∀ j v, ((rw5 k m).take (q * 5))[j]? = some v → wr.drew.cell? ((⟨G, 0, none⟩ : Addr).add j) = some v from fun j v e => by
        rw [List.getElem?_take] at e
        split at e
        · rw [Addr.add_mid, Nat.zero_add, cell_of_row _ _ _ _ _ _ HGD.out]
          simpa using e
        · cases e)
      have HN := Lib.hid (rw5_next k q m hq1 hq2)
      have HLN := Lib.hid (show ((rw5 k m).take (q * 5)).length = q * 5 by rw [List.length_take, rw5_len]; omega)
      have hwr : IntKind.i64.wrap ((k : Int) + (q : Int)) = (k : Int) + (q : Int) := by rw [IntKind.wrap_i64]; omega
      clear hq
      go_upto_region 9 with (fail)
      go_region_law (refine step_copy5 (w := wr.drew) rfl (.tmp 41) (.tmp 44) rfl G (k * 5) (m - k) (m - k) ⟨G, 0, none⟩ k m (by kernel_rfl) (by kernel_rfl) (rw5 k m) 73 HGD.out ((rw5 k m).take (q * 5)) q HQ.out HLN.out.symm HSC.out (by rw [HLN.out, rw5_len]; omega) (fun v hv => rw5_one k m v (List.mem_of_mem_take hv)) G w HBD.out (Nat.le_refl _) ?_; intro w4 hg4 hb4; rw [HN.out] at hg4)
      simp only [List.getElem_toArray, List.getElem_cons_succ, List.getElem_cons_zero]
      go_frame
      go_wp2
      go_roundw
      case rel => exact ⟨k + q, by omega, hq2, by go_num, hg4, hb4⟩
      case measure => simp [intOf]; omega
    · obtain rfl : k = m := by omega
      go_wp2
      go_ret
      exact ⟨G, rfl, HG.out, by omega, by rw [hG]; exact HB.out⟩
end Go.Proofs.YtkmedlbokneegaaDoor

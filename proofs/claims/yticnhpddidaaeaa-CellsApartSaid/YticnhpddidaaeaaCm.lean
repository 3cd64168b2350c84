/-
  THE WALK of count. Conditions: the cells lie in memory, each once, where they may be.
-/

import Derived.Test.YticnhpddidaaeaaCl
namespace Go.Proofs.Yticnhpddidaaeaa
open Go.RowKit Ru Ce Go.Maps

theorem cnt_len (S : List Cel) (x : Cel) : cnt S x ≤ S.length := List.length_filter_le _ _
theorem cf_len (S : List Cel) (x : Cel) : cf S x ≤ 9 + S.length := by have := cnt_len S x; unfold cf; split <;> omega
theorem hits_le (s : Cel) : ∀ (j : Nat) (x : Cel), hits s j x ≤ j
  | 0, _ => Nat.le_refl _
  | j + 1, x => by have := hits_le s j x; unfold hits; split <;> omega
theorem mid_le (S : List Cel) (s : Cel) (j : Nat) (x : Cel) : mid S s j x ≤ 18 + S.length + j := by
  have h1 := cf_len S x
  have h2 := hits_le s j x
  unfold mid
  split <;> omega
theorem take_not {S : List Cel} (h : S.Nodup) {i : Nat} {s : Cel} (hs : S[i]? = some s) : ¬ s ∈ S.take i := by
  intro hm
  obtain ⟨hi, rfl⟩ := List.getElem?_eq_some_iff.1 hs
  have e : S = S.take i ++ S[i] :: S.drop (i + 1) := by rw [← List.drop_eq_getElem_cons hi, List.take_append_drop]
  have h2 : (S.take i ++ S[i] :: S.drop (i + 1)).Nodup := by rw [← e]; exact h
  exact (List.nodup_append.1 h2).2.2 _ hm _ List.mem_cons_self rfl
def Counted (b : Nat) (w : World) (S : List Cel) (e : Ending) (w' : World) : Prop := e = .returned (.tuple #[]) ∧ CS b w w' (cf S) (20 * S.length)
set_option maxRecDepth 100000 in
set_option maxHeartbeats 4000000 in
theorem count_any (a : Option Addr) (n c : Nat) (S : List Cel) (b nn : Nat) (D : DataW Unit) (w : World) (ha : Cls w a S) (hn : S.length = n) (hm : n ≤ 4096) (hok : ∀ x ∈ S, okc x = true) (hnd : S.Nodup) (hown : OwnsC w b nn D) :
    Calls Try.prog 11 #[.map (some b), .slice a n c] w (Counted b w S) := by
  obtain ⟨w0, hcl, ho0, hg0⟩ := clear_run hown
  have HC := Lib.hid (show CS b w w0 (cf (S.take 0)) 0 from ⟨0, _, ho0, mpC_zero.congr (fun x => by simp [cf, cnt]), Nat.le_refl _, hg0, hown.lt⟩)
  have HA := Lib.hid (fun wr (hg : w.grownBy wr (some b)) => cls_kept hown ha hg)
  have HL := Lib.hid hn
  have HOK := Lib.hid hok
  have HND := Lib.hid hnd
  have HM := Lib.hid hm
  clear ha hn hok hnd hown ho0 hg0 hm
  go_enter Try.func11, Try.ntmps11
  go_wp2
  clear hcl
  go_loopw [12, 5] (fun i _ wr => ∃ k : Nat, k ≤ n ∧ i = .int .i64 k ∧ Hid (CS b w wr (cf (S.take k)) (20 * k))) (fun i _ _ => n - (intOf i).toNat)
  case atStart => exact ⟨0, by omega, rfl, HC⟩
  case round =>
    obtain ⟨k, hk, rfl, HS⟩ := hrel
    have i0 : (0 : Int) ≤ (k : Int) := by omega
    have i3 : (k : Int) ≤ 4096 := by have := HM.out; omega
    by_cases hlt : k < n
    · have i1 : (k : Int) < (n : Int) := by omega
      obtain ⟨s, hs⟩ := get_is HL.out hlt
      have HS0 := Lib.hid hs
      have HLT := Lib.hid hlt
      obtain ⟨nn', D', q1, q2, q3, q4, q5⟩ := HS.out
      obtain ⟨g, off, rfl, c0, c1⟩ := HA.out wr q4 k (by rw [HL.out]; exact hlt)
      obtain ⟨hi, hse⟩ := List.getElem?_eq_some_iff.1 hs
      rw [hse] at c0 c1
      have hso := (okc_iff s).1 (HOK.out s (List.mem_of_getElem? hs))
      have HSO := Lib.hid (HOK.out s (List.mem_of_getElem? hs))
      clear q1 q2 q3 q4 q5 hi hse hs
      go_wp2
      have hh := heap_alloc_new wr (.cells #[.int .i64 s.1, .int .i64 s.2] 31)
      have hb0 := cell_of_row _ _ 0 _ _ _ hh
      have hb1 := cell_of_row _ _ 1 _ _ _ hh
      have HW := Lib.hid (HS.out.alloc (.cells #[.int .i64 s.1, .int .i64 s.2] 31))
      obtain ⟨g5, hg5⟩ : ∃ g5, g5 = wr.heap.size := ⟨_, rfl⟩
      rw [← hg5] at hb0 hb1 ⊢
      generalize wr.alloc (.cells #[.int .i64 s.1, .int .i64 s.2] 31) = W1 at hb0 hb1 HW ⊢
      clear hh hg5 c0 c1
      have hv := cf_len (S.take k) s
      rw [List.length_take] at hv
      have hI := (show CS b w W1.drew _ _ from HW.out.drewN 1).inc (by have := HM.out; omega) (i6_ok HSO.out) (k := cf (S.take k) s + 9) (by omega) (by have := HM.out; omega) (x := (cf (S.take k) s : Int) + 9) (by omega)
      have hwr : IntKind.i64.wrap ((cf (S.take k) s : Int) + 9) = (cf (S.take k) s : Int) + 9 := IntWalk.i64_in _ (by have := HM.out; omega)
      obtain ⟨l0, v0, st, w1, w2, e0, l1, s1, hc2, hg1, hg2⟩ := hI
      have hne : ¬ g5 = b := by
        obtain ⟨_, _, q1, _⟩ := HW.out
        exact owns_cell_ne q1 hb0
      have d0 := cell_kp (w := W1.drew) (show W1.drew.cell? ⟨g5, 0, none⟩ = _ from hb0) hg1 hne
      have d1 := cell_kp (w := W1.drew) (show W1.drew.cell? ⟨g5, 1, none⟩ = _ from hb1) hg1 hne
      have f0 := cell_kp (w := W1.drew) (show W1.drew.cell? ⟨g5, 0, none⟩ = _ from hb0) hg2 hne
      have f1 := cell_kp (w := W1.drew) (show W1.drew.cell? ⟨g5, 1, none⟩ = _ from hb1) hg2 hne
      have HC2 := Lib.hid hc2
      clear hc2 hg1 hg2 hv
      generalize (cf (S.take k) s : Int) = v at l0 l1 s1 hwr
      go_region
      have HC3 := Lib.hid (HC2.out.congr (g := mid (S.take k) s 0) (M := 20 * k + 1) (fun x => by
        rw [mid_start]
        unfold upd
        by_cases e : x = s
        · rw [if_pos e, if_pos e, e]
        · rw [if_neg e, if_neg e]; rfl) (by omega))
      have HBX := Lib.hid (And.intro f0 f1)
      have HNE := Lib.hid hne
      clear HC2 HW l0 e0 l1 s1 hwr d0 d1 f0 f1 hb0 hb1 hne
      obtain ⟨so0, so1, so2, so3⟩ := hso
      obtain ⟨hb0, hb1⟩ := HBX.out
      go_wp2
      go_loopw [6] (fun y wr => ∃ (yy : Nat) (Y : Int), yy ≤ 3 ∧ y = .int .i64 Y ∧ Hid (Y = s.2 - 1 + yy) ∧ Hid (CS b w wr (mid (S.take k) s (3 * yy)) (20 * k + 1 + 3 * yy)) ∧ Hid (wr.cell? ⟨g5, 0, none⟩ = some (.int .i64 s.1) ∧ wr.cell? ⟨g5, 1, none⟩ = some (.int .i64 s.2))) (fun y _ => (s.2 + 2 - intOf y).toNat)
      case atStart => exact ⟨0, s.2 - 1, by omega, rfl, Lib.hid (by simp), HC3, HBX⟩
      case round =>
        obtain ⟨yy, Y, hyy, rfl, HY, HC4, HB4⟩ := hrel
        obtain ⟨b0, b1⟩ := HB4.out
        have hY := HY.out
        have y0 : -274877906945 ≤ Y := by omega
        have y1 : Y ≤ 274877906947 := by omega
        by_cases hy3 : yy < 3
        · have y2 : Y ≤ s.2 + 1 := by omega
          clear hY hb0 hb1
          go_wp2
          go_loopw [7] (fun x wr => ∃ (xx : Nat) (X : Int), xx ≤ 3 ∧ x = .int .i64 X ∧ Hid (X = s.1 - 1 + xx) ∧ Hid (CS b w wr (mid (S.take k) s (3 * yy + xx)) (20 * k + 1 + (3 * yy + xx))) ∧ Hid (wr.cell? ⟨g5, 0, none⟩ = some (.int .i64 s.1) ∧ wr.cell? ⟨g5, 1, none⟩ = some (.int .i64 s.2))) (fun x _ => (s.1 + 2 - intOf x).toNat)
          case atStart => exact ⟨0, s.1 - 1, by omega, rfl, Lib.hid (by simp), HC4, HB4⟩
          case round =>
            obtain ⟨xx, X, hxx, rfl, HX, HC5, HB5⟩ := hrel
            obtain ⟨a0, a1⟩ := HB5.out
            have hX := HX.out
            have x0 : -274877906945 ≤ X := by omega
            have x1 : X ≤ 274877906947 := by omega
            by_cases hx3 : xx < 3
            · have x2 : X ≤ s.1 + 1 := by omega
              have HP := Lib.hid (show pos s (3 * yy + xx) = (X, Y) by
                have := HY.out
                simp only [pos, Prod.mk.injEq]
                omega)
              obtain ⟨j, hj⟩ : ∃ j, j = 3 * yy + xx := ⟨_, rfl⟩
              rw [← hj] at HC5 HP
              have HJ := Lib.hid hj
              have hj9 := Lib.hid (show j < 9 by omega)
              have hneq : ∀ W : World, (binOp .neq 31 (.agg #[.int .i64 X, .int .i64 Y]) (.agg #[.int .i64 s.1, .int .i64 s.2])).run Try.prog W = .ok (.bool (!decide ((X, Y) = s))) W := fun W => neq_a (X, Y) s W
              have g1 : g5 < wr.heap.size := World.block_lt_of_cell? wr _ a0
              have g2 : ¬ g5 = wr.heap.size := by omega
              clear hX b0 b1 hj
              by_cases h4 : j = 4
              · have hd : (!decide ((X, Y) = s)) = false := by
                  have := HP.out
                  rw [h4, pos_four] at this
                  simp [this]
                rw [hd] at hneq
                have HN := Lib.hid (show CS b w (wr.alloc (.cells #[.int .i64 X, .int .i64 Y] 31)) (mid (S.take k) s (3 * yy + (xx + 1))) (20 * k + 1 + (3 * yy + (xx + 1))) from
                  (HC5.out.alloc _).congr (fun x => by rw [show 3 * yy + (xx + 1) = j + 1 by have := HJ.out; omega, h4]; exact (mid_skip _ _ _).symm) (by have := HJ.out; omega))
                have HBN := Lib.hid (show (wr.alloc (.cells #[.int .i64 X, .int .i64 Y] 31)).cell? ⟨g5, 0, none⟩ = some (.int .i64 s.1) ∧ (wr.alloc (.cells #[.int .i64 X, .int .i64 Y] 31)).cell? ⟨g5, 1, none⟩ = some (.int .i64 s.2) from ⟨cell_al _ a0, cell_al _ a1⟩)
                clear hd h4
                go_wp2
                go_roundw
                case rel => exact ⟨xx + 1, X + 1, by omega, rfl, Lib.hid (by have := HX.out; omega), HN, HBN⟩
                case measure => simp [intOf]; omega
              · have hd : (!decide ((X, Y) = s)) = true := by
                  have h5 := pos_ne (s := s) (j := j) h4
                  rw [HP.out] at h5
                  simp [h5]
                rw [hd] at hneq
                have HJ4 := Lib.hid h4
                have hh := heap_alloc_new wr (.cells #[.int .i64 X, .int .i64 Y] 31)
                have k0 := cell_of_row _ _ 0 _ _ _ hh
                have k1 := cell_of_row _ _ 1 _ _ _ hh
                have k2 := cell_al (.cells #[.int .i64 X, .int .i64 Y] 31) a0
                have k3 := cell_al (.cells #[.int .i64 X, .int .i64 Y] 31) a1
                have HW := Lib.hid (HC5.out.alloc (.cells #[.int .i64 X, .int .i64 Y] 31))
                clear hd h4 hh
                go_wp2
                obtain ⟨g8, hg8⟩ : ∃ g8, g8 = wr.heap.size := ⟨_, rfl⟩
                rw [← hg8] at k0 k1 ⊢
                generalize wr.alloc (.cells #[.int .i64 X, .int .i64 Y] 31) = W1 at k0 k1 k2 k3 HW ⊢
                clear hg8 a0 a1 g1 g2
                have hv := mid_le (S.take k) s j (X, Y)
                rw [List.length_take] at hv
                have hI := (show CS b w W1.drew _ _ from HW.out.drewN 1).inc (c := (X, Y)) (by have := HM.out; have := HJ.out; omega) ⟨⟨by omega, by omega⟩, ⟨by omega, by omega⟩⟩ (k := mid (S.take k) s j (X, Y) + 1) (by omega) (by have := HM.out; have := hj9.out; omega) (x := (mid (S.take k) s j (X, Y) : Int) + 1) (by omega)
                have hwr : IntKind.i64.wrap ((mid (S.take k) s j (X, Y) : Int) + 1) = (mid (S.take k) s j (X, Y) : Int) + 1 := IntWalk.i64_in _ (by have := HM.out; have := hj9.out; omega)
                obtain ⟨l0, v1, st1, w3, w4, e0, l1, s1, hc2, hg1, hg2⟩ := hI
                have hne8 : ¬ g8 = b := by
                  obtain ⟨_, _, q1, _⟩ := HW.out
                  exact owns_cell_ne q1 k0
                have d0 := cell_kp (w := W1.drew) (show W1.drew.cell? ⟨g8, 0, none⟩ = _ from k0) hg1 hne8
                have d1 := cell_kp (w := W1.drew) (show W1.drew.cell? ⟨g8, 1, none⟩ = _ from k1) hg1 hne8
                have HBN := Lib.hid (And.intro (cell_kp (w := W1.drew) (show W1.drew.cell? ⟨g5, 0, none⟩ = _ from k2) hg2 HNE.out) (cell_kp (w := W1.drew) (show W1.drew.cell? ⟨g5, 1, none⟩ = _ from k3) hg2 HNE.out))
                have HN := Lib.hid (hc2.congr (g := mid (S.take k) s (3 * yy + (xx + 1))) (M := 20 * k + 1 + (3 * yy + (xx + 1))) (fun x => by
                  rw [show 3 * yy + (xx + 1) = j + 1 by have := HJ.out; omega, mid_step _ _ _ _ HJ4.out, HP.out]
                  unfold upd
                  by_cases e : x = (X, Y)
                  · rw [if_pos e, if_pos e, e]
                  · rw [if_neg e, if_neg e]; rfl) (by have := HJ.out; omega))
                clear hc2 hg1 hg2 hv hne8 k2 k3
                generalize (mid (S.take k) s j (X, Y) : Int) = v at l0 l1 s1 hwr
                go_region
                go_wp2
                go_roundw
                case rel => exact ⟨xx + 1, X + 1, by omega, rfl, Lib.hid (by have := HX.out; omega), HN, HBN⟩
                case measure => simp [intOf]; omega
            · obtain rfl : xx = 3 := by omega
              have x2 : ¬ X ≤ s.1 + 1 := by omega
              have HF := Lib.hid (HC5.out.congr (g := mid (S.take k) s (3 * (yy + 1))) (M := 20 * k + 1 + 3 * (yy + 1)) (fun x => by rw [show 3 * (yy + 1) = 3 * yy + 3 by omega]) (by omega))
              have HY2 := Lib.hid (show Y + 1 = s.2 - 1 + ((yy + 1 : Nat) : Int) by have := HY.out; omega)
              clear hX b0 b1
              go_wp2
              go_roundw
              case rel => exact ⟨yy + 1, Y + 1, by omega, rfl, HY2, HF, HB5⟩
              case measure => simp [intOf]; omega
        · obtain rfl : yy = 3 := by omega
          have y2 : ¬ Y ≤ s.2 + 1 := by omega
          have HF := Lib.hid (HC4.out.congr (g := cf (S.take (k + 1))) (M := 20 * (k + 1)) (fun x => by
            have e : S.take (k + 1) = S.take k ++ [s] := by
              obtain ⟨hi, he⟩ := List.getElem?_eq_some_iff.1 HS0.out
              rw [List.take_succ_eq_append_getElem hi, he]
            rw [e]
            exact mid_end _ _ _ (take_not HND.out HS0.out)) (by omega))
          clear hY hb0 hb1
          go_wp2
          go_roundw
          case rel => exact ⟨k + 1, by have := HLT.out; omega, by go_num, HF⟩
          case measure => have := HLT.out; simp [intOf]; omega
    · obtain rfl : k = n := by omega
      have HF := Lib.hid (show CS b w wr (cf S) (20 * S.length) by
        have := HS.out
        rw [List.take_of_length_le (by rw [HL.out]; exact Nat.le_refl _)] at this
        rw [HL.out]
        exact this)
      go_wp2
      go_end0
      exact ⟨rfl, HF.out⟩
end Go.Proofs.Yticnhpddidaaeaa

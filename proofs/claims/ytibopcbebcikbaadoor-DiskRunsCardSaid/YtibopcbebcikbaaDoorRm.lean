/-
  THE REFERENCE's Crash, where it can't be. Conditions: the reference's disk lies in memory.
-/
import Derived.Test.YtibopcbebcikbaaDoorRl
import Derived.BigQuiet
namespace Go.Proofs.YtibopcbebcikbaaDoor
open Go.RowKit

/-- what the walk reads of the call's own two blocks, in every later world -/
theorem own_cells {w w0 w3 : World} {v0 v1 v2 v3 v4 y0 y1 y2 y3 y4 : Value} {T : TypeId} (e0 : w0 = (w.alloc (.cells #[v0, v1, v2, v3, v4] T)).alloc (.cells #[y0, y1, y2, y3, y4] T)) (hb : Below w0.heap.size w0 w3) :
    (w3.cell? ⟨w.heap.size, 0, none⟩ = some v0 ∧ w3.cell? ⟨w.heap.size, 1, none⟩ = some v1 ∧ w3.cell? ⟨w.heap.size, 2, none⟩ = some v2 ∧ w3.cell? ⟨w.heap.size, 3, none⟩ = some v3 ∧ w3.cell? ⟨w.heap.size, 4, none⟩ = some v4) ∧
    (w3.cell? ⟨w.heap.size + 1, 0, none⟩ = some y0 ∧ w3.cell? ⟨w.heap.size + 1, 1, none⟩ = some y1 ∧ w3.cell? ⟨w.heap.size + 1, 2, none⟩ = some y2 ∧ w3.cell? ⟨w.heap.size + 1, 3, none⟩ = some y3 ∧ w3.cell? ⟨w.heap.size + 1, 4, none⟩ = some y4) ∧
    (∀ j, w3.frozen? ⟨w.heap.size, j, none⟩ = false) ∧ (∀ j, w3.frozen? ⟨w.heap.size + 1, j, none⟩ = false) := by
  subst e0
  have hk := held_facts hb
  exact ⟨⟨(hk 0).1, (hk 1).1, (hk 2).1, (hk 3).1, (hk 4).1⟩, ⟨(hk 0).2.2.1, (hk 1).2.2.1, (hk 2).2.2.1, (hk 3).2.2.1, (hk 4).2.2.1⟩, fun j => (hk j).2.1, fun j => (hk j).2.2.2⟩
theorem below_drewN {B : Nat} {w w' : World} (h : Below B w w') (n : Nat) : Below B w (w'.drewN n) := ⟨h.os, h.tape, h.output, h.size, h.block⟩
theorem Ints.drewN {w : World} {a : Option Addr} {xs : List Int} (h : Ints w a xs) (n : Nat) : Ints (w.drewN n) a xs := h
theorem plc_mem {ks : List Int} {t : Int} (h : t ∈ ks) : 0 ≤ plc ks t := by
  unfold plc
  rw [if_pos h]
  omega
theorem plc_not {ks : List Int} {t : Int} (h : t ∉ ks) : plc ks t < 0 := by
  unfold plc
  rw [if_neg h]
  omega
theorem below_five {w w3 : World} (hb : Below w.heap.size w w3) (v0 v1 v2 v3 v4 : Value) : Below w.heap.size w (((((w3.setCell ⟨w.heap.size + 1, 0, none⟩ v0).setCell ⟨w.heap.size + 1, 1, none⟩ v1).setCell ⟨w.heap.size + 1, 2, none⟩ v2).setCell ⟨w.heap.size + 1, 3, none⟩ v3).setCell ⟨w.heap.size + 1, 4, none⟩ v4) :=
  ((((hb.setCell (by simp) v0).setCell (by simp) v1).setCell (by simp) v2).setCell (by simp) v3).setCell (by simp) v4
set_option maxRecDepth 100000 in
set_option maxHeartbeats 2000000 in
theorem refcrash_err (r : Ref) (a : Option Addr) (n c : Nat) (ks : List Int) (t x : Int) (w : World) (h : RefOk w r) (hk : Ints w a ks) (hn : ks.length = n) (hm : n ≤ 9223372036854775807) (hf : ¬ (fitOk r.pend.length ks t ∧ 0 ≤ x ∧ x ≤ 512)) :
    Calls Tryd.prog 25 #[r.val, .slice a n c, .int .i64 t, .int .i64 x] w (RefErr w r 1) := by
  have h4 : (r.pend.length : Int) ≤ 100 := by have := h.len; omega
  have HF := Lib.hid hf
  have HK := Lib.hid hk
  have HN := Lib.hid hn
  have HH := Lib.hid h
  clear h hf hk hn
  unfold Ref.val
  go_enter Tryd.func25, Tryd.ntmps25
  go_wp2
  have HB0 := Lib.hid (al2 w (.cells #[.slice (some ⟨r.nb, 0, none⟩) r.n r.nc, .slice (some ⟨r.sb, 0, none⟩) r.n r.sc, .slice r.pa r.pend.length r.pc, .int .i64 r.writes, .int .i64 r.left] 32) (.cells #[.slice none 0 0, .slice none 0 0, .slice none 0 0, .int .i64 0, .int .i64 0] 32))
  obtain ⟨w0, e0⟩ : ∃ w0, w0 = (w.alloc (.cells #[.slice (some ⟨r.nb, 0, none⟩) r.n r.nc, .slice (some ⟨r.sb, 0, none⟩) r.n r.sc, .slice r.pa r.pend.length r.pc, .int .i64 r.writes, .int .i64 r.left] 32)).alloc (.cells #[.slice none 0 0, .slice none 0 0, .slice none 0 0, .int .i64 0, .int .i64 0] 32) := ⟨_, rfl⟩
  rw [← e0] at HB0 ⊢
  have E0 := Lib.hid e0
  clear e0
  go_loopw [10] (fun i wr => ∃ k : Nat, k ≤ n ∧ i = .int .i64 k ∧ Hid (∀ q (hq : q < ks.length), q < k → (0 ≤ ks[q] ∧ ks[q] < (r.pend.length : Int)) ∧ plc ks ks[q] = q) ∧ Hid (Below w0.heap.size w0 wr)) (fun i _ => n - (intOf i).toNat)
  case atStart => exact ⟨0, by omega, rfl, Lib.hid (fun q _ hq => absurd hq (by omega)), Lib.hid (Below.refl _ _)⟩
  case round =>
    obtain ⟨k, hkn, rfl, HT, HBL⟩ := hrel
    obtain ⟨⟨x0, x1, x2, x3, x4⟩, ⟨u0, u1, u2, u3, u4⟩, f1, f2⟩ := own_cells E0.out HBL.out
    have HBW := Lib.hid (HB0.out.trans (HBL.out.mono HB0.out.size))
    by_cases hlt : k < n
    · have hkl : k < ks.length := by rw [HN.out]; exact hlt
      obtain ⟨b, off, rfl, hc⟩ := HK.out k hkl
      have hc2 := (HBW.out.cell (p := ⟨b, off + k, none⟩) (World.block_lt_of_cell? w _ hc)).trans hc
      have i0 : (0 : Int) ≤ (k : Int) := by omega
      have i1 : (k : Int) < (n : Int) := by omega
      have HT1 := Lib.hid (fun (e : (0 ≤ ks[k] ∧ ks[k] < (r.pend.length : Int)) ∧ plc ks ks[k] = k) => (show ∀ q (hq : q < ks.length), q < k + 1 → (0 ≤ ks[q] ∧ ks[q] < (r.pend.length : Int)) ∧ plc ks ks[q] = q from fun q hq hq2 => by
        by_cases c : q = k
        · subst c; exact e
        · exact HT.out q hq (by omega)))
      have HKW := Lib.hid (HK.out.below HBW.out)
      clear hc
      obtain ⟨y, hy⟩ : ∃ y, y = ks[k] := ⟨_, rfl⟩
      rw [← hy] at hc2
      rw [← hy] at HT1
      clear hy
      by_cases h0 : y < 0
      · go_wp2
        go_quiet (fail)
        go_wp2
        exact bodyPost_ret (v := .tuple #[r.val, .int .i64 1]) (by simp [results, Tryd.results25, go_sem, Ref.val, u0, u1, u2, u3, u4]) rfl ⟨rfl, below_five (below_drewN HBW.out _) _ _ _ _ _⟩
      have h0' : 0 ≤ y := by omega
      have d0 : decide (y < 0) = false := decide_eq_false h0
      by_cases h1 : (r.pend.length : Int) ≤ y
      · have d1 : decide ((r.pend.length : Int) ≤ y) = true := decide_eq_true h1
        clear h0
        go_wp2
        go_quiet (fail)
        go_wp2
        exact bodyPost_ret (v := .tuple #[r.val, .int .i64 1]) (by simp [results, Tryd.results25, go_sem, Ref.val, u0, u1, u2, u3, u4]) rfl ⟨rfl, below_five (below_drewN HBW.out _) _ _ _ _ _⟩
      have h1' : y < (r.pend.length : Int) := by omega
      have d1 : decide ((r.pend.length : Int) ≤ y) = false := decide_eq_false h1
      by_cases h2 : plc ks y = k
      · have H2 := Lib.hid h2
        clear h0 h1 h2
        go_wp2
        go_quiet (first | (go_at_call 37; exact Calls.quiet_of_same ((place_any _ _ _ ks y _ (HKW.out.drewN _) HN.out hm).mono fun e w' ⟨h1, h3⟩ => ⟨h1.trans (by rw [H2.out]), h3.symm⟩)))
        go_wp2
        go_roundw
        case rel => exact ⟨k + 1, by omega, by go_num, Lib.hid (HT1.out ⟨⟨h0', h1'⟩, H2.out⟩), Lib.hid (below_drewN HBL.out _)⟩
        case measure => simp [intOf]; omega
      · have h2' : (plc ks y == (k : Int)) = false := by rw [beq_eq_false_iff_ne]; exact h2
        have h2'' : (plc ks y != (k : Int)) = true := by rw [bne_iff_ne]; exact h2
        clear h0 h1
        go_wp2
        go_quiet (first | (go_at_call 37; exact Calls.quiet_of_same ((place_any _ _ _ ks y _ (HKW.out.drewN _) HN.out hm).mono fun e w' ⟨h1, h2⟩ => ⟨h1, h2.symm⟩)))
        go_wp2
        exact bodyPost_ret (v := .tuple #[r.val, .int .i64 1]) (by simp [results, Tryd.results25, go_sem, Ref.val, u0, u1, u2, u3, u4]) rfl ⟨rfl, below_five (below_drewN HBW.out _) _ _ _ _ _⟩
    · obtain rfl : k = n := by omega
      have HKO := Lib.hid (keep_of_places (m := r.pend.length) (fun q hq => HT.out q hq (by rw [← HN.out]; exact hq)))
      have HKW := Lib.hid (HK.out.below HBW.out)
      by_cases a1 : t < -1
      · go_wp2
        exact bodyPost_ret (v := .tuple #[r.val, .int .i64 1]) (by simp [results, Tryd.results25, go_sem, Ref.val, u0, u1, u2, u3, u4]) rfl ⟨rfl, below_five HBW.out _ _ _ _ _⟩
      have a1' : -1 ≤ t := by omega
      by_cases a2 : (r.pend.length : Int) ≤ t
      · clear a1
        go_wp2
        exact bodyPost_ret (v := .tuple #[r.val, .int .i64 1]) (by simp [results, Tryd.results25, go_sem, Ref.val, u0, u1, u2, u3, u4]) rfl ⟨rfl, below_five HBW.out _ _ _ _ _⟩
      have a2' : t < (r.pend.length : Int) := by omega
      clear a1 a2
      by_cases a3 : 0 ≤ t ∧ t ∈ ks
      · obtain ⟨a4, a5⟩ := a3
        have a6 := plc_mem a5
        clear a5
        go_wp2_with (go_at_call 37; refine (place_any _ _ _ ks _ _ HKW.out HN.out hm).mono ?_; rintro e w' ⟨rfl, rfl⟩)
        exact bodyPost_ret (v := .tuple #[r.val, .int .i64 1]) (by simp [results, Tryd.results25, go_sem, Ref.val, u0, u1, u2, u3, u4]) rfl ⟨rfl, below_five HBW.out _ _ _ _ _⟩
      by_cases a4 : 0 ≤ t
      · have a5 : plc ks t < 0 := plc_not (fun e => a3 ⟨a4, e⟩)
        have HT2 := Lib.hid (show t ∉ ks from fun e => a3 ⟨a4, e⟩)
        clear a3
        by_cases a6 : x < 0
        · go_wp2_with (go_at_call 37; refine (place_any _ _ _ ks _ _ HKW.out HN.out hm).mono ?_; rintro e w' ⟨rfl, rfl⟩)
          exact bodyPost_ret (v := .tuple #[r.val, .int .i64 1]) (by simp [results, Tryd.results25, go_sem, Ref.val, u0, u1, u2, u3, u4]) rfl ⟨rfl, below_five HBW.out _ _ _ _ _⟩
        · have a7 : 512 < x := by
            have a7 : ¬ (0 ≤ x ∧ x ≤ 512) := fun e => HF.out ⟨⟨HKO.out, .inr ⟨a4, a2', HT2.out⟩⟩, e⟩
            omega
          have a8 : 0 ≤ x := by omega
          clear a6
          go_wp2_with (go_at_call 37; refine (place_any _ _ _ ks _ _ HKW.out HN.out hm).mono ?_; rintro e w' ⟨rfl, rfl⟩)
          exact bodyPost_ret (v := .tuple #[r.val, .int .i64 1]) (by simp [results, Tryd.results25, go_sem, Ref.val, u0, u1, u2, u3, u4]) rfl ⟨rfl, below_five HBW.out _ _ _ _ _⟩
      · obtain rfl : t = -1 := by omega
        clear a3 a4
        by_cases a6 : x < 0
        · go_wp2
          exact bodyPost_ret (v := .tuple #[r.val, .int .i64 1]) (by simp [results, Tryd.results25, go_sem, Ref.val, u0, u1, u2, u3, u4]) rfl ⟨rfl, below_five HBW.out _ _ _ _ _⟩
        · have a7 : 512 < x := by
            have a7 : ¬ (0 ≤ x ∧ x ≤ 512) := fun e => HF.out ⟨⟨HKO.out, .inl rfl⟩, e⟩
            omega
          have a8 : 0 ≤ x := by omega
          clear a6
          go_wp2
          exact bodyPost_ret (v := .tuple #[r.val, .int .i64 1]) (by simp [results, Tryd.results25, go_sem, Ref.val, u0, u1, u2, u3, u4]) rfl ⟨rfl, below_five HBW.out _ _ _ _ _⟩
end Go.Proofs.YtibopcbebcikbaaDoor

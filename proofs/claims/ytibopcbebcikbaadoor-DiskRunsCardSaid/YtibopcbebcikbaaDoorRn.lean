/-
  THE REFERENCE's Crash, where it can be. Conditions: the reference's disk lies in memory.
-/
import Derived.Test.YtibopcbebcikbaaDoorRm
namespace Go.Proofs.YtibopcbebcikbaaDoor
open Go.RowKit

structure RefCrashed (w : World) (r : Ref) (ks : List Int) (t : Int) (p : Nat) (w' : World) (r' : Ref) : Prop where
  ok : RefOk w' r'
  n : r'.n = r.n
  N : r'.N = rc r ks t p r.pend.length
  S : r'.S = rc r ks t p r.pend.length
  pend : r'.pend = []
  writes : r'.writes = r.writes
  left : r'.left = -1
  far : ∀ s, Far r s → (∀ b, s.has b → b < w.heap.size) → Far r' s
  below : Below w.heap.size w w'
def RefCrashedAt (w : World) (r : Ref) (ks : List Int) (t : Int) (p : Nat) (e : Ending) (w' : World) : Prop := ∃ r', e = .returned (.tuple #[r'.val, .int .i64 0]) ∧ RefCrashed w r ks t p w' r'
theorem crash_done {r : Ref} {ks : List Int} {t : Int} {p lb lc : Nat} {w wr wf : World} (h : RefOk w r) (hb : Below w.heap.size w wr) (hs : Strs wr (some ⟨lb, 0, none⟩) (txs r.n (rc r ks t p r.pend.length))) (hc : r.n ≤ lc ∧ lc ≤ 9223372036854775807) (hl : lb = r.sb ∨ w.heap.size + 2 ≤ lb) (h2 : Two w.heap.size (w.heap.size + 1) wr wf) :
    RefCrashed w r ks t p wf { r with nb := lb, nc := lc, sb := lb, sc := lc, N := rc r ks t p r.pend.length, S := rc r ks t p r.pend.length, pa := none, pc := 0, pend := [], left := -1 } := by
  have lt := h.lt
  have n1 : lb ≠ w.heap.size := by omega
  have n2 : lb ≠ w.heap.size + 1 := by omega
  have hst := h2.strs hs n1 n2
  have hbd := rc_bd r ks t p h.bN h.bS r.pend.length
  have hfar : ∀ s, Far r s → (∀ b, s.has b → b < w.heap.size) → ¬ s.has lb := by
    intro s hf hlt e
    rcases hl with q | q
    · exact hf.2.1 (q ▸ e)
    · have := hlt _ e
      omega
  exact ⟨⟨hst, hst, hc, hc, ints_nil _ _, hbd, hbd, h.n1, by show 0 ≤ 100; omega, fun _ => ⟨rfl, rfl⟩⟩, rfl, rfl, rfl, rfl, rfl, rfl, fun s hf hlt => ⟨hfar s hf hlt, hfar s hf hlt, fun b off e => by cases e⟩, ⟨h2.os.trans hb.os, h2.tape.trans hb.tape, h2.output.trans hb.output, Nat.le_trans hb.size h2.size, fun k hk => (h2.block k (by omega) (by omega)).trans (hb.block k hk)⟩⟩
theorem keep4 {W w3 : World} (hb : Below W.heap.size W w3) {a i b j c k d l : Nat} {va vb vc vd : Value} (h : W.cell? ⟨a, i, none⟩ = some va ∧ W.cell? ⟨b, j, none⟩ = some vb ∧ W.cell? ⟨c, k, none⟩ = some vc ∧ W.cell? ⟨d, l, none⟩ = some vd) :
    w3.cell? ⟨a, i, none⟩ = some va ∧ w3.cell? ⟨b, j, none⟩ = some vb ∧ w3.cell? ⟨c, k, none⟩ = some vc ∧ w3.cell? ⟨d, l, none⟩ = some vd :=
  ⟨(hb.cell (p := ⟨a, i, none⟩) (World.block_lt_of_cell? W _ h.1)).trans h.1, (hb.cell (p := ⟨b, j, none⟩) (World.block_lt_of_cell? W _ h.2.1)).trans h.2.1, (hb.cell (p := ⟨c, k, none⟩) (World.block_lt_of_cell? W _ h.2.2.1)).trans h.2.2.1, (hb.cell (p := ⟨d, l, none⟩) (World.block_lt_of_cell? W _ h.2.2.2)).trans h.2.2.2⟩
theorem rc_step (r : Ref) (ks : List Int) (t : Int) (p k : Nat) (hk : k < r.pend.length) : rc r ks t p (k + 1) = if (k : Int) ∈ ks then upd (rc r ks t p k) (r.pend[k]) (r.N (r.pend[k])) else if (k : Int) = t then upd (rc r ks t p k) (r.pend[k]) (fun j => if j < p then r.N (r.pend[k]) j else r.S (r.pend[k]) j) else rc r ks t p k := by
  have e : r.pend.getD k 0 = r.pend[k] := by rw [List.getD_eq_getElem?_getD, List.getElem?_eq_getElem hk]; rfl
  conv => lhs; unfold rc
  rw [e]
theorem crash_next {r : Ref} {ks : List Int} {t : Int} {p j g : Nat} {w3 : World} {s : ByteArray} {hj : j < r.pend.length} (hs : Strs w3 (some ⟨g, 0, none⟩) ((txs r.n (rc r ks t p j)).set (r.pend[j]) s)) {f : Nat → Int} (e : s = strOfNums (rowOf f)) (h : rc r ks t p (j + 1) = upd (rc r ks t p j) (r.pend[j]) f) : Strs w3 (some ⟨g, 0, none⟩) (txs r.n (rc r ks t p (j + 1))) := by
  rw [e, txs_set, ← h] at hs
  exact hs
set_option maxRecDepth 100000 in
set_option maxHeartbeats 3000000 in
theorem refcrash_any (r : Ref) (a : Option Addr) (n c : Nat) (ks : List Int) (t x : Int) (p : Nat) (w : World) (h : RefOk w r) (hk : Ints w a ks) (hn : ks.length = n) (hm : n ≤ 9223372036854775807) (hx : x = p) (hp : p ≤ 512) (hf : fitOk r.pend.length ks t) (hlt : ∀ i ∈ r.pend, i < r.n) :
    Calls Tryd.prog 25 #[r.val, .slice a n c, .int .i64 t, .int .i64 x] w (RefCrashedAt w r ks t p) := by
  subst hx
  have h4 : (r.pend.length : Int) ≤ 100 := by have := h.len; omega
  have h5 : (r.n : Int) ≤ 100 := by have := h.n1.2; omega
  have p0 : (0 : Int) ≤ (p : Int) := by omega
  have p1 : (p : Int) ≤ 512 := by omega
  have HF := Lib.hid hf
  have HK := Lib.hid hk
  have HN := Lib.hid hn
  have HH := Lib.hid h
  have HLT := Lib.hid hlt
  clear h hf hk hn hlt
  unfold Ref.val
  go_enter Tryd.func25, Tryd.ntmps25
  go_wp2
  have HB0 := Lib.hid (al2 w (.cells #[.slice (some ⟨r.nb, 0, none⟩) r.n r.nc, .slice (some ⟨r.sb, 0, none⟩) r.n r.sc, .slice r.pa r.pend.length r.pc, .int .i64 r.writes, .int .i64 r.left] 32) (.cells #[.slice none 0 0, .slice none 0 0, .slice none 0 0, .int .i64 0, .int .i64 0] 32))
  obtain ⟨w0, e0⟩ : ∃ w0, w0 = (w.alloc (.cells #[.slice (some ⟨r.nb, 0, none⟩) r.n r.nc, .slice (some ⟨r.sb, 0, none⟩) r.n r.sc, .slice r.pa r.pend.length r.pc, .int .i64 r.writes, .int .i64 r.left] 32)).alloc (.cells #[.slice none 0 0, .slice none 0 0, .slice none 0 0, .int .i64 0, .int .i64 0] 32) := ⟨_, rfl⟩
  have HZ := Lib.hid (show w0.heap.size = w.heap.size + 2 by rw [e0]; simp)
  have HN1 := Lib.hid (show 0 < r.n by have := HH.out.n1; omega)
  rw [← e0] at HB0 ⊢
  have E0 := Lib.hid e0
  clear e0
  go_loopw [10] (fun i wr => ∃ k : Nat, k ≤ n ∧ i = .int .i64 k ∧ Hid (Below w0.heap.size w0 wr)) (fun i _ => n - (intOf i).toNat)
  case atStart => exact ⟨0, by omega, rfl, Lib.hid (Below.refl _ _)⟩
  case round =>
    obtain ⟨k, hkn, rfl, HBL⟩ := hrel
    obtain ⟨⟨x0, x1, x2, x3, x4⟩, ⟨u0, u1, u2, u3, u4⟩, f1, f2⟩ := own_cells E0.out HBL.out
    have HBW := Lib.hid (HB0.out.trans (HBL.out.mono HB0.out.size))
    by_cases hlt : k < n
    · have hkl : k < ks.length := by rw [HN.out]; exact hlt
      obtain ⟨b, off, rfl, hc⟩ := HK.out k hkl
      have hc2 := (HBW.out.cell (p := ⟨b, off + k, none⟩) (World.block_lt_of_cell? w _ hc)).trans hc
      have i0 : (0 : Int) ≤ (k : Int) := by omega
      have i1 : (k : Int) < (n : Int) := by omega
      have hpl := places_of_keep HF.out.1 k hkl
      have HKW := Lib.hid (HK.out.below HBW.out)
      clear hc
      obtain ⟨y, hy⟩ : ∃ y, y = ks[k] := ⟨_, rfl⟩
      rw [← hy] at hc2 hpl
      clear hy
      obtain ⟨⟨h0', h1'⟩, h2⟩ := hpl
      have d0 : decide (y < 0) = false := decide_eq_false (by omega)
      have d1 : decide ((r.pend.length : Int) ≤ y) = false := decide_eq_false (by omega)
      have H2 := Lib.hid h2
      clear h2
      go_wp2
      go_quiet (first | (go_at_call 37; exact Calls.quiet_of_same ((place_any _ _ _ ks y _ (HKW.out.drewN _) HN.out hm).mono fun e w' ⟨h1, h3⟩ => ⟨h1.trans (by rw [H2.out]), h3.symm⟩)))
      go_wp2
      go_roundw
      case rel => exact ⟨k + 1, by omega, by go_num, Lib.hid (below_drewN HBL.out _)⟩
      case measure => simp [intOf]; omega
    · obtain rfl : k = n := by omega
      have HKW := Lib.hid (HK.out.below HBW.out)
      rcases HF.out.2 with rfl | ⟨t0, t1, t2⟩
      · go_wp2_with (fail)
        go_loopw [11, 12] (fun l i wx => ∃ j : Nat, j ≤ r.pend.length ∧ i = .int .i64 j ∧ ∃ lb lc, l = .slice (some ⟨lb, 0, none⟩) r.n lc ∧ Hid (Strs wx (some ⟨lb, 0, none⟩) (txs r.n (rc r ks (-1) p j)) ∧ (r.n ≤ lc ∧ lc ≤ 9223372036854775807) ∧ (lb = r.sb ∨ w.heap.size + 2 ≤ lb) ∧ Below w0.heap.size w0 wx)) (fun _ i _ => r.pend.length - (intOf i).toNat)
        case atStart => exact ⟨0, by omega, rfl, r.sb, r.sc, rfl, Lib.hid ⟨HH.out.S.below HBW.out, HH.out.sc, .inl rfl, HBL.out⟩⟩
        case round =>
          clear x0 x1 x2 x3 x4 u0 u1 u2 u3 u4 f1 f2 HKW HBW
          obtain ⟨j, hjm, rfl, lb, lc, rfl, HX⟩ := hrel
          obtain ⟨⟨x0, x1, x2, x3, x4⟩, ⟨u0, u1, u2, u3, u4⟩, f1, f2⟩ := own_cells E0.out HX.out.2.2.2
          have HBW := Lib.hid (HB0.out.trans (HX.out.2.2.2.mono HB0.out.size))
          have HKW := Lib.hid (HK.out.below HBW.out)
          by_cases hlt2 : j < r.pend.length
          · obtain ⟨b, off, ha, hc⟩ := HH.out.p j (by rw [List.length_map]; exact hlt2)
            have hc2 := (HBW.out.cell (p := ⟨b, off + j, none⟩) (World.block_lt_of_cell? w _ hc)).trans hc
            rw [ha] at x2
            rw [List.getElem_map] at hc2
            have HIL := Lib.hid (HLT.out _ (List.getElem_mem hlt2))
            obtain ⟨bN, oN, haN, cN⟩ := HH.out.N (r.pend[j]) (by rw [txs_len]; exact HIL.out)
            obtain ⟨rfl, rfl⟩ : r.nb = bN ∧ 0 = oN := by simpa using haN
            obtain ⟨bS, oS, haS, cS⟩ := HH.out.S (r.pend[j]) (by rw [txs_len]; exact HIL.out)
            obtain ⟨rfl, rfl⟩ : r.sb = bS ∧ 0 = oS := by simpa using haS
            have cN2 := (HBW.out.cell (p := ⟨r.nb, 0 + r.pend[j], none⟩) (World.block_lt_of_cell? w _ cN)).trans cN
            have cS2 := (HBW.out.cell (p := ⟨r.sb, 0 + r.pend[j], none⟩) (World.block_lt_of_cell? w _ cS)).trans cS
            rw [Nat.zero_add, txs_get] at cN2 cS2
            have HST := Lib.hid (rc_step r ks (-1) p j hlt2)
            obtain ⟨tN, eN⟩ : ∃ s, s = strOfNums (rowOf (r.N (r.pend[j]))) := ⟨_, rfl⟩
            obtain ⟨tS, eS⟩ : ∃ s, s = strOfNums (rowOf (r.S (r.pend[j]))) := ⟨_, rfl⟩
            rw [← eN] at cN2
            rw [← eS] at cS2
            have zN : tN.size = 512 := by rw [eN, strOfNums_size, rowOf_len]
            have zS : tS.size = 512 := by rw [eS, strOfNums_size, rowOf_len]
            have EN := Lib.hid eN
            have ES := Lib.hid eS
            have j0 : (0 : Int) ≤ (j : Int) := by omega
            have j1 : (j : Int) < (r.pend.length : Int) := by omega
            have q0 : (0 : Int) ≤ ((r.pend[j] : Nat) : Int) := by omega
            have q1 : ((r.pend[j] : Nat) : Int) < (r.n : Int) := by have := HIL.out; omega
            clear hc cN cS eN eS haN haS ha
            by_cases hin : (j : Int) ∈ ks
            · have hpl := plc_mem hin
              have hne : ((j : Int) == (-1)) = false := by
                rw [beq_eq_false_iff_ne]
                intro e
                rcases HF.out.2 with q | q
                · omega
                · exact q.2.2 (e ▸ hin)
              have HIN := Lib.hid hin
              clear hin zN zS
              go_wp2_with (first | (go_at_call 37; refine (place_any _ _ _ ks _ _ HKW.out HN.out hm).mono ?_; rintro e w' ⟨rfl, rfl⟩) | (go_at_call 38; refine (with_any lb 0 r.n lc (r.pend[j]) (txs r.n (rc r ks (-1) p j)) tN _ HX.out.1 (txs_len _ _) HIL.out HX.out.2.1.1 HX.out.2.1.2 (by omega)).mono ?_; rintro e w3 ⟨ao, cap, rfl, hs, hnc, hcp, hfr, hb⟩; have HS := Lib.hid hs; have HNC := Lib.hid (show r.n ≤ cap ∧ cap ≤ 9223372036854775807 from ⟨hnc, hcp⟩); have HFR := Lib.hid hfr; have HB3 := Lib.hid (HX.out.2.2.2.trans (hb.mono HX.out.2.2.2.size)); clear hs hnc hcp hfr hb))
              obtain ⟨g, rfl⟩ : ∃ g, ao = some ⟨g, 0, none⟩ := by
                obtain ⟨b, off, ha, _⟩ := HS.out 0 (by rw [List.length_set, txs_len]; exact HN1.out)
                obtain ⟨_, rfl⟩ := HFR.out b off ha
                exact ⟨b, ha⟩
              have HG := Lib.hid (show w.heap.size + 2 ≤ g by have := (HFR.out g 0 rfl).1; have := HX.out.2.2.2.size; have := HZ.out; simp at *; omega)
              go_wp2
              go_roundw
              case rel => exact ⟨j + 1, by omega, by go_num, g, cap, rfl, Lib.hid ⟨crash_next HS.out EN.out (by rw [HST.out, if_pos HIN.out]), HNC.out, .inr HG.out, HB3.out⟩⟩
              case measure => simp [intOf]; omega
            · have hpl := plc_not hin
              have HIN := Lib.hid hin
              clear hin
              by_cases hjt : (j : Int) = -1
              · exfalso; omega
              · have hjt2 : ((j : Int) == (-1)) = false := by rw [beq_eq_false_iff_ne]; exact hjt
                have HJT := Lib.hid hjt
                clear hjt zN zS
                go_wp2_with (go_at_call 37; refine (place_any _ _ _ ks _ _ HKW.out HN.out hm).mono ?_; rintro e w' ⟨rfl, rfl⟩)
                go_roundw
                case rel => exact ⟨j + 1, by omega, by go_num, lb, lc, rfl, Lib.hid ⟨by rw [HST.out, if_neg HIN.out, if_neg HJT.out]; exact HX.out.1, HX.out.2.1, HX.out.2.2.1, HX.out.2.2.2⟩⟩
                case measure => simp [intOf]; omega
          · obtain rfl : j = r.pend.length := by omega
            go_wp2
            refine bodyPost_ret (v := .tuple #[.agg #[.slice (some ⟨lb, 0, none⟩) r.n lc, .slice (some ⟨lb, 0, none⟩) r.n lc, .slice none 0 0, .int .i64 r.writes, .int .i64 (-1)], .int .i64 0]) (by simp [results, Tryd.results25, go_sem, u0, u1, u2, u3, u4]) rfl ?_
            exact ⟨_, rfl, crash_done HH.out HBW.out HX.out.1 HX.out.2.1 HX.out.2.2.1 ((((((Two.refl w.heap.size (w.heap.size + 1) _).set ⟨w.heap.size + 1, 0, none⟩ (.inr rfl) (.slice (some ⟨lb, 0, none⟩) r.n lc)).set ⟨w.heap.size + 1, 1, none⟩ (.inr rfl) (.slice (some ⟨lb, 0, none⟩) r.n lc)).set ⟨w.heap.size + 1, 2, none⟩ (.inr rfl) (.slice none 0 0)).set ⟨w.heap.size + 1, 3, none⟩ (.inr rfl) (.int .i64 r.writes)).set ⟨w.heap.size + 1, 4, none⟩ (.inr rfl) (.int .i64 (-1)))⟩
      · have hpt := plc_not t2
        clear t2
        go_wp2_with ((go_at_call 37; refine (place_any _ _ _ ks _ _ HKW.out HN.out hm).mono ?_; rintro e w' ⟨rfl, rfl⟩))
        go_loopw [11, 12] (fun l i wx => ∃ j : Nat, j ≤ r.pend.length ∧ i = .int .i64 j ∧ ∃ lb lc, l = .slice (some ⟨lb, 0, none⟩) r.n lc ∧ Hid (Strs wx (some ⟨lb, 0, none⟩) (txs r.n (rc r ks t p j)) ∧ (r.n ≤ lc ∧ lc ≤ 9223372036854775807) ∧ (lb = r.sb ∨ w.heap.size + 2 ≤ lb) ∧ Below w0.heap.size w0 wx)) (fun _ i _ => r.pend.length - (intOf i).toNat)
        case atStart => exact ⟨0, by omega, rfl, r.sb, r.sc, rfl, Lib.hid ⟨HH.out.S.below HBW.out, HH.out.sc, .inl rfl, HBL.out⟩⟩
        case round =>
          clear x0 x1 x2 x3 x4 u0 u1 u2 u3 u4 f1 f2 HKW HBW
          obtain ⟨j, hjm, rfl, lb, lc, rfl, HX⟩ := hrel
          obtain ⟨⟨x0, x1, x2, x3, x4⟩, ⟨u0, u1, u2, u3, u4⟩, f1, f2⟩ := own_cells E0.out HX.out.2.2.2
          have HBW := Lib.hid (HB0.out.trans (HX.out.2.2.2.mono HB0.out.size))
          have HKW := Lib.hid (HK.out.below HBW.out)
          by_cases hlt2 : j < r.pend.length
          · obtain ⟨b, off, ha, hc⟩ := HH.out.p j (by rw [List.length_map]; exact hlt2)
            have hc2 := (HBW.out.cell (p := ⟨b, off + j, none⟩) (World.block_lt_of_cell? w _ hc)).trans hc
            rw [ha] at x2
            rw [List.getElem_map] at hc2
            have HIL := Lib.hid (HLT.out _ (List.getElem_mem hlt2))
            obtain ⟨bN, oN, haN, cN⟩ := HH.out.N (r.pend[j]) (by rw [txs_len]; exact HIL.out)
            obtain ⟨rfl, rfl⟩ : r.nb = bN ∧ 0 = oN := by simpa using haN
            obtain ⟨bS, oS, haS, cS⟩ := HH.out.S (r.pend[j]) (by rw [txs_len]; exact HIL.out)
            obtain ⟨rfl, rfl⟩ : r.sb = bS ∧ 0 = oS := by simpa using haS
            have cN2 := (HBW.out.cell (p := ⟨r.nb, 0 + r.pend[j], none⟩) (World.block_lt_of_cell? w _ cN)).trans cN
            have cS2 := (HBW.out.cell (p := ⟨r.sb, 0 + r.pend[j], none⟩) (World.block_lt_of_cell? w _ cS)).trans cS
            rw [Nat.zero_add, txs_get] at cN2 cS2
            have HST := Lib.hid (rc_step r ks t p j hlt2)
            obtain ⟨tN, eN⟩ : ∃ s, s = strOfNums (rowOf (r.N (r.pend[j]))) := ⟨_, rfl⟩
            obtain ⟨tS, eS⟩ : ∃ s, s = strOfNums (rowOf (r.S (r.pend[j]))) := ⟨_, rfl⟩
            rw [← eN] at cN2
            rw [← eS] at cS2
            have zN : tN.size = 512 := by rw [eN, strOfNums_size, rowOf_len]
            have zS : tS.size = 512 := by rw [eS, strOfNums_size, rowOf_len]
            have EN := Lib.hid eN
            have ES := Lib.hid eS
            have j0 : (0 : Int) ≤ (j : Int) := by omega
            have j1 : (j : Int) < (r.pend.length : Int) := by omega
            have q0 : (0 : Int) ≤ ((r.pend[j] : Nat) : Int) := by omega
            have q1 : ((r.pend[j] : Nat) : Int) < (r.n : Int) := by have := HIL.out; omega
            clear hc cN cS eN eS haN haS ha
            by_cases hin : (j : Int) ∈ ks
            · have hpl := plc_mem hin
              have hne : ((j : Int) == t) = false := by
                rw [beq_eq_false_iff_ne]
                intro e
                rcases HF.out.2 with q | q
                · omega
                · exact q.2.2 (e ▸ hin)
              have HIN := Lib.hid hin
              clear hin zN zS
              go_wp2_with (first | (go_at_call 37; refine (place_any _ _ _ ks _ _ HKW.out HN.out hm).mono ?_; rintro e w' ⟨rfl, rfl⟩) | (go_at_call 38; refine (with_any lb 0 r.n lc (r.pend[j]) (txs r.n (rc r ks t p j)) tN _ HX.out.1 (txs_len _ _) HIL.out HX.out.2.1.1 HX.out.2.1.2 (by omega)).mono ?_; rintro e w3 ⟨ao, cap, rfl, hs, hnc, hcp, hfr, hb⟩; have HS := Lib.hid hs; have HNC := Lib.hid (show r.n ≤ cap ∧ cap ≤ 9223372036854775807 from ⟨hnc, hcp⟩); have HFR := Lib.hid hfr; have HB3 := Lib.hid (HX.out.2.2.2.trans (hb.mono HX.out.2.2.2.size)); clear hs hnc hcp hfr hb))
              obtain ⟨g, rfl⟩ : ∃ g, ao = some ⟨g, 0, none⟩ := by
                obtain ⟨b, off, ha, _⟩ := HS.out 0 (by rw [List.length_set, txs_len]; exact HN1.out)
                obtain ⟨_, rfl⟩ := HFR.out b off ha
                exact ⟨b, ha⟩
              have HG := Lib.hid (show w.heap.size + 2 ≤ g by have := (HFR.out g 0 rfl).1; have := HX.out.2.2.2.size; have := HZ.out; simp at *; omega)
              go_wp2
              go_roundw
              case rel => exact ⟨j + 1, by omega, by go_num, g, cap, rfl, Lib.hid ⟨crash_next HS.out EN.out (by rw [HST.out, if_pos HIN.out]), HNC.out, .inr HG.out, HB3.out⟩⟩
              case measure => simp [intOf]; omega
            · have hpl := plc_not hin
              have HIN := Lib.hid hin
              clear hin
              by_cases hjt : (j : Int) = t
              · have hjt2 : ((j : Int) == t) = true := by rw [hjt]; exact beq_self_eq_true t
                have HJT := Lib.hid hjt
                have mp : min p 512 = p := by omega
                have mq : p + (512 - p) ≤ 9223372036854775807 := by omega
                clear hjt
                go_upto_region 16 with (go_at_call 37; refine (place_any _ _ _ ks _ _ HKW.out HN.out hm).mono ?_; rintro e w' ⟨rfl, rfl⟩)
                go_region_held3 (fun w' => w'.cell? ⟨w.heap.size, 0, none⟩ = some (.slice (some ⟨r.nb, 0, none⟩) r.n r.nc) ∧ w'.cell? ⟨w.heap.size, 1, none⟩ = some (.slice (some ⟨r.sb, 0, none⟩) r.n r.sc) ∧ w'.cell? ⟨r.nb, r.pend[j], none⟩ = some (.string tN) ∧ w'.cell? ⟨r.sb, r.pend[j], none⟩ = some (.string tS)) (first | exact ⟨x0, x1, cN2, cS2⟩ | exact k4) ((go_at_call 38; refine (with_any lb 0 r.n lc (r.pend[j]) (txs r.n (rc r ks t p j)) (tN.extract 0 p ++ tS.extract p 512) _ (by exact HX.out.1) (txs_len _ _) HIL.out HX.out.2.1.1 HX.out.2.1.2 (by omega)).mono ?_; rintro e w3 ⟨ao, cap, rfl, hs, hnc, hcp, hfr, hb⟩; have HS := Lib.hid hs; have HNC := Lib.hid (show r.n ≤ cap ∧ cap ≤ 9223372036854775807 from ⟨hnc, hcp⟩); have HFR := Lib.hid hfr; have HB3 := Lib.hid (HX.out.2.2.2.drew.trans (hb.mono HX.out.2.2.2.size)); have k4 := keep4 hb ⟨x0, x1, cN2, cS2⟩; clear hs hnc hcp hfr hb))
                obtain ⟨g, rfl⟩ : ∃ g, ao = some ⟨g, 0, none⟩ := by
                  obtain ⟨b, off, ha, _⟩ := HS.out 0 (by rw [List.length_set, txs_len]; exact HN1.out)
                  obtain ⟨_, rfl⟩ := HFR.out b off ha
                  exact ⟨b, ha⟩
                have HG := Lib.hid (show w.heap.size + 2 ≤ g by have := (HFR.out g 0 rfl).1; have := HX.out.2.2.2.size; have := HZ.out; simp at *; omega)
                go_wp2
                go_roundw
                case rel => exact ⟨j + 1, by omega, by go_num, g, cap, rfl, Lib.hid ⟨crash_next HS.out (by rw [EN.out, ES.out]; exact torn_txt p hp) (by rw [HST.out, if_neg HIN.out, if_pos HJT.out]), HNC.out, .inr HG.out, HB3.out⟩⟩
                case measure => simp [intOf]; omega
              · have hjt2 : ((j : Int) == t) = false := by rw [beq_eq_false_iff_ne]; exact hjt
                have HJT := Lib.hid hjt
                clear hjt zN zS
                go_wp2_with (go_at_call 37; refine (place_any _ _ _ ks _ _ HKW.out HN.out hm).mono ?_; rintro e w' ⟨rfl, rfl⟩)
                go_roundw
                case rel => exact ⟨j + 1, by omega, by go_num, lb, lc, rfl, Lib.hid ⟨by rw [HST.out, if_neg HIN.out, if_neg HJT.out]; exact HX.out.1, HX.out.2.1, HX.out.2.2.1, HX.out.2.2.2⟩⟩
                case measure => simp [intOf]; omega
          · obtain rfl : j = r.pend.length := by omega
            go_wp2
            refine bodyPost_ret (v := .tuple #[.agg #[.slice (some ⟨lb, 0, none⟩) r.n lc, .slice (some ⟨lb, 0, none⟩) r.n lc, .slice none 0 0, .int .i64 r.writes, .int .i64 (-1)], .int .i64 0]) (by simp [results, Tryd.results25, go_sem, u0, u1, u2, u3, u4]) rfl ?_
            exact ⟨_, rfl, crash_done HH.out HBW.out HX.out.1 HX.out.2.1 HX.out.2.2.1 ((((((Two.refl w.heap.size (w.heap.size + 1) _).set ⟨w.heap.size + 1, 0, none⟩ (.inr rfl) (.slice (some ⟨lb, 0, none⟩) r.n lc)).set ⟨w.heap.size + 1, 1, none⟩ (.inr rfl) (.slice (some ⟨lb, 0, none⟩) r.n lc)).set ⟨w.heap.size + 1, 2, none⟩ (.inr rfl) (.slice none 0 0)).set ⟨w.heap.size + 1, 3, none⟩ (.inr rfl) (.int .i64 r.writes)).set ⟨w.heap.size + 1, 4, none⟩ (.inr rfl) (.int .i64 (-1)))⟩
end Go.Proofs.YtibopcbebcikbaaDoor

/-
  THE WALK of the document's Parse. Condition: the text's length.
-/
import Derived.Test.YtcgpjfcfokiagaaDoorRf
namespace Go.Proofs.YtcgpjfcfokiagaaDoor
open Go.RowKit Ru

/-- the answer's variable, not yet written -/
structure ResQ (w V : World) : Prop where
  h0 : V.heap[w.heap.size]? = some (.cells #[.int .u16 0, .int .u16 0] 24)
  bl : Below w.heap.size w V
theorem resQ_of {w V : World} (h : Below (w.alloc (.cells #[.int .u16 0, .int .u16 0] 24)).heap.size (w.alloc (.cells #[.int .u16 0, .int .u16 0] 24)) V) : ResQ w V :=
  ⟨(h.block _ (by simp)).trans (heap_alloc_new w _), (alX w _).trans (h.mono (by simp))⟩
theorem ResQ.below {w V V' : World} (h : ResQ w V) (k : Below V.heap.size V V') : ResQ w V' :=
  ⟨(k.block _ (lt_of_block h.h0)).trans h.h0, h.bl.trans (k.mono h.bl.size)⟩
theorem ResQ.res {w V : World} (h : ResQ w V) : V.cell? ⟨w.heap.size, 0, none⟩ = some (.int .u16 0) ∧ V.cell? ⟨w.heap.size, 1, none⟩ = some (.int .u16 0) ∧ V.frozen? ⟨w.heap.size, 0, none⟩ = false ∧ V.frozen? ⟨w.heap.size, 1, none⟩ = false ∧ w.heap.size < V.heap.size :=
  ⟨cell_of_row _ _ 0 _ _ _ h.h0, cell_of_row _ _ 1 _ _ _ h.h0, frozen_of_row _ _ 0 _ _ h.h0, frozen_of_row _ _ 1 _ _ h.h0, lt_of_block h.h0⟩
theorem ResQ.outs {w V : World} (h : ResQ w V) (u v : Value) : (V.setCell ⟨w.heap.size, 0, none⟩ u).cell? ⟨w.heap.size, 0, none⟩ = some u ∧ ((V.setCell ⟨w.heap.size, 0, none⟩ u).setCell ⟨w.heap.size, 1, none⟩ v).cell? ⟨w.heap.size, 0, none⟩ = some u ∧ ((V.setCell ⟨w.heap.size, 0, none⟩ u).setCell ⟨w.heap.size, 1, none⟩ v).cell? ⟨w.heap.size, 1, none⟩ = some v ∧ Below w.heap.size w ((V.setCell ⟨w.heap.size, 0, none⟩ u).setCell ⟨w.heap.size, 1, none⟩ v) := by
  have h0 := heap_setCell_same _ _ 0 _ _ u h.h0
  have h1 := heap_setCell_same _ _ 1 _ _ v h0
  exact ⟨cell_of_row _ _ 0 _ _ _ h0, cell_of_row _ _ 0 _ _ _ h1, cell_of_row _ _ 1 _ _ _ h1, (h.bl.setCell (Nat.le_refl _) _).setCell (Nat.le_refl _) _⟩
theorem numbers_int (s : ByteArray) (n : Int) (m : Nat) (hn : n = m) (hs : s.size ≤ 1000) (h : m ≤ s.size) (w : World) :
    Calls Tryd.prog 18 #[.string s, .int .i64 n] w fun e w' => NumOut s.size (nums ((lb s).drop m) 0) e ∧ w = w' := by
  subst hn; exact numbers_ref s m hs h w
theorem nums_rest : ∀ (l : List Nat) (a x : Nat) (r : List Nat), nums l a = some (x, r) → r.length ≤ l.length ∧ r = l.drop (l.length - r.length)
  | [], a, x, r, h => by
    simp only [nums, Option.some.injEq, Prod.mk.injEq] at h
    obtain ⟨_, rfl⟩ := h
    exact ⟨Nat.le_refl _, rfl⟩
  | c :: l, a, x, r, h => by
    unfold nums at h
    by_cases hd : isDig c = true
    · cases hh : hs a (c - 48)
      · simp only [hd, hh, if_true] at h
        have g := nums_rest l _ x r (by simpa using h)
        refine ⟨by simp only [List.length_cons]; omega, ?_⟩
        rw [List.length_cons, show l.length + 1 - r.length = (l.length - r.length) + 1 by omega, List.drop_succ_cons]
        exact g.2
      · simp [hd, hh] at h
    · simp [hd] at h
      obtain ⟨_, rfl⟩ := h
      exact ⟨Nat.le_refl _, by simp⟩
/-- what is left behind numbers, by its place -/
theorem nums_at (s : ByteArray) (m x : Nat) (r : List Nat) (hm : m ≤ s.size) (h : nums ((lb s).drop m) 0 = some (x, r)) : ∃ k, m ≤ k ∧ k ≤ s.size ∧ s.size - r.length = k ∧ r = (lb s).drop k ∧ r.length = s.size - k := by
  have g := nums_rest _ _ _ _ h
  have hl : ((lb s).drop m).length = s.size - m := by rw [List.length_drop, lb_len]
  rw [hl, List.drop_drop] at g
  refine ⟨s.size - r.length, by omega, by omega, rfl, ?_, by omega⟩
  have e : m + (s.size - m - r.length) = s.size - r.length := by omega
  rw [e] at g
  exact g.2
theorem num_none {n : Nat} {o : Option (Nat × List Nat)} {e : Ending} (h : o = none) (k : NumOut n o e) : ∃ y : Int, e = .returned (.tuple #[.int .u16 0, .int .i64 y, .bool false]) := by subst h; exact k
theorem num_some {n : Nat} {o : Option (Nat × List Nat)} {x : Nat} {r : List Nat} {e : Ending} (h : o = some (x, r)) (k : NumOut n o e) (q : Nat) (hq : n - r.length = q) : e = .returned (.tuple #[.int .u16 (x : Int), .int .i64 (q : Int), .bool true]) := by subst h hq; exact k
theorem isE (s : ByteArray) (h : 0 < s.size) : s.toList.isEmpty = false ∧ (s.toList == []) = false ∧ s.toList ≠ [] := by
  have e : s.toList ≠ [] := fun q => by
    have := congrArg List.length q
    rw [ByteArray.toList_eq, Array.length_toList] at this
    have h2 : s.data.size = s.size := rfl
    rw [h2, List.length_nil] at this
    omega
  exact ⟨by cases hh : s.toList with | nil => exact absurd hh e | cons _ _ => rfl, by rw [beq_eq_false_iff_ne]; exact e, e⟩
set_option maxRecDepth 100000 in
set_option maxHeartbeats 1000000 in
theorem parse_ref (s : ByteArray) (hs : s.size ≤ 200) (w : World) :
    Calls Tryd.prog 9 #[.string s] w fun e w' => e = .returned (.tuple #[Rv (prs (P (lb s))).1 (prs (P (lb s))).2.1, .int .i64 (prs (P (lb s))).2.2]) ∧ Below w.heap.size w w' := by
  have HSZ := Lib.hid hs
  have s0 : (0 : Int) ≤ (s.size : Int) := by omega
  have s1 : (s.size : Int) ≤ 200 := by omega
  by_cases h0 : s.size = 0
  · have hE : s.toList = [] := by
      rw [ByteArray.toList_eq]
      exact List.length_eq_zero_iff.1 (by rw [Array.length_toList]; exact h0)
    have hE2 : s.toList.isEmpty = true := by rw [hE]; rfl
    have HP := Lib.hid (show prs (P (lb s)) = (0, 0, 3) by
      have : lb s = [] := List.length_eq_zero_iff.1 (by rw [lb_len]; exact h0)
      rw [this]; rfl)
    clear hs h0
    rw [HP.out]
    go_enter Tryd.func9, Tryd.ntmps9
    go_wp2
    refine bodyPost_ret (v := .tuple #[Rv 0 0, .int .i64 3]) (by simp [results, Tryd.results9, go_sem, Rv]) rfl ⟨rfl, alX _ _⟩
  · obtain ⟨hE, hE2, hE3⟩ := isE s (by omega)
    have hpos : 0 < s.size := by omega
    have HD0 := Lib.hid (show lb s = s[0].toNat :: (lb s).drop 1 by have := lb_drop s 0 hpos; simpa using this)
    have i0 : (0 : Int) < (s.size : Int) := by omega
    by_cases hc : s[0].toNat = 66 ∨ s[0].toNat = 98
    · have HC0 := Lib.hid hc
      have HN1 := Lib.hid (fun w => numbers_int s 1 1 rfl (by omega) (by omega) w)
      have HPP := Lib.hid (show P (lb s) = P1 (nums ((lb s).drop 1) 0) by
        rw [HD0.out]
        show (if s[0].toNat = 66 ∨ s[0].toNat = 98 then _ else none) = _
        rw [if_pos hc]; rfl)
      have HX : Hid (((s[0].toNat : Int) != 66) = false ∨ (((s[0].toNat : Int) != 66) = true ∧ ((s[0].toNat : Int) != 98) = false)) := by
        rcases hc with h | h
        · left; rw [bne_eq_false_iff_eq]; omega
        · right; exact ⟨by rw [bne_iff_ne]; omega, by rw [bne_eq_false_iff_eq]; omega⟩
      clear hc
      cases hE1 : nums ((lb s).drop 1) 0 with
      | none =>
        have HE1 := Lib.hid hE1
        have HP := Lib.hid (show prs (P (lb s)) = (0, 0, 3) by rw [HPP.out, hE1]; rfl)
        clear hE1 hs h0
        rw [HP.out]
        rcases HX.out with e1 | ⟨e1, e2⟩
        all_goals
          go_enter Tryd.func9, Tryd.ntmps9
          go_wp2_with ((go_at_call 18; with_reducible refine (HN1.out _).mono ?_; rintro e w' ⟨hn, rfl⟩; obtain ⟨y, rfl⟩ := num_none HE1.out hn; clear hn))
          refine bodyPost_ret (v := .tuple #[Rv 0 0, .int .i64 3]) (by simp [results, Tryd.results9, go_sem, Rv]) rfl ⟨rfl, alX _ _⟩
      | some o =>
        obtain ⟨x, r⟩ := o
        have HE1 := Lib.hid hE1
        obtain ⟨k, hk1, hk2, hk3, hk4, hk5⟩ := nums_at s 1 x r (by omega) hE1
        have HK := Lib.hid (show 1 ≤ k ∧ k ≤ s.size ∧ s.size - r.length = k ∧ r = (lb s).drop k from ⟨hk1, hk2, hk3, hk4⟩)
        have HPP1 := Lib.hid (show P (lb s) = P1 (some (x, (lb s).drop k)) by rw [HPP.out, hE1, ← hk4])
        have k0 : (0 : Int) ≤ (k : Int) := by omega
        have k2 : (k : Int) ≤ 200 := by omega
        have HXL := Lib.hid (show x < 512 from (nums_len _ 0 x r (by decide) hE1).1)
        clear hE1 hk1 hk3 hk4 hk5
        by_cases hend : s.size ≤ k + 1
        · have HP := Lib.hid (show prs (P (lb s)) = (0, 0, 3) by
            rw [HPP1.out]
            by_cases q : k = s.size
            · rw [q, lb_end]; rfl
            · have hk : k < s.size := by omega
              rw [lb_drop s k hk, show k + 1 = s.size by omega, lb_end]
              show prs (if _ = 47 then P2 x [] else none) = _
              split <;> rfl)
          have i3 : (s.size : Int) ≤ (k : Int) + 1 := by omega
          clear hs h0 hk2 hend
          rw [HP.out]
          rcases HX.out with e1 | ⟨e1, e2⟩
          all_goals
            go_enter Tryd.func9, Tryd.ntmps9
            go_wp2_with ((go_at_call 18; with_reducible refine (HN1.out _).mono ?_; rintro e w' ⟨hn, rfl⟩; obtain rfl := num_some HE1.out hn k HK.out.2.2.1; clear hn))
            refine bodyPost_ret (v := .tuple #[Rv 0 0, .int .i64 3]) (by simp [results, Tryd.results9, go_sem, Rv]) rfl ⟨rfl, alX _ _⟩
        · have hka : k < s.size := by omega
          have hkb : k + 1 < s.size := by omega
          have HPP2 := Lib.hid (show P (lb s) = if (s[k]'hka).toNat = 47 then P2 x ((s[k + 1]'hkb).toNat :: (lb s).drop (k + 1 + 1)) else none by
            rw [HPP1.out, lb_drop s k hka, lb_drop s (k + 1) hkb]; rfl)
          have i1 : (k : Int) < (s.size : Int) := by omega
          have i2 : (k : Int) + 1 < (s.size : Int) := by omega
          have i3 : ¬ (s.size : Int) ≤ (k : Int) + 1 := by omega
          have i4 : decide ((s.size : Int) ≤ (k : Int) + 1) = false := by simpa using i3
          by_cases h47 : (s[k]'hka).toNat = 47
          · have f1 : (((s[k]'hka).toNat : Int) != 47) = false := by rw [bne_eq_false_iff_eq]; omega
            have HPP3 := Lib.hid (show P (lb s) = if (s[k + 1]'hkb).toNat = 83 ∨ (s[k + 1]'hkb).toNat = 115 then P3 x (nums ((lb s).drop (k + 1 + 1)) 0) else none by
              rw [HPP2.out, if_pos h47]; rfl)
            by_cases h83 : (s[k + 1]'hkb).toNat = 83 ∨ (s[k + 1]'hkb).toNat = 115
            · have HN2 := Lib.hid (fun w => numbers_int s ((k : Int) + 2) (k + 2) (by omega) (by omega) (by omega) w)
              have HPP4 := Lib.hid (show P (lb s) = P3 x (nums ((lb s).drop (k + 2)) 0) by rw [HPP3.out, if_pos h83])
              have HY : Hid ((((s[k + 1]'hkb).toNat : Int) != 83) = false ∨ ((((s[k + 1]'hkb).toNat : Int) != 83) = true ∧ (((s[k + 1]'hkb).toNat : Int) != 115) = false)) := by
                rcases h83 with h | h
                · left; rw [bne_eq_false_iff_eq]; omega
                · right; exact ⟨by rw [bne_iff_ne]; omega, by rw [bne_eq_false_iff_eq]; omega⟩
              clear h83
              cases hE2 : nums ((lb s).drop (k + 2)) 0 with
              | none =>
                have HE2 := Lib.hid hE2
                have HP := Lib.hid (show prs (P (lb s)) = (0, 0, 3) by rw [HPP4.out, hE2]; rfl)
                clear hE2 hs h0 hk2 hend h47
                rw [HP.out]
                rcases HX.out with e1 | ⟨e1, e2⟩ <;> rcases HY.out with e3 | ⟨e3, e4⟩
                all_goals
                  go_enter Tryd.func9, Tryd.ntmps9
                  go_wp2_with (first | (go_at_call 18; with_reducible refine (HN1.out _).mono ?_; rintro e w' ⟨hn, rfl⟩; obtain rfl := num_some HE1.out hn k HK.out.2.2.1; clear hn) | (go_at_call 18; with_reducible refine (HN2.out _).mono ?_; rintro e w' ⟨hn, rfl⟩; obtain ⟨y, rfl⟩ := num_none HE2.out hn; clear hn))
                  refine bodyPost_ret (v := .tuple #[Rv 0 0, .int .i64 3]) (by simp [results, Tryd.results9, go_sem, Rv]) rfl ⟨rfl, alX _ _⟩
              | some o2 =>
                obtain ⟨y, r2⟩ := o2
                have HE2 := Lib.hid hE2
                obtain ⟨q, hq1, hq2, hq3, hq4, hq5⟩ := nums_at s (k + 2) y r2 (by omega) hE2
                have HQ := Lib.hid (show k + 2 ≤ q ∧ q ≤ s.size ∧ s.size - r2.length = q ∧ r2 = (lb s).drop q from ⟨hq1, hq2, hq3, hq4⟩)
                have q0 : (0 : Int) ≤ (q : Int) := by omega
                have q2 : (q : Int) ≤ 200 := by omega
                have HYL := Lib.hid (show y < 512 from (nums_len _ 0 y r2 (by decide) hE2).1)
                by_cases hqe : q = s.size
                · have g1 : ((q : Int) != (s.size : Int)) = false := by rw [bne_eq_false_iff_eq]; omega
                  have HPV := Lib.hid (show P (lb s) = some (x, y) by
                    have : r2 = [] := List.length_eq_zero_iff.1 (by omega)
                    rw [HPP4.out, hE2, this]; rfl)
                  have HM := Lib.hid (fun w => may_ref x y w)
                  clear hE2 hs h0 hk2 hend h47 hq1 hq2 hq3 hq4 hq5 hqe
                  cases hm : mayR x y
                  · have HP := Lib.hid (show prs (P (lb s)) = (0, 0, 11) by
                      rw [HPV.out]
                      show (if mayR x y then _ else _) = _
                      rw [hm]; rfl)
                    rw [hm] at HM
                    unfold Rv at HM
                    clear hm
                    rw [HP.out]
                    rcases HX.out with e1 | ⟨e1, e2⟩ <;> rcases HY.out with e3 | ⟨e3, e4⟩
                    all_goals
                      go_enter Tryd.func9, Tryd.ntmps9
                      go_wp2_with (first | (go_at_call 18; with_reducible refine (HN1.out _).mono ?_; rintro e w' ⟨hn, rfl⟩; obtain rfl := num_some HE1.out hn k HK.out.2.2.1; clear hn) | (go_at_call 18; with_reducible refine (HN2.out _).mono ?_; rintro e w' ⟨hn, rfl⟩; obtain rfl := num_some HE2.out hn q HQ.out.2.2.1; clear hn) | (go_at_call 11; refine (HM.out _).mono ?_; rintro e w2 ⟨rfl, hb⟩; have HV := Lib.hid (((resQ_of (Below.refl _ _)).below (alX _ _)).below hb); have hn := (hb.block _ (by simp)).trans (heap_alloc_new _ _); rw [World.size_alloc] at hn; have c0 := cell_of_row _ _ 0 _ _ _ hn; have c1 := cell_of_row _ _ 1 _ _ _ hn; obtain ⟨z0, z1, g0, g1, hz⟩ := HV.out.res; clear hb hn))
                      have hx := HV.out.outs (.int .u16 0) (.int .u16 0)
                      refine bodyPost_ret (v := .tuple #[Rv 0 0, .int .i64 11]) (by simp [results, Tryd.results9, go_sem, Rv, hx.2.1, hx.2.2.1]) rfl ⟨rfl, hx.2.2.2⟩
                  · have HP := Lib.hid (show prs (P (lb s)) = (x, y, 0) by
                      rw [HPV.out]
                      show (if mayR x y then _ else _) = _
                      rw [hm]; rfl)
                    rw [hm] at HM
                    unfold Rv at HM
                    clear hm
                    rw [HP.out]
                    rcases HX.out with e1 | ⟨e1, e2⟩ <;> rcases HY.out with e3 | ⟨e3, e4⟩
                    all_goals
                      go_enter Tryd.func9, Tryd.ntmps9
                      go_wp2_with (first | (go_at_call 18; with_reducible refine (HN1.out _).mono ?_; rintro e w' ⟨hn, rfl⟩; obtain rfl := num_some HE1.out hn k HK.out.2.2.1; clear hn) | (go_at_call 18; with_reducible refine (HN2.out _).mono ?_; rintro e w' ⟨hn, rfl⟩; obtain rfl := num_some HE2.out hn q HQ.out.2.2.1; clear hn) | (go_at_call 11; refine (HM.out _).mono ?_; rintro e w2 ⟨rfl, hb⟩; have HV := Lib.hid (((resQ_of (Below.refl _ _)).below (alX _ _)).below hb); have hn := (hb.block _ (by simp)).trans (heap_alloc_new _ _); rw [World.size_alloc] at hn; have c0 := cell_of_row _ _ 0 _ _ _ hn; have c1 := cell_of_row _ _ 1 _ _ _ hn; obtain ⟨z0, z1, g0, g1, hz⟩ := HV.out.res; clear hb hn))
                      have hx := HV.out.outs (.int .u16 (x : Int)) (.int .u16 (y : Int))
                      refine bodyPost_ret (v := .tuple #[Rv x y, .int .i64 0]) (by simp [results, Tryd.results9, go_sem, Rv, hx.2.1, hx.2.2.1]) rfl ⟨rfl, hx.2.2.2⟩
                · have g1 : ((q : Int) != (s.size : Int)) = true := by rw [bne_iff_ne]; omega
                  have HP := Lib.hid (show prs (P (lb s)) = (0, 0, 3) by
                    rw [HPP4.out, hE2]
                    cases r2 with
                    | nil => simp at hq5; omega
                    | cons _ _ => rfl)
                  clear hE2 hs h0 hk2 hend h47 hq1 hq2 hq3 hq4 hq5 hqe
                  rw [HP.out]
                  rcases HX.out with e1 | ⟨e1, e2⟩ <;> rcases HY.out with e3 | ⟨e3, e4⟩
                  all_goals
                    go_enter Tryd.func9, Tryd.ntmps9
                    go_wp2_with (first | (go_at_call 18; with_reducible refine (HN1.out _).mono ?_; rintro e w' ⟨hn, rfl⟩; obtain rfl := num_some HE1.out hn k HK.out.2.2.1; clear hn) | (go_at_call 18; with_reducible refine (HN2.out _).mono ?_; rintro e w' ⟨hn, rfl⟩; obtain rfl := num_some HE2.out hn q HQ.out.2.2.1; clear hn))
                    refine bodyPost_ret (v := .tuple #[Rv 0 0, .int .i64 3]) (by simp [results, Tryd.results9, go_sem, Rv]) rfl ⟨rfl, alX _ _⟩
            · have HP := Lib.hid (show prs (P (lb s)) = (0, 0, 3) by rw [HPP3.out, if_neg h83]; rfl)
              have e3 : (((s[k + 1]'hkb).toNat : Int) != 83) = true := by rw [bne_iff_ne]; omega
              have e4 : (((s[k + 1]'hkb).toNat : Int) != 115) = true := by rw [bne_iff_ne]; omega
              clear hs h0 hk2 hend h47 h83
              rw [HP.out]
              rcases HX.out with e1 | ⟨e1, e2⟩
              all_goals
                go_enter Tryd.func9, Tryd.ntmps9
                go_wp2_with ((go_at_call 18; with_reducible refine (HN1.out _).mono ?_; rintro e w' ⟨hn, rfl⟩; obtain rfl := num_some HE1.out hn k HK.out.2.2.1; clear hn))
                refine bodyPost_ret (v := .tuple #[Rv 0 0, .int .i64 3]) (by simp [results, Tryd.results9, go_sem, Rv]) rfl ⟨rfl, alX _ _⟩
          · have HP := Lib.hid (show prs (P (lb s)) = (0, 0, 3) by rw [HPP2.out, if_neg h47]; rfl)
            have f1 : (((s[k]'hka).toNat : Int) != 47) = true := by rw [bne_iff_ne]; omega
            clear hs h0 hk2 hend h47
            rw [HP.out]
            rcases HX.out with e1 | ⟨e1, e2⟩
            all_goals
              go_enter Tryd.func9, Tryd.ntmps9
              go_wp2_with ((go_at_call 18; with_reducible refine (HN1.out _).mono ?_; rintro e w' ⟨hn, rfl⟩; obtain rfl := num_some HE1.out hn k HK.out.2.2.1; clear hn))
              refine bodyPost_ret (v := .tuple #[Rv 0 0, .int .i64 3]) (by simp [results, Tryd.results9, go_sem, Rv]) rfl ⟨rfl, alX _ _⟩
    · have e1 : ((s[0].toNat : Int) != 66) = true := by rw [bne_iff_ne]; omega
      have e2 : ((s[0].toNat : Int) != 98) = true := by rw [bne_iff_ne]; omega
      have HP := Lib.hid (show prs (P (lb s)) = (0, 0, 3) by
        rw [HD0.out]
        show prs (if s[0].toNat = 66 ∨ s[0].toNat = 98 then _ else none) = _
        rw [if_neg hc]; rfl)
      clear hs h0 hc
      rw [HP.out]
      go_enter Tryd.func9, Tryd.ntmps9
      go_wp2
      refine bodyPost_ret (v := .tuple #[Rv 0 0, .int .i64 3]) (by simp [results, Tryd.results9, go_sem, Rv]) rfl ⟨rfl, alX _ _⟩
end Go.Proofs.YtcgpjfcfokiagaaDoor

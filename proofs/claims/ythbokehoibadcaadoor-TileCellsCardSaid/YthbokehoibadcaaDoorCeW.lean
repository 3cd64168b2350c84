/-
  TileCells, the walk. No condition but that the input could be read, and the package-level variable.
-/
import Derived.Test.YthbokehoibadcaaDoorGk
namespace Go.Proofs.YthbokehoibadcaaDoor
open Go.RowKit Ti Ru

theorem ins_no {x y : Int} (h : ins x y = false) : x < 0 ∨ (¬ x < 0 ∧ 7 < x) ∨ (¬ x < 0 ∧ ¬ 7 < x ∧ y < 0) ∨ (¬ x < 0 ∧ ¬ 7 < x ∧ ¬ y < 0 ∧ 7 < y) := by
  unfold ins at h
  simp at h
  omega
theorem ins_yes {x y : Int} (h : ins x y = true) : ∃ X Y : Nat, x = (X : Int) ∧ y = (Y : Int) ∧ X < 8 ∧ Y < 8 := by
  unfold ins at h
  simp at h
  exact ⟨x.toNat, y.toNat, by omega, by omega, by omega, by omega⟩
set_option maxRecDepth 100000 in
set_option maxHeartbeats 2000000 in
theorem cells_walk (a0 x y : Int) (W : World) (w0 : (Lit.int .u64 a0).wf = true) (w1 : (Lit.int .i64 x).wf = true) (w2 : (Lit.int .i64 y).wf = true) (hl : Laid W) :
    Calls Tryd.prog 3 #[.int .u64 a0, .int .i64 x, .int .i64 y] W fun x w' => x = .returned (.bool true) ∧ Below W.heap.size W w' := by
  obtain ⟨t, rfl⟩ := one_open w0
  have HL := Lib.hid hl
  have HS := Lib.hid sure_any
  have HGet := Lib.hid (fun h w => get_no (rg t) x y h w)
  have HSt := Lib.hid (fun h w => set_no (rg t) x y true h w)
  have HSf := Lib.hid (fun h w => set_no (rg t) x y false h w)
  have HC : Hid (∀ w, Calls Tryd.prog 9 #[.int .u64 (rg t)] w fun e w' => e = .returned (.int .i64 ((pcN t.toNat 64 : Nat) : Int)) ∧ w = w') := Lib.hid (fun w => count_any t w)
  have HT := Lib.hid (fun w => turn_any t w)
  have HF := Lib.hid (fun w => flip_any t w)
  obtain ⟨TP, hTP⟩ : ∃ f, f = fun i => t.getLsbD (turnI i) := ⟨_, rfl⟩
  obtain ⟨FP, hFP⟩ : ∃ f, f = fun i => t.getLsbD (flipI i) := ⟨_, rfl⟩
  have HTP := Lib.hid (fun m => (congrFun hTP m).symm)
  have HFP := Lib.hid (fun m => (congrFun hFP m).symm)
  rw [show turnB t = mkT TP by rw [hTP]; rfl] at HT
  rw [show flipB t = mkT FP by rw [hFP]; rfl] at HF
  obtain ⟨i0, hi, hz0, hz1, hz2⟩ := info_parts info_bl
  have HI := Lib.hid hi
  have HI0 := Lib.hid hz0
  have HI1 := Lib.hid hz1
  have HI2 := Lib.hid hz2
  clear hi hz0 hz1 hz2 hl w0 hTP hFP
  cases hin : ins x y
  · have HGet := Lib.hid (HGet.out hin)
    have HSt := Lib.hid (HSt.out hin)
    have HSf := Lib.hid (HSf.out hin)
    go_enter Tryd.func3, Tryd.ntmps3
    go_wp2_with (first
      | (go_at_call 6; with_reducible refine (HGet.out _).mono ?_; rintro e w' ⟨rfl, rfl⟩)
      | (go_at_call 7; with_reducible refine (HSt.out _).mono ?_; rintro e w' ⟨rfl, rfl⟩)
      | (go_at_call 7; with_reducible refine (HSf.out _).mono ?_; rintro e w' ⟨rfl, rfl⟩))
    go_loopw [13, 14, 15, 16] (fun n v u i ws => ∃ m : Nat, m ≤ 64 ∧ i = .int .i64 (m : Int) ∧ n = .int .i64 ((pcN t.toNat m : Nat) : Int) ∧ Hid (Tw W ws TP FP m m v u)) (fun _ _ _ i _ => 64 - (intOf i).toNat)
    case atStart => exact ⟨0, by omega, rfl, rfl, Lib.hid (Tw.nil (Below.refl _ W))⟩
    case round =>
      obtain ⟨m, hm, rfl, rfl, HTw⟩ := hrel
      have m0 : (0 : Int) ≤ (m : Int) := by omega
      by_cases hlt : m < 64
      · have m1 : (m : Int) < 64 := by omega
        have HC1 := Lib.hid (fun w => cell_k t m hlt w)
        have HC2 := Lib.hid (fun w => cell_turn t m hlt w)
        have HC3 := Lib.hid (fun w => cell_flip t m hlt w)
        rw [HTP.out m] at HC2
        rw [HFP.out m] at HC3
        have HRB := Lib.hid (row_bytes m (by omega))
        have HP := Lib.hid (pcN_succ t m)
        have HPL := Lib.hid (pcN_le t.toNat m)
        have p0 : (0 : Int) ≤ ((pcN t.toNat m : Nat) : Int) := by omega
        have p1 : ((pcN t.toNat m : Nat) : Int) ≤ 64 := by have := HPL.out; omega
        generalize pcN t.toNat m = p at p0 p1 HP ⊢
        generalize t.getLsbD m = c at HC1 HP
        obtain ⟨q1, hq1⟩ : ∃ q, Hid (q = TP m) := ⟨_, Lib.hid rfl⟩
        obtain ⟨q2, hq2⟩ : ∃ q, Hid (q = FP m) := ⟨_, Lib.hid rfl⟩
        rw [← hq1.out] at HC2
        rw [← hq2.out] at HC3
        cases c
        all_goals
          go_wp2_with (first
            | (go_at_call 8; with_reducible refine (HC1.out _).mono ?_; rintro e w' ⟨rfl, rfl⟩)
            | (go_at_call 8; with_reducible refine (HC2.out _).mono ?_; rintro e w' ⟨rfl, rfl⟩)
            | (go_at_call 8; with_reducible refine (HC3.out _).mono ?_; rintro e w' ⟨rfl, rfl⟩)
            | (at_builtin; refine wpList_append_own_at _ rfl (.tmp 54) (.tmp 62) 30 rfl W.heap.size 4 i0 (.bool false) 1 1 Tryd.underlying30 HI.out HI0.out HI1.out HI2.out rfl (by decide) u14 m (bls TP m) rfl (HTw.out.a.alloc _) ⟨wr.heap.size, 0, none⟩ 1 1 [.bool q1] rfl rfl (cell_one_new _ _ _) (by simp [Value.oneCell']) HRB.out.1 HRB.out.2 (by have := HTw.out.below.size; simp; omega) ?_; intro v2 wa hown hgrow _ hat; have HT2 := Lib.hid (HTw.out.growA hq1.out hown hgrow hat); clear hown hgrow hat)
            | (at_builtin; refine wpList_append_own_at _ rfl (.tmp 64) (.tmp 72) 30 rfl W.heap.size 4 i0 (.bool false) 1 1 Tryd.underlying30 HI.out HI0.out HI1.out HI2.out rfl (by decide) u15 m (bls FP m) rfl (HT2.out.b.alloc _) ⟨wa.heap.size, 0, none⟩ 1 1 [.bool q2] rfl rfl (cell_one_new _ _ _) (by simp [Value.oneCell']) HRB.out.1 HRB.out.2 (by have := HT2.out.below.size; simp; omega) ?_; intro v2 wb hown hgrow _ hat; have HT3 := Lib.hid (HT2.out.growB hq2.out hown hgrow hat); clear hown hgrow hat))
          go_roundw
          case rel => exact ⟨m + 1, by omega, by go_num, by rw [HP.out]; go_num, HT3⟩
          case measure => simp [intOf]; omega
      · obtain rfl : m = 64 := by omega
        obtain ⟨g, cap, g2, cap2, rfl, rfl, hg1, hg2⟩ := HTw.out.whole
        have HM1 := Lib.hid (made_ref g cap TP wr hg1.at_)
        have HM2 := Lib.hid (made_ref g2 cap2 FP wr hg2.at_)
        clear hg1 hg2
        generalize pcN t.toNat 64 = p at HC ⊢
        have HB0 := Lib.hid HTw.out.below
        rcases ins_no hin with h1 | ⟨h1, h2⟩ | ⟨h1, h2, h3⟩ | ⟨h1, h2, h3, h4⟩
        all_goals
          go_wp2_with (first
            | (go_at_call 9; with_reducible refine (HC.out _).mono ?_; rintro e w' ⟨rfl, rfl⟩)
            | (go_at_call 10; with_reducible refine (HT.out _).mono ?_; rintro e w' ⟨rfl, rfl⟩)
            | (go_at_call 12; with_reducible refine (HF.out _).mono ?_; rintro e w' ⟨rfl, rfl⟩)
            | (go_at_call 11; with_reducible refine HM1.out.mono ?_; rintro e w' ⟨rfl, rfl⟩)
            | (go_at_call 11; with_reducible refine HM2.out.mono ?_; rintro e w' ⟨rfl, rfl⟩)
            | (go_at_call 13; refine (num_err 4 _ (HL.out.below HB0.out)).mono ?_; rintro e w3 ⟨rfl, hb⟩; have HB1 := Lib.hid (HB0.out.trans (hb.mono HB0.out.size)); clear hb)
            | (go_at_call 13; refine (num_err 4 _ (HL.out.below HB1.out)).mono ?_; rintro e w4 ⟨rfl, hb⟩; have HB2 := Lib.hid (HB1.out.trans (hb.mono HB1.out.size)); clear hb)
            | (go_at_call 13; refine (num_err 4 _ (HL.out.below HB2.out)).mono ?_; rintro e w5 ⟨rfl, hb⟩; have HB3 := Lib.hid (HB2.out.trans (hb.mono HB2.out.size)); clear hb)
            | (go_at_call 14; refine (HS.out _).mono ?_; rintro e w6 ⟨rfl, hb⟩; have HB4 := Lib.hid (HB3.out.trans (hb.mono HB3.out.size)); clear hb))
          go_ret
          exact ⟨rfl, HB4.out⟩
  · obtain ⟨X, Y, rfl, rfl, hX, hY⟩ := ins_yes hin
    clear hin HGet HSt HSf
    obtain ⟨ON, hON⟩ : ∃ f, f = fun i => t.getLsbD i || decide (i = 8 * Y + X) := ⟨_, rfl⟩
    obtain ⟨OF, hOF⟩ : ∃ f, f = fun i => t.getLsbD i && !decide (i = 8 * Y + X) := ⟨_, rfl⟩
    have HON := Lib.hid (fun m => (congrFun hON m).symm)
    have HOF := Lib.hid (fun m => (congrFun hOF m).symm)
    have HGet := Lib.hid (fun w => get_ok t X Y hX hY w)
    have HSt := Lib.hid (fun w => set_ok t X Y true hX hY w)
    have HSf := Lib.hid (fun w => set_ok t X Y false hX hY w)
    have HCl := Lib.hid (fun w => cell_ref t X Y hX hY w)
    rw [on_is t X Y (by omega), ← hON] at HSt
    rw [off_is t X Y (by omega), ← hOF] at HSf
    have x0 : ¬ (X : Int) < 0 := by omega
    have x1 : ¬ 7 < (X : Int) := by omega
    have y0 : ¬ (Y : Int) < 0 := by omega
    have y1 : ¬ 7 < (Y : Int) := by omega
    have HXY := Lib.hid (⟨hX, hY⟩ : X < 8 ∧ Y < 8)
    clear hON hOF hX hY
    obtain ⟨c0, hc0⟩ : ∃ c, c = t.getLsbD (8 * Y + X) := ⟨_, rfl⟩
    rw [← hc0] at HGet HCl
    clear hc0
    go_enter Tryd.func3, Tryd.ntmps3
    go_wp2_with (first
      | (go_at_call 6; with_reducible refine (HGet.out _).mono ?_; rintro e w' ⟨rfl, rfl⟩)
      | (go_at_call 7; with_reducible refine (HSt.out _).mono ?_; rintro e w' ⟨rfl, rfl⟩)
      | (go_at_call 7; with_reducible refine (HSf.out _).mono ?_; rintro e w' ⟨rfl, rfl⟩))
    go_loopw [13, 14, 15, 16] (fun n v u i ws => ∃ m : Nat, m ≤ 64 ∧ i = .int .i64 (m : Int) ∧ n = .int .i64 ((pcN t.toNat m : Nat) : Int) ∧ Hid (Tw W ws TP FP m m v u)) (fun _ _ _ i _ => 64 - (intOf i).toNat)
    case atStart => exact ⟨0, by omega, rfl, rfl, Lib.hid (Tw.nil (Below.refl _ W))⟩
    case round =>
      obtain ⟨m, hm, rfl, rfl, HTw⟩ := hrel
      have m0 : (0 : Int) ≤ (m : Int) := by omega
      by_cases hlt : m < 64
      · have m1 : (m : Int) < 64 := by omega
        have HC1 := Lib.hid (fun w => cell_k t m hlt w)
        have HC2 := Lib.hid (fun w => cell_turn t m hlt w)
        have HC3 := Lib.hid (fun w => cell_flip t m hlt w)
        rw [HTP.out m] at HC2
        rw [HFP.out m] at HC3
        have HRB := Lib.hid (row_bytes m (by omega))
        have HP := Lib.hid (pcN_succ t m)
        have HPL := Lib.hid (pcN_le t.toNat m)
        have p0 : (0 : Int) ≤ ((pcN t.toNat m : Nat) : Int) := by omega
        have p1 : ((pcN t.toNat m : Nat) : Int) ≤ 64 := by have := HPL.out; omega
        generalize pcN t.toNat m = p at p0 p1 HP ⊢
        generalize t.getLsbD m = c at HC1 HP
        obtain ⟨q1, hq1⟩ : ∃ q, Hid (q = TP m) := ⟨_, Lib.hid rfl⟩
        obtain ⟨q2, hq2⟩ : ∃ q, Hid (q = FP m) := ⟨_, Lib.hid rfl⟩
        rw [← hq1.out] at HC2
        rw [← hq2.out] at HC3
        cases c
        all_goals
          go_wp2_with (first
            | (go_at_call 8; with_reducible refine (HC1.out _).mono ?_; rintro e w' ⟨rfl, rfl⟩)
            | (go_at_call 8; with_reducible refine (HC2.out _).mono ?_; rintro e w' ⟨rfl, rfl⟩)
            | (go_at_call 8; with_reducible refine (HC3.out _).mono ?_; rintro e w' ⟨rfl, rfl⟩)
            | (at_builtin; refine wpList_append_own_at _ rfl (.tmp 54) (.tmp 62) 30 rfl W.heap.size 4 i0 (.bool false) 1 1 Tryd.underlying30 HI.out HI0.out HI1.out HI2.out rfl (by decide) u14 m (bls TP m) rfl (HTw.out.a.alloc _) ⟨wr.heap.size, 0, none⟩ 1 1 [.bool q1] rfl rfl (cell_one_new _ _ _) (by simp [Value.oneCell']) HRB.out.1 HRB.out.2 (by have := HTw.out.below.size; simp; omega) ?_; intro v2 wa hown hgrow _ hat; have HT2 := Lib.hid (HTw.out.growA hq1.out hown hgrow hat); clear hown hgrow hat)
            | (at_builtin; refine wpList_append_own_at _ rfl (.tmp 64) (.tmp 72) 30 rfl W.heap.size 4 i0 (.bool false) 1 1 Tryd.underlying30 HI.out HI0.out HI1.out HI2.out rfl (by decide) u15 m (bls FP m) rfl (HT2.out.b.alloc _) ⟨wa.heap.size, 0, none⟩ 1 1 [.bool q2] rfl rfl (cell_one_new _ _ _) (by simp [Value.oneCell']) HRB.out.1 HRB.out.2 (by have := HT2.out.below.size; simp; omega) ?_; intro v2 wb hown hgrow _ hat; have HT3 := Lib.hid (HT2.out.growB hq2.out hown hgrow hat); clear hown hgrow hat))
          go_roundw
          case rel => exact ⟨m + 1, by omega, by go_num, by rw [HP.out]; go_num, HT3⟩
          case measure => simp [intOf]; omega
      · obtain rfl : m = 64 := by omega
        obtain ⟨g, cap, g2, cap2, rfl, rfl, hg1, hg2⟩ := HTw.out.whole
        have HM1 := Lib.hid (made_ref g cap TP wr hg1.at_)
        have HM2 := Lib.hid (made_ref g2 cap2 FP wr hg2.at_)
        clear hg1 hg2
        generalize pcN t.toNat 64 = p at HC ⊢
        go_wp2_with (first
          | (go_at_call 9; with_reducible refine (HC.out _).mono ?_; rintro e w' ⟨rfl, rfl⟩)
          | (go_at_call 10; with_reducible refine (HT.out _).mono ?_; rintro e w' ⟨rfl, rfl⟩)
          | (go_at_call 12; with_reducible refine (HF.out _).mono ?_; rintro e w' ⟨rfl, rfl⟩)
          | (go_at_call 11; with_reducible refine HM1.out.mono ?_; rintro e w' ⟨rfl, rfl⟩)
          | (go_at_call 11; with_reducible refine HM2.out.mono ?_; rintro e w' ⟨rfl, rfl⟩))
        have HB0 := Lib.hid HTw.out.below
        have x2 : (0 : Int) ≤ (X : Int) := by omega
        have x3 : (X : Int) < 8 := by omega
        have y2 : (0 : Int) ≤ (Y : Int) := by omega
        have y3 : (Y : Int) < 8 := by omega
        clear HC HT HF HM1 HM2 HTw HGet HSt HSf m0 hlt hm
        go_loopw [17, 18, 19] (fun v u i ws => ∃ m : Nat, m ≤ 64 ∧ i = .int .i64 (m : Int) ∧ Hid (Tw W ws ON OF m m v u)) (fun _ _ i _ => 64 - (intOf i).toNat)
        case atStart => exact ⟨0, by omega, rfl, Lib.hid (Tw.nil HB0.out)⟩
        case round =>
          obtain ⟨m, hm, rfl, HTv⟩ := hrel
          have m0 : (0 : Int) ≤ (m : Int) := by omega
          by_cases hlt : m < 64
          · have m1 : (m : Int) < 64 := by omega
            have HC1 := Lib.hid (fun w => cell_k t m hlt w)
            have HRB := Lib.hid (row_bytes m (by omega))
            have HN1 := Lib.hid (HON.out m)
            have HN2 := Lib.hid (HOF.out m)
            generalize t.getLsbD m = c at HC1 HN1 HN2
            by_cases hd : m = 8 * Y + X
            · have he : ((m : Int) == 8 * (Y : Int) + (X : Int)) = true := by rw [beq_iff_eq]; omega
              have hn : ((m : Int) != 8 * (Y : Int) + (X : Int)) = false := by rw [bne_eq_false_iff_eq]; omega
              rw [decide_eq_true hd] at HN1 HN2
              clear hd
              cases c
              · go_wp2_with (first
                  | (go_at_call 8; with_reducible refine (HC1.out _).mono ?_; rintro e w' ⟨rfl, rfl⟩)
                  | (at_builtin; refine wpList_append_own_at _ rfl (.tmp 144) (.tmp 154) 30 rfl W.heap.size 4 i0 (.bool false) 1 1 Tryd.underlying30 HI.out HI0.out HI1.out HI2.out rfl (by decide) u17 m (bls ON m) rfl (HTv.out.a.alloc _) ⟨wr.heap.size, 0, none⟩ 1 1 [.bool true] rfl rfl (cell_one_new _ _ _) (by simp [Value.oneCell']) HRB.out.1 HRB.out.2 (by have := HTv.out.below.size; simp; omega) ?_; intro v2 wa hown hgrow _ hat; have HT2 := Lib.hid (HTv.out.growA HN1.out hown hgrow hat); clear hown hgrow hat)
                  | (at_builtin; refine wpList_append_own_at _ rfl (.tmp 156) (.tmp 166) 30 rfl W.heap.size 4 i0 (.bool false) 1 1 Tryd.underlying30 HI.out HI0.out HI1.out HI2.out rfl (by decide) u18 m (bls OF m) rfl (HT2.out.b.alloc _) ⟨wa.heap.size, 0, none⟩ 1 1 [.bool false] rfl rfl (cell_one_new _ _ _) (by simp [Value.oneCell']) HRB.out.1 HRB.out.2 (by have := HT2.out.below.size; simp; omega) ?_; intro v2 wb hown hgrow _ hat; have HT3 := Lib.hid (HT2.out.growB HN2.out hown hgrow hat); clear hown hgrow hat))
                go_roundw
                case rel => exact ⟨m + 1, by omega, by go_num, HT3⟩
                case measure => simp [intOf]; omega
              · go_wp2_with (first
                  | (go_at_call 8; with_reducible refine (HC1.out _).mono ?_; rintro e w' ⟨rfl, rfl⟩)
                  | (at_builtin; refine wpList_append_own_at _ rfl (.tmp 144) (.tmp 154) 30 rfl W.heap.size 4 i0 (.bool false) 1 1 Tryd.underlying30 HI.out HI0.out HI1.out HI2.out rfl (by decide) u17 m (bls ON m) rfl (HTv.out.a.alloc _) ⟨wr.heap.size, 0, none⟩ 1 1 [.bool true] rfl rfl (cell_one_new _ _ _) (by simp [Value.oneCell']) HRB.out.1 HRB.out.2 (by have := HTv.out.below.size; simp; omega) ?_; intro v2 wa hown hgrow _ hat; have HT2 := Lib.hid (HTv.out.growA HN1.out hown hgrow hat); clear hown hgrow hat)
                  | (at_builtin; refine wpList_append_own_at _ rfl (.tmp 156) (.tmp 166) 30 rfl W.heap.size 4 i0 (.bool false) 1 1 Tryd.underlying30 HI.out HI0.out HI1.out HI2.out rfl (by decide) u18 m (bls OF m) rfl (HT2.out.b.alloc _) ⟨wa.heap.size, 0, none⟩ 1 1 [.bool false] rfl rfl (cell_one_new _ _ _) (by simp [Value.oneCell']) HRB.out.1 HRB.out.2 (by have := HT2.out.below.size; simp; omega) ?_; intro v2 wb hown hgrow _ hat; have HT3 := Lib.hid (HT2.out.growB HN2.out hown hgrow hat); clear hown hgrow hat))
                go_roundw
                case rel => exact ⟨m + 1, by omega, by go_num, HT3⟩
                case measure => simp [intOf]; omega
            · have he : ((m : Int) == 8 * (Y : Int) + (X : Int)) = false := by rw [beq_eq_false_iff_ne]; omega
              have hn : ((m : Int) != 8 * (Y : Int) + (X : Int)) = true := by rw [bne_iff_ne]; omega
              rw [decide_eq_false hd] at HN1 HN2
              clear hd
              cases c
              · go_wp2_with (first
                  | (go_at_call 8; with_reducible refine (HC1.out _).mono ?_; rintro e w' ⟨rfl, rfl⟩)
                  | (at_builtin; refine wpList_append_own_at _ rfl (.tmp 144) (.tmp 154) 30 rfl W.heap.size 4 i0 (.bool false) 1 1 Tryd.underlying30 HI.out HI0.out HI1.out HI2.out rfl (by decide) u17 m (bls ON m) rfl (HTv.out.a.alloc _) ⟨wr.heap.size, 0, none⟩ 1 1 [.bool false] rfl rfl (cell_one_new _ _ _) (by simp [Value.oneCell']) HRB.out.1 HRB.out.2 (by have := HTv.out.below.size; simp; omega) ?_; intro v2 wa hown hgrow _ hat; have HT2 := Lib.hid (HTv.out.growA HN1.out hown hgrow hat); clear hown hgrow hat)
                  | (at_builtin; refine wpList_append_own_at _ rfl (.tmp 156) (.tmp 166) 30 rfl W.heap.size 4 i0 (.bool false) 1 1 Tryd.underlying30 HI.out HI0.out HI1.out HI2.out rfl (by decide) u18 m (bls OF m) rfl (HT2.out.b.alloc _) ⟨wa.heap.size, 0, none⟩ 1 1 [.bool false] rfl rfl (cell_one_new _ _ _) (by simp [Value.oneCell']) HRB.out.1 HRB.out.2 (by have := HT2.out.below.size; simp; omega) ?_; intro v2 wb hown hgrow _ hat; have HT3 := Lib.hid (HT2.out.growB HN2.out hown hgrow hat); clear hown hgrow hat))
                go_roundw
                case rel => exact ⟨m + 1, by omega, by go_num, HT3⟩
                case measure => simp [intOf]; omega
              · go_wp2_with (first
                  | (go_at_call 8; with_reducible refine (HC1.out _).mono ?_; rintro e w' ⟨rfl, rfl⟩)
                  | (at_builtin; refine wpList_append_own_at _ rfl (.tmp 144) (.tmp 154) 30 rfl W.heap.size 4 i0 (.bool false) 1 1 Tryd.underlying30 HI.out HI0.out HI1.out HI2.out rfl (by decide) u17 m (bls ON m) rfl (HTv.out.a.alloc _) ⟨wr.heap.size, 0, none⟩ 1 1 [.bool true] rfl rfl (cell_one_new _ _ _) (by simp [Value.oneCell']) HRB.out.1 HRB.out.2 (by have := HTv.out.below.size; simp; omega) ?_; intro v2 wa hown hgrow _ hat; have HT2 := Lib.hid (HTv.out.growA HN1.out hown hgrow hat); clear hown hgrow hat)
                  | (at_builtin; refine wpList_append_own_at _ rfl (.tmp 156) (.tmp 166) 30 rfl W.heap.size 4 i0 (.bool false) 1 1 Tryd.underlying30 HI.out HI0.out HI1.out HI2.out rfl (by decide) u18 m (bls OF m) rfl (HT2.out.b.alloc _) ⟨wa.heap.size, 0, none⟩ 1 1 [.bool true] rfl rfl (cell_one_new _ _ _) (by simp [Value.oneCell']) HRB.out.1 HRB.out.2 (by have := HT2.out.below.size; simp; omega) ?_; intro v2 wb hown hgrow _ hat; have HT3 := Lib.hid (HT2.out.growB HN2.out hown hgrow hat); clear hown hgrow hat))
                go_roundw
                case rel => exact ⟨m + 1, by omega, by go_num, HT3⟩
                case measure => simp [intOf]; omega
          · obtain rfl : m = 64 := by omega
            obtain ⟨g3, cap3, g4, cap4, rfl, rfl, hg1, hg2⟩ := HTv.out.whole
            have HM3 := Lib.hid (made_ref g3 cap3 ON wr hg1.at_)
            have HM4 := Lib.hid (made_ref g4 cap4 OF wr hg2.at_)
            clear hg1 hg2
            have HB1 := Lib.hid HTv.out.below
            go_wp2_with (first
              | (go_at_call 8; with_reducible refine (HCl.out _).mono ?_; rintro e w' ⟨rfl, rfl⟩)
              | (go_at_call 11; with_reducible refine HM3.out.mono ?_; rintro e w' ⟨rfl, rfl⟩)
              | (go_at_call 11; with_reducible refine HM4.out.mono ?_; rintro e w' ⟨rfl, rfl⟩)
              | (go_at_call 14; refine (HS.out _).mono ?_; rintro e w6 ⟨rfl, hb⟩; have HB4 := Lib.hid (HB1.out.trans (hb.mono HB1.out.size)); clear hb))
            go_ret
            exact ⟨rfl, HB4.out⟩

end Go.Proofs.YthbokehoibadcaaDoor

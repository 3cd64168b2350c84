/-
  RuleBack, the walk. No condition but that the input could be read.
-/
import Derived.Test.YtcgpjfcfokiagaaSu
import Derived.Test.YtcgpjfcfokiagaaRd
namespace Go.Proofs.Ytcgpjfcfokiagaa
open Go.RowKit Ru

theorem add_str {P : Program} (a b : List Nat) (h : a.length + b.length ≤ 100000) (w : World) : (Op.stringOp .add (str a) (str b)).run P w = .ok (.string (str (a ++ b))) w := by
  rw [run_string_add_sum w _ _ (by rw [str_size, str_size]; omega), str_app]
theorem txt_lt (b l : Nat) : ∀ c ∈ txt b l, c < 256 := by
  intro c hc
  unfold txt at hc
  simp only [List.mem_cons, List.mem_append] at hc
  rcases hc with rfl | hc | rfl | rfl | hc
  · decide
  · have := dgs_lt b 9 (by decide) c hc; omega
  · decide
  · decide
  · have := dgs_lt l 9 (by decide) c hc; omega
theorem txt_len (b l : Nat) : 3 ≤ (txt b l).length ∧ (txt b l).length ≤ 21 := by
  have h1 := dgs_len b 9
  have h2 := dgs_len l 9
  unfold txt
  simp only [List.length_cons, List.length_append]
  change (dg b).length ≤ 9 at h1
  change (dg l).length ≤ 9 at h2
  omega
theorem cut_str (L : List Nat) (k : Nat) (h : k < L.length) : (str L).extract k (k + 1) = str [L[k]] := by
  unfold str
  apply ByteArray.ext
  rw [ByteArray.data_extract]
  apply Array.ext'
  rw [Array.toList_extract]
  simp only [List.extract, Nat.add_sub_cancel_left]
  rw [List.drop_eq_getElem_cons (by rw [List.length_map]; exact h)]
  simp
theorem at_str (L : List Nat) (k : Nat) (h : k < (str L).size) (hk : k < L.length) (hl : ∀ c ∈ L, c < 256) : ((str L)[k]'h).toNat = L[k] := by
  have e := lb_drop (str L) k h
  rw [lb_str L hl, List.drop_eq_getElem_cons hk] at e
  exact (List.cons.inj e).1.symm
/-- with small letters, so far -/
def sm (b l k : Nat) : List Nat := 98 :: (((txt b l).drop 1).take k).map lowc
theorem sm_succ (b l k : Nat) (h : k + 1 < (txt b l).length) : sm b l (k + 1) = sm b l k ++ [lowc (txt b l)[k + 1]] := by
  unfold sm
  have hk : k < ((txt b l).drop 1).length := by rw [List.length_drop]; omega
  rw [List.take_succ_eq_append_getElem hk, List.map_append, List.getElem_drop]
  simp only [List.map_cons, List.map_nil, List.cons_append]
  congr 3
  simp [Nat.add_comm]
theorem sm_len (b l k : Nat) : (sm b l k).length ≤ k + 1 := by
  unfold sm
  rw [List.length_cons, List.length_map]
  have := List.length_take_le k ((txt b l).drop 1)
  omega
theorem sm_end (b l : Nat) (hm : mayR b l = true) : prs (P (lb (str (sm b l ((txt b l).length - 1))))) = (b, l, 0) := by
  have h := mayR_true hm
  have e : sm b l ((txt b l).length - 1) = 98 :: (dg b ++ 47 :: 83 :: dg l).map lowc := by
    unfold sm
    rw [List.take_of_length_le (by rw [List.length_drop]; omega)]
    rfl
  have e2 : (dg b ++ 47 :: 83 :: dg l).map lowc = dg b ++ 47 :: 115 :: dg l := by
    rw [List.map_append, dg_low, List.map_cons, List.map_cons, dg_low]; rfl
  rw [e, lb_str, P_low b l h.1 h.2.1]
  · show (if mayR b l then _ else _) = _
    rw [if_pos hm]
  · rw [e2]
    intro c hc
    simp only [List.mem_cons, List.mem_append] at hc
    rcases hc with rfl | hc | rfl | rfl | hc
    · decide
    · have := dgs_lt b 9 (by decide) c hc; omega
    · decide
    · decide
    · have := dgs_lt l 9 (by decide) c hc; omega
theorem prs_txt (b l : Nat) (hm : mayR b l = true) : prs (P (lb (str (txt b l)))) = (b, l, 0) := by
  have h := mayR_true hm
  rw [lb_str _ (txt_lt b l), P_txt b l h.1 h.2.1]
  show (if mayR b l then _ else _) = _
  rw [if_pos hm]
theorem parse_fine (s : ByteArray) (b l : Nat) (h : prs (P (lb s)) = (b, l, 0)) (w : World) :
    Calls Try.prog 7 #[.string s] w fun e w' => e = .returned (.tuple #[.agg #[.int .u16 b, .int .u16 l], .nilIface]) ∧ Below w.heap.size w w' :=
  (parse_any s w).mono fun e w' ⟨he, hb⟩ => ⟨by rw [h] at he; exact he, hb⟩
/-- what a text is: a rule's, that may be, or not -/
theorem parse_two (s : ByteArray) : (∃ b l, mayR b l = true ∧ P (lb s) = some (b, l) ∧ prs (P (lb s)) = (b, l, 0)) ∨ (∃ n : Int, n ≠ 0 ∧ prs (P (lb s)) = (0, 0, n)) := by
  cases h : P (lb s) with
  | none => exact .inr ⟨3, by decide, rfl⟩
  | some q =>
    obtain ⟨b, l⟩ := q
    cases hm : mayR b l
    · exact .inr ⟨11, by decide, by show (if mayR b l then _ else _) = _; rw [hm]; rfl⟩
    · exact .inl ⟨b, l, hm, rfl, by show (if mayR b l then _ else _) = _; rw [hm]; rfl⟩
theorem parse_wrong (s : ByteArray) (n : Int) (hn : n ≠ 0) (h : prs (P (lb s)) = (0, 0, n)) (w : World) :
    Calls Try.prog 7 #[.string s] w fun e w' => e = .returned (.tuple #[.agg #[.int .u16 0, .int .u16 0], .iface 43 (.int .i64 n)]) ∧ Below w.heap.size w w' :=
  (parse_any s w).mono fun e w' ⟨he, hb⟩ => ⟨by rw [h] at he; unfold ev at he; rw [if_neg hn] at he; exact he, hb⟩
set_option maxRecDepth 100000 in
set_option maxHeartbeats 1000000 in
theorem back_walk (b l : Nat) (s : ByteArray) (W : World) (w0 : b < 65536 ∧ l < 65536) (ws : s.size ≤ maxLen) :
    Calls Try.prog 3 #[.agg #[.int .u16 b, .int .u16 l], .string s] W fun e w' => e = .returned (.bool true) ∧ Below W.heap.size W w' := by
  unfold maxLen at ws
  by_cases hs : 200 < s.size
  · have i1 : (200 : Int) < (s.size : Int) := by omega
    clear hs w0
    go_enter Try.func3, Try.ntmps3
    go_wp2_with (go_at_call 5; refine (sure_any _).mono ?_; rintro e w4 ⟨rfl, hb⟩; have HB4 := Lib.hid (bel_to (alX W (.cells #[.int .u16 b, .int .u16 l] 24)) hb (by simp)); clear hb)
    go_ret
    exact ⟨rfl, HB4.out⟩
  · have i1 : ¬ (200 : Int) < (s.size : Int) := by omega
    have HP := Lib.hid (parse_two s)
    cases hm : mayR b l
    case' false =>
      have HT := Lib.hid (fun w => text_bad b l w0.1 w0.2 hm w)
      unfold Rv at HT
      clear hm w0
      go_enter Try.func3, Try.ntmps3
      go_upto_region 19 with (go_at_call 6; refine (HT.out _).mono ?_; rintro e wr ⟨rfl, hb⟩; have HB := Lib.hid (bel_to (alX W (.cells #[.int .u16 b, .int .u16 l] 24)) hb (by simp)); clear hb)
    case' true =>
      have HT := Lib.hid (fun w => text_ok b l hm w)
      have HP1 := Lib.hid (fun w => parse_fine (str (txt b l)) b l (prs_txt b l hm) w)
      have HN := Lib.hid (fun w => next_ok b l false 0 hm (by omega) w)
      have HSE := Lib.hid (sm_end b l hm)
      have hsz := txt_len b l
      have hp : pick b l false 0 = false := by
        have := (mayR_true hm).2.2
        show (b / 2 ^ 0 % 2 == 1) = false
        rw [beq_eq_false_iff_ne]
        simp [this]
      rw [hp] at HN
      have HAT := Lib.hid (fun k (h : k < (str (txt b l)).size) (hk : k < (txt b l).length) => at_str (txt b l) k h hk (txt_lt b l))
      have HCU := Lib.hid (fun k (h : k < (txt b l).length) => cut_str (txt b l) k h)
      have HSI := Lib.hid (str_size (txt b l))
      unfold Rv at HT HN
      clear hm w0 hp
      have hz3 : ¬ ((str (txt b l)).size : Int) < 3 := by rw [HSI.out]; omega
      have HS1 := Lib.hid (sm_succ b l)
      have HSL := Lib.hid (sm_len b l)
      generalize hT : str (txt b l) = t at HT HP1 HAT HCU HSI hz3
      clear hT
      go_enter Try.func3, Try.ntmps3
      go_upto_region 11 with (first | (go_at_call 6; refine (HT.out _).mono ?_; rintro e w1 ⟨rfl, hb⟩; have HB1 := Lib.hid (bel_to (alX W (.cells #[.int .u16 b, .int .u16 l] 24)) hb (by simp)); have hn := (hb.block W.heap.size (by simp)).trans (heap_alloc_new W _); have HX1 := Lib.hid hn; have c0 := cell_of_row _ _ 0 _ _ _ hn; have c1 := cell_of_row _ _ 1 _ _ _ hn; clear hb hn) | (go_at_call 7; refine (HP1.out _).mono ?_; rintro e w2 ⟨rfl, hb⟩; have HB2 := Lib.hid (bel_to HB1.out hb HB1.out.size); have HX2 := Lib.hid ((hb.block _ (lt_of_block HX1.out)).trans HX1.out); have HY2 := Lib.hid (heap_alloc_new w2 (.cells #[.int .u16 b, .int .u16 l] 30)); have c0 := cell_of_row _ _ 0 _ _ _ HX2.out; have c1 := cell_of_row _ _ 1 _ _ _ HX2.out; have hz2 := lt_of_block HX2.out; clear hb) | (go_at_call 8; refine (HN.out _).mono ?_; rintro e w3 ⟨rfl, hb⟩; have HB3 := Lib.hid (bel_to (HB2.out.alloc HB2.out.size _) hb (by have := HB2.out.size; simp; omega)); have hx := (hb.block _ (by simp)).trans HY2.out; have HY3 := Lib.hid hx; have d0 := cell_of_row _ _ 0 _ _ _ hx; have d1 := cell_of_row _ _ 1 _ _ _ hx; have hy := (hb.block _ (by have := lt_of_block HX2.out; simp; omega)).trans ((Below.heap_alloc _ _ _ (lt_of_block HX2.out)).trans HX2.out); have c0 := cell_of_row _ _ 0 _ _ _ hy; have c1 := cell_of_row _ _ 1 _ _ _ hy; clear hb hx hy))
      go_wp2_with fail
      go_loop [11, 12] (fun xs xn => ∃ k : Nat, k + 1 ≤ t.size ∧ xn = .int .i64 ((k + 1 : Nat) : Int) ∧ xs = .string (str (sm b l k))) (fun _ xn => t.size - (intOf xn).toNat)
      case atStart => exact ⟨0, by rw [HSI.out]; omega, rfl, rfl⟩
      case' round =>
        obtain ⟨k, hk, rfl, rfl⟩ := hrel
        have k0 : (0 : Int) ≤ ((k + 1 : Nat) : Int) := by omega
        have HTS := Lib.hid (show t.size ≤ 21 by rw [HSI.out]; omega)
        by_cases hlt : k + 1 < t.size
        · have hlt2 : k + 1 < (txt b l).length := by rw [← HSI.out]; exact hlt
          have HQ := Lib.hid (HS1.out k hlt2)
          have hat := HAT.out (k + 1) hlt hlt2
          have hcu := HCU.out (k + 1) hlt2
          have HLN := Lib.hid (HSL.out k)
          have i1 : ((k + 1 : Nat) : Int) < (t.size : Int) := by omega
          have i3 : ((k + 1 : Nat) : Int) + 1 ≤ (t.size : Int) := by omega
          by_cases h83 : (txt b l)[k + 1] = 83
          · have e1 : (((t[k + 1]'hlt).toNat : Int) == 83) = true := by rw [hat, beq_iff_eq]; omega
            have e2 : ∀ w, (Op.stringOp .add (str (sm b l k)) ⟨#[115]⟩).run Try.prog w = .ok (.string (str (sm b l k ++ [115]))) w := add_str _ [115] (by have := HLN.out; have := HTS.out; simp; omega)
            have HR := Lib.hid (show sm b l (k + 1) = sm b l k ++ [115] by rw [HQ.out, h83]; rfl)
            clear hat hcu h83
            go_wp2
            go_round
            case rel => exact ⟨k + 1, by omega, by go_num, by rw [HR.out]⟩
            case measure => simp [intOf]; omega
          · have e1 : (((t[k + 1]'hlt).toNat : Int) == 83) = false := by rw [hat, beq_eq_false_iff_ne]; omega
            have e2 : ∀ w, (Op.stringOp .add (str (sm b l k)) (str [(txt b l)[k + 1]])).run Try.prog w = .ok (.string (str (sm b l k ++ [(txt b l)[k + 1]]))) w := add_str _ _ (by have := HLN.out; have := HTS.out; simp; omega)
            have HR := Lib.hid (show sm b l (k + 1) = sm b l k ++ [(txt b l)[k + 1]] by rw [HQ.out]; unfold lowc; rw [if_neg h83])
            clear hat h83
            go_wp2
            go_round
            case rel => exact ⟨k + 1, by omega, by go_num, by rw [HR.out]⟩
            case measure => simp [intOf]; omega
        have HKE := Lib.hid (show k = (txt b l).length - 1 by have := HSI.out; omega)
        have HPS := Lib.hid (fun w => parse_fine (str (sm b l k)) b l (by rw [HKE.out]; exact HSE.out) w)
        have i1 : ¬ ((k + 1 : Nat) : Int) < (t.size : Int) := by omega
        go_upto_region 19 with (go_at_call 7; refine (HPS.out _).mono ?_; rintro e wr ⟨rfl, hb⟩; have HBW := Lib.hid (bel_to HB3.out hb HB3.out.size); have hx := (hb.block _ (lt_of_block HY3.out)).trans HY3.out; have d0 := cell_of_row _ _ 0 _ _ _ hx; have d1 := cell_of_row _ _ 1 _ _ _ hx; have hz := lt_of_block hx; have HB := Lib.hid (HBW.out.alloc HBW.out.size (.cells #[.int .u16 b, .int .u16 l] 30)); clear hb hx)
    all_goals
      rcases HP.out with ⟨x, y, hxy, hP, hprs⟩ | ⟨n, hn, hprs⟩
      · have HPF := Lib.hid (fun w => parse_fine s x y hprs w)
        have HTX := Lib.hid (fun w => text_ok x y hxy w)
        have HPU := Lib.hid (fun w => parse_fine (str (txt x y)) x y (prs_txt x y hxy) w)
        have hsu : ((str (txt x y)).size : Int) = (s.size : Int) := by
          have := (P_len _ x y hP).2.2
          rw [lb_len] at this
          rw [str_size]
          omega
        have hse : (((str (txt x y)).size : Int) == (s.size : Int)) = true := by rw [beq_iff_eq]; exact hsu
        unfold Rv at HTX
        clear hsu hP hprs hxy HP
        generalize str (txt x y) = u at HTX HPU hse
        go_wp2_with (first | (go_at_call 7; with_reducible refine (HPF.out _).mono ?_; rintro e w5 ⟨rfl, hb⟩; have HB5 := Lib.hid (bel_to HB.out hb HB.out.size); have hn := heap_alloc_new w5 (.cells #[.int .u16 x, .int .u16 y] 30); have HX5 := Lib.hid hn; clear hb hn) | (go_at_call 6; refine (HTX.out _).mono ?_; rintro e w6 ⟨rfl, hb⟩; have HB6 := Lib.hid (bel_to (HB5.out.alloc HB5.out.size _) hb (by have := HB5.out.size; simp; omega)); have HX6 := Lib.hid ((hb.block _ (lt_of_block HX5.out)).trans HX5.out); clear hb) | (go_at_call 7; with_reducible refine (HPU.out _).mono ?_; rintro e w7 ⟨rfl, hb⟩; have HB7 := Lib.hid (bel_to HB6.out hb HB6.out.size); have hx := (hb.block _ (lt_of_block HX6.out)).trans HX6.out; have d0 := cell_of_row _ _ 0 _ _ _ hx; have d1 := cell_of_row _ _ 1 _ _ _ hx; have hz := lt_of_block hx; clear hb hx) | (go_at_call 5; refine (sure_any _).mono ?_; rintro e w8 ⟨rfl, hb⟩; have HB8 := Lib.hid (bel_to (HB7.out.alloc HB7.out.size _) hb (by have := HB7.out.size; simp; omega)); clear hb))
        go_ret
        exact ⟨rfl, HB8.out⟩
      · have HPF := Lib.hid (fun w => parse_wrong s n hn hprs w)
        clear hn hprs HP
        go_wp2_with (first | (go_at_call 7; with_reducible refine (HPF.out _).mono ?_; rintro e w5 ⟨rfl, hb⟩; have HB5 := Lib.hid (bel_to HB.out hb HB.out.size); clear hb) | (go_at_call 5; refine (sure_any _).mono ?_; rintro e w8 ⟨rfl, hb⟩; have HB8 := Lib.hid (bel_to (HB5.out.alloc HB5.out.size _) hb (by have := HB5.out.size; simp; omega)); clear hb))
        go_ret
        exact ⟨rfl, HB8.out⟩
end Go.Proofs.Ytcgpjfcfokiagaa

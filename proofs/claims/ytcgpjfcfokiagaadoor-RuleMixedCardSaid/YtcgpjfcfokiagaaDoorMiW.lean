/-
  RuleMixed, the walk. No condition but that the input could be read, and the package-level variable.
-/
import Derived.Test.YtcgpjfcfokiagaaDoorSu
import Derived.Test.YtcgpjfcfokiagaaDoorRd
import Derived.Test.YtcgpjfcfokiagaaDoorErr
import Derived.Test.YtcgpjfcfokiagaaDoorMm
namespace Go.Proofs.YtcgpjfcfokiagaaDoor
open Go.RowKit Ru

theorem str_none : (str []).toList.isEmpty = true := by decide +kernel
theorem str_one : ∀ m < 9, (str [48 + m]).toList.isEmpty = false := by decide +kernel
theorem parse_is (s : ByteArray) (b l : Nat) (n : Int) (h : prs (P (lb s)) = (b, l, n)) (w : World) :
    Calls Tryd.prog 8 #[.string s] w fun e w' => e = .returned (.tuple #[.agg #[.int .u16 b, .int .u16 l], ev n]) ∧ Below w.heap.size w w' :=
  (parse_any s w).mono fun e w' ⟨he, hb⟩ => ⟨by rw [h] at he; exact he, hb⟩
theorem parse_fine (s : ByteArray) (b l : Nat) (h : prs (P (lb s)) = (b, l, 0)) (w : World) :
    Calls Tryd.prog 8 #[.string s] w fun e w' => e = .returned (.tuple #[.agg #[.int .u16 b, .int .u16 l], .nilIface]) ∧ Below w.heap.size w w' := parse_is s b l 0 h w
set_option maxRecDepth 100000 in
set_option maxHeartbeats 1000000 in
theorem mixed_walk (b l : Nat) (q : Int) (W : World) (w0 : b < 65536 ∧ l < 65536) (_w1 : (Lit.int .i64 q).wf = true) (hl : Laid W) :
    Calls Tryd.prog 5 #[.agg #[.int .u16 b, .int .u16 l], .int .i64 q] W fun e w' => e = .returned (.bool true) ∧ Below W.heap.size W w' := by
  have HL := Lib.hid hl
  have HM := Lib.hid (fun w => may_ref b l w)
  clear hl
  cases hm : mayR b l
  · rw [hm] at HM
    unfold Rv at HM
    clear hm w0
    go_enter Tryd.func5, Tryd.ntmps5
    go_wp2_with (first | (go_at_call 11; refine (HM.out _).mono ?_; rintro e w2 ⟨rfl, hb⟩; have HB2 := Lib.hid (bel_to (alX W (.cells #[.int .u16 b, .int .u16 l] 24)) hb (by simp)); clear hb) | (go_at_call 6; refine (sure_any _).mono ?_; rintro e w4 ⟨rfl, hb⟩; have HB4 := Lib.hid (bel_to HB2.out hb HB2.out.size); clear hb))
    go_ret
    exact ⟨rfl, HB4.out⟩
  · rw [hm] at HM
    unfold Rv at HM
    go_enter Tryd.func5, Tryd.ntmps5
    go_wp2_with (first | (go_at_call 11; refine (HM.out _).mono ?_; rintro e w2 ⟨rfl, hb⟩; have HB2 := Lib.hid (bel_to (alX W (.cells #[.int .u16 b, .int .u16 l] 24)) hb (by simp)); have hn := (hb.block W.heap.size (by simp)).trans (heap_alloc_new W _); have HN := Lib.hid hn; clear hb hn))
    have hb16 := w0.1
    have hl16 := w0.2
    obtain ⟨m, hq, hm9⟩ := red_nat q 9 (by omega) (by omega)
    have HM9 := Lib.hid (show m < 9 by omega)
    have HC := Lib.hid (fun V (h : Below W.heap.size W V) => h)
    have HH := Lib.hid hm
    clear hm hm9
    go_loopw [5, 6, 7, 8] (fun xa xb xt xn ws => ∃ k : Nat, k ≤ 9 ∧ xn = .int .i64 k ∧ xa = .string (str (rv b k)) ∧ xb = .string (str (rv l k)) ∧ xt = .string (str (tw b m k)) ∧ ws = w2) (fun _ _ _ xn _ => 9 - (intOf xn).toNat)
    case atStart => exact ⟨0, by omega, rfl, rfl, rfl, by unfold tw; rw [if_neg (by omega)]; rfl, rfl⟩
    case round =>
      obtain ⟨k, hk, rfl, rfl, rfl, rfl, rfl⟩ := hrel
      have k0 : (0 : Int) ≤ (k : Int) := by omega
      by_cases hlt : k < 9
      · have k9 : (k : Int) < 9 := by omega
        have hcut := cut_nine k hlt
        have hbit := bit_eq b k hb16
        have hbil := bit_eq l k hl16
        have c0 := cell_of_row _ _ 0 _ _ _ HN.out
        have c1 := cell_of_row _ _ 1 _ _ _ HN.out
        have e1 : ∀ w, (Op.stringOp .add (str [48 + k]) (str (rv b k))).run Tryd.prog w = .ok (.string (str ([48 + k] ++ rv b k))) w := add_str _ _ (by have := rv_len b k; simp; omega)
        have e2 : ∀ w, (Op.stringOp .add (str [48 + k]) (str (rv l k))).run Tryd.prog w = .ok (.string (str ([48 + k] ++ rv l k))) w := add_str _ _ (by have := rv_len l k; simp; omega)
        have RB := Lib.hid (rv_succ b k)
        have RL := Lib.hid (rv_succ l k)
        by_cases hmk : m = k
        · subst hmk
          have heq : ((m : Int) == wrap64 ((IntKind.u64.wrap q).tmod 9)) = true := by rw [hq]; simp
          have RT := Lib.hid (show tw b m (m + 1) = if hs b m then [48 + m] else tw b m m by
            cases h : hs b m
            · exact tw_same b m m (.inl h)
            · exact tw_new b m h)
          cases h1 : hs b m <;> cases h2 : hs l m
          all_goals
            rw [h1] at hbit RB RT
            rw [h2] at hbil RL
            go_wp2
            go_roundw
            case rel => exact ⟨m + 1, by omega, by go_num, by rw [RB.out]; rfl, by rw [RL.out]; rfl, by rw [RT.out]; rfl, trivial⟩
            case measure => simp [intOf]; omega
        · have heq : ((k : Int) == wrap64 ((IntKind.u64.wrap q).tmod 9)) = false := by rw [hq, beq_eq_false_iff_ne]; omega
          have RT := Lib.hid (tw_same b m k (.inr hmk))
          clear hmk
          cases h1 : hs b k <;> cases h2 : hs l k
          all_goals
            rw [h1] at hbit RB
            rw [h2] at hbil RL
            go_wp2
            go_roundw
            case rel => exact ⟨k + 1, by omega, by go_num, by rw [RB.out]; rfl, by rw [RL.out]; rfl, by rw [RT.out], trivial⟩
            case measure => simp [intOf]; omega
      · obtain rfl : k = 9 := by omega
        have c0 := cell_of_row _ _ 0 _ _ _ HN.out
        have c1 := cell_of_row _ _ 1 _ _ _ HN.out
        have n1 := rv_len b 9
        have n2 := rv_len l 9
        have n3 := tw_len b m 9
        have e1 : ∀ w, (Op.stringOp .add ⟨#[98]⟩ (str (rv b 9))).run Tryd.prog w = .ok (.string (str ([98] ++ rv b 9))) w := add_str [98] _ (by simp; omega)
        have e2 : ∀ w, (Op.stringOp .add (str ([98] ++ rv b 9)) ⟨#[47, 115]⟩).run Tryd.prog w = .ok (.string (str ([98] ++ rv b 9 ++ [47, 115]))) w := add_str _ [47, 115] (by simp; omega)
        have e3 : ∀ w, (Op.stringOp .add (str ([98] ++ rv b 9 ++ [47, 115])) (str (rv l 9))).run Tryd.prog w = .ok (.string (str ([98] ++ rv b 9 ++ [47, 115] ++ rv l 9))) w := add_str _ _ (by simp; omega)
        have e4 : ∀ w, (Op.stringOp .add ⟨#[66]⟩ (str (tw b m 9))).run Tryd.prog w = .ok (.string (str ([66] ++ tw b m 9))) w := add_str [66] _ (by simp; omega)
        have e5 : ∀ w, (Op.stringOp .add (str ([66] ++ tw b m 9)) (str (rv b 9))).run Tryd.prog w = .ok (.string (str ([66] ++ tw b m 9 ++ rv b 9))) w := add_str _ _ (by simp; omega)
        have e6 : ∀ w, (Op.stringOp .add (str ([66] ++ tw b m 9 ++ rv b 9)) ⟨#[47, 83]⟩).run Tryd.prog w = .ok (.string (str ([66] ++ tw b m 9 ++ rv b 9 ++ [47, 83]))) w := add_str _ [47, 83] (by simp; omega)
        have e7 : ∀ w, (Op.stringOp .add (str ([66] ++ tw b m 9 ++ rv b 9 ++ [47, 83])) (str (rv l 9))).run Tryd.prog w = .ok (.string (str ([66] ++ tw b m 9 ++ rv b 9 ++ [47, 83] ++ rv l 9))) w := add_str _ _ (by simp; omega)
        have HP1 := Lib.hid (fun w => parse_fine (str ([98] ++ rv b 9 ++ [47, 115] ++ rv l 9)) b l (mixed_one b l HH.out) w)
        have HP2 := Lib.hid (fun w => parse_is (str ([66] ++ tw b m 9 ++ rv b 9 ++ [47, 83] ++ rv l 9)) _ _ _ ((mixed_two b l m HH.out HM9.out).trans (show _ = ((if hs b m then (0, 0, 3) else (b, l, 0) : Nat × Nat × Int).1, (if hs b m then (0, 0, 3) else (b, l, 0) : Nat × Nat × Int).2.1, (if hs b m then (0, 0, 3) else (b, l, 0) : Nat × Nat × Int).2.2) from rfl)) w)
        generalize str ([98] ++ rv b 9 ++ [47, 115] ++ rv l 9) = s1 at e3 HP1
        generalize str ([98] ++ rv b 9 ++ [47, 115]) = s2 at e2 e3
        generalize str ([98] ++ rv b 9) = s3 at e1 e2
        generalize str ([66] ++ tw b m 9 ++ rv b 9 ++ [47, 83] ++ rv l 9) = s4 at e7 HP2
        generalize str ([66] ++ tw b m 9 ++ rv b 9 ++ [47, 83]) = s5 at e6 e7
        generalize str ([66] ++ tw b m 9 ++ rv b 9) = s6 at e5 e6
        generalize str ([66] ++ tw b m 9) = s7 at e4 e5
        generalize str (rv b 9) = s8 at e1 e5 ⊢
        generalize str (rv l 9) = s9 at e3 e7 ⊢
        clear n1 n2 n3
        cases h1 : hs b m
        · have ht : tw b m 9 = [] := by unfold tw; simp [h1]
          rw [h1] at HP2
          have HP2 := Lib.hid (fun w => (HP2.out w : Calls Tryd.prog 8 #[.string s4] w fun (e : Ending) w' => e = Ending.returned (.tuple #[.agg #[.int .u16 b, .int .u16 l], .nilIface]) ∧ Below w.heap.size w w'))
          rw [ht] at e4 ⊢
          have hse := str_none
          clear h1 ht
          go_wp2_with (first | (go_at_call 8; with_reducible refine (HP1.out _).mono ?_; rintro e w3 ⟨rfl, hb⟩; have HB3 := Lib.hid (bel_to HB2.out hb HB2.out.size); have HN3 := Lib.hid ((hb.block _ (lt_of_block HN.out)).trans HN.out); have HX3 := Lib.hid (heap_alloc_new w3 (.cells #[.int .u16 b, .int .u16 l] 30)); clear hb c0 c1) | (go_at_call 8; with_reducible refine (HP2.out _).mono ?_; rintro e w4 ⟨rfl, hb⟩; have HB4 := Lib.hid (bel_to (HB3.out.alloc HB3.out.size _) hb (by have := HB3.out.size; simp; omega)); have hx := (hb.block _ (by simp)).trans HX3.out; have d0 := cell_of_row _ _ 0 _ _ _ hx; have d1 := cell_of_row _ _ 1 _ _ _ hx; have hz1 := lt_of_block hx; have hy := (hb.block _ (by have := lt_of_block HN3.out; simp; omega)).trans ((Below.heap_alloc _ _ _ (lt_of_block HN3.out)).trans HN3.out); have c0 := cell_of_row _ _ 0 _ _ _ hy; have c1 := cell_of_row _ _ 1 _ _ _ hy; have hz2 := lt_of_block hy; clear hb hx hy) | (go_at_call 10; refine (num_nil _).mono ?_; rintro e w5 ⟨rfl, hb⟩; have HB5 := Lib.hid (bel_to (HB4.out.alloc HB4.out.size _) hb (by have := HB4.out.size; simp; omega)); clear hb) | (go_at_call 6; refine (sure_any _).mono ?_; rintro e w6 ⟨rfl, hb⟩; have HB6 := Lib.hid (bel_to HB5.out hb HB5.out.size); clear hb))
          go_ret
          exact ⟨rfl, HB6.out⟩
        · have ht : tw b m 9 = [48 + m] := by unfold tw; simp [h1, HM9.out]
          rw [h1] at HP2
          simp only [if_true, ev] at HP2
          rw [ht] at e4 ⊢
          have hse := str_one m HM9.out
          clear h1 ht
          go_wp2_with (first | (go_at_call 8; with_reducible refine (HP1.out _).mono ?_; rintro e w3 ⟨rfl, hb⟩; have HB3 := Lib.hid (bel_to HB2.out hb HB2.out.size); have HN3 := Lib.hid ((hb.block _ (lt_of_block HN.out)).trans HN.out); have HX3 := Lib.hid (heap_alloc_new w3 (.cells #[.int .u16 b, .int .u16 l] 30)); clear hb c0 c1) | (go_at_call 8; with_reducible refine (HP2.out _).mono ?_; rintro e w4 ⟨rfl, hb⟩; have HB4 := Lib.hid (bel_to (HB3.out.alloc HB3.out.size _) hb (by have := HB3.out.size; simp; omega)); have hx := (hb.block _ (by simp)).trans HX3.out; have d0 := cell_of_row _ _ 0 _ _ _ hx; have d1 := cell_of_row _ _ 1 _ _ _ hx; have hz1 := lt_of_block hx; have hy := (hb.block _ (by have := lt_of_block HN3.out; simp; omega)).trans ((Below.heap_alloc _ _ _ (lt_of_block HN3.out)).trans HN3.out); have c0 := cell_of_row _ _ 0 _ _ _ hy; have c1 := cell_of_row _ _ 1 _ _ _ hy; have hz2 := lt_of_block hy; clear hb hx hy) | (go_at_call 10; refine (num_err 3 _ (HL.out.below (HB4.out.alloc HB4.out.size _))).mono ?_; rintro e w5 ⟨rfl, hb⟩; have HB5 := Lib.hid (bel_to (HB4.out.alloc HB4.out.size _) hb (by have := HB4.out.size; simp; omega)); clear hb) | (go_at_call 6; refine (sure_any _).mono ?_; rintro e w6 ⟨rfl, hb⟩; have HB6 := Lib.hid (bel_to HB5.out hb HB5.out.size); clear hb))
          go_ret
          exact ⟨rfl, HB6.out⟩
end Go.Proofs.YtcgpjfcfokiagaaDoor

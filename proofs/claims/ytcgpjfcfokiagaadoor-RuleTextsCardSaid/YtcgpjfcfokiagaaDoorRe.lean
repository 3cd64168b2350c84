/-
  THE WALKS of the document's Has, Next, Text, numbers, Parse. Conditions: the parts are numbers of 16 bits.
-/
import Derived.Test.YtcgpjfcfokiagaaDoorRd
import Derived.Laws.Concat
namespace Go.Proofs.YtcgpjfcfokiagaaDoor
open Go.RowKit Ru

theorem has_ref (b n : Nat) (hb : b < 65536) (hn : n ≤ 100) (w : World) :
    Calls Tryd.prog 20 #[.int .u16 b, .int .i64 n] w fun e w' => e = .returned (.bool (hs b n)) ∧ w = w' := by
  go_enter Tryd.func20, Tryd.ntmps20
  go_wp2
  go_loop [0, 5] (fun x i => ∃ k : Nat, k ≤ n ∧ i = .int .i64 k ∧ x = .int .u16 ((b / 2 ^ k : Nat) : Int)) (fun _ i => n - (intOf i).toNat)
  case atStart => exact ⟨0, by omega, rfl, by simp⟩
  case round =>
    obtain ⟨k, hk, rfl, rfl⟩ := hrel
    have k0 : (0 : Int) ≤ (k : Int) := by omega
    have hle : b / 2 ^ k < 65536 := Nat.lt_of_le_of_lt (Nat.div_le_self _ _) hb
    have hd := Lib.hid (show ((b / 2 ^ k : Nat) : Int) / 2 = ((b / 2 ^ (k + 1) : Nat) : Int) by
      rw [Nat.pow_succ, ← Nat.div_div_eq_div_mul]; simp)
    by_cases hlt : k < n
    · have i1 : (k : Int) < (n : Int) := by omega
      generalize b / 2 ^ k = x at hle hd ⊢
      have x0 : (0 : Int) ≤ (x : Int) := by omega
      have x1 : (x : Int) < 65536 := by omega
      go_wp2
      go_round
      case rel => exact ⟨k + 1, by omega, by go_num, by rw [hd.out]⟩
      case measure => simp [intOf]; omega
    · obtain rfl : k = n := by omega
      have HB := Lib.hid (show (((b / 2 ^ k : Nat) : Int) % 2 == 1) = hs b k by
        unfold hs
        rw [Bool.eq_iff_iff, beq_iff_eq, beq_iff_eq]
        omega)
      generalize b / 2 ^ k = x at hle hd HB ⊢
      have x0 : (0 : Int) ≤ (x : Int) := by omega
      have x1 : (x : Int) < 65536 := by omega
      go_wp2
      go_ret
      exact ⟨by rw [← HB.out]; rfl, rfl⟩
theorem next_ref (b l : Nat) (x : Bool) (n : Nat) (hb : b < 65536) (hl : l < 65536) (hn : n ≤ 8) (w : World) :
    Calls Tryd.prog 15 #[Rv b l, .bool x, .int .i64 n] w fun e w' => e = .returned (.bool (pick b l x n)) ∧ Below w.heap.size w w' := by
  have HB := Lib.hid (fun w => has_ref b n hb (by omega) w)
  have HL := Lib.hid (fun w => has_ref l n hl (by omega) w)
  unfold Rv
  clear hb hl hn
  cases x
  all_goals
    go_enter Tryd.func15, Tryd.ntmps15
    go_wp2_with (go_at_call 20; (first | with_reducible refine (HB.out _).mono ?_ | with_reducible refine (HL.out _).mono ?_); rintro e w' ⟨rfl, rfl⟩)
    go_ret
    exact ⟨rfl, alX _ _⟩
theorem add_strR {P : Program} (a b : List Nat) (h : a.length + b.length ≤ 100000) (w : World) : (Op.stringOp .add (str a) (str b)).run P w = .ok (.string (str (a ++ b))) w := by
  rw [run_string_add_sum w _ _ (by rw [str_size, str_size]; omega), str_app]
theorem cut_nineR (k : Nat) (h : k < 9) : (⟨#[48, 49, 50, 51, 52, 53, 54, 55, 56]⟩ : ByteArray).extract k (k + 1) = str [48 + k] := by
  have : ∀ k < 9, (⟨#[48, 49, 50, 51, 52, 53, 54, 55, 56]⟩ : ByteArray).extract k (k + 1) = str [48 + k] := by decide +kernel
  exact this k h
set_option maxRecDepth 100000 in
theorem text_ref (b l : Nat) (hb : b < 65536) (hl : l < 65536) (w : World) :
    Calls Tryd.prog 13 #[Rv b l] w fun e w' => e = .returned (.string (str (txt b l))) ∧ Below w.heap.size w w' := by
  have HB := Lib.hid (fun k (hk : k ≤ 100) w => has_ref b k hb hk w)
  have HL := Lib.hid (fun k (hk : k ≤ 100) w => has_ref l k hl hk w)
  unfold Rv
  clear hb hl
  go_enter Tryd.func13, Tryd.ntmps13
  go_wp2
  go_loop [3, 4] (fun xs xn => ∃ k : Nat, k ≤ 9 ∧ xn = .int .i64 (k : Int) ∧ xs = .string (str (66 :: dgs b k))) (fun _ xn => 9 - (intOf xn).toNat)
  case atStart => exact ⟨0, by omega, rfl, rfl⟩
  case round =>
    obtain ⟨k, hk, rfl, rfl⟩ := hrel
    have k0 : (0 : Int) ≤ (k : Int) := by omega
    by_cases hlt : k < 9
    · have k9 : (k : Int) < 9 := by omega
      have hcut := cut_nineR k hlt
      have HH := Lib.hid (fun w => HB.out k (by omega) w)
      have HD := Lib.hid (dgs_succ b k)
      have e1 : ∀ w, (Op.stringOp .add (str (66 :: dgs b k)) (str [48 + k])).run Tryd.prog w = .ok (.string (str (66 :: dgs b k ++ [48 + k]))) w := add_strR _ _ (by have := dgs_len b k; simp; omega)
      cases h : hs b k
      · rw [h] at HH HD
        go_wp2_with (go_at_call 20; refine (HH.out _).mono ?_; rintro e w' ⟨rfl, rfl⟩)
        go_round
        case rel => exact ⟨k + 1, by omega, by go_num, by rw [HD.out]; rfl⟩
        case measure => simp [intOf]; omega
      · rw [h] at HH HD
        go_wp2_with (go_at_call 20; refine (HH.out _).mono ?_; rintro e w' ⟨rfl, rfl⟩)
        go_round
        case rel => exact ⟨k + 1, by omega, by go_num, by rw [HD.out]; rfl⟩
        case measure => simp [intOf]; omega
    · obtain rfl : k = 9 := by omega
      have e1 : ∀ w, (Op.stringOp .add (str (66 :: dgs b 9)) ⟨#[47, 83]⟩).run Tryd.prog w = .ok (.string (str (66 :: dgs b 9 ++ [47, 83]))) w := add_strR _ [47, 83] (by have := dgs_len b 9; simp; omega)
      go_wp2
      go_loop [3, 5] (fun xs xn => ∃ k : Nat, k ≤ 9 ∧ xn = .int .i64 (k : Int) ∧ xs = .string (str (66 :: dgs b 9 ++ [47, 83] ++ dgs l k))) (fun _ xn => 9 - (intOf xn).toNat)
      case atStart => exact ⟨0, by omega, rfl, by simp [dgs]⟩
      case round =>
        obtain ⟨k, hk, rfl, rfl⟩ := hrel
        have k0 : (0 : Int) ≤ (k : Int) := by omega
        by_cases hlt : k < 9
        · have k9 : (k : Int) < 9 := by omega
          have hcut := cut_nineR k hlt
          have HH := Lib.hid (fun w => HL.out k (by omega) w)
          have HD := Lib.hid (dgs_succ l k)
          have e1 : ∀ w, (Op.stringOp .add (str (66 :: dgs b 9 ++ [47, 83] ++ dgs l k)) (str [48 + k])).run Tryd.prog w = .ok (.string (str (66 :: dgs b 9 ++ [47, 83] ++ dgs l k ++ [48 + k]))) w := add_strR _ _ (by have := dgs_len b 9; have := dgs_len l k; simp; omega)
          generalize hX : 66 :: dgs b 9 ++ [47, 83] = X at e1 ⊢
          cases h : hs l k
          · rw [h] at HH HD
            go_wp2_with (go_at_call 20; refine (HH.out _).mono ?_; rintro e w' ⟨rfl, rfl⟩)
            go_round
            case rel => exact ⟨k + 1, by omega, by go_num, by rw [HD.out]; rfl⟩
            case measure => simp [intOf]; omega
          · rw [h] at HH HD
            go_wp2_with (go_at_call 20; refine (HH.out _).mono ?_; rintro e w' ⟨rfl, rfl⟩)
            go_round
            case rel => exact ⟨k + 1, by omega, by go_num, by rw [HD.out]; simp⟩
            case measure => simp [intOf]; omega
        · obtain rfl : k = 9 := by omega
          have HT := Lib.hid (show 66 :: dgs b 9 ++ [47, 83] ++ dgs l 9 = txt b l by unfold txt dg; simp)
          rw [HT.out]
          go_wp2
          go_ret
          exact ⟨rfl, alX _ _⟩
end Go.Proofs.YtcgpjfcfokiagaaDoor

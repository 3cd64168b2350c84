/-
  THE WALK of DiskLimits: it is true of all numbers. Conditions: the numbers are Go's; errors.errorType is as the program's text lays it.
-/
import Derived.Test.YtibopcbebcikbaaDoorNil
namespace Go.Proofs.YtibopcbebcikbaaDoor
open Go.RowKit

/-- behind i writes, of which k might be done -/
structure LimInv (k i j : Nat) (s : St) : Prop where
  jj : (j = i ∧ i ≤ k) ∨ (j = k ∧ k ≤ i)
  n : s.n = 30
  writes : s.writes = j
  left : s.left = (k : Int) - j
  pend : s.pend.length = j
  late : ∀ x, j ≤ x → s.late x = none
theorem LimInv.next {k i j : Nat} {s s' : St} {f : Nat → Int} (h : LimInv k i j s) (hi : i < k) (hw : Wrote s i f s') : LimInv k (i + 1) (i + 1) s' := by
  have hj : j = i := by rcases h.jj with e | e <;> omega
  subst hj
  have hl : s.late j = none := h.late j (Nat.le_refl _)
  refine ⟨.inl ⟨rfl, by omega⟩, by rw [hw.n, h.n], by rw [hw.writes, h.writes]; omega, ?_, ?_, fun x hx => ?_⟩
  · rw [hw.left, h.left, if_pos (by omega)]; omega
  · rw [hw.pend, if_pos hl, List.length_append, h.pend]; rfl
  · rw [hw.lateo x (by omega)]; exact h.late x (by omega)
theorem LimInv.over {k i j : Nat} {s : St} (h : LimInv k i j s) (hi : k ≤ i) : LimInv k (i + 1) k s := by
  have hj : j = k := by rcases h.jj with e | e <;> omega
  subst hj
  exact ⟨.inr ⟨rfl, by omega⟩, h.n, h.writes, h.left, h.pend, h.late⟩
set_option maxRecDepth 100000 in
set_option maxHeartbeats 4000000 in
theorem lim_walk (n z : Int) (W : World) (_wn : (Lit.int .i64 n).wf = true) (_wz : (Lit.int .i64 z).wf = true) (hl : Laid W) :
    Calls Tryd.prog 6 #[.int .i64 n, .int .i64 z] W fun e w' => e = .returned (.bool true) ∧ Below W.heap.size W w' := by
  have cX := conv_512 (sec ⟨#[120]⟩) (sec_size (by decide))
  have cY := conv_512 (sec ⟨#[121]⟩) (sec_size (by decide))
  have HLD := Lib.hid hl
  obtain ⟨k, hk, hk2⟩ := red_nat n 20 (by omega) (by omega)
  obtain ⟨m, hm, hm2⟩ := red_nat z 5 (by omega) (by omega)
  have k0 : (0 : Int) ≤ (k : Int) := by omega
  have m0 : (0 : Int) ≤ (m : Int) := by omega
  clear hl
  go_enter Tryd.func6, Tryd.ntmps6
  go_wp2_with (first | (go_at_call 7; refine (new_at 30 30 _ rfl (by omega) (by omega)).mono ?_; rintro e wa ⟨p, s0, rfl, ha, hn⟩; have HA := Lib.hid ha; have HN := Lib.hid hn; clear ha hn) | (go_at_call 18; refine (limit_at s0 _ _ HA.out (by omega) (by omega)).mono ?_; rintro e wb ⟨rfl, hb, _⟩; have HB := Lib.hid hb; clear hb HA))
  have HI := Lib.hid (show LimInv k 0 0 (s0.limit k) from ⟨.inl ⟨rfl, by omega⟩, HN.out.n, HN.out.writes, by show (k : Int) = k - 0; omega, by show s0.pend.length = 0; rw [HN.out.pend]; rfl, fun x _ => HN.out.late x⟩)
  go_loopw [8] (fun x wr => ∃ (i j : Nat) (s : St), i ≤ k + 1 + m ∧ x = .int .i64 i ∧ At W wr p s ∧ LimInv k i j s) (fun x _ => k + 1 + m - (intOf x).toNat)
  case atStart => exact ⟨0, 0, _, by omega, rfl, HB.out, HI.out⟩
  case round =>
    obtain ⟨i, j, s, hi, rfl, ha, hinv⟩ := hrel
    have HS := Lib.hid ha
    have HV := Lib.hid hinv
    clear ha hinv HI
    by_cases hlt : i < k + 1 + m
    · have hlt' : (i : Int) < (k : Int) + 1 + (m : Int) := by omega
      have i0 : (0 : Int) ≤ (i : Int) := by omega
      by_cases hik : i < k
      · have hik' : (i : Int) < (k : Int) := by omega
        have hj : j = i := by rcases HV.out.jj with e | e <;> omega
        have HJ := Lib.hid hj
        clear hj
        go_wp2_with (first | (go_at_call 22; refine (sector_at s _ _ HS.out (by decide)).mono ?_; rintro e wc ⟨rfl, hb, _⟩; have HC := Lib.hid hb; clear hb HS) | (go_at_call 14; refine (write_at s i _ _ _ _ (sec_size (by decide)) HC.out (by omega) (by rw [HV.out.n]; omega) (by rw [HV.out.left, HJ.out]; omega) (by rw [HV.out.writes]; omega) (by rw [HV.out.writes, HJ.out]; omega)).mono ?_; rintro e wd ⟨rfl, s1, h1, k1, _⟩; have HD := Lib.hid h1; have K1 := Lib.hid (HV.out.next hik k1); clear h1 k1 HC))
        go_roundw
        case rel => exact ⟨i + 1, i + 1, s1, by omega, by go_num, HD.out, K1.out⟩
        case measure => simp [intOf]; omega
      · have hik' : ¬ (i : Int) < (k : Int) := by omega
        have hj : j = k := by rcases HV.out.jj with e | e <;> omega
        have HJ := Lib.hid hj
        clear hj
        go_wp2_with (first | (go_at_call 22; refine (sector_at s _ _ HS.out (by decide)).mono ?_; rintro e wc ⟨rfl, hb, _⟩; have HC := Lib.hid hb; clear hb HS) | (go_at_call 14; refine (full_at s i _ _ _ _ (HC.out.below (bw_below _ _)) (by omega) (by rw [HV.out.n]; omega) (by rw [HV.out.left, HJ.out]; omega)).mono ?_; rintro e wd ⟨rfl, rfl⟩; have HD := Lib.hid (HC.out.below (bw_below _ (sec ⟨#[120]⟩))); clear HC) | (go_at_call 13; refine (num_err 5 _ (HLD.out.below HD.out.b)).mono ?_; rintro e we ⟨rfl, hb⟩; have HE := Lib.hid (HD.out.below hb); clear hb HD))
        go_roundw
        case rel => exact ⟨i + 1, k, s, by omega, by go_num, HE.out, HV.out.over (by omega)⟩
        case measure => simp [intOf]; omega
    · obtain rfl : i = k + 1 + m := by omega
      have hj : j = k := by rcases HV.out.jj with e | e <;> omega
      have HW := Lib.hid (show s.writes = k by rw [HV.out.writes, hj])
      have HP := Lib.hid (show s.pend.length = k by rw [HV.out.pend, hj])
      have hend : ¬ ((k + 1 + m : Nat) : Int) < (k : Int) + 1 + (m : Int) := by omega
      have HN2 := Lib.hid (show s.lose.n = 30 by rw [show s.lose = s.crash [] (-1) 0 from rfl, crash_n, HV.out.n])
      have HW2 := Lib.hid (show s.lose.writes = k by rw [show s.lose = s.crash [] (-1) 0 from rfl, crash_writes, HW.out])
      clear hj
      go_wp2_with (first | (go_at_call 20; refine (writes_at s _ HS.out).mono ?_; rintro e w' ⟨rfl, rfl⟩; rw [HW.out]) | (go_at_call 21; refine (pending_at s _ HS.out).mono ?_; rintro e wc ⟨ao, cap, rfl, _, h1, _⟩; rw [HP.out]; have HC := Lib.hid h1; clear h1 HS) | (go_at_call 16; refine (crash_nil s _ HC.out).mono ?_; rintro e wd ⟨rfl, h1, _⟩; have HD := Lib.hid h1; clear h1 HC) | (go_at_call 22; refine (sector_at s.lose _ _ HD.out (by decide)).mono ?_; rintro e we ⟨rfl, hb, _⟩; have HE := Lib.hid hb; clear hb HD) | (go_at_call 14; refine (write_at s.lose 0 _ _ _ _ (sec_size (by decide)) HE.out rfl (by rw [HN2.out]; omega) (by show (-1 : Int) ≠ 0; decide) (by rw [HW2.out]; omega) (by rw [HW2.out]; omega)).mono ?_; rintro e wf ⟨rfl, s1, h1, k1, _⟩; have HF := Lib.hid h1; have K1 := Lib.hid k1; clear h1 k1 HE) | (go_at_call 18; refine (limit_at s1 (-5) _ HF.out (by omega) (by omega)).mono ?_; rintro e wg ⟨rfl, hb, _⟩; have HG := Lib.hid hb; clear hb HF) | (go_at_call 22; refine (sector_at (s1.limit (-5)) _ _ HG.out (by decide)).mono ?_; rintro e wh ⟨rfl, hb, _⟩; have HH := Lib.hid hb; clear hb HG) | (go_at_call 14; refine (write_at (s1.limit (-5)) 1 _ _ _ _ (sec_size (by decide)) HH.out rfl (by show 1 < s1.n; rw [K1.out.n, HN2.out]; omega) (by show (-5 : Int) ≠ 0; decide) (by show 0 ≤ s1.writes; rw [K1.out.writes, HW2.out]; omega) (by show s1.writes < _; rw [K1.out.writes, HW2.out]; omega)).mono ?_; rintro e wi ⟨rfl, s2, h1, _, _⟩; have HI2 := Lib.hid h1; clear h1 HH) | (go_at_call 9; refine (sure_any _).mono ?_; rintro e wj ⟨rfl, hb⟩))
      go_ret
      exact ⟨rfl, (HI2.out.below hb).b⟩
end Go.Proofs.YtibopcbebcikbaaDoor

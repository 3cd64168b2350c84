/-
  RLE: isNumber, isSize, lawOf, readHead.
-/
import Derived.Test.YtangbokcdgganaaGreatDoorLb
namespace Go.Proofs.YtangbokcdgganaaGreatDoor
open Go.RowKit Ru Ce
open Go.Lib (indexByte hasPrefix)

namespace Rl
theorem isNumber_any (s : ByteArray) (w : World) (hs : s.size ≤ 100000) : Calls Tryz.prog 85 #[.string s] w fun e w' => e = .returned (.bool (isNumberL (bl s))) ∧ w' = w := by
  have HN := Lib.hid (fun W => number_any s W hs)
  obtain ⟨r, HR⟩ : ∃ r, isNumberL (bl s) = r := ⟨_, rfl⟩
  rw [HR]
  unfold isNumberL at HR
  have hle := (numL_le (bl s) 0 0).2
  rw [bl_size] at hle HR
  obtain ⟨n, d, hnd⟩ : ∃ n d, numL (bl s) 0 0 = (n, d) := ⟨_, _, rfl⟩
  rw [hnd] at HN HR hle
  clear hnd
  by_cases h0 : 0 < d
  · have h00 : 0 < s.size := by simp at hle; omega
    have e1 : (bl s).head? = some s[0] := by
      have : (bl s)[0]? = some s[0] := getElem?_pos (bl s) 0 (by rw [bl_size]; exact h00)
      rw [← this]; cases bl s <;> rfl
    rw [e1] at HR
    have h0' : (0 : Int) < (d : Int) := by omega
    have hs0 : (0 : Int) < (s.size : Int) := by omega
    have e2 : decide (some s[0] = some (48 : UInt8)) = (((s[0].toNat : Nat) : Int) == 48) := by
      by_cases h : s[0] = 48
      · rw [h]; decide
      · have h' : ¬ ((s[0].toNat : Nat) : Int) = 48 := fun e => h (UInt8.toNat_inj.1 (by rw [show (48 : UInt8).toNat = 48 from rfl]; omega))
        simp [h, h']
    have e3 : decide (bl s = [48]) = (s.toList == [48]) := by rw [Lib.toList_data]; show decide (bl s = [48]) = (bl s == [48]); rw [Bool.eq_iff_iff]; simp
    rw [e2, e3] at HR
    rw [decide_eq_true h0] at HR
    clear e1 e2 e3
    by_cases hd : d = s.size
    · subst hd
      rw [decide_eq_true rfl] at HR
      by_cases hn : n ≤ 274877906944
      · have hn' : (n : Int) ≤ 274877906944 := by omega
        rw [decide_eq_true hn] at HR
        have HRR := Lib.hid HR
        clear HR hn h0
        go_enter Tryz.func85, Tryz.ntmps85
        go_wp2_with (first | (go_at_call 64; refine (HN.out _).mono ?_; rintro e w' ⟨rfl, rfl⟩))
        all_goals
          go_ret
          refine ⟨?_, rfl⟩
          rw [← HRR.out]
          first | rfl | simp [*]
      · have hn' : ¬ (n : Int) ≤ 274877906944 := by omega
        rw [decide_eq_false hn] at HR
        simp only [Bool.and_false, Bool.false_and] at HR
        subst HR
        clear hn h0
        go_enter Tryz.func85, Tryz.ntmps85
        go_wp2_with (first | (go_at_call 64; refine (HN.out _).mono ?_; rintro e w' ⟨rfl, rfl⟩))
        go_ret
        exact ⟨rfl, rfl⟩
    · have hd' : ¬ (d : Int) = (s.size : Int) := by omega
      have hnb : ((d : Int) == (s.size : Int)) = false := by simpa using hd'
      rw [decide_eq_false hd] at HR
      simp only [Bool.and_false, Bool.false_and] at HR
      subst HR
      clear hd h0
      go_enter Tryz.func85, Tryz.ntmps85
      go_wp2_with (first | (go_at_call 64; refine (HN.out _).mono ?_; rintro e w' ⟨rfl, rfl⟩))
      go_ret
      exact ⟨rfl, rfl⟩
  · have h0' : ¬ (0 : Int) < (d : Int) := by omega
    rw [decide_eq_false h0] at HR
    simp only [Bool.false_and] at HR
    subst HR
    go_enter Tryz.func85, Tryz.ntmps85
    go_wp2_with (first | (go_at_call 64; refine (HN.out _).mono ?_; rintro e w' ⟨rfl, rfl⟩))
    go_ret
    exact ⟨rfl, rfl⟩
theorem cut_len2 (l : List UInt8) (c : UInt8) : (cutL l c).2.1.length ≤ l.length := by
  unfold cutL; split
  · simp
  · simp
theorem bare_len (l : List UInt8) : (bareL l).length ≤ l.length := by
  unfold bareL Lib.trimS Lib.trimLeftS Lib.trimRightS
  refine Nat.le_trans (List.dropWhile_sublist _).length_le ?_
  rw [List.length_reverse]
  refine Nat.le_trans (List.dropWhile_sublist _).length_le ?_
  rw [List.length_reverse]; exact Nat.le_refl _
theorem b_go {W w1 w2 : World} (h1 : Below W.heap.size W w1) (h2 : Below w1.heap.size w1 w2) : Below W.heap.size W w2 := h1.trans (h2.mono h1.size)
theorem tl_eq (a b : ByteArray) (h : ¬ a = b) : (a.toList == b.toList) = false := by
  rw [Lib.toList_data, Lib.toList_data]
  have : ¬ a.data.toList = b.data.toList := fun e => h (bl_inj e)
  simpa using this
set_option maxRecDepth 100000 in
set_option maxHeartbeats 1000000 in
theorem isSize_any (s name : ByteArray) (w : World) (hs : s.size ≤ 100000) : Calls Tryz.prog 57 #[.string s, .string name] w fun e w' => e = .returned (.bool (isSizeL (bl s) (bl name))) ∧ Below w.heap.size w w' := by
  have HC := Lib.hid (fun W => cut_any s 61 W (by omega))
  obtain ⟨r, HR⟩ : ∃ r, isSizeL (bl s) (bl name) = r := ⟨_, rfl⟩
  rw [HR]
  unfold isSizeL at HR
  unfold cutV at HC
  have l1 := cut_len (bl s) 61
  have l2 := cut_len2 (bl s) 61
  rw [bl_size] at l1 l2
  obtain ⟨a, b, ok, hab⟩ : ∃ a b ok, cutL (bl s) 61 = (a, b, ok) := ⟨_, _, _, rfl⟩
  rw [hab] at HC HR l1 l2
  have HA := Lib.hid (fun W => bare_any (st a) W (by rw [st_size]; simp at l1; omega))
  have HB := Lib.hid (fun W => bare_any (st b) W (by rw [st_size]; simp at l2; omega))
  have HI := Lib.hid (fun W => isNumber_any (st (bareL b)) W (by rw [st_size]; have := bare_len b; simp at l2; omega))
  rw [bl_st] at HA HB HI
  change Hid (∀ W : World, Calls Tryz.prog 19 #[.string s, .string ⟨#[61]⟩] W fun e w' => e = .returned (.tuple #[.string (st a), .string (st b), .bool ok]) ∧ Below W.heap.size W w') at HC
  have hr : (ok && decide (bareL a = bl name) && isNumberL (bareL b)) = r := HR
  clear hab HR l1 l2 hs
  cases ok
  · simp only [Bool.false_and] at hr
    subst hr
    generalize st a = A at *
    generalize st b = B at *
    clear HA HB HI
    go_enter Tryz.func57, Tryz.ntmps57
    go_wp2_with (first | (go_at_call 19; refine (HC.out _).mono ?_; rintro e w1 ⟨rfl, hb1⟩))
    go_ret
    exact ⟨rfl, hb1⟩
  · simp only [Bool.true_and] at hr
    by_cases hn : bareL a = bl name
    · rw [decide_eq_true hn] at hr
      simp only [Bool.true_and] at hr
      rw [hn, st_bl] at HA
      rw [hr] at HI
      generalize st (bareL b) = D at *
      generalize st a = A at *
      generalize st b = B at *
      clear hr hn
      go_enter Tryz.func57, Tryz.ntmps57
      go_wp2_with (first | (go_at_call 19; refine (HC.out _).mono ?_; rintro e w1 ⟨rfl, hb1⟩; have HB1 := Lib.hid hb1; clear hb1) | (go_at_call 58; refine (HA.out _).mono ?_; rintro e w2 ⟨rfl, hb2⟩; have HB2 := Lib.hid (b_go HB1.out hb2); clear hb2) | (go_at_call 58; refine (HB.out _).mono ?_; rintro e w3 ⟨rfl, hb3⟩; have HB3 := Lib.hid (b_go HB2.out hb3); clear hb3) | (go_at_call 85; refine (HI.out _).mono ?_; rintro e w' ⟨rfl, rfl⟩))
      go_ret
      exact ⟨rfl, HB3.out⟩
    · rw [decide_eq_false hn] at hr
      simp only [Bool.false_and] at hr
      subst hr
      have hq := tl_eq (st (bareL a)) name (fun e => hn (by rw [← e, bl_st]))
      generalize st (bareL b) = D at *
      generalize st (bareL a) = E at *
      generalize st a = A at *
      generalize st b = B at *
      clear hn HB HI
      go_enter Tryz.func57, Tryz.ntmps57
      go_wp2_with (first | (go_at_call 19; refine (HC.out _).mono ?_; rintro e w1 ⟨rfl, hb1⟩; have HB1 := Lib.hid hb1; clear hb1) | (go_at_call 58; refine (HA.out _).mono ?_; rintro e w2 ⟨rfl, hb2⟩; have HB2 := Lib.hid (b_go HB1.out hb2); clear hb2))
      go_ret
      exact ⟨rfl, HB2.out⟩
end Rl
end Go.Proofs.YtangbokcdgganaaGreatDoor

/-
  RLE: number, readRun, isNumber, isSize: what they answer.
-/
import Derived.Test.YtangbokcdgganaaGreatDoorLa
import Derived.IntWalk
namespace Go.Proofs.YtangbokcdgganaaGreatDoor
open Go.RowKit Ru Ce
open Go.Lib (indexByte hasPrefix)

namespace Rl
theorem num_drop {l : List UInt8} {k : Nat} (h : k < l.length) (n : Nat) : numL (l.drop k) n k = if isNum l[k] = true then numL (l.drop (k + 1)) (min (n * 10 + (l[k].toNat - 48)) 274877906945) (k + 1) else (n, k) := by
  rw [List.drop_eq_getElem_cons h]; rfl
theorem num_end {l : List UInt8} {k : Nat} (h : ¬ k < l.length) (n : Nat) : numL (l.drop k) n k = (n, k) := by
  rw [List.drop_eq_nil_of_le (by omega)]; rfl
theorem at_bl (s : ByteArray) (k : Nat) (_h : k < s.size) (_h2 : k < (bl s).length) : (bl s)[k] = s[k] := rfl
theorem number_any (s : ByteArray) (w : World) (hs : s.size ≤ 100000) : Calls Tryz.prog 64 #[.string s] w fun e w' => e = .returned (.tuple #[.int .i64 (numL (bl s) 0 0).1, .int .i64 (numL (bl s) 0 0).2]) ∧ w' = w := by
  go_enter Tryz.func64, Tryz.ntmps64
  go_wp2
  go_loopw [2, 3] (fun x y wr => ∃ n k : Nat, n ≤ 274877906945 ∧ k ≤ s.size ∧ x = .int .i64 n ∧ y = .int .i64 k ∧ wr = w ∧ Hid (numL ((bl s).drop k) n k = numL (bl s) 0 0)) (fun _ y _ => s.size - (intOf y).toNat)
  case atStart => exact ⟨0, 0, by omega, by omega, rfl, rfl, rfl, Lib.hid rfl⟩
  case round =>
    obtain ⟨n, k, hn, hk, rfl, rfl, rfl, HN⟩ := hrel
    have k0 : (0 : Int) ≤ (k : Int) := by omega
    by_cases hlt : k < s.size
    · have hlt' : (k : Int) < (s.size : Int) := by omega
      have hl : k < (bl s).length := by rw [bl_size]; exact hlt
      have HS := Lib.hid (num_drop hl n)
      have HN' := Lib.hid (HS.out.symm.trans HN.out)
      rw [at_bl s k hlt hl] at HN'
      clear HS HN
      have hc2 : (s[k]).toNat < 256 := (s[k]).toNat_lt
      by_cases hd : isNum s[k] = true
      · rw [if_pos hd] at HN'
        unfold isNum at hd
        have h48 : (48 : Int) ≤ ((s[k]).toNat : Int) := by simp at hd; omega
        have h57 : ((s[k]).toNat : Int) ≤ 57 := by simp at hd; omega
        clear hd
        go_wp2
        go_roundw
        case rel => exact ⟨min (n * 10 + ((s[k]).toNat - 48)) 274877906945, k + 1, by omega, by omega, by go_num, by go_num, trivial, HN'⟩
        case measure => simp [RowKit.intOf]; omega
      · rw [if_neg hd] at HN'
        by_cases h48 : (48 : Int) ≤ ((s[k]).toNat : Int)
        · have h57 : (57 : Int) < ((s[k]).toNat : Int) := by unfold isNum at hd; simp at hd; omega
          clear hd
          go_wp2
          go_ret2
          exact ⟨by rw [← HN'.out]; rfl, rfl⟩
        · have h48' : ((s[k]).toNat : Int) < 48 := by omega
          clear hd h48
          go_wp2
          go_ret2
          exact ⟨by rw [← HN'.out]; rfl, rfl⟩
    · obtain rfl : k = s.size := by omega
      have HN' := Lib.hid ((num_end (l := bl s) (k := s.size) (by rw [bl_size]; omega) n).symm.trans HN.out)
      clear HN
      go_wp2
      go_ret2
      exact ⟨by rw [← HN'.out]; rfl, rfl⟩
theorem tag_ix (c : UInt8) : isTag c = decide (0 ≤ indexByte [98, 111, 36] c) := by
  unfold isTag
  by_cases h1 : c = 98
  · subst h1; decide
  · by_cases h2 : c = 111
    · subst h2; decide
    · by_cases h3 : c = 36
      · subst h3; decide
      · have e1 : ¬ (98 : UInt8) = c := fun e => h1 e.symm
        have e2 : ¬ (111 : UInt8) = c := fun e => h2 e.symm
        have e3 : ¬ (36 : UInt8) = c := fun e => h3 e.symm
        simp [indexByte, h1, h2, h3, e1, e2, e3]
theorem u8_back (c : UInt8) : (((c.toNat : Nat) : Int)).toNat.toUInt8 = c := by simp
theorem readRun_any (s : ByteArray) (w : World) (hs : s.size ≤ 100000) : Calls Tryz.prog 40 #[.string s] w fun e w' => e = .returned (.tuple #[.int .i64 (runL (bl s)).1, .int .i64 (runL (bl s)).2.1, .bool (runL (bl s)).2.2]) ∧ w' = w := by
  have HP := Lib.hid (fun W => hasp_any s 48 W)
  obtain ⟨r, HR⟩ : ∃ r, runL (bl s) = r := ⟨_, rfl⟩
  rw [HR]
  unfold runL at HR
  by_cases h0 : (bl s).head? = some 48
  · rw [decide_eq_true h0] at HP
    rw [if_pos h0] at HR
    subst HR
    clear h0
    go_enter Tryz.func40, Tryz.ntmps40
    go_wp2_with (go_at_call 34; refine (HP.out _).mono ?_; rintro e w' ⟨rfl, rfl⟩)
    go_ret3
    exact ⟨rfl, rfl⟩
  · rw [decide_eq_false h0] at HP
    rw [if_neg h0] at HR
    have HN := Lib.hid (fun W => number_any s W hs)
    have hle := (numL_le (bl s) 0 0).2
    rw [bl_size] at hle
    obtain ⟨n, d, hnd⟩ : ∃ n d, numL (bl s) 0 0 = (n, d) := ⟨_, _, rfl⟩
    rw [hnd] at HN HR hle
    clear hnd
    by_cases hd : d < s.size
    · have HI := Lib.hid (fun W => ixb_any ⟨#[98, 111, 36]⟩ (s[d].toNat : Nat) (s[d]) (u8_back _) W)
      have e1 : (bl s)[d]? = some s[d] := getElem?_pos (bl s) d (by rw [bl_size]; exact hd)
      rw [e1] at HR
      have d0 : (0 : Int) ≤ (d : Int) := by omega
      have hd' : (d : Int) < (s.size : Int) := by omega
      have hne : ¬ (d : Int) = (s.size : Int) := by omega
      have hnb : ((d : Int) == (s.size : Int)) = false := by simpa using hne
      by_cases ht : isTag s[d] = true
      · have hi : 0 ≤ indexByte [98, 111, 36] s[d] := by rw [tag_ix] at ht; exact of_decide_eq_true ht
        rw [show (some s[d]).any isTag = isTag s[d] from rfl, if_pos ht] at HR
        subst HR
        change Hid (∀ W : World, Calls Tryz.prog 35 #[.string ⟨#[98, 111, 36]⟩, .int .u8 (s[d].toNat : Nat)] W fun e w' => e = .returned (.int .i64 (indexByte [98, 111, 36] s[d])) ∧ w' = W) at HI
        generalize indexByte [98, 111, 36] s[d] = i at HI hi
        have hi' : ¬ i < 0 := by omega
        clear ht e1 h0
        go_enter Tryz.func40, Tryz.ntmps40
        go_wp2_with (first | (go_at_call 34; refine (HP.out _).mono ?_; rintro e w' ⟨rfl, rfl⟩) | (go_at_call 64; refine (HN.out _).mono ?_; rintro e w' ⟨rfl, rfl⟩) | (go_at_call 35; refine (HI.out _).mono ?_; rintro e w' ⟨rfl, rfl⟩))
        go_ret3
        exact ⟨by simp; omega, rfl⟩
      · have hi : indexByte [98, 111, 36] s[d] < 0 := by rw [tag_ix] at ht; simp at ht; exact ht
        rw [show (some s[d]).any isTag = isTag s[d] from rfl, if_neg ht] at HR
        subst HR
        change Hid (∀ W : World, Calls Tryz.prog 35 #[.string ⟨#[98, 111, 36]⟩, .int .u8 (s[d].toNat : Nat)] W fun e w' => e = .returned (.int .i64 (indexByte [98, 111, 36] s[d])) ∧ w' = W) at HI
        generalize indexByte [98, 111, 36] s[d] = i at HI hi
        clear ht e1 h0
        go_enter Tryz.func40, Tryz.ntmps40
        go_wp2_with (first | (go_at_call 34; refine (HP.out _).mono ?_; rintro e w' ⟨rfl, rfl⟩) | (go_at_call 64; refine (HN.out _).mono ?_; rintro e w' ⟨rfl, rfl⟩) | (go_at_call 35; refine (HI.out _).mono ?_; rintro e w' ⟨rfl, rfl⟩))
        go_ret3
        exact ⟨rfl, rfl⟩
    · obtain rfl : d = s.size := by omega
      have e1 : (bl s)[s.size]? = none := List.getElem?_eq_none (by rw [bl_size]; omega)
      rw [e1] at HR
      simp only [Option.any_none, Bool.false_eq_true, if_false] at HR
      subst HR
      clear e1 h0 hd
      go_enter Tryz.func40, Tryz.ntmps40
      go_wp2_with (first | (go_at_call 34; refine (HP.out _).mono ?_; rintro e w' ⟨rfl, rfl⟩) | (go_at_call 64; refine (HN.out _).mono ?_; rintro e w' ⟨rfl, rfl⟩))
      go_ret3
      exact ⟨rfl, rfl⟩
end Rl
end Go.Proofs.YtangbokcdgganaaGreatDoor

/-
  THE WALK of the document's Sorted. Conditions: the cells lie in memory.
-/
import Derived.Test.YtbjpmefjfpefpaaDoorDc
namespace Go.Proofs.YtbjpmefjfpefpaaDoor
open Go.RowKit Ru Ce

/-- what the document's Sorted answers -/
def SortQ (w : World) (L : List Cel) (e : Ending) (w' : World) : Prop :=
  if chkN L = 0 then ∃ v, e = .returned (.tuple #[v, .int .i64 0]) ∧ OwnC 24 w' w.heap.size v (srt L).length (srt L) ∧ Below w.heap.size w w'
  else e = .returned (.tuple #[.slice none 0 0, .int .i64 (chkN L)]) ∧ Below w.heap.size w w'
theorem srt_take (L : List Cel) (k : Nat) (h : k < L.length) : srt (L.take (k + 1)) = put (srt (L.take k)) L[k] := by
  unfold srt
  rw [List.take_succ_eq_append_getElem h, List.foldl_append]
  rfl
set_option maxRecDepth 100000 in
set_option maxHeartbeats 2000000 in
theorem sorted_ref (a : Option Addr) (n c : Nat) (L : List Cel) (w : World) (ha : Cls w a L) (hn : L.length = n) (hm : n ≤ 9223372036854775807) :
    Calls Tryd.prog 9 #[.slice a n c] w (SortQ w L) := by
  have HA := Lib.hid ha
  have HL := Lib.hid hn
  by_cases h1 : 4096 < n
  · have HR := Lib.hid (show ∀ w', Below w.heap.size w w' → SortQ w L (.returned (.tuple #[.slice none 0 0, .int .i64 2])) w' from fun w' hb => by
      have e : chkN L = 2 := by unfold chkN; rw [if_pos (by omega)]
      unfold SortQ
      rw [if_neg (by rw [e]; decide), e]
      exact ⟨rfl, hb⟩)
    have i1 : (4096 : Int) < (n : Int) := by omega
    clear ha hn hm h1
    go_enter Tryd.func9, Tryd.ntmps9
    go_wp2
    go_ret2
    exact HR.out _ (Below.refl _ _)
  · have i1 : ¬ (4096 : Int) < (n : Int) := by omega
    have HM := Lib.hid (show n ≤ 4096 by omega)
    have HRB := Lib.hid (show ∀ w', L.all okc = false → Below w.heap.size w w' → SortQ w L (.returned (.tuple #[.slice none 0 0, .int .i64 4])) w' from fun w' hq hb => by
      have e : chkN L = 4 := by unfold chkN; rw [if_neg (by omega), hq]; rfl
      unfold SortQ
      rw [if_neg (by rw [e]; decide), e]
      exact ⟨rfl, hb⟩)
    have HRG := Lib.hid (show ∀ v w', L.all okc = true → OwnC 24 w' w.heap.size v (srt L).length (srt L) → Below w.heap.size w w' → SortQ w L (.returned (.tuple #[v, .int .i64 0])) w' from fun v w' hq ho hb => by
      have e : chkN L = 0 := by unfold chkN; rw [if_neg (by omega), if_pos hq]
      unfold SortQ
      rw [if_pos e]
      exact ⟨v, rfl, ho, hb⟩)
    clear ha hn hm h1
    go_enter Tryd.func9, Tryd.ntmps9
    go_wp2
    have hm := HM.out
    go_loopw [4] (fun i wr => ∃ k : Nat, k ≤ n ∧ i = .int .i64 k ∧ Hid ((L.take k).all okc = true) ∧ Hid (Below w.heap.size w wr)) (fun i _ => n - (intOf i).toNat)
    case atStart => exact ⟨0, by omega, rfl, Lib.hid (by simp), Lib.hid (Below.refl _ _)⟩
    case round =>
      obtain ⟨k, hk, rfl, HT, HB⟩ := hrel
      have i0 : (0 : Int) ≤ (k : Int) := by omega
      by_cases hlt : k < n
      · have hkl : k < L.length := by rw [HL.out]; exact hlt
        obtain ⟨b, off, rfl, c0, c1⟩ := (HA.out.below HB.out (Nat.le_refl _)) k hkl
        have i2 : (k : Int) < (n : Int) := by omega
        have HS := Lib.hid (show (L.take (k + 1)).all okc = okc L[k] by
          rw [List.take_succ_eq_append_getElem hkl, List.all_append, HT.out]; simp)
        have HMem := Lib.hid (show L[k] ∈ L from List.getElem_mem hkl)
        obtain ⟨y, hy⟩ : ∃ y, y = L[k] := ⟨_, rfl⟩
        rw [← hy] at c0 c1 HS HMem
        clear hy
        have HV := Lib.hid (fun W => away_ref y W)
        unfold cv at HV
        cases hq : okc y
        · rw [hq] at HV
          have HE := Lib.hid (show L.all okc = false by
            rw [Bool.eq_false_iff]
            intro q
            rw [List.all_eq_true] at q
            rw [q y HMem.out] at hq
            cases hq)
          clear hq
          go_wp2_with (go_at_call 25; refine (HV.out _).mono ?_; rintro e w1 ⟨rfl, hb1⟩; have HB1 := Lib.hid (HB.out.trans (hb1.mono HB.out.size)); clear hb1)
          go_ret2
          exact HRB.out _ HE.out HB1.out
        · rw [hq] at HV HS
          clear hq
          go_wp2_with (go_at_call 25; refine (HV.out _).mono ?_; rintro e w1 ⟨rfl, hb1⟩; have HB1 := Lib.hid (HB.out.trans (hb1.mono HB.out.size)); clear hb1)
          go_roundw
          case rel => exact ⟨k + 1, by omega, by go_num, HS, HB1⟩
          case measure => simp [intOf]; omega
      · obtain rfl : k = n := by omega
        have HALL := Lib.hid (show L.all okc = true by
          have e : L.take k = L := List.take_of_length_le (by rw [HL.out]; exact Nat.le_refl _)
          have := HT.out
          rwa [e] at this)
        clear HT hlt
        go_wp2
        go_loopw [6, 5] (fun i v wr => ∃ j : Nat, j ≤ k ∧ i = .int .i64 j ∧ Hid (OwnC 24 wr w.heap.size v (srt (L.take j)).length (srt (L.take j))) ∧ Hid (Below w.heap.size w wr)) (fun i _ _ => k - (intOf i).toNat)
        case atStart => exact ⟨0, by omega, rfl, Lib.hid (by rw [List.take_zero]; exact World.ownsRow_nil _ _ _ _), HB⟩
        case round =>
          obtain ⟨j, hj, rfl, HO, HBJ⟩ := hrel
          have j0 : (0 : Int) ≤ (j : Int) := by omega
          by_cases hlt : j < k
          · have hjl : j < L.length := by rw [HL.out]; exact hlt
            obtain ⟨b, off, rfl, c0, c1⟩ := (HA.out.below HBJ.out (Nat.le_refl _)) j hjl
            have j1 : (j : Int) < (k : Int) := by omega
            have HS := Lib.hid (srt_take L j hjl)
            have HLN := Lib.hid (show (srt (L.take j)).length ≤ 100000 from Nat.le_trans (srt_len _) (by rw [List.length_take]; omega))
            obtain ⟨y, hy⟩ : ∃ y, y = L[j] := ⟨_, rfl⟩
            rw [← hy] at c0 c1 HS
            clear hy
            have HPUT := Lib.hid (put_ref HO.out HBJ.out.size HLN.out y)
            unfold cv at HPUT
            go_wp2_with (go_at_call 26; refine HPUT.out.mono ?_; rintro e w1 ⟨v1, rfl, ho1, _, hb1⟩; have HB1 := Lib.hid (HBJ.out.trans (hb1.mono HBJ.out.size)); have HO1 := Lib.hid (show OwnC 24 w1 w.heap.size v1 (srt (L.take (j + 1))).length (srt (L.take (j + 1))) by rw [HS.out]; exact ho1); clear hb1 ho1)
            go_roundw
            case rel => exact ⟨j + 1, by omega, by go_num, HO1, HB1⟩
            case measure => simp [intOf]; omega
          · obtain rfl : j = k := by omega
            have e : L.take j = L := List.take_of_length_le (by rw [HL.out]; exact Nat.le_refl _)
            rw [e] at HO
            obtain ⟨ao, cap, rfl, _⟩ := own_cls HO.out
            clear e
            go_wp2
            go_ret2
            exact HRG.out _ _ HALL.out HO.out HBJ.out
end Go.Proofs.YtbjpmefjfpefpaaDoor

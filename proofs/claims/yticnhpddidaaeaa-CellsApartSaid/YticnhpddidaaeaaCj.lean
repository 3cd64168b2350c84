/-
  THE WALKS of Sorted; slices.Index, Contains, Has. Conditions: the cells lie in memory.
-/

import Derived.Test.YticnhpddidaaeaaCi
namespace Go.Proofs.Yticnhpddidaaeaa
open Go.RowKit Ru Ce

theorem own_monoC {T : TypeId} {w : World} {B B' : Nat} {v : Value} {n : Nat} {L : List Cel} (h : OwnC T w B v n L) (hB : B' ≤ B) : OwnC T w B' v n L := by
  refine ⟨h.1, ?_⟩
  rcases h.2 with h1 | ⟨g, cap, cur, a, b, c⟩
  · exact .inl h1
  · exact .inr ⟨g, cap, cur, a, Nat.le_trans hB b, c⟩
def SortedR (w : World) (L : List Cel) (e : Ending) (w' : World) : Prop :=
  if chkN L = 0 then ∃ v, e = .returned (.tuple #[v, .nilIface]) ∧ OwnC 31 w' w.heap.size v (srt L).length (srt L) ∧ Below w.heap.size w w'
  else e = .returned (.tuple #[.slice none 0 0, errv (chkN L)]) ∧ Below w.heap.size w w'
theorem chkN_zero {L : List Cel} (h : chkN L = 0) : L.length ≤ 4096 ∧ ∀ x ∈ L, okc x = true := by
  unfold chkN at h
  split at h
  · cases h
  · split at h
    · rename_i h1 h2
      exact ⟨by omega, List.all_eq_true.1 h2⟩
    · cases h
theorem errv_some {k : Nat} (h : ¬ k = 0) : errv k = .iface 41 (.int .i64 k) := by unfold errv; rw [if_neg h]
set_option maxRecDepth 100000 in
set_option maxHeartbeats 1000000 in
theorem sorted_any (a : Option Addr) (n c : Nat) (L : List Cel) (w : World) (ha : Cls w a L) (hn : L.length = n) (hz : a = none → n = 0) (hm : n ≤ 9223372036854775807) :
    Calls Try.prog 10 #[.slice a n c] w (SortedR w L) := by
  have HC := Lib.hid (check_any a n c L w ha hn hm)
  have HA := Lib.hid ha
  have HL := Lib.hid hn
  have HZ := Lib.hid hz
  by_cases h : chkN L = 0
  · obtain ⟨h1, _⟩ := chkN_zero h
    rw [h] at HC
    have HM := Lib.hid (show n ≤ 4096 by omega)
    have HR := Lib.hid (show ∀ v w', OwnC 31 w' w.heap.size v (srt L).length (srt L) → Below w.heap.size w w' → SortedR w L (.returned (.tuple #[v, .nilIface])) w' by
      intro v w' h3 h4
      unfold SortedR
      rw [if_pos h]
      exact ⟨v, rfl, h3, h4⟩)
    have e0 : errv 0 = .nilIface := rfl
    rw [e0] at HC
    clear h h1 e0 ha hn hz hm
    go_enter Try.func10, Try.ntmps10
    go_wp2_with (first
      | (go_at_call 16; refine HC.out.mono ?_; rintro e w1 ⟨rfl, hb1⟩; have HB1 := Lib.hid hb1; clear hb1)
      | (go_at_call 17; refine (clone_any a n c L _ (HA.out.below HB1.out (Nat.le_refl _)) HL.out HZ.out (by have := HM.out; omega)).mono ?_; rintro e w2 ⟨v2, rfl, ho2, hb2⟩; have HB2 := Lib.hid (HB1.out.trans (hb2.mono HB1.out.size)); have HO2 := Lib.hid (show OwnC 31 w2 w.heap.size v2 n L by have := ho2; rw [HL.out] at this; exact own_monoC this HB1.out.size); clear hb2 ho2)
      | (go_at_call 13; refine (sort_any HO2.out HB2.out.size (by have := HM.out; omega)).mono ?_; rintro e w3 ⟨rfl, L3, hp3, hk3, ho3, hb3⟩; have HO3 := Lib.hid ho3; have HB3 := Lib.hid (HB2.out.trans hb3); have HP3 := Lib.hid hp3; have HK3 := Lib.hid hk3; clear ho3 hb3 hp3 hk3)
      | (go_at_call 18; refine (compact_any HO3.out HB3.out.size (by have := HM.out; omega)).mono ?_; rintro e w4 ⟨v4, rfl, ho4, hb4⟩; have HO4 := Lib.hid (show OwnC 31 w4 w.heap.size v4 (srt L).length (srt L) by rw [← dd_srt HK3.out HP3.out]; exact ho4); have HB4 := Lib.hid (HB3.out.trans hb4); clear ho4 hb4))
    obtain ⟨ao, cap, rfl, _⟩ := own_cls HO4.out
    go_ret2
    exact HR.out _ _ HO4.out HB4.out
  · have HR := Lib.hid (show ∀ w', Below w.heap.size w w' → SortedR w L (.returned (.tuple #[.slice none 0 0, errv (chkN L)])) w' by
      intro w' h4
      unfold SortedR
      rw [if_neg h]
      exact ⟨rfl, h4⟩)
    rw [errv_some h] at HC HR
    clear h ha hn hz hm
    go_enter Try.func10, Try.ntmps10
    go_wp2_with (go_at_call 16; refine HC.out.mono ?_; rintro e w1 ⟨rfl, hb1⟩; have HB1 := Lib.hid hb1; clear hb1)
    go_ret2
    exact HR.out _ HB1.out
set_option maxRecDepth 100000 in
set_option maxHeartbeats 1000000 in
theorem index_any (a : Option Addr) (n c : Nat) (L : List Cel) (x : Cel) (w : World) (ha : Cls w a L) (hn : L.length = n) (hm : n ≤ 9223372036854775807) :
    Calls Try.prog 26 #[.slice a n c, .agg #[.int .i64 x.1, .int .i64 x.2]] w
      fun e w' => ∃ k : Int, e = .returned (.int .i64 k) ∧ decide (0 ≤ k) = decide (x ∈ L) ∧ Below w.heap.size w w' := by
  have HA := Lib.hid ha
  have HL := Lib.hid hn
  clear ha hn
  go_enter Try.func26, Try.ntmps26
  go_wp2
  have hh := heap_alloc_new w (.cells #[.int .i64 x.1, .int .i64 x.2] 31)
  have HX := Lib.hid (And.intro (cell_of_row _ _ 0 _ _ _ hh) (cell_of_row _ _ 1 _ _ _ hh))
  have HB0 := Lib.hid (alX w (.cells #[.int .i64 x.1, .int .i64 x.2] 31))
  have HS0 := Lib.hid (show w.heap.size < (w.alloc (.cells #[.int .i64 x.1, .int .i64 x.2] 31)).heap.size by simp)
  clear hh
  generalize w.alloc (.cells #[.int .i64 x.1, .int .i64 x.2] 31) = w0 at HX HB0 HS0 ⊢
  go_loopw [8, 5] (fun i _ wr => ∃ k : Nat, k ≤ n ∧ i = .int .i64 k ∧ Hid (¬ x ∈ L.take k) ∧ Hid (∃ q, wr = w0.drewN q)) (fun i _ _ => n - (intOf i).toNat)
  case atStart => exact ⟨0, by omega, rfl, Lib.hid (by simp), Lib.hid ⟨0, rfl⟩⟩
  case round =>
    obtain ⟨k, hk, rfl, HT, HQ⟩ := hrel
    obtain ⟨q, hq⟩ := HQ.out
    have HB := Lib.hid (show Below w.heap.size w wr by rw [hq]; exact bdn HB0.out q)
    obtain ⟨a0, a1⟩ : wr.cell? ⟨w.heap.size, 0, none⟩ = some (.int .i64 x.1) ∧ wr.cell? ⟨w.heap.size, 1, none⟩ = some (.int .i64 x.2) := by rw [hq]; exact HX.out
    have HQ1 := Lib.hid (show ∀ m, ∃ q, wr.drewN m = w0.drewN q from fun m => ⟨q + m, by rw [hq, World.drewN_drewN]⟩)
    clear HQ hq
    by_cases hlt : k < n
    · have hkl : k < L.length := by rw [HL.out]; exact hlt
      obtain ⟨b, off, rfl, c0, c1⟩ := (HA.out.below HB.out (Nat.le_refl _)) k hkl
      have i0 : (0 : Int) ≤ (k : Int) := by omega
      have i1 : (k : Int) < (n : Int) := by omega
      have HS := Lib.hid (show L.take (k + 1) = L.take k ++ [L[k]] from List.take_succ_eq_append_getElem hkl)
      have HMem := Lib.hid (show L[k] ∈ L from List.getElem_mem hkl)
      obtain ⟨y, hy⟩ : ∃ y, y = L[k] := ⟨_, rfl⟩
      rw [← hy] at c0 c1 HS HMem
      clear hy
      have he := eql_a x y
      by_cases hxy : x = y
      · have hd : decide (x = y) = true := by simpa using hxy
        rw [hd] at he
        have HE := Lib.hid (show decide (0 ≤ (k : Int)) = decide (x ∈ L) by
          rw [hxy, decide_eq_true HMem.out]; simp)
        clear hxy hd
        go_wp2
        go_quiet (fail)
        go_wp2
        go_ret
        exact ⟨k, rfl, HE.out, bdn HB.out _⟩
      · have hd : decide (x = y) = false := by simpa using hxy
        rw [hd] at he
        have HT2 := Lib.hid (show ¬ x ∈ L.take (k + 1) by
          rw [HS.out, List.mem_append, List.mem_singleton]
          exact fun z => z.elim HT.out hxy)
        clear hxy hd
        go_wp2
        go_quiet (fail)
        go_wp2
        go_roundw
        case rel => exact ⟨k + 1, by omega, by go_num, HT2, Lib.hid (HQ1.out _)⟩
        case measure => simp [intOf]; omega
    · obtain rfl : k = n := by omega
      have HE := Lib.hid (show decide (0 ≤ (-1 : Int)) = decide (x ∈ L) by
        have e : L.take k = L := List.take_of_length_le (by rw [HL.out]; exact Nat.le_refl _)
        have := HT.out
        rw [e] at this
        rw [decide_eq_false this]; rfl)
      go_wp2
      go_ret
      exact ⟨-1, rfl, HE.out, HB.out⟩
theorem contains_any (a : Option Addr) (n c : Nat) (L : List Cel) (x : Cel) (w : World) (ha : Cls w a L) (hn : L.length = n) (hm : n ≤ 9223372036854775807) :
    Calls Try.prog 15 #[.slice a n c, .agg #[.int .i64 x.1, .int .i64 x.2]] w
      fun e w' => e = .returned (.bool (decide (x ∈ L))) ∧ Below w.heap.size w w' := by
  have HI := Lib.hid (fun w (ha : Cls w a L) => index_any a n c L x w ha hn hm)
  have HA := Lib.hid (fun w' (hb : Below w.heap.size w w') => ha.below hb (Nat.le_refl _))
  clear ha hn
  go_enter Try.func15, Try.ntmps15
  go_wp2_with (go_at_call 26; refine (HI.out _ (HA.out _ (alX _ _))).mono ?_; rintro e w' ⟨k, rfl, hk, hb⟩; have HK := Lib.hid hk; have HB := Lib.hid ((alX w _).trans (hb.mono (by simp))); clear hk hb)
  go_ret
  exact ⟨by rw [← HK.out]; rfl, HB.out⟩
theorem has_cells (a : Option Addr) (n c : Nat) (L : List Cel) (x : Cel) (w : World) (ha : Cls w a L) (hn : L.length = n) (hm : n ≤ 9223372036854775807) :
    Calls Try.prog 7 #[.slice a n c, .agg #[.int .i64 x.1, .int .i64 x.2]] w
      fun e w' => e = .returned (.bool (decide (x ∈ L))) ∧ Below w.heap.size w w' := by
  have HI := Lib.hid (fun w (ha : Cls w a L) => contains_any a n c L x w ha hn hm)
  have HA := Lib.hid (fun w' (hb : Below w.heap.size w w') => ha.below hb (Nat.le_refl _))
  clear ha hn
  generalize decide (x ∈ L) = r at HI ⊢
  go_enter Try.func7, Try.ntmps7
  go_wp2_with (go_at_call 15; refine (HI.out _ (HA.out _ (alX _ _))).mono ?_; rintro e w' ⟨rfl, hb⟩; have HB := Lib.hid ((alX w _).trans (hb.mono (by simp))); clear hb)
  go_ret
  exact ⟨rfl, HB.out⟩
end Go.Proofs.Yticnhpddidaaeaa

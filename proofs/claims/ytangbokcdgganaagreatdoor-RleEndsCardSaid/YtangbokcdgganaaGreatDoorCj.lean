/-
  THE WALKS of Sorted; slices.Index, Contains, Has. Conditions: the cells lie in memory.
-/

import Derived.Test.YtangbokcdgganaaGreatDoorCi
namespace Go.Proofs.YtangbokcdgganaaGreatDoor
open Go.RowKit Ru Ce

theorem own_monoC {T : TypeId} {w : World} {B B' : Nat} {v : Value} {n : Nat} {L : List Cel} (h : OwnC T w B v n L) (hB : B' ≤ B) : OwnC T w B' v n L := by
  refine ⟨h.1, ?_⟩
  rcases h.2 with h1 | ⟨g, cap, cur, a, b, c⟩
  · exact .inl h1
  · exact .inr ⟨g, cap, cur, a, Nat.le_trans hB b, c⟩
def SortedR (w : World) (L : List Cel) (e : Ending) (w' : World) : Prop :=
  if chkN L = 0 then ∃ v, e = .returned (.tuple #[v, .nilIface]) ∧ OwnC 25 w' w.heap.size v (srt L).length (srt L) ∧ Below w.heap.size w w'
  else e = .returned (.tuple #[.slice none 0 0, errv (chkN L)]) ∧ Below w.heap.size w w'
theorem chkN_zero {L : List Cel} (h : chkN L = 0) : L.length ≤ 4096 ∧ ∀ x ∈ L, okc x = true := by
  unfold chkN at h
  split at h
  · cases h
  · split at h
    · rename_i h1 h2
      exact ⟨by omega, List.all_eq_true.1 h2⟩
    · cases h
theorem errv_some {k : Nat} (h : ¬ k = 0) : errv k = .iface 48 (.int .i64 k) := by unfold errv; rw [if_neg h]
set_option maxRecDepth 100000 in
set_option maxHeartbeats 1000000 in
theorem sorted_any (a : Option Addr) (n c : Nat) (L : List Cel) (w : World) (ha : Cls w a L) (hn : L.length = n) (hz : a = none → n = 0) (hm : n ≤ 9223372036854775807) :
    Calls Tryz.prog 12 #[.slice a n c] w (SortedR w L) := by
  have HC := Lib.hid (check_any a n c L w ha hn hm)
  have HA := Lib.hid ha
  have HL := Lib.hid hn
  have HZ := Lib.hid hz
  by_cases h : chkN L = 0
  · obtain ⟨h1, _⟩ := chkN_zero h
    rw [h] at HC
    have HM := Lib.hid (show n ≤ 4096 by omega)
    have HR := Lib.hid (show ∀ v w', OwnC 25 w' w.heap.size v (srt L).length (srt L) → Below w.heap.size w w' → SortedR w L (.returned (.tuple #[v, .nilIface])) w' by
      intro v w' h3 h4
      unfold SortedR
      rw [if_pos h]
      exact ⟨v, rfl, h3, h4⟩)
    have e0 : errv 0 = .nilIface := rfl
    rw [e0] at HC
    clear h h1 e0 ha hn hz hm
    go_enter Tryz.func12, Tryz.ntmps12
    go_wp2_with (first
      | (go_at_call 25; refine HC.out.mono ?_; rintro e w1 ⟨rfl, hb1⟩; have HB1 := Lib.hid hb1; clear hb1)
      | (go_at_call 26; refine (clone_any a n c L _ (HA.out.below HB1.out (Nat.le_refl _)) HL.out HZ.out (by have := HM.out; omega)).mono ?_; rintro e w2 ⟨v2, rfl, ho2, hb2⟩; have HB2 := Lib.hid (HB1.out.trans (hb2.mono HB1.out.size)); have HO2 := Lib.hid (show OwnC 25 w2 w.heap.size v2 n L by have := ho2; rw [HL.out] at this; exact own_monoC this HB1.out.size); clear hb2 ho2)
      | (go_at_call 27; refine (sort_any HO2.out HB2.out.size (by have := HM.out; omega)).mono ?_; rintro e w3 ⟨rfl, L3, hp3, hk3, ho3, hb3⟩; have HO3 := Lib.hid ho3; have HB3 := Lib.hid (HB2.out.trans hb3); have HP3 := Lib.hid hp3; have HK3 := Lib.hid hk3; clear ho3 hb3 hp3 hk3)
      | (go_at_call 29; refine (compact_any HO3.out HB3.out.size (by have := HM.out; omega)).mono ?_; rintro e w4 ⟨v4, rfl, ho4, hb4⟩; have HO4 := Lib.hid (show OwnC 25 w4 w.heap.size v4 (srt L).length (srt L) by rw [← dd_srt HK3.out HP3.out]; exact ho4); have HB4 := Lib.hid (HB3.out.trans hb4); clear ho4 hb4))
    obtain ⟨ao, cap, rfl, _⟩ := own_cls HO4.out
    go_ret2
    exact HR.out _ _ HO4.out HB4.out
  · have HR := Lib.hid (show ∀ w', Below w.heap.size w w' → SortedR w L (.returned (.tuple #[.slice none 0 0, errv (chkN L)])) w' by
      intro w' h4
      unfold SortedR
      rw [if_neg h]
      exact ⟨rfl, h4⟩)
    rw [errv_some h] at HC HR
    clear h ha hn hz hm
    go_enter Tryz.func12, Tryz.ntmps12
    go_wp2_with (go_at_call 25; refine HC.out.mono ?_; rintro e w1 ⟨rfl, hb1⟩; have HB1 := Lib.hid hb1; clear hb1)
    go_ret2
    exact HR.out _ HB1.out
end Go.Proofs.YtangbokcdgganaaGreatDoor

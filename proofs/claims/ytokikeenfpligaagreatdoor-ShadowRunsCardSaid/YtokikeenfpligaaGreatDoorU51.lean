/-
  THE WALK of the statements' own `large`: it tells something, whatever the acts are. Conditions: the acts could be read.
-/
import Derived.WalkKit
import Derived.Test.YtokikeenfpligaaGreatDoorU12
namespace Go.Proofs.YtokikeenfpligaaGreatDoor
open Go.RowKit

def LargeOut (w : World) (e : Ending) (w' : World) : Prop := ∃ B : Bool, e = .returned (.bool B) ∧ w = w'
set_option maxRecDepth 100000 in
set_option maxHeartbeats 1000000 in
theorem large_any (a : Option Addr) (len cap : Nat) (l : Nat → ActV) (w : World) (h : IsActs w a len l) :
    Calls Tryz.prog 8 #[.slice a len cap] w (LargeOut w) := by
  have HA := Lib.hid h
  have hl := h.1
  clear h
  go_enter Tryz.func8, Tryz.ntmps8
  go_wp2
  go_loop [3, 4, 5] (fun i _ _ => ∃ k : Nat, k ≤ len ∧ k ≤ 60 ∧ i = .int .i64 k) (fun i _ _ => 60 - (intOf i).toNat)
  case atStart => exact ⟨0, by omega, by omega, rfl⟩
  case round =>
    obtain ⟨k, hk, hk6, rfl⟩ := hrel
    have k0 : (0 : Int) ≤ (k : Int) := by omega
    by_cases hlt : k < len
    · by_cases h6 : k < 60
      · obtain ⟨b, o, rfl, hr, hok⟩ := HA.out.2 k hlt
        have c6 : w.cell? ⟨b, o + k * 7 + 6, none⟩ = some (.slice (l k).a (l k).q (l k).c) := hr 6 _ rfl
        have HOK := Lib.hid hok.pg
        have hq := hok.pg.max
        have j1 : (k : Int) < (len : Int) := by omega
        have j2 : (k : Int) < 60 := by omega
        clear hr hok
        generalize (l k).a = ra at c6 HOK
        generalize (l k).q = q at c6 HOK hq
        generalize (l k).c = rc at c6
        generalize (l k).rs = rs at HOK
        go_wp2_with fail
        go_loop [4, 5] (fun m i => ∃ (j : Nat) (t : Nat), j ≤ q ∧ j ≤ 300 ∧ i = .int .i64 j ∧ m = .int .i64 t ∧ t ≤ j * 5000) (fun _ i => 300 - (intOf i).toNat)
        case atStart => exact ⟨0, 0, by omega, by omega, rfl, rfl, by omega⟩
        case round =>
          obtain ⟨j, t, hj, hj3, rfl, rfl, ht⟩ := hrel
          have i0 : (0 : Int) ≤ (j : Int) := by omega
          by_cases hlj : j < q
          · have hjl : j < rs.length := by rw [HOK.out.len]; exact hlj
            obtain ⟨b2, off2, ra2, rc2, rfl, hcell, _⟩ := HOK.out.recs j hjl
            generalize rs[j].length = L at hcell
            have i1 : (j : Int) < (q : Int) := by omega
            by_cases h3 : j < 300
            · have i2 : (j : Int) < 300 := by omega
              have HT := Lib.hid (show ∃ t2 : Nat, (t : Int) + (if 5000 < (L : Int) then 5000 else (L : Int)) = (t2 : Int) ∧ t2 ≤ (j + 1) * 5000 by
                by_cases h : 5000 < (L : Int)
                · exact ⟨t + 5000, by rw [if_pos h]; omega, by omega⟩
                · exact ⟨t + L, by rw [if_neg h]; omega, by omega⟩)
              go_wp2
              go_round
              case rel =>
                obtain ⟨t2, e2, h2⟩ := HT.out
                exact ⟨j + 1, t2, by omega, by omega, by go_num, by rw [e2], h2⟩
              case measure => simp [intOf]; omega
            · have i2 : ¬ (j : Int) < 300 := by omega
              have hq2 : (260 : Int) < (q : Int) := by omega
              go_wp2
              go_ret
              exact ⟨true, rfl, rfl⟩
          · obtain rfl : j = q := by omega
            go_wp2
            all_goals first | (go_ret; exact ⟨true, rfl, rfl⟩) | (go_round; (case rel => exact ⟨k + 1, by omega, by omega, by go_num⟩); (case measure => simp [intOf]; omega))
      · go_wp2
        go_ret
        exact ⟨false, rfl, rfl⟩
    · go_wp2
      go_ret
      exact ⟨false, rfl, rfl⟩
end Go.Proofs.YtokikeenfpligaaGreatDoor

/-
  THE WALK of the statements' own `huge`, and texts of bytes that are alike or not. Conditions: the page could be read.
-/
import Derived.Test.YtmfddecndadohaaDoorPin
namespace Go.Proofs.YtmfddecndadohaaDoor
open Go.RowKit Crc

theorem str_ne {xs ys : List Int} (hx : Byte xs) (hy : Byte ys) (h : xs ≠ ys) : ((strOfNums xs).toList == (strOfNums ys).toList) = false := by
  rw [ByteArray.toList_eq, ByteArray.toList_eq, beq_eq_false_iff_ne]
  exact fun e => h (str_inj hx hy e)
theorem str_eq (xs : List Int) : ((strOfNums xs).toList == (strOfNums xs).toList) = true := beq_self_eq_true _
abbrev inPg (ki nu ep si : Int) (a : Option Addr) (n c : Nat) : Obj := .cells #[.int .u8 ki, .int .u32 nu, .int .u64 ep, .int .i64 si, .slice a n c] 26
def HugeOut (n : Nat) (w : World) (e : Ending) (w' : World) : Prop := ∃ B : Bool, e = .returned (.bool B) ∧ (B = false → n ≤ 500) ∧ Below w.heap.size w w'
set_option maxRecDepth 100000 in
theorem huge_any (ki nu ep si : Int) (a : Option Addr) (n c : Nat) (rs : List (List Int)) (w : World) (hr : Recs w a rs) (hn : rs.length = n) (hm : n ≤ 9223372036854775807) :
    Calls Tryd.prog 9 #[.agg #[.int .u8 ki, .int .u32 nu, .int .u64 ep, .int .i64 si, .slice a n c]] w (HugeOut n w) := by
  have HR := Lib.hid (hr.below (alX w (inPg ki nu ep si a n c)))
  have HN := Lib.hid hn
  have HBX := Lib.hid (alX w (inPg ki nu ep si a n c))
  clear hr hn
  go_enter Tryd.func9, Tryd.ntmps9
  go_wp2
  go_loop [3, 4] (fun m i => ∃ (k : Nat) (t : Nat), k ≤ n ∧ k ≤ 600 ∧ i = .int .i64 k ∧ m = .int .i64 t ∧ t ≤ k * 5000) (fun _ i => 600 - (intOf i).toNat)
  case atStart => exact ⟨0, 0, by omega, by omega, rfl, rfl, by omega⟩
  case round =>
    obtain ⟨k, t, hk, hk6, rfl, rfl, ht⟩ := hrel
    by_cases hlt : k < n
    · have hkl : k < rs.length := by rw [HN.out]; exact hlt
      obtain ⟨b, off, ra, rc, rfl, hcell, _⟩ := HR.out k hkl
      generalize rs[k].length = L at hcell
      by_cases h6 : k < 600
      · have HT := Lib.hid (show ∃ t2 : Nat, (t : Int) + (if 5000 < (L : Int) then 5000 else (L : Int)) = (t2 : Int) ∧ t2 ≤ (k + 1) * 5000 by
          by_cases h : 5000 < (L : Int)
          · exact ⟨t + 5000, by rw [if_pos h]; omega, by omega⟩
          · exact ⟨t + L, by rw [if_neg h]; omega, by omega⟩)
        go_wp2
        go_round
        case rel =>
          obtain ⟨t2, e2, h2⟩ := HT.out
          exact ⟨k + 1, t2, by omega, by omega, by go_num, by rw [e2], h2⟩
        case measure => simp [intOf]; omega
      · go_wp2
        all_goals go_ret
        all_goals first | exact ⟨true, rfl, (fun h => Bool.noConfusion h), HBX.out⟩ | exact ⟨_, rfl, (fun _ => by omega), HBX.out⟩
    · obtain rfl : k = n := by omega
      go_wp2
      all_goals go_ret
      all_goals first | exact ⟨true, rfl, (fun h => Bool.noConfusion h), HBX.out⟩ | exact ⟨_, rfl, (fun _ => by omega), HBX.out⟩
end Go.Proofs.YtmfddecndadohaaDoor

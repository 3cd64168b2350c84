/-
  THE WALKS of sum.oneMore, sum.More, sum.Sum and of the document's More: each returns the sum that the plain mathematics says, and the world stays. Conditions: the bytes are bytes, their cells lie in memory.
-/
import Derived.Test.YtokikeenfpligaaGreatDoorProg
import Derived.WalkKit
import Derived.WalkSpells
import Derived.WalkLawsBesides
import Derived.Lib.Hide
import Derived.Test.YtokikeenfpligaaGreatDoorU01
namespace Go.Proofs.YtokikeenfpligaaGreatDoor.Sm
open Go.RowKit Crc

theorem ret_u32 {a b : Int} (h : a = b) : Ending.returned (.int .u32 a) = .returned (.int .u32 b) := by rw [h]

theorem oneMore_any (r : BitVec 32) (x : Int) (h0 : 0 ≤ x) (h1 : x < 256) (w : World) :
    Calls Tryz.prog 158 #[.int .u32 (rg r), .int .u8 x] w fun e w' => e = .returned (.int .u32 (rg (byt r (b8 x)))) ∧ w = w' := by
  have hr := rg_bd r
  go_enter Tryz.func158, Tryz.ntmps158
  go_wp2
  go_loop [0, 9] (fun t i => ∃ k : Nat, k ≤ 8 ∧ i = .int .i64 k ∧ t = .int .u32 (rg (it stp k (r ^^^ b8 x)))) (fun _ i => 8 - (intOf i).toNat)
  case atStart => exact ⟨0, by omega, rfl, by rw [xor_byte]; rfl⟩
  case round =>
    obtain ⟨k, hk, rfl, rfl⟩ := hrel
    have hb := rg_bd (it stp k (r ^^^ b8 x))
    have H : Hid (it stp (k + 1) (r ^^^ b8 x) = stp (it stp k (r ^^^ b8 x))) := Lib.hid (it_succ' _ _ _)
    by_cases hlt : k < 8
    · go_wp2
      go_round
      case rel => exact ⟨k + 1, by omega, by go_num, by rw [stp_int, H.out]⟩
      case measure => simp [intOf]; omega
    · obtain rfl : k = 8 := by omega
      go_wp2
      go_ret
      exact ⟨rfl, rfl⟩

/-- bytes that lie in memory from a on -/
def Lies (w : World) (a : Option Addr) (xs : List Int) : Prop :=
  ∀ i (h : i < xs.length), ∃ b off, a = some ⟨b, off, none⟩ ∧ w.cell? ⟨b, off + i, none⟩ = some (.int .u8 xs[i]) ∧ 0 ≤ xs[i] ∧ xs[i] < 256

theorem more_any (s : BitVec 32) (a : Option Addr) (c : Nat) (xs : List Int) (w : World) (hx : Lies w a xs) (hm : xs.length ≤ 9223372036854775807) :
    Calls Tryz.prog 146 #[.int .u32 (rg s), .slice a xs.length c] w fun e w' => e = .returned (.int .u32 (rg (more s xs))) ∧ w = w' := by
  have hr := rg_bd s
  have hx' := Lib.hid hx
  clear hx
  go_enter Tryz.func146, Tryz.ntmps146
  go_wp2
  go_loop [5, 12] (fun t i => ∃ k : Nat, k ≤ xs.length ∧ i = .int .i64 k ∧ t = .int .u32 (rg (up (~~~s) (xs.take k)))) (fun _ i => xs.length - (intOf i).toNat)
  case atStart => exact ⟨0, by omega, rfl, by rw [not_int]; rfl⟩
  case round =>
    obtain ⟨k, hk, rfl, rfl⟩ := hrel
    by_cases hlt : k < xs.length
    · obtain ⟨b, off, rfl, hc, c0, c1⟩ := hx'.out k hlt
      have H : Hid (up (~~~s) (xs.take (k + 1)) = _) := Lib.hid (up_take (~~~s) xs k hlt)
      go_wp2_with (go_at_call 158; refine (oneMore_any _ _ (by assumption) (by assumption) _).mono ?_; rintro e w' ⟨rfl, rfl⟩)
      go_round
      case rel => exact ⟨k + 1, by omega, by go_num, by rw [H.out]⟩
      case measure => simp [intOf]; omega
    · obtain rfl : k = xs.length := by omega
      go_wp2
      go_ret
      exact ⟨ret_u32 (by rw [not_int]; rfl), rfl⟩

theorem sum_any (a : Option Addr) (c : Nat) (xs : List Int) (w : World) (hx : Lies w a xs) (hm : xs.length ≤ 9223372036854775807) :
    Calls Tryz.prog 127 #[.slice a xs.length c] w fun e w' => e = .returned (.int .u32 (rg (more 0#32 xs))) ∧ w = w' := by
  have hx' := Lib.hid hx
  clear hx
  have h0 : (0 : Int) = rg 0#32 := rfl
  have H0 := Lib.hid h0
  clear h0
  go_enter Tryz.func127, Tryz.ntmps127
  go_wp2_with (go_at_call 146; refine (more_any 0#32 _ _ xs _ hx'.out hm).mono ?_; rintro e w' ⟨rfl, rfl⟩)
  go_ret
  exact ⟨rfl, rfl⟩

/-! ### the document's More -/
set_option maxRecDepth 100000 in
theorem ref_any (s : BitVec 32) (a : Option Addr) (c : Nat) (xs : List Int) (w : World) (hx : Lies w a xs) (hm : xs.length ≤ 9223372036854775807) :
    Calls Tryz.prog 101 #[.int .u32 (rg s), .slice a xs.length c] w fun e w' => e = .returned (.int .u32 (rg (more s xs))) ∧ w = w' := by
  have hr := rg_bd s
  have hx' := Lib.hid hx
  clear hx
  go_enter Tryz.func101, Tryz.ntmps101
  go_wp2
  go_loop [5, 6, 7, 8, 9] (fun t i _ _ _ => ∃ k : Nat, k ≤ xs.length ∧ i = .int .i64 k ∧ t = .int .u32 (rg (up (~~~s) (xs.take k)))) (fun _ i _ _ _ => xs.length - (intOf i).toNat)
  case atStart => exact ⟨0, by omega, rfl, by rw [sub_int]; rfl⟩
  case round =>
    obtain ⟨k, hk, rfl, rfl⟩ := hrel
    by_cases hlt : k < xs.length
    · obtain ⟨b, off, rfl, hc, c0, c1⟩ := hx'.out k hlt
      have H : Hid (up (~~~s) (xs.take (k + 1)) = _) := Lib.hid (up_take (~~~s) xs k hlt)
      go_wp2
      go_loop [5, 7, 8, 9] (fun t c j _ => ∃ (m : Nat) (C X : BitVec 32), m ≤ 8 ∧ j = .int .i64 m ∧ c = .int .u8 (rg C) ∧ t = .int .u32 (rg X) ∧ RefInv (up (~~~s) (xs.take k) ^^^ b8 xs[k]) (b8 xs[k]) m C X) (fun _ _ j _ => 8 - (intOf j).toNat)
      case atStart => exact ⟨0, b8 xs[k], _, by omega, rfl, by rw [rg_b8 _ c0 (by omega)], rfl, RefInv.first _ _⟩
      case round =>
        obtain ⟨m, C, X, hm8, rfl, rfl, rfl, hI⟩ := hrel
        have hcs : rg (b8 xs[k]) < 256 := by rw [rg_b8 _ c0 (by omega)]; exact c1
        have hC1 := hI.small hcs
        have hC0 := rg_bd C
        have hX0 := rg_bd X
        have HI := Lib.hid hI
        have HS := Lib.hid hcs
        clear hI hcs hc c0 c1
        by_cases hlt8 : m < 8
        · go_wp2
          · have ht : (rg X % 2 != rg C % 2) = true := by assumption
            have e := ref_yes X C ht
            go_round
            case rel => exact ⟨m + 1, _, _, by omega, by go_num, by rw [half_rg], by rw [e], HI.out.next⟩
            case measure => simp [intOf]; omega
          · have ht : (rg X % 2 != rg C % 2) = false := by assumption
            have e := ref_no X C ht
            go_round
            case rel => exact ⟨m + 1, _, _, by omega, by go_num, by rw [half_rg], by rw [e], HI.out.next⟩
            case measure => simp [intOf]; omega
        · obtain rfl : m = 8 := by omega
          have HL := Lib.hid (HI.out.last HS.out)
          go_wp2
          go_round
          case rel => exact ⟨k + 1, by omega, by go_num, by rw [HL.out, H.out]⟩
          case measure => simp [intOf]; omega
    · obtain rfl : k = xs.length := by omega
      go_wp2
      go_ret
      exact ⟨ret_u32 (by rw [sub_int, wrap_rg]; rfl), rfl⟩
end Go.Proofs.YtokikeenfpligaaGreatDoor.Sm

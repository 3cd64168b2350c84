/-
  THE WALKS of the document's own Room, put and number. Conditions: the bytes lie in memory.
-/
import Derived.Test.YtmfddecndadohaaDoorRoomW
import Derived.Test.YtmfddecndadohaaDoorHuge
import Derived.Deep.AppendLies
import Derived.Laws.OwnMore
namespace Go.Proofs.YtmfddecndadohaaDoor
open Go.RowKit Crc

set_option maxRecDepth 100000 in
theorem refroom_any (s : Int) (w : World) (hs : s ≤ 9223372036854775807) :
    Calls Tryd.prog 13 #[.int .i64 s] w fun e w' => e = .returned (.int .i64 (room s)) ∧ w = w' := by
  by_cases h : s < 1
  · rw [room_small h]
    go_enter Tryd.func13, Tryd.ntmps13
    go_wp2
    go_ret
    exact ⟨rfl, rfl⟩
  · by_cases h2 : 492 < s
    · rw [room_out h2]
      have h1 : 1 ≤ s := by omega
      go_enter Tryd.func13, Tryd.ntmps13
      go_wp2
      go_ret
      exact ⟨rfl, rfl⟩
    · rw [room_big (by omega)]
      have h1 : 1 ≤ s := by omega
      have h3 : s ≤ 492 := by omega
      have e0 : 0 ≤ 492 / s := Int.ediv_nonneg (by omega) (by omega)
      go_enter Tryd.func13, Tryd.ntmps13
      go_wp2
      all_goals go_ret
      all_goals exact ⟨ret_int (by omega), rfl⟩
theorem own_one (w : World) (v : Value) (e : TypeId) (base : Nat) (hb : base ≤ w.heap.size) : (w.alloc (.cells #[v] e)).ownsRow base e 1 (.slice (some ⟨w.heap.size, 0, none⟩) 1 1) 1 [v] :=
  ⟨rfl, .inr ⟨w.heap.size, 1, #[v], rfl, hb, heap_alloc_new _ _, by omega, by unfold maxLen; omega, rfl, rfl⟩⟩
theorem ediv_pow (x : Int) (j : Nat) : x / 256 ^ j / 256 = x / 256 ^ (j + 1) := by
  rw [Int.ediv_ediv_of_nonneg (Int.pow_nonneg (by decide)), Int.pow_succ]
/-- what has been put together so far: j bytes, the highest first -/
structure PutInv (w wr : World) (vo : Value) (x : Int) (j : Nat) : Prop where
  own : wr.ownsRow w.heap.size 5 1 vo j (bl (be j x))
  bel : Below w.heap.size w wr
  nil : j = 0 → vo = .slice none 0 0
set_option maxRecDepth 100000 in
set_option maxHeartbeats 1000000 in
theorem put_any (B : Nat) (w0 : World) (v : Value) (m k : Nat) (ys : List Int) (x : Int) (w : World) (hv : w.ownsRow B 5 1 v m (bl ys)) (hB : Below B w0 w) (hBs : B ≤ w.heap.size) (x0 : 0 ≤ x) (x1 : x < 18446744073709551616) (hk : 1 ≤ k) (hk8 : k ≤ 8) (hm : m ≤ 600) :
    Calls Tryd.prog 27 #[v, .int .u64 x, .int .i64 k] w fun e w' => ∃ v', e = .returned v' ∧ w'.ownsRow B 5 1 v' (m + k) (bl (ys ++ be k x)) ∧ Below B w0 w' ∧ B ≤ w'.heap.size := by
  obtain ⟨ao, cap, rfl⟩ := own_slice hv
  obtain ⟨i0, hi, hz0, hz1, hz2⟩ := info_parts info_b
  have HI := Lib.hid hi
  have HI0 := Lib.hid hz0
  have HI1 := Lib.hid hz1
  have HI2 := Lib.hid hz2
  have HV := Lib.hid hv
  have HB := Lib.hid hB
  clear hi hz0 hz1 hz2 hv hB
  go_enter Tryd.func27, Tryd.ntmps27
  go_wp2
  go_loopw [1, 7, 8] (fun v vo i wr => ∃ j : Nat, j ≤ k ∧ i = .int .i64 j ∧ v = .int .u64 (x / 256 ^ j) ∧ Hid (PutInv w wr vo x j)) (fun _ _ i _ => k - (intOf i).toNat)
  case atStart => exact ⟨0, by omega, rfl, by simp, Lib.hid ⟨World.ownsRow_nil _ _ _ _, Below.refl _ _, fun _ => rfl⟩⟩
  case round =>
    obtain ⟨j, hj, rfl, rfl, HP⟩ := hrel
    have q0 : 0 ≤ x / 256 ^ j := Int.ediv_nonneg x0 (Int.pow_nonneg (by decide))
    have q1 : x / 256 ^ j ≤ x := Int.ediv_le_self _ x0
    have q2 : x / 256 ^ j < 18446744073709551616 := by omega
    have HE := Lib.hid (ediv_pow x j)
    have HF := Lib.hid (be_front j x)
    clear q1
    generalize x / 256 ^ j = X at HE HF q0 q2 ⊢
    by_cases hlt : j < k
    · by_cases h0 : j = 0
      · subst h0
        have hvo := HP.out.nil rfl
        subst hvo
        go_wp2
        go_roundw
        case rel => exact ⟨1, by omega, by go_num, by rw [HE.out], Lib.hid ⟨by rw [HF.out]; exact own_one _ _ _ _ HP.out.bel.size, HP.out.bel.alloc HP.out.bel.size _, fun h => by omega⟩⟩
        case measure => simp [intOf]; omega
      · obtain ⟨g, cp, hvo⟩ := own_some HP.out.own (by omega)
        subst hvo
        go_wp2_with (at_builtin; refine wpList_append_own _ rfl (.tmp 17) (.tmp 18) 30 rfl w.heap.size 5 i0 (.int .u8 0) 1 1 Tryd.underlying30 HI.out HI0.out HI1.out HI2.out rfl (by decide) (.slice (some ⟨wr.heap.size, 0, none⟩) 1 1) 1 [.int .u8 (X % 256)] rfl (own_one _ _ _ _ HP.out.bel.size) ⟨g, 0, none⟩ j cp (bl (be j x)) rfl (by rw [bl_len, be_len, Nat.mul_one]) (own_news (own_below HP.out.own (alX _ _))) (bl_one _) (by unfold maxLen; omega) (by omega) (by have := HP.out.bel.size; simp; omega) ?_; intro v2 w2 hown hgrow _)
        have e1 : 1 + j = j + 1 := by omega
        rw [e1] at hown
        have HO := Lib.hid hown
        have HG := Lib.hid ((HP.out.bel.alloc HP.out.bel.size (.cells #[.int .u8 (X % 256)] 5)).grown hgrow (by have := HP.out.bel.size; simp; omega) (fun q hq => by have e : wr.heap.size = q := Option.some.inj hq; have := HP.out.bel.size; omega))
        clear hown hgrow e1
        go_roundw
        case rel => exact ⟨j + 1, by omega, by go_num, by rw [HE.out], Lib.hid ⟨by rw [HF.out]; exact HO.out, HG.out, fun h => by omega⟩⟩
        case measure => simp [intOf]; omega
    · obtain rfl : j = k := by omega
      obtain ⟨g, cp, hvo⟩ := own_some HP.out.own (by omega)
      subst hvo
      have HBR := Lib.hid (HB.out.trans (HP.out.bel.mono hBs))
      go_wp2_with (at_builtin; refine wpList_append_own _ rfl (.tmp 22) (.tmp 23) 30 rfl B 5 i0 (.int .u8 0) 1 1 Tryd.underlying30 HI.out HI0.out HI1.out HI2.out rfl (by decide) (.slice ao m cap) m (bl ys) rfl (own_below HV.out HP.out.bel) ⟨g, 0, none⟩ j cp (bl (be j x)) rfl (by rw [bl_len, be_len, Nat.mul_one]) (own_news HP.out.own) (bl_one _) (by unfold maxLen; omega) (by omega) (by have := HP.out.bel.size; omega) ?_; intro v2 w2 hown hgrow _)
      have HO := Lib.hid hown
      have HG := Lib.hid (HBR.out.grown hgrow (by have := HP.out.bel.size; omega) (fun q hq => (HV.out.lt q hq).1))
      have HS := Lib.hid (Nat.le_trans (show B ≤ wr.heap.size by have := HP.out.bel.size; omega) hgrow.size)
      clear hown hgrow
      go_ret
      exact ⟨v2, rfl, by rw [bl_append]; exact HO.out, HG.out, HS.out⟩
set_option maxRecDepth 100000 in
theorem number_any (a : Option Addr) (n c : Nat) (xs : List Int) (w : World) (hn : xs.length = n) (h8 : n ≤ 8) (hx : Lies w a xs) :
    Calls Tryd.prog 33 #[.slice a n c] w fun e w' => e = .returned (.int .u64 (num256 xs)) ∧ w = w' := by
  have HX := Lib.hid hx
  have HN := Lib.hid hn
  clear hx hn
  go_enter Tryd.func33, Tryd.ntmps33
  go_wp2
  go_loop [3, 4] (fun v i => ∃ k : Nat, k ≤ n ∧ i = .int .i64 k ∧ v = .int .u64 (num256 (xs.take k))) (fun _ i => n - (intOf i).toNat)
  case atStart => exact ⟨0, by omega, rfl, rfl⟩
  case round =>
    obtain ⟨k, hk, rfl, rfl⟩ := hrel
    by_cases hlt : k < n
    · have hlt' : k < xs.length := by rw [HN.out]; exact hlt
      obtain ⟨b, off, rfl, hc, c0, c1⟩ := HX.out k hlt'
      have hb := num256_bd (xs.take k) (HX.out.take k).byte
      have hl : (xs.take k).length = k := by rw [List.length_take]; omega
      rw [hl] at hb
      have hp : (256 : Int) ^ k ≤ 256 ^ 7 := by exact_mod_cast Nat.pow_le_pow_right (show 0 < 256 by decide) (show k ≤ 7 by omega)
      have HH := Lib.hid (show num256 (xs.take (k + 1)) = 256 * num256 (xs.take k) + xs[k] by rw [List.take_succ_eq_append_getElem hlt', num256_snoc])
      have v0 := hb.1
      have v1 : num256 (xs.take k) < 72057594037927936 := by omega
      clear hp hb hl
      generalize num256 (xs.take k) = v at HH v0 v1 ⊢
      generalize xs[k] = x at hc c0 c1 HH
      have hw1 : IntKind.u64.wrap (256 * v) = 256 * v := by rw [IntKind.wrap_u64]; omega
      have hw2 : IntKind.u64.wrap (256 * v + x) = 256 * v + x := by rw [IntKind.wrap_u64]; omega
      go_wp2
      go_round
      case rel => exact ⟨k + 1, by omega, by go_num, by rw [HH.out]⟩
      case measure => simp [intOf]; omega
    · obtain rfl : k = n := by omega
      go_wp2
      go_ret
      exact ⟨ret_int (by rw [List.take_of_length_le (by rw [HN.out]; exact Nat.le_refl _)]), rfl⟩
end Go.Proofs.YtmfddecndadohaaDoor

/-
  THE STATEMENTS' OWN sure; a store that goes on beside what else lies in memory. No condition.
-/
import Derived.Test.YtgdcedlmndkfiaaDoorQq
namespace Go.Proofs.YtgdcedlmndkfiaaDoor
open Go.RowKit Ti Qd Go.Maps Go.WideMaps

theorem new_lit (room : Nat) (k : Int) (e : (room : Int) = k) (w : World) (h1 : 1 ≤ room) (h2 : room ≤ 65536) : Calls Tryd.prog 16 #[.int .i64 k] w (Made w room) := by
  subst e
  exact new_ok room w h1 h2
theorem leaf_lit {B : Nat} {w : World} {P : Nat} {L : List Sq} {room : Nat} {H : Nat → Prop} (h : St B w P L room H) (t : T6) (k : Int) (e : rg t = k) (hr : (put L (leafQ t)).length ≤ room) :
    Calls Tryd.prog 5 #[.pointer (some ⟨P, 0, none⟩), .int .u64 k] w fun e w' => e = .returned (.tuple #[.int .i64 (nr L (leafQ t)), .nilIface]) ∧ Goes B w P room H (put L (leafQ t)) w' := by
  subst e
  exact leaf_ok h t hr
theorem new_put {L : List Sq} {q : Sq} (h : ¬ q ∈ L) : put L q = L ++ [q] ∧ nr L q = L.length + 1 := ⟨if_neg h, nr_new h⟩
/-- a store, made behind W0, and all that lies ahead of it -/
def Qs (B : Nat) (W0 : World) (P : Nat) (L : List Sq) (room : Nat) (W : World) (H : Nat → Prop) : Prop := St B W P L room H ∧ Below B W0 W
theorem Qs.goes {B : Nat} {W0 W W' : World} {P : Nat} {L L' : List Sq} {room : Nat} {H : Nat → Prop} (h : Qs B W0 P L room W H) (g : Goes B W P room H L' W') (hB : B ≤ W.heap.size) : ∃ H', Qs B W0 P L' room W' H' ∧ Stp W H W' H' := by
  obtain ⟨H', k1, k2⟩ := g
  exact ⟨H', ⟨k1, h.2.trans (k2.below (fun b hb => (h.1.lt b hb).1) hB)⟩, k2⟩
theorem sure_ladder : emp [] 0 = ([leafQ 0#64], 1) ∧ emp [leafQ 0#64] 1 = ([leafQ 0#64, ⟨4, 0, 0#64, 1, 1, 1, 1⟩], 2) := by decide +kernel
set_option maxRecDepth 100000 in
set_option maxHeartbeats 1000000 in
theorem sure_any (w : World) : Calls Tryd.prog 17 #[] w fun e w' => e = .returned (.bool true) ∧ Below w.heap.size w w' := by
  have HN := Lib.hid (new_lit 9 9 rfl w (by decide) (by decide))
  go_enter Tryd.func17, Tryd.ntmps17
  go_wp2_with fail
  refine HN.out.mono ?_
  rintro e w1 ⟨P, H, rfl, hs, hb⟩
  have HB1 := Lib.hid hb
  have HL := Lib.hid (leaf_lit hs 0#64 0 rfl (by decide +kernel))
  have HS1 := Lib.hid hs
  clear hs hb HN
  go_wp2_with fail
  refine HL.out.mono ?_
  rintro e w2 ⟨rfl, hg⟩
  obtain ⟨H2, hs2, ht2⟩ := hg
  rw [show put [] (leafQ 0#64) = [leafQ 0#64] from congrArg Prod.fst sure_ladder.1] at hs2
  have HE := Lib.hid (empty_ok hs2 1 4 (by decide) (by decide) (by rw [sure_ladder.2]; decide))
  have HB2 := Lib.hid (HB1.out.trans (ht2.below (fun b hb => (HS1.out.lt b hb).1) HB1.out.size))
  have HS2 := Lib.hid hs2
  have e1 : nr [] (leafQ 0#64) = 1 := congrArg Prod.snd sure_ladder.1
  rw [e1]
  clear hs2 ht2 e1 HL
  go_wp2_with fail
  refine HE.out.mono ?_
  rintro e w3 ⟨rfl, hg⟩
  rw [sure_ladder.2] at hg ⊢
  obtain ⟨H3, hs3, ht3⟩ := hg
  have HLN := Lib.hid (len_ok hs3)
  have HB3 := Lib.hid (HB2.out.trans (ht3.below (fun b hb => (HS2.out.lt b hb).1) HB2.out.size))
  clear hs3 ht3 HE
  go_wp2_with fail
  refine HLN.out.mono ?_
  rintro e w4 ⟨rfl, rfl⟩
  go_wp2
  go_ret
  exact ⟨rfl, HB3.out⟩
theorem one_open {n : Int} (hn : (Lit.int .u64 n).wf = true) : ∃ X : T6, n = rg X := by
  have h1 : IntKind.u64.min ≤ n ∧ n ≤ IntKind.u64.max := by simpa [Lit.wf] using hn
  have e0 : IntKind.u64.min = 0 := rfl
  have e1 : IntKind.u64.max = 18446744073709551615 := rfl
  exact ⟨BitVec.ofInt 64 n, (rg_of n (by omega) (by omega)).symm⟩
end Go.Proofs.YtgdcedlmndkfiaaDoor

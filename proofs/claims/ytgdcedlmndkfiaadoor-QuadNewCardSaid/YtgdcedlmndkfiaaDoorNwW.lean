/-
  THE WALK of QuadNew. Condition: errors.errorType is as the program's text lays it.
-/
import Derived.Test.YtgdcedlmndkfiaaDoorSu
import Derived.Test.YtgdcedlmndkfiaaDoorNl
import Derived.Test.YtgdcedlmndkfiaaDoorErr
namespace Go.Proofs.YtgdcedlmndkfiaaDoor
open Go.RowKit Ti Qd Go.Maps Go.WideMaps

theorem not_ok_nil (id : Int) : ¬ Ok [] id := by unfold Ok; simp; omega
set_option maxRecDepth 100000 in
set_option maxHeartbeats 4000000 in
theorem new_any (room id : Int) (w : World) (_hx : (Lit.int .i64 room).wf = true) (_hy : (Lit.int .i64 id).wf = true) (hlaid : Laid w) :
    Calls Tryd.prog 3 #[.int .i64 room, .int .i64 id] w fun e w' => e = .returned (.bool true) ∧ Below w.heap.size w w' := by
  have HLD := Lib.hid hlaid
  clear hlaid
  have HB := Lib.hid (Below.refl w.heap.size w)
  go_enter Tryd.func3, Tryd.ntmps3
  go_wp2_with fail
  refine (leaf_nil 0 _).mono ?_
  rintro e w1 ⟨rfl, rfl⟩
  go_wp2_with fail
  refine (node_nil 0 0 0 0 _).mono ?_
  rintro e w1 ⟨rfl, hb⟩
  replace HB := Lib.hid (HB.out.trans (hb.mono HB.out.size))
  clear hb
  go_wp2_with fail
  refine (level_nil id _).mono ?_
  rintro e w2 ⟨rfl, hb⟩
  replace HB := Lib.hid (HB.out.trans (hb.mono HB.out.size))
  clear hb
  go_wp2_with fail
  refine (tile_nil id _).mono ?_
  rintro e w3 ⟨rfl, hb⟩
  replace HB := Lib.hid (HB.out.trans (hb.mono HB.out.size))
  clear hb
  go_wp2_with fail
  refine (kids_nil id _).mono ?_
  rintro e w4 ⟨rfl, hb⟩
  replace HB := Lib.hid ((HB.out.trans (hb.mono HB.out.size)).trans ((alX w4 z4).mono (Nat.le_trans HB.out.size hb.size)))
  clear hb
  go_wp2_with fail
  refine (count_nil id _).mono ?_
  rintro e w5 ⟨rfl, hb⟩
  replace HB := Lib.hid (HB.out.trans (hb.mono HB.out.size))
  clear hb
  go_wp2_with fail
  refine (empty_nil _).mono ?_
  rintro e w6 ⟨rfl, rfl⟩
  go_wp2_with fail
  refine (get_nil id 0 0 _).mono ?_
  rintro e w6 ⟨rfl, hb⟩
  replace HB := Lib.hid (HB.out.trans (hb.mono HB.out.size))
  clear hb
  go_wp2_with fail
  refine (set_nil id 0 0 true _).mono ?_
  rintro e w7 ⟨rfl, hb⟩
  replace HB := Lib.hid (HB.out.trans (hb.mono HB.out.size))
  clear hb
  go_wp2_with fail
  refine (num_err 1 _ (HLD.out.below HB.out)).mono ?_
  rintro e w8 ⟨rfl, hb⟩
  replace HB := Lib.hid (HB.out.trans (hb.mono HB.out.size))
  clear hb
  go_wp2_with fail
  refine (num_err 1 _ (HLD.out.below HB.out)).mono ?_
  rintro e w8 ⟨rfl, hb⟩
  replace HB := Lib.hid (HB.out.trans (hb.mono HB.out.size))
  clear hb
  go_wp2_with fail
  refine (num_err 1 _ (HLD.out.below HB.out)).mono ?_
  rintro e w8 ⟨rfl, hb⟩
  replace HB := Lib.hid (HB.out.trans (hb.mono HB.out.size))
  clear hb
  go_wp2_with fail
  refine (num_err 1 _ (HLD.out.below HB.out)).mono ?_
  rintro e w8 ⟨rfl, hb⟩
  replace HB := Lib.hid (HB.out.trans (hb.mono HB.out.size))
  clear hb
  go_wp2_with fail
  refine (num_err 1 _ (HLD.out.below HB.out)).mono ?_
  rintro e w8 ⟨rfl, hb⟩
  replace HB := Lib.hid (HB.out.trans (hb.mono HB.out.size))
  clear hb
  go_wp2_with fail
  refine (num_err 1 _ (HLD.out.below HB.out)).mono ?_
  rintro e w8 ⟨rfl, hb⟩
  replace HB := Lib.hid (HB.out.trans (hb.mono HB.out.size))
  clear hb
  go_wp2_with fail
  refine (num_err 1 _ (HLD.out.below HB.out)).mono ?_
  rintro e w8 ⟨rfl, hb⟩
  replace HB := Lib.hid (HB.out.trans (hb.mono HB.out.size))
  clear hb
  go_wp2_with fail
  refine (num_err 1 _ (HLD.out.below HB.out)).mono ?_
  rintro e w8 ⟨rfl, hb⟩
  replace HB := Lib.hid (HB.out.trans (hb.mono HB.out.size))
  clear hb
  go_wp2_with fail
  refine (num_err 1 _ (HLD.out.below HB.out)).mono ?_
  rintro e w8 ⟨rfl, hb⟩
  replace HB := Lib.hid (HB.out.trans (hb.mono HB.out.size))
  clear hb
  go_wp2_with fail
  refine (len_nil _).mono ?_
  rintro e w9 ⟨rfl, rfl⟩
  by_cases h1 : room < 1 ∨ 65536 < room
  · have HC := Lib.hid (fun w' => new_bad room h1 w')
    by_cases h2 : room < 1
    · clear h1
      go_wp2_with fail
      refine (HC.out _).mono ?_
      rintro e wA ⟨rfl, rfl⟩
      go_wp2_with fail
      refine (num_err 1 _ (HLD.out.below HB.out)).mono ?_
      rintro e wB ⟨rfl, hb⟩
      replace HB := Lib.hid (HB.out.trans (hb.mono HB.out.size))
      clear hb
      go_wp2_with fail
      refine (sure_any _).mono ?_
      rintro e wC ⟨rfl, hb⟩
      replace HB := Lib.hid (HB.out.trans (hb.mono HB.out.size))
      clear hb
      go_wp2
      go_ret
      exact ⟨rfl, HB.out⟩
    · have h3 : 65536 < room := by omega
      clear h1
      go_wp2_with fail
      refine (HC.out _).mono ?_
      rintro e wA ⟨rfl, rfl⟩
      go_wp2_with fail
      refine (num_err 1 _ (HLD.out.below HB.out)).mono ?_
      rintro e wB ⟨rfl, hb⟩
      replace HB := Lib.hid (HB.out.trans (hb.mono HB.out.size))
      clear hb
      go_wp2_with fail
      refine (sure_any _).mono ?_
      rintro e wC ⟨rfl, hb⟩
      replace HB := Lib.hid (HB.out.trans (hb.mono HB.out.size))
      clear hb
      go_wp2
      go_ret
      exact ⟨rfl, HB.out⟩
  · obtain ⟨r, hr⟩ : ∃ r : Nat, (r : Int) = room := ⟨room.toNat, by omega⟩
    have HC := Lib.hid (fun w' => new_lit r room hr w' (by omega) (by omega))
    have h2 : ¬ room < 1 := by omega
    have h3 : ¬ 65536 < room := by omega
    clear h1 hr
    go_wp2_with fail
    refine (HC.out _).mono ?_
    rintro e wA ⟨P, H, rfl, hs, hb⟩
    have HS := Lib.hid hs
    replace HB := Lib.hid (HB.out.trans (hb.mono HB.out.size))
    clear hs hb
    go_wp2_with fail
    refine (node_none HS.out id id id id (not_ok_nil id)).mono ?_
    rintro e wB ⟨rfl, hb⟩
    have HS2 := Lib.hid (HS.out.below hb (Nat.le_refl _))
    replace HB := Lib.hid (HB.out.trans (hb.mono HB.out.size))
    clear hb
    go_wp2_with fail
    refine (len_ok HS2.out).mono ?_
    rintro e wC ⟨rfl, rfl⟩
    rw [show (([] : List Sq).length : Int) = 0 from rfl]
    go_wp2_with fail
    refine (num_err 8 _ (HLD.out.below HB.out)).mono ?_
    rintro e wD ⟨rfl, hb⟩
    replace HB := Lib.hid (HB.out.trans (hb.mono HB.out.size))
    clear hb
    go_wp2_with fail
    refine (sure_any _).mono ?_
    rintro e wE ⟨rfl, hb⟩
    replace HB := Lib.hid (HB.out.trans (hb.mono HB.out.size))
    clear hb
    go_wp2
    go_ret
    exact ⟨rfl, HB.out⟩
end Go.Proofs.YtgdcedlmndkfiaaDoor

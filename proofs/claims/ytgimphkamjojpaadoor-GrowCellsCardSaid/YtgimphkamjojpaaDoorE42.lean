/-
  THE WALKS of wide, Wide. Conditions: the grower lies in memory, and there is room.
-/
import Derived.Test.YtgimphkamjojpaaDoorE41
namespace Go.Proofs.YtgimphkamjojpaaDoor
open Go.RowKit Ti Qd Go.Maps Go.WideMaps Ru

theorem corn_way {b l : Nat} {s : GS} (hs : GOk b l s) {n : Nat} (hn : n ≤ 36) {id : Int} (hl : Lv s.1 n id) : Wy b l (cornF s.1 n id (corn0 s n).2) (corn0 s n).1 n 4 := by
  match n, hn, hl with
  | 0, _, hl =>
    refine wy_of (N := 4) hs (fun k _ s' _ hs' => ⟨put_ext _ _, GOk.ext (L := s'.1) (K := s'.2) hs' (hs'.inv.leaf _) (put_ext _ _), ⟨put_ok _ _, ?_⟩⟩) 4 (Nat.le_refl _)
    show (at' (put s'.1 _) (nr s'.1 _)).lev = _
    rw [put_at]
    rfl
  | n + 1, hn, hl =>
    have he := emp_ok hs.inv n (by omega)
    have g0 : GOk b l (corn0 s (n + 1)).1 := GOk.ext (L := s.1) (K := s.2) hs he.inv he.ext
    refine wy_of (N := 4) g0 (fun k hk s' hx hs' => ?_) 4 (Nat.le_refl _)
    have := node_of b l n (by omega) s' hs' (abI (emp s.1 n).2 (kid (at' s.1 id) k) k) (fun i _ => by
      unfold abI
      split
      · exact (hs.inv.kid hl k).ext (he.ext.trans hx)
      · exact he.lv.ext hx)
    exact this
theorem corners_any {B : Nat} {w : World} {G P M b l : Nat} {s : GS} {room : Nat} {H : Nat → Prop} (h : Gr B w G P M b l s room H) (n : Nat) (hn : n ≤ 36) (id : Int) (hl : Lv s.1 n id) (lv : Int) (hlv : lv = (n : Int) + 3) (hr : (stOf (cornF s.1 n id (corn0 s n).2) (corn0 s n).1 4).1.length ≤ room) :
    Calls Tryd.prog 51 #[.pointer (some ⟨G, 0, none⟩), .int .i64 id, .int .i64 lv] w fun e w' => e = .returned (.tuple #[og4 (cornF s.1 n id (corn0 s n).2) (corn0 s n).1, .nilIface]) ∧ Gt B w G P M b l room H (stOf (cornF s.1 n id (corn0 s n).2) (corn0 s n).1 4) w' := by
  match n, hn, hl, hlv, hr with
  | 0, _, hl, hlv, hr =>
    subst hlv
    exact corners_0 h id hl hr
  | n + 1, hn, hl, hlv, hr => exact corners_n h n (by omega) id hl _ rfl (corn0 s (n + 1)).1 _ rfl rfl hr lv hlv
set_option maxRecDepth 100000 in
set_option maxHeartbeats 4000000 in
theorem wide_ok {B : Nat} {w : World} {G P M b l : Nat} {s : GS} {room : Nat} {H : Nat → Prop} (h : Gr B w G P M b l s room H) (hk : GOk b l s) (n : Nat) (hn : n ≤ 36) (id : Int) (hl : Lv s.1 n id) (lv : Int) (hlv : lv = (n : Int) + 3) (hr : (wideG s n id).1.1.length ≤ room) :
    Calls Tryd.prog 32 #[.pointer (some ⟨G, 0, none⟩), .int .i64 id, .int .i64 lv] w fun e w' => e = .returned (.tuple #[.int .i64 (wideG s n id).2, .nilIface]) ∧ Gt B w G P M b l room H (wideG s n id).1 w' := by
  have HS := Lib.hid (Gs.start h)
  have wy := corn_way hk hn hl
  obtain ⟨f, hf⟩ : ∃ f, f = cornF s.1 n id (corn0 s n).2 := ⟨_, rfl⟩
  obtain ⟨s0, hs0⟩ : ∃ s0, s0 = (corn0 s n).1 := ⟨_, rfl⟩
  have hq : wideG s n id = nodeG (stOf f s0 4) (outOf f s0 0) (outOf f s0 1) (outOf f s0 2) (outOf f s0 3) := by rw [hf, hs0]; rfl
  rw [hq] at hr ⊢
  have hr4 : (stOf f s0 4).1.length ≤ room := Nat.le_trans (put_ext _ _).length_le hr
  have HC := Lib.hid (show Calls Tryd.prog 51 #[.pointer (some ⟨G, 0, none⟩), .int .i64 id, .int .i64 lv] w fun e w' => e = .returned (.tuple #[og4 f s0, .nilIface]) ∧ Gt B w G P M b l room H (stOf f s0 4) w' from by
    rw [hf, hs0] at hr4 ⊢
    exact corners_any h n hn id hl lv hlv hr4)
  rw [← hf, ← hs0] at wy
  have HND := Lib.hid (fun (wx : World) (Hx : Nat → Prop) (hx : St B wx P (stOf f s0 4).1 room Hx) => node_ok hx (outOf f s0 0) (outOf f s0 1) (outOf f s0 2) (outOf f s0 3) _ (four_of (f := outOf f s0) wy.lv) (by omega) hr)
  have HX := Lib.hid (show ∀ (s' : GS) (w' : World), Gt B w G P M b l room H s' w' → Gs B w H G P M b l room s' [] w' from fun s' w' hg => Gs.goes ⟨h, Stp.refl _ _, fun x hx => by cases hx⟩ List.nodup_nil HS.out.lo hg)
  clear h hk hl hr hr4 wy hf hs0 hq hlv hn HS
  unfold nodeG
  go_enter Tryd.func32, Tryd.ntmps32
  go_wp2_with fail
  refine HC.out.mono ?_
  rintro e w1 ⟨rfl, hg⟩
  have HS1 := Lib.hid ((HX.out _ _ hg).alloc (.cells #[.int .i64 (outOf f s0 0), .int .i64 (outOf f s0 1), .int .i64 (outOf f s0 2), .int .i64 (outOf f s0 3)] 71))
  clear hg HC HX
  obtain ⟨g8, hg8⟩ : ∃ g, g = w1.heap.size := ⟨_, rfl⟩
  go_upto_region 4 with (fail)
  rw [← hg8] at HS1 ⊢
  generalize World.alloc _ _ = W1 at HS1 ⊢
  clear hg8
  have HD := Lib.hid HS1.out.drew
  have KD := Lib.hid (And.intro HD.out.ptr (row4 HD.out.b0))
  obtain ⟨Hs5, hst, hgo⟩ := HD.out.store
  have HGO := Lib.hid hgo
  have HN5 := Lib.hid (HND.out _ _ hst)
  clear hst hgo HND
  go_region_held3 (fun w' => w'.cell? ⟨G, 0, none⟩ = some (.pointer (some ⟨P, 0, none⟩)) ∧ w'.cell? ⟨g8, 0, none⟩ = some (.int .i64 (outOf f s0 0)) ∧ w'.cell? ⟨g8, 1, none⟩ = some (.int .i64 (outOf f s0 1)) ∧ w'.cell? ⟨g8, 2, none⟩ = some (.int .i64 (outOf f s0 2)) ∧ w'.cell? ⟨g8, 3, none⟩ = some (.int .i64 (outOf f s0 3))) (first | with_reducible exact KD.out | with_reducible exact ks)
    ((go_at_call 36; with_reducible refine HN5.out.mono ?_; rintro e w7 ⟨rfl, hg⟩; have HR7 := Lib.hid (HGO.out _ _ hg); have ks := And.intro HR7.out.ptr (row4 HR7.out.b0); clear hg))
  go_wp2
  go_ret2
  exact ⟨rfl, HR7.out.gt⟩
set_option maxRecDepth 100000 in
set_option maxHeartbeats 4000000 in
theorem wideP_ok {B : Nat} {w : World} {G P M b l : Nat} {s : GS} {room : Nat} {H : Nat → Prop} (h : Gr B w G P M b l s room H) (hk : GOk b l s) (n : Nat) (hn : n ≤ 36) (id : Int) (hl : Lv s.1 n id) (hr : (wideG s n id).1.1.length ≤ room) :
    Calls Tryd.prog 17 #[.pointer (some ⟨G, 0, none⟩), .int .i64 id] w fun e w' => e = .returned (.tuple #[.int .i64 (wideG s n id).2, .nilIface]) ∧ Gt B w G P M b l room H (wideG s n id).1 w' := by
  have HS := Lib.hid (Gs.start h)
  have hp := HS.out.ptr
  obtain ⟨lv, hlv⟩ : ∃ lv : Int, lv = (n : Int) + 3 := ⟨_, rfl⟩
  have HWD := Lib.hid (fun (wx : World) (Hx : Nat → Prop) (hx : Gr B wx G P M b l s room Hx) => wide_ok hx hk n hn id hl lv hlv hr)
  obtain ⟨Hs, hst, _⟩ := HS.out.store
  have HLV := Lib.hid (level_is hst id hl.1 lv (by rw [hlv]; exact hl.2))
  have e40 : (lv == 40) = false := by rw [beq_eq_false_iff_ne]; omega
  clear h hk hl hr hst hlv hn
  generalize wideG s n id = R at *
  go_enter Tryd.func17, Tryd.ntmps17
  go_wp2_with fail
  refine HLV.out.mono ?_
  rintro e w2 ⟨rfl, hb⟩
  have HS2 := Lib.hid (HS.out.below hb)
  clear hb hp HLV HS
  obtain ⟨H1, h1, h2⟩ := HS2.out.call
  have HC := Lib.hid (HWD.out _ _ h1)
  have HX := Lib.hid h2
  clear h1 h2 HWD
  go_wp2_with fail
  refine HC.out.mono ?_
  rintro e w4 ⟨rfl, hg⟩
  have HS4 := Lib.hid (HX.out _ _ hg)
  clear hg
  go_wp2
  go_ret2
  exact ⟨rfl, HS4.out.gt⟩
end Go.Proofs.YtgimphkamjojpaaDoor

/-
  THE WALKS of corners, wide, Wide. Conditions: the grower lies in memory, and there is room.
  THE WALKS of wide, Wide. Conditions: the grower lies in memory, and there is room.
  THE WALK of the statements' own field. Conditions: what is handed in lies in memory.
-/
import Derived.Deep.OwnRows
import Derived.Test.YtlejohclijjhnaaGreatDoorL38
import Derived.Test.YtlejohclijjhnaaGreatDoorL06
namespace Go.Proofs.YtlejohclijjhnaaGreatDoor
open Go.RowKit Ti Qd Go.Maps Go.WideMaps Ru

abbrev og4 (f : GS → Nat → GS × Int) (s : GS) : Value := .agg #[.int .i64 (outOf f s 0), .int .i64 (outOf f s 1), .int .i64 (outOf f s 2), .int .i64 (outOf f s 3)]
set_option maxRecDepth 100000 in
set_option maxHeartbeats 8000000 in
theorem corners_0 {B : Nat} {w : World} {G P M b l : Nat} {s : GS} {room : Nat} {H : Nat → Prop} (h : Gr B w G P M b l s room H) (id : Int) (hl : Lv s.1 0 id) (hr : (stOf (cornT (at' s.1 id).til) s 4).1.length ≤ room) :
    Calls Tryz.prog 51 #[.pointer (some ⟨G, 0, none⟩), .int .i64 id, .int .i64 3] w fun e w' => e = .returned (.tuple #[og4 (cornT (at' s.1 id).til) s, .nilIface]) ∧ Gt B w G P M b l room H (stOf (cornT (at' s.1 id).til) s 4) w' := by
  have HS : Hid (Gs B w H G P M b l room s [(w.heap.size, z4l)] (w.alloc (.cells #[.int .i64 0, .int .i64 0, .int .i64 0, .int .i64 0] 93))) := Lib.hid ((Gs.start h).alloc' z4l rfl)
  obtain ⟨t, ht⟩ : ∃ t, t = (at' s.1 id).til := ⟨_, rfl⟩
  rw [← ht] at hr ⊢
  obtain ⟨H1, h1, h2⟩ := HS.out.call
  have HC := Lib.hid (tileCorners_ok h1 id hl t ht.symm hr)
  have HX := Lib.hid h2
  clear h hl hr ht h1 h2
  go_enter Tryz.func51, Tryz.ntmps51
  go_wp2_with fail
  refine HC.out.mono ?_
  rintro e w1 ⟨rfl, hg⟩
  have HS1 := Lib.hid (HX.out _ _ hg)
  clear hg HC HX HS
  obtain ⟨d0, d1, d2, d3⟩ := row4 HS1.out.b0
  have f0 := frozen_of_row _ _ 0 _ _ HS1.out.b0
  have f1 := frozen_of_row _ _ 1 _ _ HS1.out.b0
  have f2 := frozen_of_row _ _ 2 _ _ HS1.out.b0
  have f3 := frozen_of_row _ _ 3 _ _ HS1.out.b0
  have HX := Lib.hid HS1.out.b0
  have HE := Lib.hid (Gs.set4 HS1.out (.int .i64 (outOf (cornT t) s 0)) (.int .i64 (outOf (cornT t) s 1)) (.int .i64 (outOf (cornT t) s 2)) (.int .i64 (outOf (cornT t) s 3)))
  go_wp2
  refine post_row_tmp Tryz.results51 w.heap.size 93 #[.int .i64 (outOf (cornT t) s 0), .int .i64 (outOf (cornT t) s 1), .int .i64 (outOf (cornT t) s 2), .int .i64 (outOf (cornT t) s 3)] (0, 0) _ .nilIface Tryz.underlying93 rfl info_4 ?_ ?_ (row_set4 HX.out _ _ _ _) ?_ ?_
  · rfl
  · rfl
  · rfl
  exact ⟨rfl, HE.out.gt⟩
set_option maxRecDepth 100000 in
set_option maxHeartbeats 8000000 in
theorem corners_n {B : Nat} {w : World} {G P M b l : Nat} {s : GS} {room : Nat} {H : Nat → Prop} (h : Gr B w G P M b l s room H) (n : Nat) (hn : n ≤ 35) (id : Int) (hl : Lv s.1 (n + 1) id) (q : Sq) (hq : at' s.1 id = q) (s0 : GS) (ev : Int) (hs0 : s0 = ((emp s.1 n).1, s.2)) (hev : ev = (emp s.1 n).2) (hr : (stOf (cornN q ev) s0 4).1.length ≤ room) (lv : Int) (hlv : lv = ((n + 1 : Nat) : Int) + 3) :
    Calls Tryz.prog 51 #[.pointer (some ⟨G, 0, none⟩), .int .i64 id, .int .i64 lv] w fun e w' => e = .returned (.tuple #[og4 (cornN q ev) s0, .nilIface]) ∧ Gt B w G P M b l room H (stOf (cornN q ev) s0 4) w' := by
  have HS : Hid (Gs B w H G P M b l room s [(w.heap.size, z4l)] (w.alloc (.cells #[.int .i64 0, .int .i64 0, .int .i64 0, .int .i64 0] 93))) := Lib.hid ((Gs.start h).alloc' z4l rfl)
  have hinv := HS.out.inv.1
  have he := emp_ok hinv n (by omega)
  have ext : ∀ k d, (stOf (cornN q ev) s0 k).1 <+: (stOf (cornN q ev) s0 (k + d)).1 := fun k d => stOf_ext (cornN q ev) s0 (fun s k => cornN_ext q ev s k) k d
  have hL0 : (emp s.1 n).1.length ≤ room := by
    have h1 := (ext 0 4).length_le
    rw [hs0] at h1
    exact Nat.le_trans h1 (by rw [hs0] at hr; exact hr)
  have HEM := Lib.hid (fun (wx : World) (Hx : Nat → Prop) (hx : St B wx P s.1 room Hx) => (show Calls Tryz.prog 29 #[.pointer (some ⟨P, 0, none⟩), .int .i64 (lv - 1)] wx fun e w' => e = .returned (.tuple #[.int .i64 ev, .nilIface]) ∧ Goes B wx P room Hx (emp s.1 n).1 w' from by
    rw [hev]
    exact empty_ok hx n (lv - 1) (by omega) (by omega) hL0))
  have HND := Lib.hid (fun k (hk : k < 4) (wx : World) (Hx : Nat → Prop) (hx : St B wx P (stOf (cornN q ev) s0 k).1 room Hx) => (show Calls Tryz.prog 36 #[.pointer (some ⟨P, 0, none⟩), .agg #[.int .i64 (abI ev (kid q k) k 0), .int .i64 (abI ev (kid q k) k 1), .int .i64 (abI ev (kid q k) k 2), .int .i64 (abI ev (kid q k) k 3)]] wx fun e w' => e = .returned (.tuple #[.int .i64 (outOf (cornN q ev) s0 k), .nilIface]) ∧ Goes B wx P room Hx (stOf (cornN q ev) s0 (k + 1)).1 w' from by
    have e0 : s.1 <+: (stOf (cornN q ev) s0 k).1 := by
      have h1 := ext 0 k
      rw [Nat.zero_add] at h1
      exact (show s.1 <+: s0.1 from by rw [hs0]; exact he.ext).trans h1
    have e1 : (emp s.1 n).1 <+: (stOf (cornN q ev) s0 k).1 := by
      have h1 := ext 0 k
      rw [Nat.zero_add] at h1
      exact (show (emp s.1 n).1 <+: s0.1 from by rw [hs0]; exact List.prefix_rfl).trans h1
    have hf : ∀ i, i < 4 → Lv (stOf (cornN q ev) s0 k).1 n (abI ev (kid q k) k i) := fun i _ => by
      unfold abI
      split
      · have h2 := (hinv.kid hl k).ext e0
        rw [hq] at h2
        exact h2
      · have h2 := he.lv.ext e1
        rw [← hev] at h2
        exact h2
    have hlen := (ext (k + 1) (4 - (k + 1))).length_le
    rw [show k + 1 + (4 - (k + 1)) = 4 by omega] at hlen
    exact node_ok hx _ _ _ _ _ (four_of hf) (by omega) (Nat.le_trans hlen hr)))
  have HK2 := Lib.hid (show ∀ k, (stOf (cornN q ev) s0 (k + 1)).2 = (stOf (cornN q ev) s0 k).2 from fun k => rfl)
  have HL := Lib.hid hl
  have HQ := Lib.hid hq
  have HS0 := Lib.hid hs0
  have e3 : (lv == 3) = false := by rw [beq_eq_false_iff_ne]; omega
  have l0 : (0 : Int) ≤ lv := by omega
  have l1 : lv ≤ 100 := by omega
  clear h hl hr hinv he ext hL0 hs0 hev hq hlv hn
  go_enter Tryz.func51, Tryz.ntmps51
  go_upto_region 3 with (fail)
  generalize World.alloc _ _ = W at HS ⊢
  have hp := HS.out.ptr
  obtain ⟨Hs, hst, _⟩ := HS.out.store
  have HC := Lib.hid (kids_ok hst n id HL.out q HQ.out)
  clear hst
  go_wp2_with fail
  refine HC.out.mono ?_
  rintro e w1 ⟨rfl, hb⟩
  have HS1 := Lib.hid ((HS.out.below hb).alloc (.cells #[.int .i64 q.k0, .int .i64 q.k1, .int .i64 q.k2, .int .i64 q.k3] 93))
  clear hb HC hp HS
  go_upto_region 6 with (fail)
  obtain ⟨g8, hg8⟩ : ∃ g, g = w1.heap.size := ⟨_, rfl⟩
  rw [← hg8] at HS1 ⊢
  generalize World.alloc _ _ = W1 at HS1 ⊢
  clear hg8
  have hp := HS1.out.ptr
  obtain ⟨Hs, hst, hgo⟩ := HS1.out.store
  have HC := Lib.hid (HEM.out _ _ hst)
  have HGO := Lib.hid hgo
  clear hst hgo HEM
  go_wp2_with fail
  refine HC.out.mono ?_
  rintro e w2 ⟨rfl, hg⟩
  have HS2 := Lib.hid (show Gs B w H G P M b l room s0 _ w2 from HS0.out ▸ HGO.out _ _ hg)
  have HS3 := Lib.hid (HS2.out.alloc z4l)
  clear hg HC HGO hp HS1 HS2
  obtain ⟨c0, c1, c2, c3⟩ := row4 HS3.out.b1
  obtain ⟨g11, hg11⟩ : ∃ g, g = w2.heap.size := ⟨_, rfl⟩
  go_upto_region 10 with (fail)
  rw [← hg11] at HS3 ⊢
  generalize World.alloc _ _ = W3 at HS3 c0 c1 c2 c3 ⊢
  clear hg11
  go_wp2
  have HR0 : Hid (Gs B w H G P M b l room (stOf (cornN q ev) s0 0) [(g11, .cells (ir (cpF 0 (outOf (cornN q ev) s0) 0) 4) 93), (w.heap.size, z4l)] W3) := Lib.hid (HS3.out.swap.tail)
  clear HS3 c0 c1 c2 c3
  go_loopw [50] (fun i wr => ∃ k : Nat, k ≤ 4 ∧ i = .int .i64 k ∧ Hid (Gs B w H G P M b l room (stOf (cornN q ev) s0 k) [(g11, .cells (ir (cpF 0 (outOf (cornN q ev) s0) k) 4) 93), (w.heap.size, z4l)] wr)) (fun i _ => 4 - (intOf i).toNat)
  case atStart => exact ⟨0, by omega, rfl, HR0⟩
  case round =>
    clear HR0
    obtain ⟨k, hk, rfl, HR⟩ := hrel
    have k0 : (0 : Int) ≤ (k : Int) := by omega
    by_cases hlt : k < 4
    · have k1 : (k : Int) < 4 := by omega
      have HLT := Lib.hid hlt
      obtain ⟨m, hm⟩ : ∃ m, m = 3 - k := ⟨_, rfl⟩
      have m0 : (0 : Int) ≤ (m : Int) := by omega
      have m1 : (m : Int) < 4 := by omega
      have HM := Lib.hid (opposite_m k m hlt hm)
      have HR1 : Hid (Gs B w H G P M b l room (stOf (cornN q ev) s0 k) [(wr.heap.size, .cells (ir (fun _ => ev) 4) 93), (g11, .cells (ir (cpF 0 (outOf (cornN q ev) s0) k) 4) 93), (w.heap.size, z4l)] (wr.alloc (.cells #[.int .i64 ev, .int .i64 ev, .int .i64 ev, .int .i64 ev] 93))) := Lib.hid (HR.out.alloc _)
      have HNK := Lib.hid (HND.out k hlt)
      have HMM := Lib.hid hm
      have hx : ∀ W, (Instr.index 93 (.agg #[.int .i64 q.k0, .int .i64 q.k1, .int .i64 q.k2, .int .i64 q.k3]) (.int .i64 (k : Int))).run Tryz.prog W = .ok (.int .i64 (kid q k)) W := idx4 (kid q) k hlt
      obtain ⟨kd, hkd⟩ : ∃ kd, kd = kid q k := ⟨_, rfl⟩
      rw [← hkd] at hx HNK
      clear hlt hm HR hkd
      go_upto_region 14 with (fail)
      obtain ⟨g14, hg14⟩ : ∃ g, g = wr.heap.size := ⟨_, rfl⟩
      rw [← hg14] at HR1 ⊢
      generalize World.alloc _ _ = W4 at HR1 ⊢
      clear hg14 hx
      have tc := ir_cell HR1.out.b0 m (by omega)
      have tf := ir_fro HR1.out.b0 m
      have HP := Lib.hid (show (W4.setCell ⟨g14, m, none⟩ (.int .i64 kd)).heap[g14]? = some (.cells #[.int .i64 (abI ev kd k 0), .int .i64 (abI ev kd k 1), .int .i64 (abI ev kd k 2), .int .i64 (abI ev kd k 3)] 93) from by
        have h1 := ir_put HR1.out.b0 m kd
        rw [upd_abI ev kd k m HMM.out] at h1
        exact h1)
      have HR2 := Lib.hid (HR1.out.set HP.out)
      obtain ⟨a0, ha0⟩ : ∃ a, a = abI ev kd k 0 := ⟨_, rfl⟩
      obtain ⟨a1, ha1⟩ : ∃ a, a = abI ev kd k 1 := ⟨_, rfl⟩
      obtain ⟨a2, ha2⟩ : ∃ a, a = abI ev kd k 2 := ⟨_, rfl⟩
      obtain ⟨a3, ha3⟩ : ∃ a, a = abI ev kd k 3 := ⟨_, rfl⟩
      rw [← ha0, ← ha1, ← ha2, ← ha3] at HR2 HNK
      clear HP ha0 ha1 ha2 ha3
      go_upto_region 15 with (go_at_call 69; refine (HM.out _).mono ?_; rintro e w3 ⟨rfl, rfl⟩)
      clear tc tf HR1
      generalize World.setCell _ _ _ = W5 at HR2 ⊢
      have HD := Lib.hid HR2.out.drew
      have KD := Lib.hid (And.intro HD.out.ptr (row4 HD.out.b0))
      obtain ⟨Hs5, hst, hgo⟩ := HD.out.store
      have HGO := Lib.hid hgo
      have HN5 := Lib.hid (HNK.out _ _ hst)
      clear hst hgo HNK
      go_region_held3 (fun w' => w'.cell? ⟨G, 0, none⟩ = some (.pointer (some ⟨P, 0, none⟩)) ∧ w'.cell? ⟨g14, 0, none⟩ = some (.int .i64 a0) ∧ w'.cell? ⟨g14, 1, none⟩ = some (.int .i64 a1) ∧ w'.cell? ⟨g14, 2, none⟩ = some (.int .i64 a2) ∧ w'.cell? ⟨g14, 3, none⟩ = some (.int .i64 a3)) (first | with_reducible exact KD.out | with_reducible exact ks | with_reducible exact kx)
        ((go_at_call 36; with_reducible refine HN5.out.mono ?_; rintro e w7 ⟨rfl, hg⟩; have HR7 := Lib.hid (HGO.out _ _ hg); have ks := And.intro HR7.out.ptr (row4 HR7.out.b0); have hc := ir_cell HR7.out.b1 k HLT.out; have hfz := ir_fro HR7.out.b1 k; have HR8 := Lib.hid (HR7.out.swap.set (i := k) (v := .int .i64 (outOf (cornN q ev) s0 k)) (ir_put HR7.out.b1 k (outOf (cornN q ev) s0 k))); have kx := And.intro HR8.out.ptr (row4 HR8.out.b1); clear hg))
      have HR9 : Hid (Gs B w H G P M b l room (stOf (cornN q ev) s0 (k + 1)) [(g11, .cells (ir (cpF 0 (outOf (cornN q ev) s0) (k + 1)) 4) 93), (w.heap.size, z4l)] (w7.setCell ⟨g11, k, none⟩ (.int .i64 (outOf (cornN q ev) s0 k)))) := Lib.hid (by
        rw [← cp_step 0 (outOf (cornN q ev) s0) k]
        exact HR8.out.swap.tail)
      go_wp2
      go_roundw
      case rel => exact ⟨k + 1, by have := HLT.out; omega, by go_num, HR9⟩
      case measure => have := HLT.out; simp [intOf]; omega
    · obtain rfl : k = 4 := by omega
      have HD : Hid (Gs B w H G P M b l room (stOf (cornN q ev) s0 4) [(g11, .cells #[.int .i64 (outOf (cornN q ev) s0 0), .int .i64 (outOf (cornN q ev) s0 1), .int .i64 (outOf (cornN q ev) s0 2), .int .i64 (outOf (cornN q ev) s0 3)] 93), (w.heap.size, z4l)] wr) := HR
      obtain ⟨c0, c1, c2, c3⟩ := row4 HD.out.b0
      obtain ⟨d0, d1, d2, d3⟩ := row4 HD.out.b1
      have f0 := frozen_of_row _ _ 0 _ _ HD.out.b1
      have f1 := frozen_of_row _ _ 1 _ _ HD.out.b1
      have f2 := frozen_of_row _ _ 2 _ _ HD.out.b1
      have f3 := frozen_of_row _ _ 3 _ _ HD.out.b1
      have HX := Lib.hid HD.out.b1
      have HE := Lib.hid (Gs.set4 HD.out.tail (.int .i64 (outOf (cornN q ev) s0 0)) (.int .i64 (outOf (cornN q ev) s0 1)) (.int .i64 (outOf (cornN q ev) s0 2)) (.int .i64 (outOf (cornN q ev) s0 3)))
      clear HR HD
      go_wp2
      refine post_row_tmp Tryz.results51 w.heap.size 93 #[.int .i64 (outOf (cornN q ev) s0 0), .int .i64 (outOf (cornN q ev) s0 1), .int .i64 (outOf (cornN q ev) s0 2), .int .i64 (outOf (cornN q ev) s0 3)] (0, 0) _ .nilIface Tryz.underlying93 rfl info_4 ?_ ?_ (row_set4 HX.out _ _ _ _) ?_ ?_
      · rfl
      · rfl
      · rfl
      exact ⟨rfl, HE.out.gt⟩
end Go.Proofs.YtlejohclijjhnaaGreatDoor
namespace Go.Proofs.YtlejohclijjhnaaGreatDoor
open Go.RowKit Ti Qd Go.Maps Go.WideMaps Ru

theorem corn_way {b l : Nat} {s : GS} (hs : GOk b l s) {n : Nat} (hn : n ≤ 36) {id : Int} (hl : Lv s.1 n id) : Wy b l (cornF s.1 n id (corn0 s n).2) (corn0 s n).1 n 4 := by
  match n, hn, hl with
  | 0, _, hl =>
    refine wy_of (N := 4) hs (fun k _ s' _ hs' => ⟨put_ext _ _, GOk.ext (L := s'.1) (K := s'.2) hs' (hs'.inv.leaf _) (put_ext _ _), ⟨put_ok _ _, ?_⟩⟩) 4 (Nat.le_refl _)
    show (at' (put s'.1 _) (nr s'.1 _)).lev = _
    rw [put_at]
    rfl
  | n + 1, hn, hl =>
    have he := emp_ok hs.inv n (by omega)
    have g0 : GOk b l (corn0 s (n + 1)).1 := GOk.ext (L := s.1) (K := s.2) hs he.inv he.ext
    refine wy_of (N := 4) g0 (fun k hk s' hx hs' => ?_) 4 (Nat.le_refl _)
    have := node_of b l n (by omega) s' hs' (abI (emp s.1 n).2 (kid (at' s.1 id) k) k) (fun i _ => by
      unfold abI
      split
      · exact (hs.inv.kid hl k).ext (he.ext.trans hx)
      · exact he.lv.ext hx)
    exact this
theorem corners_any {B : Nat} {w : World} {G P M b l : Nat} {s : GS} {room : Nat} {H : Nat → Prop} (h : Gr B w G P M b l s room H) (n : Nat) (hn : n ≤ 36) (id : Int) (hl : Lv s.1 n id) (lv : Int) (hlv : lv = (n : Int) + 3) (hr : (stOf (cornF s.1 n id (corn0 s n).2) (corn0 s n).1 4).1.length ≤ room) :
    Calls Tryz.prog 51 #[.pointer (some ⟨G, 0, none⟩), .int .i64 id, .int .i64 lv] w fun e w' => e = .returned (.tuple #[og4 (cornF s.1 n id (corn0 s n).2) (corn0 s n).1, .nilIface]) ∧ Gt B w G P M b l room H (stOf (cornF s.1 n id (corn0 s n).2) (corn0 s n).1 4) w' := by
  match n, hn, hl, hlv, hr with
  | 0, _, hl, hlv, hr =>
    subst hlv
    exact corners_0 h id hl hr
  | n + 1, hn, hl, hlv, hr => exact corners_n h n (by omega) id hl _ rfl (corn0 s (n + 1)).1 _ rfl rfl hr lv hlv
set_option maxRecDepth 100000 in
set_option maxHeartbeats 4000000 in
theorem wide_ok {B : Nat} {w : World} {G P M b l : Nat} {s : GS} {room : Nat} {H : Nat → Prop} (h : Gr B w G P M b l s room H) (hk : GOk b l s) (n : Nat) (hn : n ≤ 36) (id : Int) (hl : Lv s.1 n id) (lv : Int) (hlv : lv = (n : Int) + 3) (hr : (wideG s n id).1.1.length ≤ room) :
    Calls Tryz.prog 32 #[.pointer (some ⟨G, 0, none⟩), .int .i64 id, .int .i64 lv] w fun e w' => e = .returned (.tuple #[.int .i64 (wideG s n id).2, .nilIface]) ∧ Gt B w G P M b l room H (wideG s n id).1 w' := by
  have HS := Lib.hid (Gs.start h)
  have wy := corn_way hk hn hl
  obtain ⟨f, hf⟩ : ∃ f, f = cornF s.1 n id (corn0 s n).2 := ⟨_, rfl⟩
  obtain ⟨s0, hs0⟩ : ∃ s0, s0 = (corn0 s n).1 := ⟨_, rfl⟩
  have hq : wideG s n id = nodeG (stOf f s0 4) (outOf f s0 0) (outOf f s0 1) (outOf f s0 2) (outOf f s0 3) := by rw [hf, hs0]; rfl
  rw [hq] at hr ⊢
  have hr4 : (stOf f s0 4).1.length ≤ room := Nat.le_trans (put_ext _ _).length_le hr
  have HC := Lib.hid (show Calls Tryz.prog 51 #[.pointer (some ⟨G, 0, none⟩), .int .i64 id, .int .i64 lv] w fun e w' => e = .returned (.tuple #[og4 f s0, .nilIface]) ∧ Gt B w G P M b l room H (stOf f s0 4) w' from by
    rw [hf, hs0] at hr4 ⊢
    exact corners_any h n hn id hl lv hlv hr4)
  rw [← hf, ← hs0] at wy
  have HND := Lib.hid (fun (wx : World) (Hx : Nat → Prop) (hx : St B wx P (stOf f s0 4).1 room Hx) => node_ok hx (outOf f s0 0) (outOf f s0 1) (outOf f s0 2) (outOf f s0 3) _ (four_of (f := outOf f s0) wy.lv) (by omega) hr)
  have HX := Lib.hid (show ∀ (s' : GS) (w' : World), Gt B w G P M b l room H s' w' → Gs B w H G P M b l room s' [] w' from fun s' w' hg => Gs.goes ⟨h, Stp.refl _ _, fun x hx => by cases hx⟩ List.nodup_nil HS.out.lo hg)
  clear h hk hl hr hr4 wy hf hs0 hq hlv hn HS
  unfold nodeG
  go_enter Tryz.func32, Tryz.ntmps32
  go_wp2_with fail
  refine HC.out.mono ?_
  rintro e w1 ⟨rfl, hg⟩
  have HS1 := Lib.hid ((HX.out _ _ hg).alloc (.cells #[.int .i64 (outOf f s0 0), .int .i64 (outOf f s0 1), .int .i64 (outOf f s0 2), .int .i64 (outOf f s0 3)] 93))
  clear hg HC HX
  obtain ⟨g8, hg8⟩ : ∃ g, g = w1.heap.size := ⟨_, rfl⟩
  go_upto_region 4 with (fail)
  rw [← hg8] at HS1 ⊢
  generalize World.alloc _ _ = W1 at HS1 ⊢
  clear hg8
  have HD := Lib.hid HS1.out.drew
  have KD := Lib.hid (And.intro HD.out.ptr (row4 HD.out.b0))
  obtain ⟨Hs5, hst, hgo⟩ := HD.out.store
  have HGO := Lib.hid hgo
  have HN5 := Lib.hid (HND.out _ _ hst)
  clear hst hgo HND
  go_region_held3 (fun w' => w'.cell? ⟨G, 0, none⟩ = some (.pointer (some ⟨P, 0, none⟩)) ∧ w'.cell? ⟨g8, 0, none⟩ = some (.int .i64 (outOf f s0 0)) ∧ w'.cell? ⟨g8, 1, none⟩ = some (.int .i64 (outOf f s0 1)) ∧ w'.cell? ⟨g8, 2, none⟩ = some (.int .i64 (outOf f s0 2)) ∧ w'.cell? ⟨g8, 3, none⟩ = some (.int .i64 (outOf f s0 3))) (first | with_reducible exact KD.out | with_reducible exact ks)
    ((go_at_call 36; with_reducible refine HN5.out.mono ?_; rintro e w7 ⟨rfl, hg⟩; have HR7 := Lib.hid (HGO.out _ _ hg); have ks := And.intro HR7.out.ptr (row4 HR7.out.b0); clear hg))
  go_wp2
  go_ret2
  exact ⟨rfl, HR7.out.gt⟩
set_option maxRecDepth 100000 in
set_option maxHeartbeats 4000000 in
theorem wideP_ok {B : Nat} {w : World} {G P M b l : Nat} {s : GS} {room : Nat} {H : Nat → Prop} (h : Gr B w G P M b l s room H) (hk : GOk b l s) (n : Nat) (hn : n ≤ 36) (id : Int) (hl : Lv s.1 n id) (hr : (wideG s n id).1.1.length ≤ room) :
    Calls Tryz.prog 20 #[.pointer (some ⟨G, 0, none⟩), .int .i64 id] w fun e w' => e = .returned (.tuple #[.int .i64 (wideG s n id).2, .nilIface]) ∧ Gt B w G P M b l room H (wideG s n id).1 w' := by
  have HS := Lib.hid (Gs.start h)
  have hp := HS.out.ptr
  obtain ⟨lv, hlv⟩ : ∃ lv : Int, lv = (n : Int) + 3 := ⟨_, rfl⟩
  have HWD := Lib.hid (fun (wx : World) (Hx : Nat → Prop) (hx : Gr B wx G P M b l s room Hx) => wide_ok hx hk n hn id hl lv hlv hr)
  obtain ⟨Hs, hst, _⟩ := HS.out.store
  have HLV := Lib.hid (level_is hst id hl.1 lv (by rw [hlv]; exact hl.2))
  have e40 : (lv == 40) = false := by rw [beq_eq_false_iff_ne]; omega
  clear h hk hl hr hst hlv hn
  generalize wideG s n id = R at *
  go_enter Tryz.func20, Tryz.ntmps20
  go_wp2_with fail
  refine HLV.out.mono ?_
  rintro e w2 ⟨rfl, hb⟩
  have HS2 := Lib.hid (HS.out.below hb)
  clear hb hp HLV HS
  obtain ⟨H1, h1, h2⟩ := HS2.out.call
  have HC := Lib.hid (HWD.out _ _ h1)
  have HX := Lib.hid h2
  clear h1 h2 HWD
  go_wp2_with fail
  refine HC.out.mono ?_
  rintro e w4 ⟨rfl, hg⟩
  have HS4 := Lib.hid (HX.out _ _ hg)
  clear hg
  go_wp2
  go_ret2
  exact ⟨rfl, HS4.out.gt⟩
end Go.Proofs.YtlejohclijjhnaaGreatDoor
namespace Go.Proofs.YtlejohclijjhnaaGreatDoor
open Go.RowKit Ti Qd Go.Maps Go.WideMaps Ru

/-- truths in a row of a block -/
def br (F : Nat → Bool) (n : Nat) : Array Value := ((List.range n).map (fun i => Value.bool (F i))).toArray
theorem br_size (F : Nat → Bool) (n : Nat) : (br F n).size = n := by simp [br]
theorem br_get (F : Nat → Bool) (n i : Nat) (h : i < n) : (br F n)[i]? = some (.bool (F i)) := by simp [br, h]
theorem br_set (F : Nat → Bool) (n i : Nat) (x : Bool) : (br F n).setIfInBounds i (.bool x) = br (upd F i x) n := by
  apply Array.ext_getElem?
  intro j
  rw [Array.getElem?_setIfInBounds]
  by_cases e : i = j
  · subst e
    rw [if_pos rfl, br_size]
    by_cases h : i < n
    · rw [if_pos h, br_get _ _ _ h]; simp [upd]
    · rw [if_neg h]; simp [br, h]
  · rw [if_neg e]
    have e2 : ¬ j = i := fun q => e q.symm
    by_cases h : j < n
    · rw [br_get _ _ _ h, br_get _ _ _ h]; simp [upd, e2]
    · simp [br, h]
theorem br_none (n : Nat) : Array.replicate n (Value.bool false) = br (fun _ => false) n := by
  apply Array.ext_getElem?
  intro j
  by_cases h : j < n
  · rw [br_get _ _ _ h]; simp [h]
  · simp [br, h]
theorem br_cell {w : World} {g n : Nat} {F : Nat → Bool} {T : TypeId} (h : w.heap[g]? = some (.cells (br F n) T)) (i : Nat) (hi : i < n) : w.cell? ⟨g, i, none⟩ = some (.bool (F i)) := by
  rw [cell_of_row _ _ i _ _ _ h, br_get F n i hi]
theorem br_put {w : World} {g n : Nat} {F : Nat → Bool} {T : TypeId} (h : w.heap[g]? = some (.cells (br F n) T)) (i : Nat) (x : Bool) : (w.setCell ⟨g, i, none⟩ (.bool x)).heap[g]? = some (.cells (br (upd F i x) n) T) := by
  rw [heap_setCell_same w g i _ _ _ h, br_set]
set_option maxRecDepth 100000 in
theorem info_b : (Tryz.prog.info? 4).map (fun i => (i.zero, i.size, i.bytes)) = some (some (.bool false), 1, 1) := by kernel_rfl
set_option maxRecDepth 100000 in
theorem make_b (n : Nat) (hn : n ≤ 16384) (w : World) : (Instr.makeSlice 55 (.int .i64 (n : Int)) (.int .i64 (n : Int))).run Tryz.prog w = .ok (.slice (some ⟨w.heap.size, 0, none⟩) n n) (w.alloc (.cells (br (fun _ => false) n) 4)) := by
  rw [run_make_row' (P := Tryz.prog) 55 4 (.bool false) 1 Tryz.underlying55 info_b rfl .i64 .i64 n (by omega) (by omega) w, made_eq, br_none]
/-- where a number's cell stands -/
def fps (v w : Nat) : Nat := w * (v / 64 % w) + v % w
def fF (X : Nat → Nat) (w : Nat) : Nat → Nat → Bool
  | 0 => fun _ => false
  | k + 1 => upd (fF X w k) (fps (X k) w) true
theorem fps_lt (v w : Nat) (h : 0 < w) : fps v w < w * w := by
  unfold fps
  have h1 := Nat.mod_lt (v / 64) h
  have h2 := Nat.mod_lt v h
  calc w * (v / 64 % w) + v % w < w * (v / 64 % w) + w := by omega
    _ = w * (v / 64 % w + 1) := by rw [Nat.mul_succ]
    _ ≤ w * w := Nat.mul_le_mul_left _ h1
/-- numbers that lie in memory -/
def LiesX (W : World) (a : Option Addr) (len : Nat) (X : Nat → Nat) : Prop := ∀ i, i < len → ∃ b off, a = some ⟨b, off, none⟩ ∧ W.cell? ⟨b, off + i, none⟩ = some (.int .u64 (X i : Nat)) ∧ X i < 18446744073709551616
theorem LiesX.below {W W' : World} {a : Option Addr} {len : Nat} {X : Nat → Nat} (h : LiesX W a len X) (hb : Below W.heap.size W W') : LiesX W' a len X := fun i hi => by
  obtain ⟨b, off, ha, hc, hx⟩ := h i hi
  exact ⟨b, off, ha, (hb.cell (p := ⟨b, off + i, none⟩) (World.block_lt_of_cell? W _ hc)).trans hc, hx⟩
/-- so many laid -/
structure FI (W : World) (X : Nat → Nat) (w N k : Nat) (wr : World) : Prop where
  row : wr.heap[W.heap.size]? = some (.cells (br (fF X w k) N) 4)
  bel : Below W.heap.size W wr
set_option maxRecDepth 100000 in
set_option maxHeartbeats 4000000 in
theorem field_ok (a : Option Addr) (len cap : Nat) (X : Nat → Nat) (w : Nat) (W : World) (hx : LiesX W a len X) (hl : len ≤ 9223372036854775807) (h0 : 0 < w) (h1 : w ≤ 64) :
    Calls Tryz.prog 16 #[.slice a len cap, .int .i64 w] W fun e W' => e = .returned (.slice (some ⟨W.heap.size, 0, none⟩) (w * w) (w * w)) ∧ FI W X w (w * w) (min len 60) W' := by
  have HF0 := Lib.hid (show FI W X w (w * w) 0 (W.alloc (.cells (br (fun _ => false) (w * w)) 4)) from ⟨heap_alloc_new W _, alX W _⟩)
  have HX := Lib.hid hx
  have hN : w * w ≤ 4096 := Nat.mul_le_mul h1 h1
  have hN0 : 0 < w * w := Nat.mul_pos h0 h0
  have HPS := Lib.hid (fun v => fps_lt v w h0)
  clear hx
  obtain ⟨N, hNN⟩ : ∃ N, N = w * w := ⟨_, rfl⟩
  rw [← hNN] at hN hN0
  have HNN := Lib.hid hNN
  have e1 : (w : Int) * (w : Int) = (N : Int) := by rw [hNN]; simp
  have w0 : (0 : Int) ≤ (w : Int) := by omega
  have w1 : (w : Int) ≤ 64 := by omega
  have w2 : (0 : Int) < (w : Int) := by omega
  have hmk := make_b N (by omega)
  rw [← hNN] at HF0 ⊢
  clear hNN
  go_enter Tryz.func16, Tryz.ntmps16
  go_wp2
  generalize World.alloc _ _ = W0 at HF0 ⊢
  go_loopw [6] (fun i wr => ∃ k : Nat, k ≤ len ∧ k ≤ 60 ∧ i = .int .i64 k ∧ Hid (FI W X w N k wr)) (fun i _ => 60 - (intOf i).toNat)
  case atStart => exact ⟨0, by omega, by omega, rfl, HF0⟩
  case round =>
    clear HF0
    obtain ⟨k, hk, hk6, rfl, HR⟩ := hrel
    have k0 : (0 : Int) ≤ (k : Int) := by omega
    by_cases hlt : k < len ∧ k < 60
    · obtain ⟨h1, h2⟩ := hlt
      have k1 : (k : Int) < (len : Int) := by omega
      have k2 : (k : Int) < 60 := by omega
      obtain ⟨b, off, rfl, hc, hX⟩ := HX.out.below HR.out.bel k h1
      have HLT := Lib.hid (And.intro h1 h2)
      clear h1 h2
      go_wp2
      go_quiet (fail)
      have ex : wrap64 ((X k : Int) % (w : Int)) = ((X k % w : Nat) : Int) := by
        rw [← Int.natCast_emod]
        exact wrap_small (by have := Nat.mod_lt (X k) h0; omega)
      have ey : wrap64 ((X k : Int) / 64 % (w : Int)) = ((X k / 64 % w : Nat) : Int) := by
        rw [show (X k : Int) / 64 = ((X k / 64 : Nat) : Int) by omega, ← Int.natCast_emod]
        exact wrap_small (by have := Nat.mod_lt (X k / 64) h0; omega)
      rw [ex, ey]
      clear ex ey hc
      have hx0 := Nat.mod_lt (X k) h0
      have hy0 := Nat.mod_lt (X k / 64) h0
      have HFP := Lib.hid (show w * (X k / 64 % w) + X k % w = fps (X k) w from rfl)
      have HFL := Lib.hid (HPS.out (X k))
      generalize X k % w = x at *
      generalize X k / 64 % w = y at *
      obtain ⟨m, hm⟩ : ∃ m, m = w * y := ⟨_, rfl⟩
      rw [← hm] at HFP
      have em : (w : Int) * (y : Int) = (m : Int) := by rw [hm]; simp
      have hlt2 : m + x < N := by rw [HFP.out, HNN.out]; exact HFL.out
      clear hm
      have HB := Lib.hid (show FI W X w N k (wr.drewN nq) from ⟨HR.out.row, Below.drewN' HR.out.bel nq⟩)
      generalize World.drewN _ _ = W1 at HB ⊢
      have hc := br_cell HB.out.row (m + x) hlt2
      have hf : W1.frozen? ⟨W.heap.size, m + x, none⟩ = false := frozen_of_row _ _ (m + x) _ _ HB.out.row
      have HE := Lib.hid (show FI W X w N (k + 1) (W1.setCell ⟨W.heap.size, m + x, none⟩ (.bool true)) from ⟨by
        have h3 := br_put HB.out.row (m + x) true
        rw [HFP.out] at h3 ⊢
        exact h3, HB.out.bel.setCell (p := ⟨W.heap.size, m + x, none⟩) (Nat.le_refl _) _⟩)
      generalize fF X w k (m + x) = old at *
      have m0 : (0 : Int) ≤ (m : Int) := by omega
      have x0 : (0 : Int) ≤ (x : Int) := by omega
      have s0 : (0 : Int) ≤ (m : Int) + (x : Int) := by omega
      have s1 : (m : Int) + (x : Int) < (N : Int) := by omega
      go_wp2
      go_roundw
      case rel => exact ⟨k + 1, by have := HLT.out; omega, by have := HLT.out; omega, by go_num, HE⟩
      case measure => have := HLT.out; simp [intOf]; omega
    · have e : k = min len 60 := by omega
      have HE := Lib.hid e
      by_cases q : k < len
      · have q2 : (k : Int) < (len : Int) := by omega
        have q3 : ¬ (k : Int) < 60 := by omega
        clear e hlt
        go_wp2
        go_ret
        exact ⟨rfl, HE.out ▸ HR.out⟩
      · have q2 : ¬ (k : Int) < (len : Int) := by omega
        clear e hlt
        go_wp2
        go_ret
        exact ⟨rfl, HE.out ▸ HR.out⟩
end Go.Proofs.YtlejohclijjhnaaGreatDoor

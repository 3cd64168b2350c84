/-
  THE WALKS of corners, wide, Wide. Conditions: the grower lies in memory, and there is room.
  THE WALKS of wide, Wide. Conditions: the grower lies in memory, and there is room.
-/
import Derived.Test.YtkefjkfknegogaaA43
namespace Go.Proofs.Ytkefjkfknegogaa
open Go.RowKit Ti Qd Go.Maps Go.WideMaps Ru

abbrev og4 (f : GS → Nat → GS × Int) (s : GS) : Value := .agg #[.int .i64 (outOf f s 0), .int .i64 (outOf f s 1), .int .i64 (outOf f s 2), .int .i64 (outOf f s 3)]
set_option maxRecDepth 100000 in
set_option maxHeartbeats 8000000 in
theorem corners_0 {B : Nat} {w : World} {G P M b l : Nat} {s : GS} {room : Nat} {H : Nat → Prop} (h : Gr B w G P M b l s room H) (id : Int) (hl : Lv s.1 0 id) (hr : (stOf (cornT (at' s.1 id).til) s 4).1.length ≤ room) :
    Calls Try.prog 40 #[.pointer (some ⟨G, 0, none⟩), .int .i64 id, .int .i64 3] w fun e w' => e = .returned (.tuple #[og4 (cornT (at' s.1 id).til) s, .nilIface]) ∧ Gt B w G P M b l room H (stOf (cornT (at' s.1 id).til) s 4) w' := by
  have HS : Hid (Gs B w H G P M b l room s [(w.heap.size, z4l)] (w.alloc (.cells #[.int .i64 0, .int .i64 0, .int .i64 0, .int .i64 0] 80))) := Lib.hid ((Gs.start h).alloc' z4l rfl)
  obtain ⟨t, ht⟩ : ∃ t, t = (at' s.1 id).til := ⟨_, rfl⟩
  rw [← ht] at hr ⊢
  obtain ⟨H1, h1, h2⟩ := HS.out.call
  have HC := Lib.hid (tileCorners_ok h1 id hl t ht.symm hr)
  have HX := Lib.hid h2
  clear h hl hr ht h1 h2
  go_enter Try.func40, Try.ntmps40
  go_wp2_with fail
  refine HC.out.mono ?_
  rintro e w1 ⟨rfl, hg⟩
  have HS1 := Lib.hid (HX.out _ _ hg)
  clear hg HC HX HS
  obtain ⟨d0, d1, d2, d3⟩ := row4 HS1.out.b0
  have f0 := frozen_of_row _ _ 0 _ _ HS1.out.b0
  have f1 := frozen_of_row _ _ 1 _ _ HS1.out.b0
  have f2 := frozen_of_row _ _ 2 _ _ HS1.out.b0
  have f3 := frozen_of_row _ _ 3 _ _ HS1.out.b0
  have HX := Lib.hid HS1.out.b0
  have HE := Lib.hid (Gs.set4 HS1.out (.int .i64 (outOf (cornT t) s 0)) (.int .i64 (outOf (cornT t) s 1)) (.int .i64 (outOf (cornT t) s 2)) (.int .i64 (outOf (cornT t) s 3)))
  go_wp2
  refine post_row_tmp Try.results40 w.heap.size 80 #[.int .i64 (outOf (cornT t) s 0), .int .i64 (outOf (cornT t) s 1), .int .i64 (outOf (cornT t) s 2), .int .i64 (outOf (cornT t) s 3)] (0, 0) _ .nilIface Try.underlying80 rfl info_4 ?_ ?_ (row_set4 HX.out _ _ _ _) ?_ ?_
  · rfl
  · rfl
  · rfl
  exact ⟨rfl, HE.out.gt⟩
set_option maxRecDepth 100000 in
set_option maxHeartbeats 8000000 in
theorem corners_n {B : Nat} {w : World} {G P M b l : Nat} {s : GS} {room : Nat} {H : Nat → Prop} (h : Gr B w G P M b l s room H) (n : Nat) (hn : n ≤ 35) (id : Int) (hl : Lv s.1 (n + 1) id) (q : Sq) (hq : at' s.1 id = q) (s0 : GS) (ev : Int) (hs0 : s0 = ((emp s.1 n).1, s.2)) (hev : ev = (emp s.1 n).2) (hr : (stOf (cornN q ev) s0 4).1.length ≤ room) (lv : Int) (hlv : lv = ((n + 1 : Nat) : Int) + 3) :
    Calls Try.prog 40 #[.pointer (some ⟨G, 0, none⟩), .int .i64 id, .int .i64 lv] w fun e w' => e = .returned (.tuple #[og4 (cornN q ev) s0, .nilIface]) ∧ Gt B w G P M b l room H (stOf (cornN q ev) s0 4) w' := by
  have HS : Hid (Gs B w H G P M b l room s [(w.heap.size, z4l)] (w.alloc (.cells #[.int .i64 0, .int .i64 0, .int .i64 0, .int .i64 0] 80))) := Lib.hid ((Gs.start h).alloc' z4l rfl)
  have hinv := HS.out.inv.1
  have he := emp_ok hinv n (by omega)
  have ext : ∀ k d, (stOf (cornN q ev) s0 k).1 <+: (stOf (cornN q ev) s0 (k + d)).1 := fun k d => stOf_ext (cornN q ev) s0 (fun s k => cornN_ext q ev s k) k d
  have hL0 : (emp s.1 n).1.length ≤ room := by
    have h1 := (ext 0 4).length_le
    rw [hs0] at h1
    exact Nat.le_trans h1 (by rw [hs0] at hr; exact hr)
  have HEM := Lib.hid (fun (wx : World) (Hx : Nat → Prop) (hx : St B wx P s.1 room Hx) => (show Calls Try.prog 24 #[.pointer (some ⟨P, 0, none⟩), .int .i64 (lv - 1)] wx fun e w' => e = .returned (.tuple #[.int .i64 ev, .nilIface]) ∧ Goes B wx P room Hx (emp s.1 n).1 w' from by
    rw [hev]
    exact empty_ok hx n (lv - 1) (by omega) (by omega) hL0))
  have HND := Lib.hid (fun k (hk : k < 4) (wx : World) (Hx : Nat → Prop) (hx : St B wx P (stOf (cornN q ev) s0 k).1 room Hx) => (show Calls Try.prog 31 #[.pointer (some ⟨P, 0, none⟩), .agg #[.int .i64 (abI ev (kid q k) k 0), .int .i64 (abI ev (kid q k) k 1), .int .i64 (abI ev (kid q k) k 2), .int .i64 (abI ev (kid q k) k 3)]] wx fun e w' => e = .returned (.tuple #[.int .i64 (outOf (cornN q ev) s0 k), .nilIface]) ∧ Goes B wx P room Hx (stOf (cornN q ev) s0 (k + 1)).1 w' from by
    have e0 : s.1 <+: (stOf (cornN q ev) s0 k).1 := by
      have h1 := ext 0 k
      rw [Nat.zero_add] at h1
      exact (show s.1 <+: s0.1 from by rw [hs0]; exact he.ext).trans h1
    have e1 : (emp s.1 n).1 <+: (stOf (cornN q ev) s0 k).1 := by
      have h1 := ext 0 k
      rw [Nat.zero_add] at h1
      exact (show (emp s.1 n).1 <+: s0.1 from by rw [hs0]; exact List.prefix_rfl).trans h1
    have hf : ∀ i, i < 4 → Lv (stOf (cornN q ev) s0 k).1 n (abI ev (kid q k) k i) := fun i _ => by
      unfold abI
      split
      · have h2 := (hinv.kid hl k).ext e0
        rw [hq] at h2
        exact h2
      · have h2 := he.lv.ext e1
        rw [← hev] at h2
        exact h2
    have hlen := (ext (k + 1) (4 - (k + 1))).length_le
    rw [show k + 1 + (4 - (k + 1)) = 4 by omega] at hlen
    exact node_ok hx _ _ _ _ _ (four_of hf) (by omega) (Nat.le_trans hlen hr)))
  have HK2 := Lib.hid (show ∀ k, (stOf (cornN q ev) s0 (k + 1)).2 = (stOf (cornN q ev) s0 k).2 from fun k => rfl)
  have HL := Lib.hid hl
  have HQ := Lib.hid hq
  have HS0 := Lib.hid hs0
  have e3 : (lv == 3) = false := by rw [beq_eq_false_iff_ne]; omega
  have l0 : (0 : Int) ≤ lv := by omega
  have l1 : lv ≤ 100 := by omega
  clear h hl hr hinv he ext hL0 hs0 hev hq hlv hn
  go_enter Try.func40, Try.ntmps40
  go_upto_region 3 with (fail)
  generalize World.alloc _ _ = W at HS ⊢
  have hp := HS.out.ptr
  obtain ⟨Hs, hst, _⟩ := HS.out.store
  have HC := Lib.hid (kids_ok hst n id HL.out q HQ.out)
  clear hst
  go_wp2_with fail
  refine HC.out.mono ?_
  rintro e w1 ⟨rfl, hb⟩
  have HS1 := Lib.hid ((HS.out.below hb).alloc (.cells #[.int .i64 q.k0, .int .i64 q.k1, .int .i64 q.k2, .int .i64 q.k3] 80))
  clear hb HC hp HS
  go_upto_region 6 with (fail)
  obtain ⟨g8, hg8⟩ : ∃ g, g = w1.heap.size := ⟨_, rfl⟩
  rw [← hg8] at HS1 ⊢
  generalize World.alloc _ _ = W1 at HS1 ⊢
  clear hg8
  have hp := HS1.out.ptr
  obtain ⟨Hs, hst, hgo⟩ := HS1.out.store
  have HC := Lib.hid (HEM.out _ _ hst)
  have HGO := Lib.hid hgo
  clear hst hgo HEM
  go_wp2_with fail
  refine HC.out.mono ?_
  rintro e w2 ⟨rfl, hg⟩
  have HS2 := Lib.hid (show Gs B w H G P M b l room s0 _ w2 from HS0.out ▸ HGO.out _ _ hg)
  have HS3 := Lib.hid (HS2.out.alloc z4l)
  clear hg HC HGO hp HS1 HS2
  obtain ⟨c0, c1, c2, c3⟩ := row4 HS3.out.b1
  obtain ⟨g11, hg11⟩ : ∃ g, g = w2.heap.size := ⟨_, rfl⟩
  go_upto_region 10 with (fail)
  rw [← hg11] at HS3 ⊢
  generalize World.alloc _ _ = W3 at HS3 c0 c1 c2 c3 ⊢
  clear hg11
  go_wp2
  have HR0 : Hid (Gs B w H G P M b l room (stOf (cornN q ev) s0 0) [(g11, .cells (ir (cpF 0 (outOf (cornN q ev) s0) 0) 4) 80), (w.heap.size, z4l)] W3) := Lib.hid (HS3.out.swap.tail)
  clear HS3 c0 c1 c2 c3
  go_loopw [50] (fun i wr => ∃ k : Nat, k ≤ 4 ∧ i = .int .i64 k ∧ Hid (Gs B w H G P M b l room (stOf (cornN q ev) s0 k) [(g11, .cells (ir (cpF 0 (outOf (cornN q ev) s0) k) 4) 80), (w.heap.size, z4l)] wr)) (fun i _ => 4 - (intOf i).toNat)
  case atStart => exact ⟨0, by omega, rfl, HR0⟩
  case round =>
    clear HR0
    obtain ⟨k, hk, rfl, HR⟩ := hrel
    have k0 : (0 : Int) ≤ (k : Int) := by omega
    by_cases hlt : k < 4
    · have k1 : (k : Int) < 4 := by omega
      have HLT := Lib.hid hlt
      obtain ⟨m, hm⟩ : ∃ m, m = 3 - k := ⟨_, rfl⟩
      have m0 : (0 : Int) ≤ (m : Int) := by omega
      have m1 : (m : Int) < 4 := by omega
      have HM := Lib.hid (opposite_m k m hlt hm)
      have HR1 : Hid (Gs B w H G P M b l room (stOf (cornN q ev) s0 k) [(wr.heap.size, .cells (ir (fun _ => ev) 4) 80), (g11, .cells (ir (cpF 0 (outOf (cornN q ev) s0) k) 4) 80), (w.heap.size, z4l)] (wr.alloc (.cells #[.int .i64 ev, .int .i64 ev, .int .i64 ev, .int .i64 ev] 80))) := Lib.hid (HR.out.alloc _)
      have HNK := Lib.hid (HND.out k hlt)
      have HMM := Lib.hid hm
      have hx : ∀ W, (Instr.index 80 (.agg #[.int .i64 q.k0, .int .i64 q.k1, .int .i64 q.k2, .int .i64 q.k3]) (.int .i64 (k : Int))).run Try.prog W = .ok (.int .i64 (kid q k)) W := idx4 (kid q) k hlt
      obtain ⟨kd, hkd⟩ : ∃ kd, kd = kid q k := ⟨_, rfl⟩
      rw [← hkd] at hx HNK
      clear hlt hm HR hkd
      go_upto_region 14 with (fail)
      obtain ⟨g14, hg14⟩ : ∃ g, g = wr.heap.size := ⟨_, rfl⟩
      rw [← hg14] at HR1 ⊢
      generalize World.alloc _ _ = W4 at HR1 ⊢
      clear hg14 hx
      have tc := ir_cell HR1.out.b0 m (by omega)
      have tf := ir_fro HR1.out.b0 m
      have HP := Lib.hid (show (W4.setCell ⟨g14, m, none⟩ (.int .i64 kd)).heap[g14]? = some (.cells #[.int .i64 (abI ev kd k 0), .int .i64 (abI ev kd k 1), .int .i64 (abI ev kd k 2), .int .i64 (abI ev kd k 3)] 80) from by
        have h1 := ir_put HR1.out.b0 m kd
        rw [upd_abI ev kd k m HMM.out] at h1
        exact h1)
      have HR2 := Lib.hid (HR1.out.set HP.out)
      obtain ⟨a0, ha0⟩ : ∃ a, a = abI ev kd k 0 := ⟨_, rfl⟩
      obtain ⟨a1, ha1⟩ : ∃ a, a = abI ev kd k 1 := ⟨_, rfl⟩
      obtain ⟨a2, ha2⟩ : ∃ a, a = abI ev kd k 2 := ⟨_, rfl⟩
      obtain ⟨a3, ha3⟩ : ∃ a, a = abI ev kd k 3 := ⟨_, rfl⟩
      rw [← ha0, ← ha1, ← ha2, ← ha3] at HR2 HNK
      clear HP ha0 ha1 ha2 ha3
      go_upto_region 15 with (go_at_call 55; refine (HM.out _).mono ?_; rintro e w3 ⟨rfl, rfl⟩)
      clear tc tf HR1
      generalize World.setCell _ _ _ = W5 at HR2 ⊢
      have HD := Lib.hid HR2.out.drew
      have KD := Lib.hid (And.intro HD.out.ptr (row4 HD.out.b0))
      obtain ⟨Hs5, hst, hgo⟩ := HD.out.store
      have HGO := Lib.hid hgo
      have HN5 := Lib.hid (HNK.out _ _ hst)
      clear hst hgo HNK
      go_region_held3 (fun w' => w'.cell? ⟨G, 0, none⟩ = some (.pointer (some ⟨P, 0, none⟩)) ∧ w'.cell? ⟨g14, 0, none⟩ = some (.int .i64 a0) ∧ w'.cell? ⟨g14, 1, none⟩ = some (.int .i64 a1) ∧ w'.cell? ⟨g14, 2, none⟩ = some (.int .i64 a2) ∧ w'.cell? ⟨g14, 3, none⟩ = some (.int .i64 a3)) (first | with_reducible exact KD.out | with_reducible exact ks | with_reducible exact kx)
        ((go_at_call 31; with_reducible refine HN5.out.mono ?_; rintro e w7 ⟨rfl, hg⟩; have HR7 := Lib.hid (HGO.out _ _ hg); have ks := And.intro HR7.out.ptr (row4 HR7.out.b0); have hc := ir_cell HR7.out.b1 k HLT.out; have hfz := ir_fro HR7.out.b1 k; have HR8 := Lib.hid (HR7.out.swap.set (i := k) (v := .int .i64 (outOf (cornN q ev) s0 k)) (ir_put HR7.out.b1 k (outOf (cornN q ev) s0 k))); have kx := And.intro HR8.out.ptr (row4 HR8.out.b1); clear hg))
      have HR9 : Hid (Gs B w H G P M b l room (stOf (cornN q ev) s0 (k + 1)) [(g11, .cells (ir (cpF 0 (outOf (cornN q ev) s0) (k + 1)) 4) 80), (w.heap.size, z4l)] (w7.setCell ⟨g11, k, none⟩ (.int .i64 (outOf (cornN q ev) s0 k)))) := Lib.hid (by
        rw [← cp_step 0 (outOf (cornN q ev) s0) k]
        exact HR8.out.swap.tail)
      go_wp2
      go_roundw
      case rel => exact ⟨k + 1, by have := HLT.out; omega, by go_num, HR9⟩
      case measure => have := HLT.out; simp [intOf]; omega
    · obtain rfl : k = 4 := by omega
      have HD : Hid (Gs B w H G P M b l room (stOf (cornN q ev) s0 4) [(g11, .cells #[.int .i64 (outOf (cornN q ev) s0 0), .int .i64 (outOf (cornN q ev) s0 1), .int .i64 (outOf (cornN q ev) s0 2), .int .i64 (outOf (cornN q ev) s0 3)] 80), (w.heap.size, z4l)] wr) := HR
      obtain ⟨c0, c1, c2, c3⟩ := row4 HD.out.b0
      obtain ⟨d0, d1, d2, d3⟩ := row4 HD.out.b1
      have f0 := frozen_of_row _ _ 0 _ _ HD.out.b1
      have f1 := frozen_of_row _ _ 1 _ _ HD.out.b1
      have f2 := frozen_of_row _ _ 2 _ _ HD.out.b1
      have f3 := frozen_of_row _ _ 3 _ _ HD.out.b1
      have HX := Lib.hid HD.out.b1
      have HE := Lib.hid (Gs.set4 HD.out.tail (.int .i64 (outOf (cornN q ev) s0 0)) (.int .i64 (outOf (cornN q ev) s0 1)) (.int .i64 (outOf (cornN q ev) s0 2)) (.int .i64 (outOf (cornN q ev) s0 3)))
      clear HR HD
      go_wp2
      refine post_row_tmp Try.results40 w.heap.size 80 #[.int .i64 (outOf (cornN q ev) s0 0), .int .i64 (outOf (cornN q ev) s0 1), .int .i64 (outOf (cornN q ev) s0 2), .int .i64 (outOf (cornN q ev) s0 3)] (0, 0) _ .nilIface Try.underlying80 rfl info_4 ?_ ?_ (row_set4 HX.out _ _ _ _) ?_ ?_
      · rfl
      · rfl
      · rfl
      exact ⟨rfl, HE.out.gt⟩
end Go.Proofs.Ytkefjkfknegogaa
namespace Go.Proofs.Ytkefjkfknegogaa
open Go.RowKit Ti Qd Go.Maps Go.WideMaps Ru

theorem corn_way {b l : Nat} {s : GS} (hs : GOk b l s) {n : Nat} (hn : n ≤ 36) {id : Int} (hl : Lv s.1 n id) : Wy b l (cornF s.1 n id (corn0 s n).2) (corn0 s n).1 n 4 := by
  match n, hn, hl with
  | 0, _, hl =>
    refine wy_of (N := 4) hs (fun k _ s' _ hs' => ⟨put_ext _ _, GOk.ext (L := s'.1) (K := s'.2) hs' (hs'.inv.leaf _) (put_ext _ _), ⟨put_ok _ _, ?_⟩⟩) 4 (Nat.le_refl _)
    show (at' (put s'.1 _) (nr s'.1 _)).lev = _
    rw [put_at]
    rfl
  | n + 1, hn, hl =>
    have he := emp_ok hs.inv n (by omega)
    have g0 : GOk b l (corn0 s (n + 1)).1 := GOk.ext (L := s.1) (K := s.2) hs he.inv he.ext
    refine wy_of (N := 4) g0 (fun k hk s' hx hs' => ?_) 4 (Nat.le_refl _)
    have := node_of b l n (by omega) s' hs' (abI (emp s.1 n).2 (kid (at' s.1 id) k) k) (fun i _ => by
      unfold abI
      split
      · exact (hs.inv.kid hl k).ext (he.ext.trans hx)
      · exact he.lv.ext hx)
    exact this
theorem corners_any {B : Nat} {w : World} {G P M b l : Nat} {s : GS} {room : Nat} {H : Nat → Prop} (h : Gr B w G P M b l s room H) (n : Nat) (hn : n ≤ 36) (id : Int) (hl : Lv s.1 n id) (lv : Int) (hlv : lv = (n : Int) + 3) (hr : (stOf (cornF s.1 n id (corn0 s n).2) (corn0 s n).1 4).1.length ≤ room) :
    Calls Try.prog 40 #[.pointer (some ⟨G, 0, none⟩), .int .i64 id, .int .i64 lv] w fun e w' => e = .returned (.tuple #[og4 (cornF s.1 n id (corn0 s n).2) (corn0 s n).1, .nilIface]) ∧ Gt B w G P M b l room H (stOf (cornF s.1 n id (corn0 s n).2) (corn0 s n).1 4) w' := by
  match n, hn, hl, hlv, hr with
  | 0, _, hl, hlv, hr =>
    subst hlv
    exact corners_0 h id hl hr
  | n + 1, hn, hl, hlv, hr => exact corners_n h n (by omega) id hl _ rfl (corn0 s (n + 1)).1 _ rfl rfl hr lv hlv
set_option maxRecDepth 100000 in
set_option maxHeartbeats 4000000 in
theorem wide_ok {B : Nat} {w : World} {G P M b l : Nat} {s : GS} {room : Nat} {H : Nat → Prop} (h : Gr B w G P M b l s room H) (hk : GOk b l s) (n : Nat) (hn : n ≤ 36) (id : Int) (hl : Lv s.1 n id) (lv : Int) (hlv : lv = (n : Int) + 3) (hr : (wideG s n id).1.1.length ≤ room) :
    Calls Try.prog 27 #[.pointer (some ⟨G, 0, none⟩), .int .i64 id, .int .i64 lv] w fun e w' => e = .returned (.tuple #[.int .i64 (wideG s n id).2, .nilIface]) ∧ Gt B w G P M b l room H (wideG s n id).1 w' := by
  have HS := Lib.hid (Gs.start h)
  have wy := corn_way hk hn hl
  obtain ⟨f, hf⟩ : ∃ f, f = cornF s.1 n id (corn0 s n).2 := ⟨_, rfl⟩
  obtain ⟨s0, hs0⟩ : ∃ s0, s0 = (corn0 s n).1 := ⟨_, rfl⟩
  have hq : wideG s n id = nodeG (stOf f s0 4) (outOf f s0 0) (outOf f s0 1) (outOf f s0 2) (outOf f s0 3) := by rw [hf, hs0]; rfl
  rw [hq] at hr ⊢
  have hr4 : (stOf f s0 4).1.length ≤ room := Nat.le_trans (put_ext _ _).length_le hr
  have HC := Lib.hid (show Calls Try.prog 40 #[.pointer (some ⟨G, 0, none⟩), .int .i64 id, .int .i64 lv] w fun e w' => e = .returned (.tuple #[og4 f s0, .nilIface]) ∧ Gt B w G P M b l room H (stOf f s0 4) w' from by
    rw [hf, hs0] at hr4 ⊢
    exact corners_any h n hn id hl lv hlv hr4)
  rw [← hf, ← hs0] at wy
  have HND := Lib.hid (fun (wx : World) (Hx : Nat → Prop) (hx : St B wx P (stOf f s0 4).1 room Hx) => node_ok hx (outOf f s0 0) (outOf f s0 1) (outOf f s0 2) (outOf f s0 3) _ (four_of (f := outOf f s0) wy.lv) (by omega) hr)
  have HX := Lib.hid (show ∀ (s' : GS) (w' : World), Gt B w G P M b l room H s' w' → Gs B w H G P M b l room s' [] w' from fun s' w' hg => Gs.goes ⟨h, Stp.refl _ _, fun x hx => by cases hx⟩ List.nodup_nil HS.out.lo hg)
  clear h hk hl hr hr4 wy hf hs0 hq hlv hn HS
  unfold nodeG
  go_enter Try.func27, Try.ntmps27
  go_wp2_with fail
  refine HC.out.mono ?_
  rintro e w1 ⟨rfl, hg⟩
  have HS1 := Lib.hid ((HX.out _ _ hg).alloc (.cells #[.int .i64 (outOf f s0 0), .int .i64 (outOf f s0 1), .int .i64 (outOf f s0 2), .int .i64 (outOf f s0 3)] 80))
  clear hg HC HX
  obtain ⟨g8, hg8⟩ : ∃ g, g = w1.heap.size := ⟨_, rfl⟩
  go_upto_region 4 with (fail)
  rw [← hg8] at HS1 ⊢
  generalize World.alloc _ _ = W1 at HS1 ⊢
  clear hg8
  have HD := Lib.hid HS1.out.drew
  have KD := Lib.hid (And.intro HD.out.ptr (row4 HD.out.b0))
  obtain ⟨Hs5, hst, hgo⟩ := HD.out.store
  have HGO := Lib.hid hgo
  have HN5 := Lib.hid (HND.out _ _ hst)
  clear hst hgo HND
  go_region_held3 (fun w' => w'.cell? ⟨G, 0, none⟩ = some (.pointer (some ⟨P, 0, none⟩)) ∧ w'.cell? ⟨g8, 0, none⟩ = some (.int .i64 (outOf f s0 0)) ∧ w'.cell? ⟨g8, 1, none⟩ = some (.int .i64 (outOf f s0 1)) ∧ w'.cell? ⟨g8, 2, none⟩ = some (.int .i64 (outOf f s0 2)) ∧ w'.cell? ⟨g8, 3, none⟩ = some (.int .i64 (outOf f s0 3))) (first | with_reducible exact KD.out | with_reducible exact ks)
    ((go_at_call 31; with_reducible refine HN5.out.mono ?_; rintro e w7 ⟨rfl, hg⟩; have HR7 := Lib.hid (HGO.out _ _ hg); have ks := And.intro HR7.out.ptr (row4 HR7.out.b0); clear hg))
  go_wp2
  go_ret2
  exact ⟨rfl, HR7.out.gt⟩
set_option maxRecDepth 100000 in
set_option maxHeartbeats 4000000 in
theorem wideP_ok {B : Nat} {w : World} {G P M b l : Nat} {s : GS} {room : Nat} {H : Nat → Prop} (h : Gr B w G P M b l s room H) (hk : GOk b l s) (n : Nat) (hn : n ≤ 36) (id : Int) (hl : Lv s.1 n id) (hr : (wideG s n id).1.1.length ≤ room) :
    Calls Try.prog 18 #[.pointer (some ⟨G, 0, none⟩), .int .i64 id] w fun e w' => e = .returned (.tuple #[.int .i64 (wideG s n id).2, .nilIface]) ∧ Gt B w G P M b l room H (wideG s n id).1 w' := by
  have HS := Lib.hid (Gs.start h)
  have hp := HS.out.ptr
  obtain ⟨lv, hlv⟩ : ∃ lv : Int, lv = (n : Int) + 3 := ⟨_, rfl⟩
  have HWD := Lib.hid (fun (wx : World) (Hx : Nat → Prop) (hx : Gr B wx G P M b l s room Hx) => wide_ok hx hk n hn id hl lv hlv hr)
  obtain ⟨Hs, hst, _⟩ := HS.out.store
  have HLV := Lib.hid (level_is hst id hl.1 lv (by rw [hlv]; exact hl.2))
  have e40 : (lv == 40) = false := by rw [beq_eq_false_iff_ne]; omega
  clear h hk hl hr hst hlv hn
  generalize wideG s n id = R at *
  go_enter Try.func18, Try.ntmps18
  go_wp2_with fail
  refine HLV.out.mono ?_
  rintro e w2 ⟨rfl, hb⟩
  have HS2 := Lib.hid (HS.out.below hb)
  clear hb hp HLV HS
  obtain ⟨H1, h1, h2⟩ := HS2.out.call
  have HC := Lib.hid (HWD.out _ _ h1)
  have HX := Lib.hid h2
  clear h1 h2 HWD
  go_wp2_with fail
  refine HC.out.mono ?_
  rintro e w4 ⟨rfl, hg⟩
  have HS4 := Lib.hid (HX.out _ _ hg)
  clear hg
  go_wp2
  go_ret2
  exact ⟨rfl, HS4.out.gt⟩
end Go.Proofs.Ytkefjkfknegogaa

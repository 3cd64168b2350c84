/-
  THE WALKS of tileCorners, corners. Conditions: the grower lies in memory, and there is room.
  THE WALKS of corners, wide, Wide. Conditions: the grower lies in memory, and there is room.
-/
import Derived.Test.YtkefjkfknegogaaGreatP30
import Derived.Test.YtkefjkfknegogaaGreatP05
namespace Go.Proofs.YtkefjkfknegogaaGreat
open Go.RowKit Ti Qd Go.Maps Go.WideMaps Ru

theorem cornT_ext (t : T6) (s : GS) (k : Nat) : s.1 <+: (cornT t s k).1.1 := put_ext _ _
theorem cornN_ext (q : Sq) (e : Int) (s : GS) (k : Nat) : s.1 <+: (cornN q e s k).1.1 := put_ext _ _
theorem Gs.swap {B : Nat} {w0 w : World} {H0 : Nat → Prop} {G P M b l room : Nat} {s : GS} {bx : List (Nat × Obj)} {x y : Nat × Obj} (h : Gs B w0 H0 G P M b l room s (x :: y :: bx) w) : Gs B w0 H0 G P M b l room s (y :: x :: bx) w :=
  h.sub (fun z hz => by
    rcases List.mem_cons.1 hz with rfl | hz
    · exact List.mem_cons_of_mem _ List.mem_cons_self
    rcases List.mem_cons.1 hz with rfl | hz
    · exact List.mem_cons_self
    · exact List.mem_cons_of_mem _ (List.mem_cons_of_mem _ hz)) (((List.Perm.swap y x bx).map Prod.fst).nodup_iff.1 h.nd)
theorem upd_ab0 (t : T6) (k m : Nat) (hm : m = 3 - k) : upd (fun _ => 0#64) m t = ab0 t k := by
  subst hm
  rfl
theorem upd_abI (e kd : Int) (k m : Nat) (hm : m = 3 - k) : upd (fun _ => e) m kd = abI e kd k := by
  subst hm
  rfl
set_option maxRecDepth 100000 in
set_option maxHeartbeats 8000000 in
theorem tileCorners_ok {B : Nat} {w : World} {G P M b l : Nat} {s : GS} {room : Nat} {H : Nat → Prop} (h : Gr B w G P M b l s room H) (id : Int) (hl : Lv s.1 0 id) (t : T6) (ht : (at' s.1 id).til = t) (hr : (stOf (cornT t) s 4).1.length ≤ room) :
    Calls Tryz.prog 68 #[.pointer (some ⟨G, 0, none⟩), .int .i64 id] w fun e w' => e = .returned (.tuple #[.agg #[.int .i64 (outOf (cornT t) s 0), .int .i64 (outOf (cornT t) s 1), .int .i64 (outOf (cornT t) s 2), .int .i64 (outOf (cornT t) s 3)], .nilIface]) ∧ Gt B w G P M b l room H (stOf (cornT t) s 4) w' := by
  have HS : Hid (Gs B w H G P M b l room s [(w.heap.size, z4l)] (w.alloc (.cells #[.int .i64 0, .int .i64 0, .int .i64 0, .int .i64 0] 96))) := Lib.hid ((Gs.start h).alloc' z4l rfl)
  have HRM := Lib.hid (fun k (hk : k < 4) => (show (put (stOf (cornT t) s k).1 (leafQ (growB 0 0 0 (q4 (ab0 t k 0) (ab0 t k 1) (ab0 t k 2) (ab0 t k 3))))).length ≤ room from by
    have := (stOf_ext (cornT t) s (fun s k => cornT_ext t s k) (k + 1) (4 - (k + 1))).length_le
    rw [show k + 1 + (4 - (k + 1)) = 4 by omega] at this
    exact Nat.le_trans this hr))
  have HL := Lib.hid hl
  have HT := Lib.hid ht
  clear h hl hr ht
  go_enter Tryz.func68, Tryz.ntmps68
  go_upto_region 1 with (fail)
  generalize World.alloc _ _ = W at HS ⊢
  have hp := HS.out.ptr
  obtain ⟨Hs, hst, _⟩ := HS.out.store
  have HC := Lib.hid (tile_ok hst id HL.out t HT.out)
  clear hst
  go_wp2_with fail
  refine HC.out.mono ?_
  rintro e w1 ⟨rfl, hb⟩
  have HS1 := Lib.hid ((HS.out.below hb).alloc z4l)
  clear hb HC hp HS
  obtain ⟨g8, hg8⟩ : ∃ g, g = w1.heap.size := ⟨_, rfl⟩
  go_wp2
  rw [← hg8] at HS1 ⊢
  generalize World.alloc _ _ = W1 at HS1 ⊢
  clear hg8
  have HR0 : Hid (Gs B w H G P M b l room s [(g8, .cells (ir (cpF 0 (outOf (cornT t) s) 0) 4) 96), (w.heap.size, z4l)] W1) := HS1
  clear HS1
  go_loopw [24] (fun i wr => ∃ k : Nat, k ≤ 4 ∧ i = .int .i64 k ∧ Hid (Gs B w H G P M b l room (stOf (cornT t) s k) [(g8, .cells (ir (cpF 0 (outOf (cornT t) s) k) 4) 96), (w.heap.size, z4l)] wr)) (fun i _ => 4 - (intOf i).toNat)
  case atStart => exact ⟨0, by omega, rfl, HR0⟩
  case round =>
    clear HR0
    obtain ⟨k, hk, rfl, HR⟩ := hrel
    have k0 : (0 : Int) ≤ (k : Int) := by omega
    by_cases hlt : k < 4
    · have k1 : (k : Int) < 4 := by omega
      have HLT := Lib.hid hlt
      obtain ⟨m, hm⟩ : ∃ m, m = 3 - k := ⟨_, rfl⟩
      have m0 : (0 : Int) ≤ (m : Int) := by omega
      have m1 : (m : Int) < 4 := by omega
      have HM := Lib.hid (opposite_m k m hlt hm)
      have HR1 : Hid (Gs B w H G P M b l room (stOf (cornT t) s k) [(wr.heap.size, .cells (trow (fun _ => 0#64) 4) 142), (g8, .cells (ir (cpF 0 (outOf (cornT t) s) k) 4) 96), (w.heap.size, z4l)] (wr.alloc (.cells #[.int .u64 0, .int .u64 0, .int .u64 0, .int .u64 0] 142))) := Lib.hid (HR.out.alloc zt4)
      have HMD := Lib.hid (fun w => middle_any (ab0 t k 0) (ab0 t k 1) (ab0 t k 2) (ab0 t k 3) w)
      have HRK := Lib.hid (HRM.out k hlt)
      have HQ := Lib.hid (show nr (stOf (cornT t) s k).1 (leafQ (growB 0 0 0 (q4 (ab0 t k 0) (ab0 t k 1) (ab0 t k 2) (ab0 t k 3)))) = outOf (cornT t) s k ∧ (put (stOf (cornT t) s k).1 (leafQ (growB 0 0 0 (q4 (ab0 t k 0) (ab0 t k 1) (ab0 t k 2) (ab0 t k 3)))), (stOf (cornT t) s k).2) = stOf (cornT t) s (k + 1) from ⟨rfl, rfl⟩)
      generalize growB 0 0 0 (q4 (ab0 t k 0) (ab0 t k 1) (ab0 t k 2) (ab0 t k 3)) = X at *
      have HMM := Lib.hid hm
      clear hlt hm HR
      go_upto_region 9 with (fail)
      obtain ⟨g10, hg10⟩ : ∃ g, g = wr.heap.size := ⟨_, rfl⟩
      rw [← hg10] at HR1 ⊢
      generalize World.alloc _ _ = W1 at HR1 ⊢
      clear hg10
      obtain ⟨tc, tf⟩ := tr_cell HR1.out.b0 (show m < 4 by omega)
      have HP := Lib.hid (show (W1.setCell ⟨g10, m, none⟩ (.int .u64 (rg t))).heap[g10]? = some (.cells #[.int .u64 (rg (ab0 t k 0)), .int .u64 (rg (ab0 t k 1)), .int .u64 (rg (ab0 t k 2)), .int .u64 (rg (ab0 t k 3))] 142) from by
        have h1 := tr_set (i := m) HR1.out.b0 t
        rw [upd_ab0 t k m HMM.out] at h1
        exact h1)
      have HR2 := Lib.hid (HR1.out.set HP.out)
      obtain ⟨a0, ha0⟩ : ∃ a, a = ab0 t k 0 := ⟨_, rfl⟩
      obtain ⟨a1, ha1⟩ : ∃ a, a = ab0 t k 1 := ⟨_, rfl⟩
      obtain ⟨a2, ha2⟩ : ∃ a, a = ab0 t k 2 := ⟨_, rfl⟩
      obtain ⟨a3, ha3⟩ : ∃ a, a = ab0 t k 3 := ⟨_, rfl⟩
      rw [← ha0, ← ha1, ← ha2, ← ha3] at HR2 HMD
      clear HP ha0 ha1 ha2 ha3
      go_upto_region 10 with (go_at_call 69; refine (HM.out _).mono ?_; rintro e w3 ⟨rfl, rfl⟩)
      clear tc tf HR1
      generalize World.setCell _ _ _ = W2 at HR2 ⊢
      have HD := Lib.hid HR2.out.drew
      have KD := Lib.hid (And.intro HD.out.ptr (row4 HD.out.b0))
      have HLF := Lib.hid (show ∀ (wx : World) (Hx : Nat → Prop), St B wx P (stOf (cornT t) s k).1 room Hx → Calls Tryz.prog 44 #[.pointer (some ⟨P, 0, none⟩), .int .u64 (rg X)] wx fun e w' => e = .returned (.tuple #[.int .i64 (outOf (cornT t) s k), .nilIface]) ∧ Goes B wx P room Hx (put (stOf (cornT t) s k).1 (leafQ X)) w' from fun wx Hx hst => by
        rw [← HQ.out.1]
        exact leaf_ok hst X HRK.out)
      go_region_held3 (fun w' => w'.cell? ⟨G, 0, none⟩ = some (.pointer (some ⟨P, 0, none⟩)) ∧ w'.cell? ⟨g10, 0, none⟩ = some (.int .u64 (rg a0)) ∧ w'.cell? ⟨g10, 1, none⟩ = some (.int .u64 (rg a1)) ∧ w'.cell? ⟨g10, 2, none⟩ = some (.int .u64 (rg a2)) ∧ w'.cell? ⟨g10, 3, none⟩ = some (.int .u64 (rg a3))) (first | with_reducible exact KD.out | with_reducible exact ks | with_reducible exact kx)
        (first
          | (go_at_call 75; with_reducible refine (HMD.out _).mono ?_; rintro e w5 ⟨rfl, hb⟩; have HR5 := Lib.hid (HD.out.below hb); have ks := And.intro HR5.out.ptr (row4 HR5.out.b0); obtain ⟨Hs5, hst, hgo⟩ := HR5.out.store; have HGO := Lib.hid hgo; have HL5 := Lib.hid (HLF.out _ _ hst); clear hb hst hgo)
          | (go_at_call 44; with_reducible refine HL5.out.mono ?_; rintro e w7 ⟨rfl, hg⟩; have HR7 := Lib.hid (HGO.out _ _ hg); have ks := And.intro HR7.out.ptr (row4 HR7.out.b0); have hc := ir_cell HR7.out.b1 k HLT.out; have hfz := ir_fro HR7.out.b1 k; have HR8 := Lib.hid (HR7.out.swap.set (i := k) (v := .int .i64 (outOf (cornT t) s k)) (ir_put HR7.out.b1 k (outOf (cornT t) s k))); have kx := And.intro HR8.out.ptr (row4 HR8.out.b1); clear hg))
      have HR9 : Hid (Gs B w H G P M b l room (stOf (cornT t) s (k + 1)) [(g8, .cells (ir (cpF 0 (outOf (cornT t) s) (k + 1)) 4) 96), (w.heap.size, z4l)] (w7.setCell ⟨g8, k, none⟩ (.int .i64 (outOf (cornT t) s k)))) := Lib.hid (by
        rw [← HQ.out.2, ← cp_step 0 (outOf (cornT t) s) k]
        exact HR8.out.swap.tail)
      go_wp2
      go_roundw
      case rel => exact ⟨k + 1, by have := HLT.out; omega, by go_num, HR9⟩
      case measure => have := HLT.out; simp [intOf]; omega
    · obtain rfl : k = 4 := by omega
      have HD : Hid (Gs B w H G P M b l room (stOf (cornT t) s 4) [(g8, .cells #[.int .i64 (outOf (cornT t) s 0), .int .i64 (outOf (cornT t) s 1), .int .i64 (outOf (cornT t) s 2), .int .i64 (outOf (cornT t) s 3)] 96), (w.heap.size, z4l)] wr) := HR
      obtain ⟨c0, c1, c2, c3⟩ := row4 HD.out.b0
      obtain ⟨d0, d1, d2, d3⟩ := row4 HD.out.b1
      have f0 := frozen_of_row _ _ 0 _ _ HD.out.b1
      have f1 := frozen_of_row _ _ 1 _ _ HD.out.b1
      have f2 := frozen_of_row _ _ 2 _ _ HD.out.b1
      have f3 := frozen_of_row _ _ 3 _ _ HD.out.b1
      have HX := Lib.hid HD.out.b1
      have HE := Lib.hid (Gs.set4 HD.out.tail (.int .i64 (outOf (cornT t) s 0)) (.int .i64 (outOf (cornT t) s 1)) (.int .i64 (outOf (cornT t) s 2)) (.int .i64 (outOf (cornT t) s 3)))
      clear HR HD
      go_wp2
      refine post_row_tmp Tryz.results68 w.heap.size 96 #[.int .i64 (outOf (cornT t) s 0), .int .i64 (outOf (cornT t) s 1), .int .i64 (outOf (cornT t) s 2), .int .i64 (outOf (cornT t) s 3)] (0, 0) _ .nilIface Tryz.underlying96 rfl info_4 ?_ ?_ (row_set4 HX.out _ _ _ _) ?_ ?_
      · rfl
      · rfl
      · rfl
      exact ⟨rfl, HE.out.gt⟩
end Go.Proofs.YtkefjkfknegogaaGreat
namespace Go.Proofs.YtkefjkfknegogaaGreat
open Go.RowKit Ti Qd Go.Maps Go.WideMaps Ru

abbrev og4 (f : GS → Nat → GS × Int) (s : GS) : Value := .agg #[.int .i64 (outOf f s 0), .int .i64 (outOf f s 1), .int .i64 (outOf f s 2), .int .i64 (outOf f s 3)]
set_option maxRecDepth 100000 in
set_option maxHeartbeats 8000000 in
theorem corners_0 {B : Nat} {w : World} {G P M b l : Nat} {s : GS} {room : Nat} {H : Nat → Prop} (h : Gr B w G P M b l s room H) (id : Int) (hl : Lv s.1 0 id) (hr : (stOf (cornT (at' s.1 id).til) s 4).1.length ≤ room) :
    Calls Tryz.prog 48 #[.pointer (some ⟨G, 0, none⟩), .int .i64 id, .int .i64 3] w fun e w' => e = .returned (.tuple #[og4 (cornT (at' s.1 id).til) s, .nilIface]) ∧ Gt B w G P M b l room H (stOf (cornT (at' s.1 id).til) s 4) w' := by
  have HS : Hid (Gs B w H G P M b l room s [(w.heap.size, z4l)] (w.alloc (.cells #[.int .i64 0, .int .i64 0, .int .i64 0, .int .i64 0] 96))) := Lib.hid ((Gs.start h).alloc' z4l rfl)
  obtain ⟨t, ht⟩ : ∃ t, t = (at' s.1 id).til := ⟨_, rfl⟩
  rw [← ht] at hr ⊢
  obtain ⟨H1, h1, h2⟩ := HS.out.call
  have HC := Lib.hid (tileCorners_ok h1 id hl t ht.symm hr)
  have HX := Lib.hid h2
  clear h hl hr ht h1 h2
  go_enter Tryz.func48, Tryz.ntmps48
  go_wp2_with fail
  refine HC.out.mono ?_
  rintro e w1 ⟨rfl, hg⟩
  have HS1 := Lib.hid (HX.out _ _ hg)
  clear hg HC HX HS
  obtain ⟨d0, d1, d2, d3⟩ := row4 HS1.out.b0
  have f0 := frozen_of_row _ _ 0 _ _ HS1.out.b0
  have f1 := frozen_of_row _ _ 1 _ _ HS1.out.b0
  have f2 := frozen_of_row _ _ 2 _ _ HS1.out.b0
  have f3 := frozen_of_row _ _ 3 _ _ HS1.out.b0
  have HX := Lib.hid HS1.out.b0
  have HE := Lib.hid (Gs.set4 HS1.out (.int .i64 (outOf (cornT t) s 0)) (.int .i64 (outOf (cornT t) s 1)) (.int .i64 (outOf (cornT t) s 2)) (.int .i64 (outOf (cornT t) s 3)))
  go_wp2
  refine post_row_tmp Tryz.results48 w.heap.size 96 #[.int .i64 (outOf (cornT t) s 0), .int .i64 (outOf (cornT t) s 1), .int .i64 (outOf (cornT t) s 2), .int .i64 (outOf (cornT t) s 3)] (0, 0) _ .nilIface Tryz.underlying96 rfl info_4 ?_ ?_ (row_set4 HX.out _ _ _ _) ?_ ?_
  · rfl
  · rfl
  · rfl
  exact ⟨rfl, HE.out.gt⟩
set_option maxRecDepth 100000 in
set_option maxHeartbeats 8000000 in
theorem corners_n {B : Nat} {w : World} {G P M b l : Nat} {s : GS} {room : Nat} {H : Nat → Prop} (h : Gr B w G P M b l s room H) (n : Nat) (hn : n ≤ 35) (id : Int) (hl : Lv s.1 (n + 1) id) (q : Sq) (hq : at' s.1 id = q) (s0 : GS) (ev : Int) (hs0 : s0 = ((emp s.1 n).1, s.2)) (hev : ev = (emp s.1 n).2) (hr : (stOf (cornN q ev) s0 4).1.length ≤ room) (lv : Int) (hlv : lv = ((n + 1 : Nat) : Int) + 3) :
    Calls Tryz.prog 48 #[.pointer (some ⟨G, 0, none⟩), .int .i64 id, .int .i64 lv] w fun e w' => e = .returned (.tuple #[og4 (cornN q ev) s0, .nilIface]) ∧ Gt B w G P M b l room H (stOf (cornN q ev) s0 4) w' := by
  have HS : Hid (Gs B w H G P M b l room s [(w.heap.size, z4l)] (w.alloc (.cells #[.int .i64 0, .int .i64 0, .int .i64 0, .int .i64 0] 96))) := Lib.hid ((Gs.start h).alloc' z4l rfl)
  have hinv := HS.out.inv.1
  have he := emp_ok hinv n (by omega)
  have ext : ∀ k d, (stOf (cornN q ev) s0 k).1 <+: (stOf (cornN q ev) s0 (k + d)).1 := fun k d => stOf_ext (cornN q ev) s0 (fun s k => cornN_ext q ev s k) k d
  have hL0 : (emp s.1 n).1.length ≤ room := by
    have h1 := (ext 0 4).length_le
    rw [hs0] at h1
    exact Nat.le_trans h1 (by rw [hs0] at hr; exact hr)
  have HEM := Lib.hid (fun (wx : World) (Hx : Nat → Prop) (hx : St B wx P s.1 room Hx) => (show Calls Tryz.prog 29 #[.pointer (some ⟨P, 0, none⟩), .int .i64 (lv - 1)] wx fun e w' => e = .returned (.tuple #[.int .i64 ev, .nilIface]) ∧ Goes B wx P room Hx (emp s.1 n).1 w' from by
    rw [hev]
    exact empty_ok hx n (lv - 1) (by omega) (by omega) hL0))
  have HND := Lib.hid (fun k (hk : k < 4) (wx : World) (Hx : Nat → Prop) (hx : St B wx P (stOf (cornN q ev) s0 k).1 room Hx) => (show Calls Tryz.prog 38 #[.pointer (some ⟨P, 0, none⟩), .agg #[.int .i64 (abI ev (kid q k) k 0), .int .i64 (abI ev (kid q k) k 1), .int .i64 (abI ev (kid q k) k 2), .int .i64 (abI ev (kid q k) k 3)]] wx fun e w' => e = .returned (.tuple #[.int .i64 (outOf (cornN q ev) s0 k), .nilIface]) ∧ Goes B wx P room Hx (stOf (cornN q ev) s0 (k + 1)).1 w' from by
    have e0 : s.1 <+: (stOf (cornN q ev) s0 k).1 := by
      have h1 := ext 0 k
      rw [Nat.zero_add] at h1
      exact (show s.1 <+: s0.1 from by rw [hs0]; exact he.ext).trans h1
    have e1 : (emp s.1 n).1 <+: (stOf (cornN q ev) s0 k).1 := by
      have h1 := ext 0 k
      rw [Nat.zero_add] at h1
      exact (show (emp s.1 n).1 <+: s0.1 from by rw [hs0]; exact List.prefix_rfl).trans h1
    have hf : ∀ i, i < 4 → Lv (stOf (cornN q ev) s0 k).1 n (abI ev (kid q k) k i) := fun i _ => by
      unfold abI
      split
      · have h2 := (hinv.kid hl k).ext e0
        rw [hq] at h2
        exact h2
      · have h2 := he.lv.ext e1
        rw [← hev] at h2
        exact h2
    have hlen := (ext (k + 1) (4 - (k + 1))).length_le
    rw [show k + 1 + (4 - (k + 1)) = 4 by omega] at hlen
    exact node_ok hx _ _ _ _ _ (four_of hf) (by omega) (Nat.le_trans hlen hr)))
  have HK2 := Lib.hid (show ∀ k, (stOf (cornN q ev) s0 (k + 1)).2 = (stOf (cornN q ev) s0 k).2 from fun k => rfl)
  have HL := Lib.hid hl
  have HQ := Lib.hid hq
  have HS0 := Lib.hid hs0
  have e3 : (lv == 3) = false := by rw [beq_eq_false_iff_ne]; omega
  have l0 : (0 : Int) ≤ lv := by omega
  have l1 : lv ≤ 100 := by omega
  clear h hl hr hinv he ext hL0 hs0 hev hq hlv hn
  go_enter Tryz.func48, Tryz.ntmps48
  go_upto_region 3 with (fail)
  generalize World.alloc _ _ = W at HS ⊢
  have hp := HS.out.ptr
  obtain ⟨Hs, hst, _⟩ := HS.out.store
  have HC := Lib.hid (kids_ok hst n id HL.out q HQ.out)
  clear hst
  go_wp2_with fail
  refine HC.out.mono ?_
  rintro e w1 ⟨rfl, hb⟩
  have HS1 := Lib.hid ((HS.out.below hb).alloc (.cells #[.int .i64 q.k0, .int .i64 q.k1, .int .i64 q.k2, .int .i64 q.k3] 96))
  clear hb HC hp HS
  go_upto_region 6 with (fail)
  obtain ⟨g8, hg8⟩ : ∃ g, g = w1.heap.size := ⟨_, rfl⟩
  rw [← hg8] at HS1 ⊢
  generalize World.alloc _ _ = W1 at HS1 ⊢
  clear hg8
  have hp := HS1.out.ptr
  obtain ⟨Hs, hst, hgo⟩ := HS1.out.store
  have HC := Lib.hid (HEM.out _ _ hst)
  have HGO := Lib.hid hgo
  clear hst hgo HEM
  go_wp2_with fail
  refine HC.out.mono ?_
  rintro e w2 ⟨rfl, hg⟩
  have HS2 := Lib.hid (show Gs B w H G P M b l room s0 _ w2 from HS0.out ▸ HGO.out _ _ hg)
  have HS3 := Lib.hid (HS2.out.alloc z4l)
  clear hg HC HGO hp HS1 HS2
  obtain ⟨c0, c1, c2, c3⟩ := row4 HS3.out.b1
  obtain ⟨g11, hg11⟩ : ∃ g, g = w2.heap.size := ⟨_, rfl⟩
  go_upto_region 10 with (fail)
  rw [← hg11] at HS3 ⊢
  generalize World.alloc _ _ = W3 at HS3 c0 c1 c2 c3 ⊢
  clear hg11
  go_wp2
  have HR0 : Hid (Gs B w H G P M b l room (stOf (cornN q ev) s0 0) [(g11, .cells (ir (cpF 0 (outOf (cornN q ev) s0) 0) 4) 96), (w.heap.size, z4l)] W3) := Lib.hid (HS3.out.swap.tail)
  clear HS3 c0 c1 c2 c3
  go_loopw [50] (fun i wr => ∃ k : Nat, k ≤ 4 ∧ i = .int .i64 k ∧ Hid (Gs B w H G P M b l room (stOf (cornN q ev) s0 k) [(g11, .cells (ir (cpF 0 (outOf (cornN q ev) s0) k) 4) 96), (w.heap.size, z4l)] wr)) (fun i _ => 4 - (intOf i).toNat)
  case atStart => exact ⟨0, by omega, rfl, HR0⟩
  case round =>
    clear HR0
    obtain ⟨k, hk, rfl, HR⟩ := hrel
    have k0 : (0 : Int) ≤ (k : Int) := by omega
    by_cases hlt : k < 4
    · have k1 : (k : Int) < 4 := by omega
      have HLT := Lib.hid hlt
      obtain ⟨m, hm⟩ : ∃ m, m = 3 - k := ⟨_, rfl⟩
      have m0 : (0 : Int) ≤ (m : Int) := by omega
      have m1 : (m : Int) < 4 := by omega
      have HM := Lib.hid (opposite_m k m hlt hm)
      have HR1 : Hid (Gs B w H G P M b l room (stOf (cornN q ev) s0 k) [(wr.heap.size, .cells (ir (fun _ => ev) 4) 96), (g11, .cells (ir (cpF 0 (outOf (cornN q ev) s0) k) 4) 96), (w.heap.size, z4l)] (wr.alloc (.cells #[.int .i64 ev, .int .i64 ev, .int .i64 ev, .int .i64 ev] 96))) := Lib.hid (HR.out.alloc _)
      have HNK := Lib.hid (HND.out k hlt)
      have HMM := Lib.hid hm
      have hx : ∀ W, (Instr.index 96 (.agg #[.int .i64 q.k0, .int .i64 q.k1, .int .i64 q.k2, .int .i64 q.k3]) (.int .i64 (k : Int))).run Tryz.prog W = .ok (.int .i64 (kid q k)) W := idx4 (kid q) k hlt
      obtain ⟨kd, hkd⟩ : ∃ kd, kd = kid q k := ⟨_, rfl⟩
      rw [← hkd] at hx HNK
      clear hlt hm HR hkd
      go_upto_region 14 with (fail)
      obtain ⟨g14, hg14⟩ : ∃ g, g = wr.heap.size := ⟨_, rfl⟩
      rw [← hg14] at HR1 ⊢
      generalize World.alloc _ _ = W4 at HR1 ⊢
      clear hg14 hx
      have tc := ir_cell HR1.out.b0 m (by omega)
      have tf := ir_fro HR1.out.b0 m
      have HP := Lib.hid (show (W4.setCell ⟨g14, m, none⟩ (.int .i64 kd)).heap[g14]? = some (.cells #[.int .i64 (abI ev kd k 0), .int .i64 (abI ev kd k 1), .int .i64 (abI ev kd k 2), .int .i64 (abI ev kd k 3)] 96) from by
        have h1 := ir_put HR1.out.b0 m kd
        rw [upd_abI ev kd k m HMM.out] at h1
        exact h1)
      have HR2 := Lib.hid (HR1.out.set HP.out)
      obtain ⟨a0, ha0⟩ : ∃ a, a = abI ev kd k 0 := ⟨_, rfl⟩
      obtain ⟨a1, ha1⟩ : ∃ a, a = abI ev kd k 1 := ⟨_, rfl⟩
      obtain ⟨a2, ha2⟩ : ∃ a, a = abI ev kd k 2 := ⟨_, rfl⟩
      obtain ⟨a3, ha3⟩ : ∃ a, a = abI ev kd k 3 := ⟨_, rfl⟩
      rw [← ha0, ← ha1, ← ha2, ← ha3] at HR2 HNK
      clear HP ha0 ha1 ha2 ha3
      go_upto_region 15 with (go_at_call 69; refine (HM.out _).mono ?_; rintro e w3 ⟨rfl, rfl⟩)
      clear tc tf HR1
      generalize World.setCell _ _ _ = W5 at HR2 ⊢
      have HD := Lib.hid HR2.out.drew
      have KD := Lib.hid (And.intro HD.out.ptr (row4 HD.out.b0))
      obtain ⟨Hs5, hst, hgo⟩ := HD.out.store
      have HGO := Lib.hid hgo
      have HN5 := Lib.hid (HNK.out _ _ hst)
      clear hst hgo HNK
      go_region_held3 (fun w' => w'.cell? ⟨G, 0, none⟩ = some (.pointer (some ⟨P, 0, none⟩)) ∧ w'.cell? ⟨g14, 0, none⟩ = some (.int .i64 a0) ∧ w'.cell? ⟨g14, 1, none⟩ = some (.int .i64 a1) ∧ w'.cell? ⟨g14, 2, none⟩ = some (.int .i64 a2) ∧ w'.cell? ⟨g14, 3, none⟩ = some (.int .i64 a3)) (first | with_reducible exact KD.out | with_reducible exact ks | with_reducible exact kx)
        ((go_at_call 38; with_reducible refine HN5.out.mono ?_; rintro e w7 ⟨rfl, hg⟩; have HR7 := Lib.hid (HGO.out _ _ hg); have ks := And.intro HR7.out.ptr (row4 HR7.out.b0); have hc := ir_cell HR7.out.b1 k HLT.out; have hfz := ir_fro HR7.out.b1 k; have HR8 := Lib.hid (HR7.out.swap.set (i := k) (v := .int .i64 (outOf (cornN q ev) s0 k)) (ir_put HR7.out.b1 k (outOf (cornN q ev) s0 k))); have kx := And.intro HR8.out.ptr (row4 HR8.out.b1); clear hg))
      have HR9 : Hid (Gs B w H G P M b l room (stOf (cornN q ev) s0 (k + 1)) [(g11, .cells (ir (cpF 0 (outOf (cornN q ev) s0) (k + 1)) 4) 96), (w.heap.size, z4l)] (w7.setCell ⟨g11, k, none⟩ (.int .i64 (outOf (cornN q ev) s0 k)))) := Lib.hid (by
        rw [← cp_step 0 (outOf (cornN q ev) s0) k]
        exact HR8.out.swap.tail)
      go_wp2
      go_roundw
      case rel => exact ⟨k + 1, by have := HLT.out; omega, by go_num, HR9⟩
      case measure => have := HLT.out; simp [intOf]; omega
    · obtain rfl : k = 4 := by omega
      have HD : Hid (Gs B w H G P M b l room (stOf (cornN q ev) s0 4) [(g11, .cells #[.int .i64 (outOf (cornN q ev) s0 0), .int .i64 (outOf (cornN q ev) s0 1), .int .i64 (outOf (cornN q ev) s0 2), .int .i64 (outOf (cornN q ev) s0 3)] 96), (w.heap.size, z4l)] wr) := HR
      obtain ⟨c0, c1, c2, c3⟩ := row4 HD.out.b0
      obtain ⟨d0, d1, d2, d3⟩ := row4 HD.out.b1
      have f0 := frozen_of_row _ _ 0 _ _ HD.out.b1
      have f1 := frozen_of_row _ _ 1 _ _ HD.out.b1
      have f2 := frozen_of_row _ _ 2 _ _ HD.out.b1
      have f3 := frozen_of_row _ _ 3 _ _ HD.out.b1
      have HX := Lib.hid HD.out.b1
      have HE := Lib.hid (Gs.set4 HD.out.tail (.int .i64 (outOf (cornN q ev) s0 0)) (.int .i64 (outOf (cornN q ev) s0 1)) (.int .i64 (outOf (cornN q ev) s0 2)) (.int .i64 (outOf (cornN q ev) s0 3)))
      clear HR HD
      go_wp2
      refine post_row_tmp Tryz.results48 w.heap.size 96 #[.int .i64 (outOf (cornN q ev) s0 0), .int .i64 (outOf (cornN q ev) s0 1), .int .i64 (outOf (cornN q ev) s0 2), .int .i64 (outOf (cornN q ev) s0 3)] (0, 0) _ .nilIface Tryz.underlying96 rfl info_4 ?_ ?_ (row_set4 HX.out _ _ _ _) ?_ ?_
      · rfl
      · rfl
      · rfl
      exact ⟨rfl, HE.out.gt⟩
end Go.Proofs.YtkefjkfknegogaaGreat

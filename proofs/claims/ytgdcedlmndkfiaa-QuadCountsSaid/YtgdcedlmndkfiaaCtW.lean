/-
  THE WALK of QuadCounts. No condition.
-/
import Derived.Test.YtgdcedlmndkfiaaFo
import Derived.Test.YtgdcedlmndkfiaaFu
import Derived.Test.YtgdcedlmndkfiaaQt
namespace Go.Proofs.Ytgdcedlmndkfiaa
open Go.RowKit Ti Qd Go.Maps Go.WideMaps

/-- how many live in the first so many of four -/
def sN (t0 t1 t2 t3 : T6) : Nat → Nat
  | 0 => 0
  | k + 1 => sN t0 t1 t2 t3 k + liv (foT t0 t1 t2 t3 k)
theorem sN_le (t0 t1 t2 t3 : T6) : ∀ k, sN t0 t1 t2 t3 k ≤ 64 * k
  | 0 => Nat.le_refl _
  | k + 1 => by
    have := sN_le t0 t1 t2 t3 k
    have := pcN_le (foT t0 t1 t2 t3 k).toNat 64
    show sN t0 t1 t2 t3 k + liv (foT t0 t1 t2 t3 k) ≤ _
    unfold liv
    omega
theorem foQ_cnt (t0 t1 t2 t3 : T6) : (foQ t0 t1 t2 t3).cnt = ((sN t0 t1 t2 t3 4 : Nat) : Int) := by
  show cnt4 (at' _ (foN t0 t1 t2 t3 0)).cnt (at' _ (foN t0 t1 t2 t3 1)).cnt (at' _ (foN t0 t1 t2 t3 2)).cnt (at' _ (foN t0 t1 t2 t3 3)).cnt = _
  rw [(fo_at t0 t1 t2 t3 0 (by decide)).2, (fo_at t0 t1 t2 t3 1 (by decide)).2, (fo_at t0 t1 t2 t3 2 (by decide)).2, (fo_at t0 t1 t2 t3 3 (by decide)).2]
  show cnt4 ((liv t0 : Nat) : Int) ((liv t1 : Nat) : Int) ((liv t2 : Nat) : Int) ((liv t3 : Nat) : Int) = _
  rw [cnt4_small (show liv t0 ≤ 64 from pcN_le _ _) (show liv t1 ≤ 64 from pcN_le _ _) (show liv t2 ≤ 64 from pcN_le _ _) (show liv t3 ≤ 64 from pcN_le _ _)]
  show _ = (((((0 + liv t0) + liv t1) + liv t2) + liv t3 : Nat) : Int)
  omega
/-- a store made behind W0, and as great as that at least -/
def Qh (B : Nat) (W0 : World) (P : Nat) (L : List Sq) (room : Nat) (W : World) : Prop := ∃ H, Qs B W0 P L room W H ∧ B ≤ W.heap.size
theorem Qh.goes {B : Nat} {W0 W W' : World} {P : Nat} {L L' : List Sq} {room : Nat} {H : Nat → Prop} (h : Qs B W0 P L room W H) (hB : B ≤ W.heap.size) (k : Goes B W P room H L' W') : Qh B W0 P L' room W' := by
  obtain ⟨H', h1, h2⟩ := h.goes k hB
  exact ⟨H', h1, Nat.le_trans hB h2.size⟩
theorem Qh.below {B : Nat} {W0 W W' : World} {P : Nat} {L : List Sq} {room : Nat} (h : Qh B W0 P L room W) (hb : Below W.heap.size W W') : Qh B W0 P L room W' := by
  obtain ⟨H, h1, h4⟩ := h
  exact ⟨H, ⟨h1.1.below hb (Nat.le_refl _), h1.2.trans (hb.mono h4)⟩, Nat.le_trans h4 hb.size⟩
theorem Qg.qh {B : Nat} {W0 W : World} {P : Nat} {L : List Sq} {room g : Nat} {o : Obj} (h : Qg B W0 P L room g o W) : Qh B W0 P L room W := by
  obtain ⟨H, h1, _, _, h4⟩ := h
  exact ⟨H, h1, h4⟩
theorem count_at {B : Nat} {w : World} {P : Nat} {L : List Sq} {room : Nat} {H : Nat → Prop} (h : St B w P L room H) (id : Int) (ho : Ok L id) (c : Int) (hc : (at' L id).cnt = c) :
    Calls Try.prog 10 #[.pointer (some ⟨P, 0, none⟩), .int .i64 id] w fun e w' => e = .returned (.tuple #[.int .i64 c, .nilIface]) ∧ Below w.heap.size w w' := by
  subst hc
  exact count_ok h id ho
theorem two_wrap : ∀ e < 61, wrap64 ((2 : Int) ^ e) = 2 ^ e := by decide +kernel
theorem want_run (k : Nat) (M : Int) (h : M = 3 + (k : Int)) (h2 : M < 31) : wrap64 ((2 : Int) ^ (2 * M).toNat) = cN k := by
  subst h
  rw [show (2 * (3 + (k : Int))).toNat = 2 * (3 + k) by omega, two_wrap _ (by omega), cN_is k (by omega)]
  unfold wantN
  rw [if_pos (by omega)]
theorem want_big (k : Nat) (M : Int) (h : M = 3 + (k : Int)) (h2 : ¬ M < 31) (h3 : k < 38) : cN k = 4611686018427387904 := by
  rw [cN_is k h3]
  unfold wantN
  rw [if_neg (by omega)]
set_option maxRecDepth 100000 in
set_option maxHeartbeats 4000000 in
theorem counts_any (t0 t1 t2 t3 : T6) (lv : Int) (w : World) (_hx : (Lit.int .i64 lv).wf = true) :
    Calls Try.prog 4 #[.agg #[.int .u64 (rg t0), .int .u64 (rg t1), .int .u64 (rg t2), .int .u64 (rg t3)], .int .i64 lv] w fun e w' => e = .returned (.bool true) ∧ Below w.heap.size w w' := by
  have hbx := heap_alloc_new w (.cells #[.int .u64 (rg t0), .int .u64 (rg t1), .int .u64 (rg t2), .int .u64 (rg t3)] 38)
  have hbl := alX w (.cells #[.int .u64 (rg t0), .int .u64 (rg t1), .int .u64 (rg t2), .int .u64 (rg t3)] 38)
  have HW := Lib.hid (And.intro hbx hbl)
  have HSZ := Lib.hid (show (w.alloc (.cells #[.int .u64 (rg t0), .int .u64 (rg t1), .int .u64 (rg t2), .int .u64 (rg t3)] 38)).heap.size = w.heap.size + 1 by simp)
  have HN := Lib.hid (new_lit 200 200 rfl (w.alloc (.cells #[.int .u64 (rg t0), .int .u64 (rg t1), .int .u64 (rg t2), .int .u64 (rg t3)] 38)) (by decide) (by decide))
  clear hbx hbl
  go_enter Try.func4, Try.ntmps4
  go_wp2_with fail
  generalize w.alloc (.cells #[.int .u64 (rg t0), .int .u64 (rg t1), .int .u64 (rg t2), .int .u64 (rg t3)] 38) = W0 at HW HSZ HN ⊢
  refine HN.out.mono ?_
  rintro e w1 ⟨P, H, rfl, hs, hb⟩
  have hz := heap_alloc_new w1 (.cells #[.int .i64 0, .int .i64 0, .int .i64 0, .int .i64 0] 39)
  have HQ := Lib.hid (show Qg W0.heap.size W0 P [] 200 w1.heap.size (.cells #[.int .i64 0, .int .i64 0, .int .i64 0, .int .i64 0] 39) (w1.alloc (.cells #[.int .i64 0, .int .i64 0, .int .i64 0, .int .i64 0] 39)) from
    ⟨H, ⟨hs.below (alX _ _) (Nat.le_refl _), hb.trans ((alX _ _).mono hb.size)⟩, fun e => by have := (hs.lt _ e).2; omega, hz, Nat.le_trans hb.size (by simp)⟩)
  have HBG := Lib.hid hb.size
  clear hs hb HN hz
  go_wp2
  obtain ⟨g, hg⟩ : ∃ g, g = w1.heap.size := ⟨_, rfl⟩
  rw [← hg] at HQ HBG ⊢
  generalize w1.alloc (.cells #[.int .i64 0, .int .i64 0, .int .i64 0, .int .i64 0] 39) = W1 at HQ ⊢
  clear hg
  go_loopw [4, 8, 9] (fun v s i wr => ∃ k : Nat, k ≤ 4 ∧ v = .bool false ∧ s = .int .i64 (sN t0 t1 t2 t3 k : Nat) ∧ i = .int .i64 k ∧ Hid (Qg W0.heap.size W0 P (fo t0 t1 t2 t3 k) 200 g (.cells #[.int .i64 (kv t0 t1 t2 t3 k 0), .int .i64 (kv t0 t1 t2 t3 k 1), .int .i64 (kv t0 t1 t2 t3 k 2), .int .i64 (kv t0 t1 t2 t3 k 3)] 39) wr)) (fun _ _ i _ => 4 - (intOf i).toNat)
  case atStart => exact ⟨0, by omega, rfl, rfl, rfl, HQ⟩
  case round =>
    clear HQ
    obtain ⟨k, hk, rfl, rfl, rfl, HR⟩ := hrel
    have k0 : (0 : Int) ≤ (k : Int) := by omega
    by_cases hlt : k < 4
    · have k1 : (k : Int) < 4 := by omega
      have HLT := Lib.hid hlt
      obtain ⟨H, h1, h2, h3, h4⟩ := HR.out
      have HTB := Lib.hid (fun (W : World) (hW : Below W0.heap.size W0 W) => tl_cell ((hW.block _ (by have := HSZ.out; omega)).trans HW.out.1) k hlt)
      have ct := HTB.out _ h1.2
      have HP := Lib.hid (And.intro h1 (And.intro h2 (And.intro h3 h4)))
      have HLF := Lib.hid (leaf_ok h1.1 (foT t0 t1 t2 t3 k) (by rw [← fo_succ _ _ _ _ _ hlt]; exact Nat.le_trans (fo_len _ _ _ _ _ (by omega)) (by omega)))
      clear h1 h2 h3 h4
      go_wp2_with fail
      refine HLF.out.mono ?_
      rintro e w2 ⟨rfl, hgo⟩
      rw [← fo_succ _ _ _ _ _ HLT.out] at hgo
      rw [show nr (fo t0 t1 t2 t3 k) (leafQ (foT t0 t1 t2 t3 k)) = foN t0 t1 t2 t3 k from rfl]
      have HQ2 := Lib.hid (Qg.goes HP.out.1 HP.out.2.1 HP.out.2.2.1 HP.out.2.2.2 hgo)
      obtain ⟨H2, h1, h2, h3, h4⟩ := HQ2.out
      have HFC := Lib.hid (show Ok (fo t0 t1 t2 t3 (k + 1)) (foN t0 t1 t2 t3 k) ∧ (at' (fo t0 t1 t2 t3 (k + 1)) (foN t0 t1 t2 t3 k)).cnt = ((liv (foT t0 t1 t2 t3 k) : Nat) : Int) from by
        rw [fo_succ _ _ _ _ _ HLT.out]
        exact ⟨put_ok _ _, by rw [show foN t0 t1 t2 t3 k = nr (fo t0 t1 t2 t3 k) (leafQ (foT t0 t1 t2 t3 k)) from rfl, put_at]; rfl⟩)
      have HCT := Lib.hid (count_at h1.1 (foN t0 t1 t2 t3 k) HFC.out.1 _ HFC.out.2)
      have ct2 := HTB.out _ h1.2
      have HCB := Lib.hid (fun (W : World) (hW : Below w2.heap.size w2 W) => HTB.out W (h1.2.trans (hW.mono h4)))
      clear h1 h2 h3 h4 hgo ct HLF HP HR HFC ct2
      have hs := sN_le t0 t1 t2 t3 k
      have hv := pcN_le (foT t0 t1 t2 t3 k).toNat 64
      have HSS := Lib.hid (show sN t0 t1 t2 t3 (k + 1) = sN t0 t1 t2 t3 k + liv (foT t0 t1 t2 t3 k) from rfl)
      have HTC := Lib.hid (fun w => count_any (foT t0 t1 t2 t3 k) w)
      rw [show pcN (foT t0 t1 t2 t3 k).toNat 64 = liv (foT t0 t1 t2 t3 k) from rfl] at hv
      generalize liv (foT t0 t1 t2 t3 k) = c at *
      generalize sN t0 t1 t2 t3 k = s at *
      have s0 : (0 : Int) ≤ (s : Int) := by omega
      have s1 : (s : Int) ≤ 256 := by omega
      have v0 : (0 : Int) ≤ (c : Int) := by omega
      have v1 : (c : Int) ≤ 64 := by omega
      have e1 : ((c : Int) != (c : Int)) = false := by simp
      clear hs hv
      go_wp2_with fail
      refine HCT.out.mono ?_
      rintro e w3 ⟨rfl, hb⟩
      have HQ3 := Lib.hid (HQ2.out.below hb)
      have ct := HCB.out _ hb
      obtain ⟨_, _, _, h3, _⟩ := HQ3.out
      have cg := kv_cell HLT.out h3
      have fg := frozen_of_row _ _ k _ _ h3
      have HN3 := Lib.hid (kv_row HLT.out h3)
      clear h3 hb
      generalize foN t0 t1 t2 t3 k = nk at HN3 ⊢
      go_wp2_with fail
      refine (HTC.out _).mono ?_
      rintro e w4 ⟨rfl, rfl⟩
      go_wp2
      go_roundw
      case rel => exact ⟨k + 1, by have := HLT.out; omega, rfl, by rw [HSS.out]; go_num, by go_num, Lib.hid (HQ3.out.set HBG.out HN3.out)⟩
      case measure => have := HLT.out; simp [intOf]; omega
    · obtain rfl : k = 4 := by omega
      obtain ⟨H4, h1, h2, h3, h4⟩ := HR.out
      have HP := Lib.hid (And.intro h1 (And.intro h2 (And.intro h3 h4)))
      have HND := Lib.hid (node_ok h1.1 (foN t0 t1 t2 t3 0) (foN t0 t1 t2 t3 1) (foN t0 t1 t2 t3 2) (foN t0 t1 t2 t3 3) 3 (fo_four t0 t1 t2 t3) (by decide) (Nat.le_trans (foL_len t0 t1 t2 t3) (by decide)))
      obtain ⟨c0, c1, c2, c3⟩ := row4 h3
      clear h1 h2 h3 h4 HR
      rw [show kv t0 t1 t2 t3 4 0 = foN t0 t1 t2 t3 0 from rfl] at c0
      rw [show kv t0 t1 t2 t3 4 1 = foN t0 t1 t2 t3 1 from rfl] at c1
      rw [show kv t0 t1 t2 t3 4 2 = foN t0 t1 t2 t3 2 from rfl] at c2
      rw [show kv t0 t1 t2 t3 4 3 = foN t0 t1 t2 t3 3 from rfl] at c3
      go_wp2_with fail
      refine HND.out.mono ?_
      rintro e w2 ⟨rfl, hgo⟩
      have HQ2 := Lib.hid (Qg.goes HP.out.1 HP.out.2.1 HP.out.2.2.1 HP.out.2.2.2 (show Goes _ _ _ _ _ (foL t0 t1 t2 t3) _ from hgo))
      rw [show nr (fo t0 t1 t2 t3 4) (joinQ (fo t0 t1 t2 t3 4) (foN t0 t1 t2 t3 0) (foN t0 t1 t2 t3 1) (foN t0 t1 t2 t3 2) (foN t0 t1 t2 t3 3)) = foI t0 t1 t2 t3 from rfl]
      clear hgo HND HP c0 c1 c2 c3
      have HQH := Lib.hid HQ2.out.qh
      obtain ⟨H5, h1, h4⟩ := HQH.out
      have HCT := Lib.hid (count_at h1.1 (foI t0 t1 t2 t3) (foI_lv t0 t1 t2 t3).1 ((sN t0 t1 t2 t3 4 : Nat) : Int) (by rw [foI_at]; exact foQ_cnt t0 t1 t2 t3))
      have HI := Lib.hid (And.intro (foL_inv t0 t1 t2 t3) (foL_len t0 t1 t2 t3))
      clear h1 h4 HQ2
      generalize sN t0 t1 t2 t3 4 = s at *
      generalize foL t0 t1 t2 t3 = L0 at *
      generalize foI t0 t1 t2 t3 = I0 at *
      go_wp2_with fail
      refine HCT.out.mono ?_
      rintro e w3 ⟨rfl, hb⟩
      have HQ3 := Lib.hid (HQH.out.below hb)
      clear hb
      obtain ⟨H6, h1, h4⟩ := HQ3.out
      obtain ⟨p, hp, ep⟩ := red_nat lv 38 (by decide) (by decide)
      have HF := Lib.hid (fun k (hk : k ≤ 37) => ful_ok HI.out.1 k hk)
      have HLF := Lib.hid (leaf_lit h1.1 full 18446744073709551615 rfl (Nat.le_trans (show (put L0 (leafQ full)).length ≤ L0.length + 1 from (put_len _ _).2) (by have := HI.out.2; omega)))
      have HP := Lib.hid (And.intro h1 h4)
      clear h1 h4
      go_upto_region 18 with (fail)
      rw [show wrap64 ((IntKind.u64.wrap lv).tmod 38) = (p : Int) from ep]
      clear ep
      obtain ⟨M, hM⟩ : ∃ M : Int, M = 3 + (p : Int) := ⟨_, rfl⟩
      rw [show wrap64 (3 + (p : Int)) = M by rw [hM]; unfold wrap64; omega]
      have HM := Lib.hid hM
      have m0 : 3 ≤ M := by omega
      have m1 : M < 41 := by omega
      clear hM
      go_wp2_with fail
      refine HLF.out.mono ?_
      rintro e w4 ⟨rfl, hgo⟩
      have HQ4 := Lib.hid (Qh.goes HP.out.1 HP.out.2 (show Goes _ _ _ _ _ (ful L0 0).1 _ from hgo))
      rw [show nr L0 (leafQ full) = (ful L0 0).2 from rfl]
      clear hgo HLF HP
      have HPP := Lib.hid hp
      clear hp
      go_wp2_with fail
      go_loopw [19, 20, 21] (fun v19 v20 i wr => ∃ k j : Nat, k ≤ p ∧ v19 = .int .i64 (ful L0 k).2 ∧ v20 = .nilIface ∧ i = .int .i64 j ∧ Hid (j = 3 + k) ∧ Hid (Qh W0.heap.size W0 P (ful L0 k).1 200 wr)) (fun _ _ i _ => M.toNat - (intOf i).toNat)
      case atStart => exact ⟨0, 3, by omega, rfl, rfl, rfl, Lib.hid rfl, HQ4⟩
      case round =>
        clear HQ4
        obtain ⟨k, j, hk, rfl, rfl, rfl, HJ, HR⟩ := hrel
        have hj := HJ.out
        have k0 : (0 : Int) ≤ (j : Int) := by omega
        by_cases hlt : k < p
        · have k1 : (j : Int) < M := by have := HM.out; omega
          have hf := HF.out k (by have := HPP.out; omega)
          have hf1 := HF.out (k + 1) (by have := HPP.out; omega)
          obtain ⟨H7, h1, h4⟩ := HR.out
          have HND := Lib.hid (node_ok h1.1 _ _ _ _ (k + 3) hf.lv.four (by have := HPP.out; omega) (Nat.le_trans (show (ful L0 (k + 1)).1.length ≤ _ from hf1.len) (by have := HI.out.2; have := HPP.out; omega)))
          have HP := Lib.hid (And.intro h1 h4)
          have HX := Lib.hid (show nr (ful L0 k).1 (joinQ (ful L0 k).1 (ful L0 k).2 (ful L0 k).2 (ful L0 k).2 (ful L0 k).2) = (ful L0 (k + 1)).2 from rfl)
          have HLT := Lib.hid hlt
          clear h1 h4 hf hf1 HR hj hlt
          go_wp2_with fail
          refine HND.out.mono ?_
          rintro e w5 ⟨rfl, hgo⟩
          have HQ5 := Lib.hid (Qh.goes HP.out.1 HP.out.2 (show Goes _ _ _ _ _ (ful L0 (k + 1)).1 _ from hgo))
          rw [HX.out]
          clear hgo HND HP
          go_wp2
          go_roundw
          case rel => exact ⟨k + 1, j + 1, by have := HLT.out; omega, rfl, rfl, by go_num, Lib.hid (by have := HJ.out; omega), HQ5⟩
          case measure => have := HJ.out; have := HM.out; have := HLT.out; simp [intOf]; omega
        · obtain rfl : k = p := by omega
          have k1 : ¬ (j : Int) < M := by have := HM.out; omega
          have hf := HF.out k (by have := HPP.out; omega)
          obtain ⟨H7, h1, h4⟩ := HR.out
          have HCT2 := Lib.hid (count_at h1.1 (ful L0 k).2 hf.lv.1 (cN k) hf.cnt)
          have HFV := Lib.hid hf.lv
          have HWN := Lib.hid (cN_is k HPP.out)
          clear h1 h4 hf hj hk hlt
          go_wp2_with fail
          refine HCT2.out.mono ?_
          rintro e w5 ⟨rfl, hb⟩
          have HQ5 := Lib.hid (HR.out.below hb)
          clear hb HR
          by_cases h31 : M < 31
          · have HWR := Lib.hid (want_run k M HM.out h31)
            have h40 : M < 40 := by omega
            obtain ⟨H8, h1, h4⟩ := HQ5.out
            have HND := Lib.hid (node_ok h1.1 _ _ _ _ (k + 3) (HF.out k (by have := HPP.out; omega)).lv.four (by have := HM.out; omega) (Nat.le_trans (show (ful L0 (k + 1)).1.length ≤ _ from (HF.out (k + 1) (by have := HM.out; omega)).len) (by have := HI.out.2; have := HPP.out; omega)))
            have HP := Lib.hid (And.intro h1 h4)
            clear h1 h4
            go_wp2_with fail
            rw [HWR.out]
            generalize cN k = d at *
            refine HND.out.mono ?_
            rintro e w6 ⟨rfl, hgo⟩
            have HQ6 := Lib.hid (Qh.goes HP.out.1 HP.out.2 hgo)
            clear hgo HND HP
            go_wp2_with fail
            refine (sure_any _).mono ?_
            rintro e w8 ⟨rfl, hb⟩
            have HB8 := Lib.hid (show Below w.heap.size w w8 by
              obtain ⟨_, h1, h4⟩ := HQ6.out
              exact HW.out.2.trans ((h1.2.trans (hb.mono h4)).mono (by have := HSZ.out; omega)))
            clear hb
            go_wp2
            go_ret
            exact ⟨rfl, HB8.out⟩
          · have HWR := Lib.hid (want_big k M HM.out h31 (by have := HPP.out; omega))
            by_cases h40 : M < 40
            · obtain ⟨H8, h1, h4⟩ := HQ5.out
              have HND := Lib.hid (node_ok h1.1 _ _ _ _ (k + 3) (HF.out k (by have := HPP.out; omega)).lv.four (by have := HM.out; omega) (Nat.le_trans (show (ful L0 (k + 1)).1.length ≤ _ from (HF.out (k + 1) (by have := HM.out; omega)).len) (by have := HI.out.2; have := HPP.out; omega)))
              have HP := Lib.hid (And.intro h1 h4)
              clear h1 h4
              go_wp2_with fail
              rw [HWR.out]
              refine HND.out.mono ?_
              rintro e w6 ⟨rfl, hgo⟩
              have HQ6 := Lib.hid (Qh.goes HP.out.1 HP.out.2 hgo)
              clear hgo HND HP
              go_wp2_with fail
              refine (sure_any _).mono ?_
              rintro e w8 ⟨rfl, hb⟩
              have HB8 := Lib.hid (show Below w.heap.size w w8 by
                obtain ⟨_, h1, h4⟩ := HQ6.out
                exact HW.out.2.trans ((h1.2.trans (hb.mono h4)).mono (by have := HSZ.out; omega)))
              clear hb
              go_wp2
              go_ret
              exact ⟨rfl, HB8.out⟩
            · obtain ⟨H8, h1, h4⟩ := HQ5.out
              have hf4 := HFV.out.four
              rw [show ((k : Nat) : Int) + 3 = 40 by have := HM.out; omega] at hf4
              have HND := Lib.hid (node_lim h1.1 _ _ _ _ hf4)
              have HP := Lib.hid (And.intro h1 h4)
              clear h1 h4 hf4
              go_wp2_with fail
              rw [HWR.out]
              refine HND.out.mono ?_
              rintro e w6 ⟨rfl, hb⟩
              have HQ6 := Lib.hid (HQ5.out.below hb)
              clear hb HND HP
              go_wp2_with fail
              refine (sure_any _).mono ?_
              rintro e w8 ⟨rfl, hb⟩
              have HB8 := Lib.hid (show Below w.heap.size w w8 by
                obtain ⟨_, h1, h4⟩ := HQ6.out
                exact HW.out.2.trans ((h1.2.trans (hb.mono h4)).mono (by have := HSZ.out; omega)))
              clear hb
              go_wp2
              go_ret
              refine ⟨?_, HB8.out⟩
              have hd : decide (M < 40) = false := decide_eq_false (by omega)
              show Ending.returned (.bool (!decide (M < 40))) = _
              rw [hd]
              rfl
end Go.Proofs.Ytgdcedlmndkfiaa

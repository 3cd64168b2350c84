/-
  THE WALK of QuadLadder. Condition: errors.errorType is as the program's text lays it.
-/
import Derived.Test.YtgdcedlmndkfiaaDoorSu
import Derived.Test.YtgdcedlmndkfiaaDoorNl
import Derived.Test.YtgdcedlmndkfiaaDoorLd
import Derived.Test.YtgdcedlmndkfiaaDoorE4
import Derived.Test.YtgdcedlmndkfiaaDoorErr
namespace Go.Proofs.YtgdcedlmndkfiaaDoor
open Go.RowKit Ti Qd Go.Maps Go.WideMaps

def Qh (B : Nat) (W0 : World) (P : Nat) (L : List Sq) (room : Nat) (W : World) : Prop := ∃ H, Qs B W0 P L room W H ∧ B ≤ W.heap.size
theorem Qh.goes {B : Nat} {W0 W W' : World} {P : Nat} {L L' : List Sq} {room : Nat} {H : Nat → Prop} (h : Qs B W0 P L room W H) (hB : B ≤ W.heap.size) (k : Goes B W P room H L' W') : Qh B W0 P L' room W' := by
  obtain ⟨H', h1, h2⟩ := h.goes k hB
  exact ⟨H', h1, Nat.le_trans hB h2.size⟩
theorem Qh.below {B : Nat} {W0 W W' : World} {P : Nat} {L : List Sq} {room : Nat} (h : Qh B W0 P L room W) (hb : Below W.heap.size W W') : Qh B W0 P L room W' := by
  obtain ⟨H, h1, h4⟩ := h
  exact ⟨H, ⟨h1.1.below hb (Nat.le_refl _), h1.2.trans (hb.mono h4)⟩, Nat.le_trans h4 hb.size⟩
theorem Qh.laid {w : World} (hl : Laid w) {P : Nat} {L : List Sq} {room : Nat} {W : World} (h : Qh w.heap.size w P L room W) : Laid W := by
  obtain ⟨H, h1, h4⟩ := h
  exact hl.below h1.2
theorem red_nat (x : Int) (m : Nat) (h0 : 0 < m) (h : m ≤ 1099511627776) : ∃ p : Nat, p < m ∧ wrap64 ((IntKind.u64.wrap x).tmod (m : Int)) = (p : Int) := by
  have h1 := wrap_u64_nonneg x
  obtain ⟨n, hn⟩ : ∃ n : Nat, IntKind.u64.wrap x = (n : Int) := ⟨(IntKind.u64.wrap x).toNat, by omega⟩
  rw [hn, tmod_nat]
  have := Nat.mod_lt n h0
  exact ⟨n % m, this, wrap_small (by omega)⟩
theorem count_at {B : Nat} {w : World} {P : Nat} {L : List Sq} {room : Nat} {H : Nat → Prop} (h : St B w P L room H) (id : Int) (ho : Ok L id) (c : Int) (hc : (at' L id).cnt = c) :
    Calls Tryd.prog 10 #[.pointer (some ⟨P, 0, none⟩), .int .i64 id] w fun e w' => e = .returned (.tuple #[.int .i64 c, .nilIface]) ∧ Below w.heap.size w w' := by
  subst hc
  exact count_ok h id ho
theorem empty_at {B : Nat} {w : World} {P : Nat} {L L' : List Sq} {id : Int} {room : Nat} {H : Nat → Prop} (h : St B w P L room H) (n : Nat) (lv : Int) (hlv : lv = n + 3) (hn : n ≤ 37) (he : emp L n = (L', id)) (hr : L'.length ≤ room) :
    Calls Tryd.prog 11 #[.pointer (some ⟨P, 0, none⟩), .int .i64 lv] w fun e w' => e = .returned (.tuple #[.int .i64 id, .nilIface]) ∧ Goes B w P room H L' w' := by
  have := empty_ok h n lv hlv hn (by rw [he]; exact hr)
  rw [he] at this
  exact this
theorem lad_lv {m j : Nat} (h : j ≤ m) : Lv (lad m) j ((j : Int) + 1) := ⟨(lad_at h).1, by rw [(lad_at h).2, laq_lev]; omega⟩
theorem laq_eq (j : Nat) (h : ¬ j = 0) : laq j = ⟨3 + j, 0, 0#64, j, j, j, j⟩ := if_neg h
set_option maxRecDepth 100000 in
set_option maxHeartbeats 4000000 in
theorem ladder_any (lv : Int) (w : World) (_hx : (Lit.int .i64 lv).wf = true) (hlaid : Laid w) :
    Calls Tryd.prog 4 #[.int .i64 lv] w fun e w' => e = .returned (.bool true) ∧ Below w.heap.size w w' := by
  have HLD := Lib.hid hlaid
  have HN := Lib.hid (new_lit 100 100 rfl w (by decide) (by decide))
  obtain ⟨p, hp, ep⟩ := red_nat lv 38 (by decide) (by decide)
  have HP8 := Lib.hid hp
  have HEP := Lib.hid ep
  clear hp ep hlaid
  go_enter Tryd.func4, Tryd.ntmps4
  go_wp2_with fail
  refine HN.out.mono ?_
  rintro e w1 ⟨P, H, rfl, hs, hb⟩
  rw [show wrap64 ((IntKind.u64.wrap lv).tmod 38) = (p : Int) from HEP.out]
  obtain ⟨M, hM⟩ : ∃ M : Int, M = 3 + (p : Int) := ⟨_, rfl⟩
  rw [show wrap64 (3 + (p : Int)) = M by have := HP8.out; rw [hM]; unfold wrap64; omega]
  have HM := Lib.hid hM
  have HC1 := Lib.hid (empty_at hs p M (by omega) (by have := HP8.out; omega) (emp_lad p) (by rw [lad_len]; have := HP8.out; omega))
  have HQ0 := Lib.hid (show Qs w.heap.size w P [] 100 w1 H ∧ w.heap.size ≤ w1.heap.size from ⟨⟨hs, hb⟩, hb.size⟩)
  have m0 : 3 ≤ M := by have := HM.out; omega
  have m1 : M ≤ 40 := by have := HM.out; have := HP8.out; omega
  clear hM hs hb
  go_wp2_with fail
  refine HC1.out.mono ?_
  rintro e w2 ⟨rfl, hgo⟩
  have HQ := Lib.hid (Qh.goes HQ0.out.1 HQ0.out.2 hgo)
  clear hgo HC1 HQ0 HN
  obtain ⟨H1, h1, h4⟩ := HQ.out
  have HC1 := Lib.hid (empty_at h1.1 p M (by have := HM.out; omega) (by have := HP8.out; omega) (emp_again p (Nat.le_refl p)) (by rw [lad_len]; have := HP8.out; omega))
  have HP := Lib.hid (And.intro h1 h4)
  clear h1 h4
  go_wp2_with fail
  refine HC1.out.mono ?_
  rintro e w3 ⟨rfl, hgo⟩
  have HQ3 := Lib.hid (Qh.goes HP.out.1 HP.out.2 hgo)
  clear hgo HC1 HP HQ
  obtain ⟨H2, h1, h4⟩ := HQ3.out
  have HC1 := Lib.hid (count_at h1.1 ((p : Int) + 1) (lad_at (Nat.le_refl p)).1 0 (by rw [(lad_at (Nat.le_refl p)).2, laq_cnt]))
  clear h1 h4
  go_wp2_with fail
  refine HC1.out.mono ?_
  rintro e w4 ⟨rfl, hb⟩
  have HQ4 := Lib.hid (HQ3.out.below hb)
  clear hb HC1 HQ3
  obtain ⟨H3, h1, h4⟩ := HQ4.out
  have hln := len_ok h1.1
  rw [lad_len] at hln
  have HC1 := Lib.hid (show Calls Tryd.prog 15 #[.pointer (some ⟨P, 0, none⟩)] w4 fun e w' => e = .returned (.int .i64 (M - 2)) ∧ w4 = w' by
    rw [show M - 2 = ((p + 1 : Nat) : Int) by have := HM.out; omega]
    exact hln)
  clear h1 h4 hln
  go_wp2_with fail
  refine HC1.out.mono ?_
  rintro e w5 ⟨rfl, rfl⟩
  clear HC1
  go_wp2_with fail
  go_loopw [2, 6, 12] (fun v2 v6 v12 wr => ∃ (j : Nat) (x y : Int), j ≤ p ∧ v2 = .bool false ∧ v6 = .int .i64 x ∧ v12 = .int .i64 y ∧ Hid (x = j + 1 ∧ y = 3 + j) ∧ Hid (Qh w.heap.size w P (lad p) 100 wr)) (fun _ _ v12 _ => (intOf v12).toNat)
  case atStart => exact ⟨p, (p : Int) + 1, M, Nat.le_refl _, rfl, rfl, rfl, Lib.hid ⟨rfl, HM.out⟩, HQ4⟩
  case round =>
    clear HQ4
    obtain ⟨j, x, y, hj, rfl, rfl, rfl, HXY, HQ⟩ := hrel
    obtain ⟨hx, hy⟩ := HXY.out
    by_cases h0 : j = 0
    · have y1 : ¬ 3 < y := by omega
      have HC1 := Lib.hid (fun w' => empty_bad (some ⟨P, 0, none⟩) 2 (.inl (by decide)) w')
      have HC2 := Lib.hid (fun w' => empty_bad (some ⟨P, 0, none⟩) 41 (.inr (by decide)) w')
      obtain ⟨H4, h1, h4⟩ := HQ.out
      have hln := len_ok h1.1
      rw [lad_len] at hln
      have HC3 := Lib.hid (show Calls Tryd.prog 15 #[.pointer (some ⟨P, 0, none⟩)] wr fun e w' => e = .returned (.int .i64 (M - 2)) ∧ wr = w' by
        rw [show M - 2 = ((p + 1 : Nat) : Int) by have := HM.out; omega]
        exact hln)
      have HWB := Lib.hid (And.intro h1.2 h4)
      clear h1 h4 hln hx hy h0 hj
      go_wp2_with fail
      refine (HC1.out _).mono ?_
      rintro e w6 ⟨rfl, rfl⟩
      go_wp2_with fail
      refine (HC2.out _).mono ?_
      rintro e w6 ⟨rfl, rfl⟩
      go_wp2_with fail
      refine HC3.out.mono ?_
      rintro e w6 ⟨rfl, rfl⟩
      go_wp2_with fail
      refine (num_err 1 _ (HLD.out.below HWB.out.1)).mono ?_
      rintro e w6 ⟨rfl, hb⟩
      have HB6 := Lib.hid (HWB.out.1.trans (hb.mono HWB.out.2))
      clear hb
      go_wp2_with fail
      refine (num_err 1 _ (HLD.out.below HB6.out)).mono ?_
      rintro e w7 ⟨rfl, hb⟩
      have HB7 := Lib.hid (HB6.out.trans (hb.mono HB6.out.size))
      clear hb
      go_wp2_with fail
      refine (sure_any _).mono ?_
      rintro e w8 ⟨rfl, hb⟩
      have HB8 := Lib.hid (HB7.out.trans (hb.mono HB7.out.size))
      clear hb
      go_wp2
      go_ret
      exact ⟨rfl, HB8.out⟩
    · obtain ⟨i, rfl⟩ : ∃ i, j = i + 1 := ⟨j - 1, by omega⟩
      have y1 : 3 < y := by omega
      obtain ⟨c, hc⟩ : ∃ c : Int, c = ((i + 1 : Nat) : Int) := ⟨_, rfl⟩
      have y2 : y ≤ 40 := by have := HP8.out; omega
      obtain ⟨H4, h1, h4⟩ := HQ.out
      have hk := kids_ok h1.1 i x (by rw [hx]; exact lad_lv hj) (laq (i + 1)) (by rw [hx]; exact (lad_at hj).2)
      rw [laq_eq (i + 1) (by omega)] at hk
      simp only [← hc] at hk
      have HK := Lib.hid hk
      have HE := Lib.hid (fun (w' : World) (h' : St w.heap.size w' P (lad p) 100 H4) => empty_at h' i (y - 1) (by omega) (by have := HP8.out; omega) (emp_again i (by omega)) (by rw [lad_len]; have := HP8.out; omega))
      have HCC := Lib.hid (show (i : Int) + 1 = c by rw [hc]; omega)
      rw [HCC.out] at HE
      have HP := Lib.hid (And.intro h1 h4)
      have HJ := Lib.hid (And.intro hj (And.intro hx hy))
      have hne := neq4_same c c c c
      have c1 : 1 ≤ c := by omega
      have c2 : c ≤ 40 := by have := HP8.out; omega
      clear h1 h4 hk hx hy h0 hc hj HQ
      go_wp2_with fail
      refine HK.out.mono ?_
      rintro e w6 ⟨rfl, hb⟩
      have HQ6 := Lib.hid (show Qs w.heap.size w P (lad p) 100 (w6.alloc (.cells #[.int .i64 c, .int .i64 c, .int .i64 c, .int .i64 c] 30)) H4 ∧ w.heap.size ≤ (w6.alloc (.cells #[.int .i64 c, .int .i64 c, .int .i64 c, .int .i64 c] 30)).heap.size ∧ ¬ H4 w6.heap.size from by
        have hb2 := hb.trans ((alX w6 (.cells #[.int .i64 c, .int .i64 c, .int .i64 c, .int .i64 c] 30)).mono hb.size)
        exact ⟨⟨HP.out.1.1.below hb2 (Nat.le_refl _), HP.out.1.2.trans (hb2.mono HP.out.2)⟩, Nat.le_trans HP.out.2 hb2.size, fun e => by have := (HP.out.1.1.lt _ e).2; have := hb.size; omega⟩)
      have hgr := heap_alloc_new w6 (.cells #[.int .i64 c, .int .i64 c, .int .i64 c, .int .i64 c] 30)
      have HGR := Lib.hid hgr
      clear hb hgr HK
      go_wp2_with fail
      refine (HE.out _ HQ6.out.1.1).mono ?_
      rintro e w7 ⟨rfl, hgo⟩
      obtain ⟨H5, hq, hst⟩ := HQ6.out.1.goes hgo HQ6.out.2.1
      have HQ7 := Lib.hid (show Qh w.heap.size w P (lad p) 100 w7 from ⟨H5, hq, Nat.le_trans HQ6.out.2.1 hst.size⟩)
      have hgr := hst.row HGR.out HQ6.out.2.2
      obtain ⟨b0, b1, b2, b3⟩ := row4 hgr
      clear hgo hq hst hgr
      go_wp2
      go_roundw
      case rel => exact ⟨i, c, y - 1, by have := HJ.out.1; omega, rfl, rfl, rfl, Lib.hid ⟨by have := HCC.out; omega, by have := HJ.out.2.2; omega⟩, HQ7⟩
      case measure => simp [intOf]; omega
end Go.Proofs.YtgdcedlmndkfiaaDoor

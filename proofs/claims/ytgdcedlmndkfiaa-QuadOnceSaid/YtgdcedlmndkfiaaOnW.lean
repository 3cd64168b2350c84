/-
  THE WALK of QuadOnce. Condition: the list lies in memory.
-/
import Derived.Test.YtgdcedlmndkfiaaPr
import Derived.Test.YtgdcedlmndkfiaaOp
import Derived.Test.YtgdcedlmndkfiaaQt
namespace Go.Proofs.Ytgdcedlmndkfiaa
open Go.RowKit Ti Qd Go.Maps Go.WideMaps

/-- a store made behind W0, and as great as that at least -/
def Qh (B : Nat) (W0 : World) (P : Nat) (L : List Sq) (room : Nat) (W : World) : Prop := ∃ H, Qs B W0 P L room W H ∧ B ≤ W.heap.size
theorem Qh.goes {B : Nat} {W0 W W' : World} {P : Nat} {L L' : List Sq} {room : Nat} {H : Nat → Prop} (h : Qs B W0 P L room W H) (hB : B ≤ W.heap.size) (k : Goes B W P room H L' W') : Qh B W0 P L' room W' := by
  obtain ⟨H', h1, h2⟩ := h.goes k hB
  exact ⟨H', h1, Nat.le_trans hB h2.size⟩
theorem Qh.below {B : Nat} {W0 W W' : World} {P : Nat} {L : List Sq} {room : Nat} (h : Qh B W0 P L room W) (hb : Below W.heap.size W W') : Qh B W0 P L room W' := by
  obtain ⟨H, h1, h4⟩ := h
  exact ⟨H, ⟨h1.1.below hb (Nat.le_refl _), h1.2.trans (hb.mono h4)⟩, Nat.le_trans h4 hb.size⟩
def rd (m : Nat) (c : Int) : Nat := (IntKind.u64.wrap c).toNat % m
theorem rd_lt {m : Nat} (h : 0 < m) (c : Int) : rd m c < m := Nat.mod_lt _ h
theorem rd_run {m : Nat} (h0 : 0 < m) (h : m ≤ 1099511627776) (c : Int) : wrap64 ((IntKind.u64.wrap c).tmod (m : Int)) = (rd m c : Int) := by
  have h1 := wrap_u64_nonneg c
  unfold rd
  obtain ⟨n, hn⟩ : ∃ n : Nat, IntKind.u64.wrap c = (n : Int) := ⟨(IntKind.u64.wrap c).toNat, by omega⟩
  rw [hn, tmod_nat]
  have := Nat.mod_lt n h0
  rw [wrap_small (by omega)]
  simp
theorem w64_is (x : Int) : IntKind.i64.wrap x = wrap64 x := by
  unfold wrap64
  simp [IntKind.wrap, IntKind.bits, IntKind.signed]
  try omega
theorem u64_small {m : Nat} (h : m ≤ 1099511627776) : IntKind.u64.wrap (m : Int) = (m : Int) := by
  simp [IntKind.wrap, IntKind.bits, IntKind.signed]
  omega
theorem set_at {B : Nat} {P : Nat} {room : Nat} {c : Bool} {n : Nat} {L : List Sq} {H : Nat → Prop} {id : Int} {x y : Nat} {w : World} {r : List Sq × Int} (h : St B w P L room H) (hl : Lv L n id) (hn : n ≤ 37) (hx : x < 2 ^ (n + 3)) (hy : y < 2 ^ (n + 3)) (e : r = setQ L n id x y c) (hr : r.1.length ≤ room) :
    Calls Try.prog 8 #[.pointer (some ⟨P, 0, none⟩), .int .i64 id, .int .i64 x, .int .i64 y, .bool c] w fun e w' => e = .returned (.tuple #[.int .i64 r.2, .nilIface]) ∧ Goes B w P room H r.1 w' := by
  subst e
  exact set_is c n L H id x y w h hl hn hx hy hr
theorem get_at {B : Nat} {P : Nat} {L : List Sq} {room : Nat} {H : Nat → Prop} {n : Nat} {id : Int} {x y : Nat} {w : World} {r : Bool} (h : St B w P L room H) (hl : Lv L n id) (hn : n ≤ 37) (hx : x < 2 ^ (n + 3)) (hy : y < 2 ^ (n + 3)) (e : cel L n id x y = r) :
    Calls Try.prog 9 #[.pointer (some ⟨P, 0, none⟩), .int .i64 id, .int .i64 x, .int .i64 y] w fun e w' => e = .returned (.tuple #[.bool r, .nilIface]) ∧ Below w.heap.size w w' := by
  subst e
  exact get_is n id x y w h hl hn hx hy
theorem count_at {B : Nat} {w : World} {P : Nat} {L : List Sq} {room : Nat} {H : Nat → Prop} (h : St B w P L room H) (id : Int) (ho : Ok L id) (c : Int) (hc : (at' L id).cnt = c) :
    Calls Try.prog 10 #[.pointer (some ⟨P, 0, none⟩), .int .i64 id] w fun e w' => e = .returned (.tuple #[.int .i64 c, .nilIface]) ∧ Below w.heap.size w w' := by
  subst hc
  exact count_ok h id ho
set_option maxRecDepth 100000 in
set_option maxHeartbeats 4000000 in
theorem once_any (lv : Int) (ao : Option Addr) (len cap : Nat) (l : List (Int × Int)) (w : World) (_hx : (Lit.int .i64 lv).wf = true) (hl : IsP w ao len l) :
    Calls Try.prog 3 #[.int .i64 lv, .slice ao len cap] w fun e w' => e = .returned (.bool true) ∧ Below w.heap.size w w' := by
  have HL := Lib.hid hl
  have l0 := hl.max
  clear hl
  have HN := Lib.hid (new_lit 4000 4000 rfl w (by decide) (by decide))
  obtain ⟨p, hp, ep⟩ := red_nat lv 8 (by decide) (by decide)
  have HP8 := Lib.hid hp
  have HEP := Lib.hid ep
  clear hp ep
  go_enter Try.func3, Try.ntmps3
  go_wp2_with fail
  refine HN.out.mono ?_
  rintro e w1 ⟨P, H, rfl, hs, hb⟩
  rw [show wrap64 ((IntKind.u64.wrap lv).tmod 8) = (p : Int) from HEP.out]
  obtain ⟨M, hM⟩ : ∃ M : Int, M = 3 + (p : Int) := ⟨_, rfl⟩
  rw [show wrap64 (3 + (p : Int)) = M by have := HP8.out; rw [hM]; unfold wrap64; omega]
  have HM := Lib.hid hM
  have HE := Lib.hid (empty_ok hs p M (by omega) (by have := HP8.out; omega) (by have h8 := HP8.out; have := (emp_ok inv_nil p (by omega)).len; simp at this; omega))
  have HQ0 := Lib.hid (show Qs w.heap.size w P [] 4000 w1 H ∧ w.heap.size ≤ w1.heap.size from ⟨⟨hs, hb⟩, hb.size⟩)
  have m0 : 3 ≤ M := by have := HM.out; omega
  have m1 : M ≤ 10 := by have := HM.out; have := HP8.out; omega
  have HOI := Lib.hid (OI.start (n := min len 25) (X := fun j => rd (2 ^ (p + 3)) (l.getD j (0, 0)).1) (Y := fun j => rd (2 ^ (p + 3)) (l.getD j (0, 0)).2) (p := p) (by have := HP8.out; omega))
  have hpw := Nat.two_pow_pos (p + 3)
  have hp40 := two40 (n := p) (by have := HP8.out; omega)
  have hsh := shl_run (n := p) (by have := HP8.out; omega)
  rw [show p + 3 = M.toNat by have := HM.out; omega] at hsh
  have HSH := Lib.hid (show wrap64 ((2 : Int) ^ M.toNat) = ((2 ^ (p + 3) : Nat) : Int) by rw [hsh, show M.toNat = p + 3 by have := HM.out; omega])
  have HPW := Lib.hid (And.intro hpw hp40)
  clear hM hs hb hpw hp40 hsh
  go_wp2_with fail
  refine HE.out.mono ?_
  rintro e w2 ⟨rfl, hgo⟩
  have HQ := Lib.hid (Qh.goes HQ0.out.1 HQ0.out.2 hgo)
  clear hgo HE HQ0 HN
  generalize (emp [] p).2 = base at *
  generalize (emp [] p).1 = L0 at *
  obtain ⟨N, hN⟩ : ∃ N : Int, N = ((min len 25 : Nat) : Int) := ⟨_, rfl⟩
  go_wp2_with fail
  all_goals first | rw [show ((len : Nat) : Int) = N by rw [hN]; omega] | rw [show (25 : Int) = N by rw [hN]; omega]
  all_goals
    rw [HSH.out]
    have HNN := Lib.hid hN
    have n0 : 0 ≤ N := by omega
    have n1 : N ≤ 25 := by omega
    clear hN
    obtain ⟨n, hn⟩ : ∃ n, n = min len 25 := ⟨_, rfl⟩
    rw [← hn] at HOI HNN
    have HLE := Lib.hid (show n ≤ len ∧ n ≤ 25 by omega)
    clear hn
    obtain ⟨X, hX⟩ : ∃ X : Nat → Nat, X = fun j => rd (2 ^ (p + 3)) (l.getD j (0, 0)).1 := ⟨_, rfl⟩
    obtain ⟨Y, hY⟩ : ∃ Y : Nat → Nat, Y = fun j => rd (2 ^ (p + 3)) (l.getD j (0, 0)).2 := ⟨_, rfl⟩
    rw [← hX, ← hY] at HOI
    have HXY := Lib.hid (show (∀ j, X j < 2 ^ (p + 3)) ∧ (∀ j, Y j < 2 ^ (p + 3)) from ⟨fun j => by rw [hX]; exact rd_lt HPW.out.1 _, fun j => by rw [hY]; exact rd_lt HPW.out.1 _⟩)
    have HRX := Lib.hid (show ∀ j, j < n → ∀ W, Below w.heap.size w W → ∃ c0 c1 : Int, ∃ b o, ao = some ⟨b, o, none⟩ ∧ W.cell? ⟨b, o + j * 2, none⟩ = some (.int .i64 c0) ∧ W.cell? ⟨b, o + j * 2 + 1, none⟩ = some (.int .i64 c1) ∧ wrap64 ((IntKind.u64.wrap c0).tmod ((2 ^ (p + 3) : Nat) : Int)) = (X j : Int) ∧ wrap64 ((IntKind.u64.wrap c1).tmod ((2 ^ (p + 3) : Nat) : Int)) = (Y j : Int) from fun j hj W hW => by
      have hjl : j < l.length := by rw [HL.out.len]; have := HLE.out.1; omega
      obtain ⟨b, o, e, c0, c1⟩ := HL.out.at' j hjl
      refine ⟨l[j].1, l[j].2, b, o, e, (hW.cell (p := ⟨b, o + j * 2, none⟩) (World.block_lt_of_cell? w _ c0)).trans c0, (hW.cell (p := ⟨b, o + j * 2 + 1, none⟩) (World.block_lt_of_cell? w _ c1)).trans c1, ?_, ?_⟩
      · rw [hX, rd_run HPW.out.1 HPW.out.2]
        simp only [List.getD_eq_getElem?_getD, List.getElem?_eq_getElem hjl, Option.getD_some]
      · rw [hY, rd_run HPW.out.1 HPW.out.2]
        simp only [List.getD_eq_getElem?_getD, List.getElem?_eq_getElem hjl, Option.getD_some])
    have HU := Lib.hid (u64_small HPW.out.2)
    clear hX hY
    obtain ⟨m, hm⟩ : ∃ m, m = 2 ^ (p + 3) := ⟨_, rfl⟩
    rw [← hm] at HRX HXY HU HPW ⊢
    have HMM := Lib.hid hm
    clear hm HSH
    go_loopw [4, 11, 12, 14] (fun v4 v11 v12 i wr => ∃ (k : Nat) (L : List Sq) (a b : Int), k ≤ n ∧ v4 = .bool false ∧ v11 = .int .i64 a ∧ v12 = .int .i64 b ∧ i = .int .i64 k ∧ Hid (OI p n X Y base k L a b) ∧ Hid (Qh w.heap.size w P L 4000 wr)) (fun _ _ _ i _ => n - (intOf i).toNat)
    case atStart => exact ⟨0, L0, base, base, by omega, rfl, rfl, rfl, rfl, HOI, HQ⟩
    case round =>
      clear HOI HQ
      obtain ⟨k, L, a, b, hk, rfl, rfl, rfl, rfl, HR, HQ⟩ := hrel
      have k0 : (0 : Int) ≤ (k : Int) := by omega
      by_cases hlt : k < n
      · have k1 : (k : Int) < N := by have := HNN.out; omega
        have k2 : (k : Int) < (len : Int) := by have := HLE.out.1; omega
        have HLT := Lib.hid hlt
        obtain ⟨H1, hq1, hq2⟩ := HQ.out
        obtain ⟨c0, c1, b0, o0, rfl, d0, d1, ex, ey⟩ := HRX.out k hlt wr hq1.2
        have HQP := Lib.hid (And.intro hq1 hq2)
        clear hq1 hq2 hlt
        have hu := HU.out
        go_upto_region 14 with (fail)
        have ew1 := w64_is ((IntKind.u64.wrap c0).tmod (m : Int))
        have ew2 := w64_is ((IntKind.u64.wrap c1).tmod (m : Int))
        rw [ex] at ew1
        rw [ey] at ew2
        have mz : ¬ (m : Int) = 0 := by have := HPW.out.1; omega
        go_region
        clear ew1 ew2 ex ey d0 d1
        obtain ⟨c2, c3, b1, o1, eb, d2, d3, ex, ey⟩ := HRX.out (n - 1 - k) (by have := HLT.out; omega) wr HQP.out.1.2
        obtain ⟨rfl, rfl⟩ : b0 = b1 ∧ o0 = o1 := by simpa using eb
        clear eb
        have ew1 := w64_is ((IntKind.u64.wrap c2).tmod (m : Int))
        have ew2 := w64_is ((IntKind.u64.wrap c3).tmod (m : Int))
        rw [ex] at ew1
        rw [ey] at ew2
        have g1 : IntKind.i64.wrap (N - 1) = N - 1 := IntWalk.i64_in _ (by omega)
        have g2 : IntKind.i64.wrap (N - 1 - (k : Int)) = N - 1 - (k : Int) := IntWalk.i64_in _ (by omega)
        have g3 : 0 ≤ N - 1 - (k : Int) := by have := HNN.out; have := HLT.out; omega
        have g4 : N - 1 - (k : Int) < (len : Int) := by have := HLE.out.1; have := HNN.out; omega
        have g5 : (N - 1 - (k : Int)).toNat = n - 1 - k := by have := HNN.out; have := HLT.out; omega
        go_upto_region 15 with (fail)
        go_region
        clear ew1 ew2 ex ey d2 d3 g1 g2 g3 g4 g5 hu mz
        have HQV := Lib.hid (show Qs w.heap.size w P L 4000 wr.drew.drew H1 ∧ w.heap.size ≤ wr.drew.drew.heap.size from ⟨⟨HQP.out.1.1.moved (fun _ _ => rfl), HQP.out.1.2.drew.drew⟩, HQP.out.2⟩)
        generalize wr.drew.drew = V at HQV ⊢
        clear HQP HQ
        obtain ⟨r1, r2, r3, r4, was, hrnd⟩ := HR.out.round (by have := HP8.out; omega) HLT.out HLE.out.2 (by have h := HXY.out.1; rw [HMM.out] at h; exact h) (by have h := HXY.out.2; rw [HMM.out] at h; exact h)
        have HD := Lib.hid hrnd
        have HXX := Lib.hid (show (∀ j, X j < 2 ^ (p + 3)) ∧ (∀ j, Y j < 2 ^ (p + 3)) by have h := HXY.out; rw [HMM.out] at h; exact h)
        have HP37 := Lib.hid (show p ≤ 37 by have := HP8.out; omega)
        clear hrnd
        have HC1 := Lib.hid (set_at HQV.out.1.1 HR.out.la HP37.out (HXX.out.1 k) (HXX.out.2 k) HD.out.e1 HD.out.l1)
        go_wp2_with fail
        refine HC1.out.mono ?_
        rintro e w3 ⟨rfl, hgo⟩
        obtain ⟨H2, hq, hst⟩ := HQV.out.1.goes hgo HQV.out.2
        have HQ2 := Lib.hid (show Qs w.heap.size w P r1.1 4000 w3 H2 ∧ w.heap.size ≤ w3.heap.size from ⟨hq, Nat.le_trans HQV.out.2 hst.size⟩)
        clear hgo hq hst HC1 HQV
        have HC1 := Lib.hid (set_at HQ2.out.1.1 HD.out.lb HP37.out (HXX.out.1 (n - 1 - k)) (HXX.out.2 (n - 1 - k)) HD.out.e2 HD.out.l2)
        go_wp2_with fail
        refine HC1.out.mono ?_
        rintro e w4 ⟨rfl, hgo⟩
        obtain ⟨H3, hq, hst⟩ := HQ2.out.1.goes hgo HQ2.out.2
        have HQ3 := Lib.hid (show Qs w.heap.size w P r2.1 4000 w4 H3 ∧ w.heap.size ≤ w4.heap.size from ⟨hq, Nat.le_trans HQ2.out.2 hst.size⟩)
        clear hgo hq hst HC1 HQ2
        have HC1 := Lib.hid (get_at HQ3.out.1.1 HD.out.lc HP37.out (HXX.out.1 k) (HXX.out.2 k) HD.out.is)
        go_wp2_with fail
        refine HC1.out.mono ?_
        rintro e w5 ⟨rfl, hb⟩
        have HQ4 := Lib.hid (show Qs w.heap.size w P r2.1 4000 w5 H3 ∧ w.heap.size ≤ w5.heap.size from ⟨⟨HQ3.out.1.1.below hb (Nat.le_refl _), HQ3.out.1.2.trans (hb.mono HQ3.out.2)⟩, Nat.le_trans HQ3.out.2 hb.size⟩)
        clear hb HC1 HQ3
        have HC1 := Lib.hid (get_at HQ4.out.1.1 HD.out.lc HP37.out (HXX.out.1 (n - 1 - k)) (HXX.out.2 (n - 1 - k)) HD.out.ew.symm)
        go_wp2_with fail
        refine HC1.out.mono ?_
        rintro e w6 ⟨rfl, hb⟩
        have HQ5 := Lib.hid (show Qs w.heap.size w P r2.1 4000 w6 H3 ∧ w.heap.size ≤ w6.heap.size from ⟨⟨HQ4.out.1.1.below hb (Nat.le_refl _), HQ4.out.1.2.trans (hb.mono HQ4.out.2)⟩, Nat.le_trans HQ4.out.2 hb.size⟩)
        clear hb HC1 HQ4
        have HC1 := Lib.hid (set_at HQ5.out.1.1 HD.out.lc HP37.out (HXX.out.1 (n - 1 - k)) (HXX.out.2 (n - 1 - k)) HD.out.e3 HD.out.l3)
        go_wp2_with fail
        refine HC1.out.mono ?_
        rintro e w7 ⟨rfl, hgo⟩
        obtain ⟨H4, hq, hst⟩ := HQ5.out.1.goes hgo HQ5.out.2
        have HQ6 := Lib.hid (show Qs w.heap.size w P r3.1 4000 w7 H4 ∧ w.heap.size ≤ w7.heap.size from ⟨hq, Nat.le_trans HQ5.out.2 hst.size⟩)
        clear hgo hq hst HC1 HQ5
        have HC1 := Lib.hid (set_at HQ6.out.1.1 HD.out.s3.lv HP37.out (HXX.out.1 (n - 1 - k)) (HXX.out.2 (n - 1 - k)) HD.out.e4 HD.out.l4)
        go_wp2_with fail
        refine HC1.out.mono ?_
        rintro e w8 ⟨rfl, hgo⟩
        rw [HD.out.back]
        obtain ⟨H5, hq, hst⟩ := HQ6.out.1.goes hgo HQ6.out.2
        have HQ7 := Lib.hid (show Qh w.heap.size w P r4.1 4000 w8 from ⟨H5, hq, Nat.le_trans HQ6.out.2 hst.size⟩)
        clear hgo hq hst HC1 HQ6
        have e1 : (r3.2 == r1.2) = false := by rw [beq_eq_false_iff_ne]; exact HD.out.ne
        go_wp2
        go_roundw
        case rel => exact ⟨k + 1, r4.1, r1.2, r2.2, by have := HLT.out; omega, rfl, rfl, rfl, by go_num, Lib.hid HD.out.next, HQ7⟩
        case measure => have := HLT.out; simp [intOf]; omega
      · obtain rfl : k = n := by omega
        have k1 : ¬ (k : Int) < N := by have := HNN.out; omega
        obtain ⟨H1, hq1, hq2⟩ := HQ.out
        have hd := HR.out.done (by have h := HXY.out.1; rw [HMM.out] at h; exact h) (by have h := HXY.out.2; rw [HMM.out] at h; exact h)
        obtain ⟨h1, h2, h3⟩ := hd
        subst h1
        have HC1 := Lib.hid (count_at hq1.1 a HR.out.la.1 _ rfl)
        obtain ⟨x, hx⟩ : ∃ x, x = (at' L a).cnt := ⟨_, rfl⟩
        rw [← hx] at HC1 h2
        have HX := Lib.hid hx
        have HXN := Lib.hid (show x ≤ N by have := HNN.out; omega)
        have HQP := Lib.hid (And.intro hq1 hq2)
        have HZ := Lib.hid (show (N == 0) = (a == base) by
          rw [Bool.eq_iff_iff, beq_iff_eq, beq_iff_eq, ← h3]
          have := HNN.out
          omega)
        clear hq1 hq2 h2 h3 hx hlt
        go_wp2_with fail
        refine HC1.out.mono ?_
        rintro e w3 ⟨rfl, hb⟩
        have HQ2 := Lib.hid (show Qs w.heap.size w P L 4000 w3 H1 ∧ w.heap.size ≤ w3.heap.size from ⟨⟨HQP.out.1.1.below hb (Nat.le_refl _), HQP.out.1.2.trans (hb.mono HQP.out.2)⟩, Nat.le_trans HQP.out.2 hb.size⟩)
        have HC2 := Lib.hid (count_at HQ2.out.1.1 a HR.out.la.1 x HX.out.symm)
        clear hb HC1 HQP
        go_wp2_with fail
        refine HC2.out.mono ?_
        rintro e w4 ⟨rfl, hb⟩
        have HB4 := Lib.hid (HQ2.out.1.2.trans (hb.mono HQ2.out.2))
        clear hb HC2 HQ2
        have xn : ¬ N < x := by have := HXN.out; omega
        have xn2 : x ≤ N := HXN.out
        have hz := HZ.out
        have hzz : ((N == 0) == (a == base)) = true := by rw [hz]; simp
        go_wp2_with fail
        refine (sure_any _).mono ?_
        rintro e w5 ⟨rfl, hb⟩
        have HB5 := Lib.hid (HB4.out.trans (hb.mono HB4.out.size))
        clear hb
        go_wp2
        go_ret
        exact ⟨rfl, HB5.out⟩
end Go.Proofs.Ytgdcedlmndkfiaa

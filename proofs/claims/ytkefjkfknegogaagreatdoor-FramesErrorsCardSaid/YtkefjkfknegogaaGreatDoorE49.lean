/-
  WALK of the statements' sure. Conditions: none.
  WHAT A MACHINE ANSWERS TO WHAT CAN'T BE. Conditions: those that each lemma names.
  THE LADDER OF EMPTY SQUARES, as plain data. Conditions: those that each lemma names.
-/
import Derived.Test.YtkefjkfknegogaaGreatDoorE46
import Derived.Test.YtkefjkfknegogaaGreatDoorE48
import Derived.Test.YtkefjkfknegogaaGreatDoorE02
namespace Go.Proofs.YtkefjkfknegogaaGreatDoor.Fm
open Go.RowKit Ti Qd Go.Maps Go.WideMaps Ru

theorem count_is {B : Nat} {w : World} {P : Nat} {L : List Sq} {room : Nat} {H : Nat → Prop} (h : St B w P L room H) (id : Int) (ho : Ok L id) (c : Int) (hc : (at' L id).cnt = c) :
    Calls Tryz.prog 26 #[.pointer (some ⟨P, 0, none⟩), .int .i64 id] w fun e w' => e = .returned (.tuple #[.int .i64 c, .nilIface]) ∧ Below w.heap.size w w' := by
  rw [← hc]
  exact count_ok h id ho
theorem new_lit (room : Nat) (k : Int) (e : (room : Int) = k) (w : World) (h1 : 1 ≤ room) (h2 : room ≤ 65536) : Calls Tryz.prog 19 #[.int .i64 k] w (Made w room) := by
  rw [← e]
  exact new_ok room w h1 h2
theorem Bs.store2 {B P room b l G M : Nat} {s : MS} {w0 w : World} {H0 : Nat → Prop} {bx : List (Nat × Obj)} (h : Bs (Mc B P room b l G M s) w0 H0 bx w) : ∃ Hs, St B w P s.L room Hs ∧ (∀ x ∈ bx, ¬ Hs x.1) ∧ ∀ (L' : List Sq) (w' : World), Goes B w P room Hs L' w' → Bs (Mc B P room b l G M ⟨L', s.K, s.U, s.out⟩) w0 H0 bx w' := by
  obtain ⟨H, h1, h2, h3⟩ := h.call
  obtain ⟨uv, us, gr, Hs, k1, k2, k3, k4, rfl⟩ := h1
  obtain ⟨Hs', j1, j2⟩ := Mc.store (s := s) ⟨uv, us, gr, Hs, k1, k2, k3, k4, rfl⟩
  refine ⟨Hs, k1, fun x hx e => h2 x hx (.inr e), fun L' w' ⟨Hn, q1, q2⟩ => h3 _ _ ?_⟩
  refine ⟨_, ⟨uv, us, gr, Hn, q1, k2.moved fun x hx => q2.block x (k2.lt hx).2 (k4 x hx), k3, fun x hx e => ?_, rfl⟩, ⟨q2.os, q2.tape, q2.output, q2.size, fun k hk hn => q2.block k hk fun e => hn (.inr e), fun k hk => ?_⟩⟩
  · rcases q2.own x e with q | q
    · exact k4 x hx q
    · have := (k2.lt hx).2; omega
  · rcases hk with hk | hk
    · exact .inl (.inl hk)
    · rcases q2.own k hk with q | q
      · exact .inl (.inr q)
      · exact .inr q
theorem Bs.lt {B : Nat} {T : World → (Nat → Prop) → Prop} {w0 w : World} {H0 : Nat → Prop} {bx : List (Nat × Obj)} (h : Bs T w0 H0 bx w) (hH : ∀ x, H0 x → B ≤ x) (hB : B ≤ w0.heap.size) : Below B w0 w := by
  obtain ⟨⟨H, h1, h2, h3⟩, _⟩ := h
  exact h2.below hH hB
def sX (i : Nat) : Nat := if i = 0 then 455 else if i = 1 then 456 else if i = 2 then 519 else 520
theorem sF (x y : Nat) (hx : x < 16) (hy : y < 16) : fF sX 16 4 (y * 16 + x) = blk 7 7 (0 + x) (0 + y) := by
  have e : fF sX 16 4 = upd (upd (upd (upd (fun _ => false) 119 true) 120 true) 135 true) 136 true := rfl
  rw [e]
  unfold upd blk
  by_cases h4 : y * 16 + x = 136
  · rw [if_pos h4, decide_eq_true (by omega)]
  rw [if_neg h4]
  by_cases h3 : y * 16 + x = 135
  · rw [if_pos h3, decide_eq_true (by omega)]
  rw [if_neg h3]
  by_cases h2 : y * 16 + x = 120
  · rw [if_pos h2, decide_eq_true (by omega)]
  rw [if_neg h2]
  by_cases h1 : y * 16 + x = 119
  · rw [if_pos h1, decide_eq_true (by omega)]
  rw [if_neg h1, decide_eq_false (by omega)]
theorem blk_fld8 : fldC (blk 7 7) 4 4 8 8 = 4 := by decide +kernel
structure Sure (L : List Sq) (id : Int) (s : MS) : Prop where
  lv : Lv L 1 id
  k0 : SOk 8 12 ⟨L, K0, [nf id 2], 0⟩
  run : runF 8 12 5 ⟨L, K0, [nf id 2], 0⟩ = (1, s)
  u : s.U = []
  ok : SOk 8 12 s
  len : s.L.length ≤ 100
  o : Ok s.L s.out
  z : (s.out != 0) = true
  c : (at' s.L s.out).cnt = 4
theorem sure_q : ∃ (L : List Sq) (id : Int) (s : MS), layQ [] 1 16 (fF sX 16 4) 256 = (L, id) ∧ L.length ≤ 10 ∧ Sure L id s := by
  obtain ⟨R, hR⟩ : ∃ R, R = layQ [] 1 16 (fF sX 16 4) 256 := ⟨_, rfl⟩
  have ho : LayOk [] 1 16 (fF sX 16 4) 256 := lay_ok inv_nil 1 16 (by omega) rfl _ 256 (by omega)
  have hln := ho.len
  have hcl := ho.cel
  have hlv := ho.lv
  have hiv := ho.inv
  rw [← hR] at hln hcl hlv hiv
  have h2 := fF_few sX 16 256 4
  have h3 : trN (fF sX 16 4) 256 * (1 + 1) ≤ 4 * 2 := Nat.mul_le_mul h2 (by decide)
  simp only [List.length_nil] at hln
  have hw : Wn R.1 1 R.2 (blk 7 7) 0 0 := ⟨hlv, fun x y hx hy => by
    have hx : x < 16 := hx
    have hy : y < 16 := hy
    rw [show cel R.1 1 R.2 x y = _ from hcl x y hx hy, sF x y hx hy, decide_eq_true (by omega), Bool.true_and]⟩
  obtain ⟨s0, p0, b0⟩ := start_ok (b := 8) (l := 12) (K := K0) (gok_new 8 12 hiv) (n := 0) hlv (by decide) (j := 2) (by decide) (by decide) 0
  have r := run_ok 5 s0
  have e := run_end s0 (n := 5) (by rw [p0]; decide)
  have hb := bas_end (r.bas _ _ b0) e
  have hp := r.pot
  have hq := r.pos (by simp) (by decide)
  have hp1 : pot (⟨R.1, K0, [nf R.2 2], 0⟩ : MS).L (⟨R.1, K0, [nf R.2 2], 0⟩ : MS).U = 1 := p0
  rw [hp1] at hp
  have h1 := Nat.le_antisymm (Nat.le_trans (Nat.le_add_left _ _) hp) hq
  obtain ⟨q1, q2⟩ := r.ok.kn.kn _ _ _ hb
  have hw2 := (q2 0 _ _ _ (hw.ext hiv r.ext)).2
  rw [blk_gens] at hw2
  have hc := cnt_wn r.ok.kn.inv 0 _ _ _ _ (by decide) hw2
  have hok := hw2.1.1
  refine ⟨R.1, R.2, (runF 8 12 5 ⟨R.1, K0, [nf R.2 2], 0⟩).2, hR.symm, by omega, hlv, s0, Prod.ext h1 rfl, e, r.ok, ?_, hok, ?_, ?_⟩
  · have hl2 := r.len
    rw [h1] at hl2
    exact Nat.le_trans hl2 (by show R.1.length + 2 * 1 ≤ 100; omega)
  · unfold Ok at hok
    rw [bne_iff_ne]
    intro h
    rw [h] at hok
    omega
  · rw [hc]
    show ((fldC (blk 7 7) 4 4 8 8 : Nat) : Int) = 4
    rw [blk_fld8]
    rfl
set_option maxRecDepth 100000 in
set_option maxHeartbeats 4000000 in
theorem sure_any (w : World) : Calls Tryz.prog 8 #[] w fun e w' => e = .returned (.bool true) ∧ Below w.heap.size w w' := by
  have HN := Lib.hid (new_lit 100 100 rfl w (by decide) (by decide))
  obtain ⟨sL, sI, sS, hLQ, hlen, hQ⟩ := sure_q
  have HQ := Lib.hid hQ
  have HLQ := Lib.hid (And.intro hLQ hlen)
  clear hLQ hQ hlen
  go_enter Tryz.func8, Tryz.ntmps8
  go_wp2_with fail
  refine HN.out.mono ?_
  rintro e w1 ⟨P, Hs0, rfl, hs, hb⟩
  have HB1 := Lib.hid hb
  have HS1 := Lib.hid hs
  have HG := Lib.hid (show Calls Tryz.prog 17 #[.pointer (some ⟨P, 0, none⟩), .agg #[.int .u16 8, .int .u16 12]] w1 (NewM w1 P 8 12) from mnew_f P 8 12 (by decide) w1)
  clear hs hb HN
  go_wp2_with fail
  refine HG.out.mono ?_
  rintro e w2 ⟨G, M, rfl, g1, g2, g3, g4⟩
  have hmc : Mc w.heap.size P 100 8 12 G M ⟨[], K0, [], 0⟩ w2 _ := Mc.made (HS1.out.bel g3) (g4 w.heap.size HB1.out.size) g1 g2 (fun x hx => (HS1.out.lt x hx).2)
  have HB2 := Lib.hid (HB1.out.trans (g3.mono HB1.out.size))
  have HHL := Lib.hid (fun x hx => ((mc_fpt w.heap.size P 100 8 12 G M ⟨[], K0, [], 0⟩).lt hmc x hx).1)
  have HS := Lib.hid ((Bs.start hmc).alloc (mc_fpt _ _ _ _ _ _ _ _) (.cells #[.int .u64 455, .int .u64 456, .int .u64 519, .int .u64 520] 70) rfl)
  clear g1 g2 g3 g4 hmc HG HS1 HB1
  have HX := Lib.hid (show LiesX (w2.alloc (.cells #[.int .u64 455, .int .u64 456, .int .u64 519, .int .u64 520] 70)) (some ⟨w2.heap.size, 0, none⟩) 4 sX from fun i hi => ⟨w2.heap.size, 0, rfl, by
    obtain ⟨c0, c1, c2, c3⟩ := row4 (heap_alloc_new w2 (.cells #[.int .u64 455, .int .u64 456, .int .u64 519, .int .u64 520] 70))
    rcases (show i = 0 ∨ i = 1 ∨ i = 2 ∨ i = 3 by omega) with rfl | rfl | rfl | rfl
    · exact c0
    · exact c1
    · exact c2
    · exact c3, by
    rcases (show i = 0 ∨ i = 1 ∨ i = 2 ∨ i = 3 by omega) with rfl | rfl | rfl | rfl <;> decide⟩)
  have HT := Lib.hid (fun s => mc_fpt w.heap.size P 100 8 12 G M s)
  go_wp2_with fail
  generalize World.alloc _ _ = W at HS HX ⊢
  refine (show Calls Tryz.prog 23 #[.slice (some ⟨w2.heap.size, 0, none⟩) 4 4, .int .i64 16] W fun e W' => e = .returned (.slice (some ⟨W.heap.size, 0, none⟩) 256 256) ∧ FI W sX 16 256 4 W' from field_ok _ 4 4 sX 16 W HX.out (by decide) (by decide) (by decide)).mono ?_
  rintro e w3 ⟨rfl, hfi⟩
  have HS3 := Lib.hid (HS.out.made (HT.out _) hfi.bel hfi.row (Nat.le_refl _))
  clear hfi HX HS
  obtain ⟨Hs, hst, hno, hgo⟩ := HS3.out.store2
  have hL := (laid_16 hst (fF sX 16 4) W.heap.size HS3.out.b0 (hno _ List.mem_cons_self) (by show (layQ [] 1 16 (fF sX 16 4) 256).1.length ≤ 100; rw [HLQ.out.1]; exact Nat.le_trans HLQ.out.2 (by decide)))
  have hL : Calls Tryz.prog 22 #[.pointer (some ⟨P, 0, none⟩), .slice (some ⟨W.heap.size, 0, none⟩) 256 256, .int .i64 16] w3 fun e w' => e = .returned (.int .i64 (layQ [] 1 16 (fF sX 16 4) 256).2) ∧ Goes w.heap.size w3 P 100 Hs (layQ [] 1 16 (fF sX 16 4) 256).1 w' := hL
  rw [HLQ.out.1] at hL
  have HL := Lib.hid hL
  have HGO := Lib.hid hgo
  clear hst hno hgo hL
  go_wp2_with fail
  refine HL.out.mono ?_
  rintro e w4 ⟨rfl, hg⟩
  have HS4 : Hid (Bs (Mc w.heap.size P 100 8 12 G M ⟨sL, K0, [], 0⟩) w2 _ [] w4) := Lib.hid ((HGO.out _ _ hg).sub (by' := []) (fun x hx => by cases hx) List.nodup_nil)
  clear hg HL HGO HS3
  obtain ⟨H1, h1, _, h3⟩ := HS4.out.call
  have HBW := Lib.hid (HB2.out.trans ((HS4.out.lt HHL.out HB2.out.size).mono (Nat.le_refl _)))
  have HBE := Lib.hid (show Calls Tryz.prog 10 #[.pointer (some ⟨G, 0, none⟩), .int .i64 sI, .int .i64 2] w4 fun e w' => e = .returned .nilIface ∧ Goz (Mc w.heap.size P 100 8 12 G M ⟨sL, K0, [nf sI 2], 0⟩) w4 H1 w' from begin_f h1 HBW.out.size rfl sI 2 0 (by decide) HQ.out.lv (by decide) (by decide))
  have HN := Lib.hid h3
  clear h1 h3
  go_wp2_with fail
  refine HBE.out.mono ?_
  rintro e w5 ⟨rfl, hg⟩
  have HS5 := Lib.hid (HN.out _ _ hg)
  clear hg HBE HN HS4
  obtain ⟨H1, h1, _, h3⟩ := HS5.out.call
  have HFR := Lib.hid (frames_f h1 (by intro g hg; simp at hg; subst hg; exact Nat.zero_le _) (by show 1 ≤ 1000; decide))
  clear h1 h3
  go_wp2_with fail
  refine HFR.out.mono ?_
  rintro e w6 ⟨ao, cap, nw, rfl, _, _, _, _, _, hb⟩
  have HS6 := Lib.hid (HS5.out.below (HT.out _) hb)
  clear hb HFR HS5
  obtain ⟨H1, h1, _, h3⟩ := HS6.out.call
  have HBW := Lib.hid (HB2.out.trans ((HS6.out.lt HHL.out HB2.out.size).mono (Nat.le_refl _)))
  have HRU := Lib.hid (show Calls Tryz.prog 15 #[.pointer (some ⟨G, 0, none⟩), .int .i64 5] w6 fun e w' => e = .returned (.tuple #[.int .i64 1, .nilIface]) ∧ Goz (Mc w.heap.size P 100 8 12 G M sS) w6 H1 w' from by
    have := run_f h1 HBW.out.size HQ.out.k0 (by simp) (by decide) (by decide) 5 (by decide) (by rw [show ((5 : Int)).toNat = 5 from rfl, HQ.out.run]; exact HQ.out.len)
    rw [show ((5 : Int)).toNat = 5 from rfl, HQ.out.run] at this
    exact this)
  have HN := Lib.hid h3
  clear h1 h3
  go_wp2_with fail
  refine HRU.out.mono ?_
  rintro e w7 ⟨rfl, hg⟩
  have HS7 := Lib.hid (HN.out _ _ hg)
  clear hg HRU HN HS6
  obtain ⟨H1, h1, _, _⟩ := HS7.out.call
  have HOU := Lib.hid (out_f h1 true HQ.out.z)
  clear h1
  go_wp2_with fail
  refine HOU.out.mono ?_
  rintro e w8 ⟨rfl, hb⟩
  have HS8 := Lib.hid (HS7.out.below (HT.out _) hb)
  clear hb HOU HS7
  obtain ⟨Hs, hst, _⟩ := HS8.out.store
  have HCO := Lib.hid (count_is hst sS.out HQ.out.o 4 HQ.out.c)
  clear hst
  go_wp2_with fail
  refine HCO.out.mono ?_
  rintro e w9 ⟨rfl, hb⟩
  have HS9 := Lib.hid (HS8.out.below (HT.out _) hb)
  clear hb HCO HS8
  obtain ⟨H1, h1, _, _⟩ := HS9.out.call
  have HFR := Lib.hid (frames_f h1 (by intro g hg; rw [HQ.out.u] at hg; cases hg) (by rw [HQ.out.u]; decide))
  rw [HQ.out.u] at HFR
  clear h1
  go_wp2_with fail
  refine HFR.out.mono ?_
  rintro e w10 ⟨ao, cap, nw, rfl, _, _, _, _, _, hb⟩
  have HE := Lib.hid ((HB2.out.trans ((HS9.out.lt HHL.out HB2.out.size).mono (Nat.le_refl _))).trans (hb.mono (HB2.out.trans ((HS9.out.lt HHL.out HB2.out.size).mono (Nat.le_refl _))).size))
  clear hb
  go_wp2
  go_ret
  exact ⟨rfl, HE.out⟩
end Go.Proofs.YtkefjkfknegogaaGreatDoor.Fm
namespace Go.Proofs.YtkefjkfknegogaaGreatDoor.Fm
open Go.RowKit Ti Qd Go.Maps Go.WideMaps Ru

set_option maxRecDepth 100000 in
theorem run_nil (n : Int) (w : World) : Calls Tryz.prog 15 #[.pointer none, .int .i64 n] w fun e w' => e = .returned (.tuple #[.int .i64 0, .iface 71 (.int .i64 1)]) ∧ w = w' := by
  go_enter Tryz.func15, Tryz.ntmps15
  go_wp2
  go_ret2
  exact ⟨rfl, rfl⟩
set_option maxRecDepth 100000 in
theorem begin_nil (id j : Int) (w : World) : Calls Tryz.prog 10 #[.pointer none, .int .i64 id, .int .i64 j] w fun e w' => e = .returned (.iface 71 (.int .i64 1)) ∧ w = w' := by
  go_enter Tryz.func10, Tryz.ntmps10
  go_wp2
  go_ret
  exact ⟨rfl, rfl⟩
set_option maxRecDepth 100000 in
theorem out_nil (w : World) : Calls Tryz.prog 14 #[.pointer none] w fun e w' => e = .returned (.tuple #[.int .i64 0, .bool false]) ∧ w = w' := by
  go_enter Tryz.func14, Tryz.ntmps14
  go_wp2
  go_ret2
  exact ⟨rfl, rfl⟩
set_option maxRecDepth 100000 in
theorem frames_nil (w : World) : Calls Tryz.prog 13 #[.pointer none] w fun e w' => e = .returned (.slice none 0 0) ∧ w = w' := by
  go_enter Tryz.func13, Tryz.ntmps13
  go_wp2
  go_ret
  exact ⟨rfl, rfl⟩
set_option maxRecDepth 100000 in
theorem load_nil (ao : Option Addr) (n c : Nat) (w : World) : Calls Tryz.prog 18 #[.pointer none, .slice ao n c] w fun e w' => e = .returned (.iface 71 (.int .i64 1)) ∧ w = w' := by
  go_enter Tryz.func18, Tryz.ntmps18
  go_wp2
  go_ret
  exact ⟨rfl, rfl⟩
set_option maxRecDepth 100000 in
theorem mnew_nil (b l : Int) (w : World) : Calls Tryz.prog 17 #[.pointer none, .agg #[.int .u16 b, .int .u16 l]] w fun e w' => e = .returned (.tuple #[.pointer none, .iface 71 (.int .i64 1)]) ∧ Below w.heap.size w w' := by
  go_enter Tryz.func17, Tryz.ntmps17
  go_wp2
  go_ret2
  exact ⟨rfl, alX w _⟩
set_option maxRecDepth 100000 in
theorem mnew_bad (P b l : Nat) (hb : b < 65536) (hl : l < 65536) (hm : mayR b l = false) (w : World) : Calls Tryz.prog 17 #[.pointer (some ⟨P, 0, none⟩), Rv b l] w fun e w' => e = .returned (.tuple #[.pointer none, .iface 71 (.int .i64 11)]) ∧ Below w.heap.size w w' := by
  have HC := Lib.hid (fun w => check_bad b l hb hl hm w)
  unfold Rv at HC ⊢
  have HB := Lib.hid (alX w (.cells #[.int .u16 b, .int .u16 l] 40))
  obtain ⟨c0, c1⟩ := two_cells (heap_alloc_new w (.cells #[.int .u16 b, .int .u16 l] 40))
  clear hb hl hm
  go_enter Tryz.func17, Tryz.ntmps17
  go_wp2_with fail
  refine (HC.out _).mono ?_
  rintro e w1 ⟨rfl, hb⟩
  have HB1 := Lib.hid (HB.out.trans (hb.mono HB.out.size))
  clear hb
  go_wp2
  go_ret2
  exact ⟨rfl, HB1.out⟩
set_option maxRecDepth 100000 in
theorem begin_none {B P room b l G M : Nat} {s : MS} {w : World} {H : Nat → Prop} (h : Mc B P room b l G M s w H) (hu : s.U = []) (id j : Int) (ho : ¬ Ok s.L id) :
    Calls Tryz.prog 10 #[.pointer (some ⟨G, 0, none⟩), .int .i64 id, .int .i64 j] w fun e w' => e = .returned (.iface 71 (.int .i64 8)) ∧ Below w.heap.size w w' := by
  obtain ⟨ao, cp, c3, _, _⟩ := h.under
  rw [hu] at c3
  have c3 : w.cell? ⟨G, 3, none⟩ = some (.slice ao 0 cp) := c3
  have c0 := h.cells.1
  obtain ⟨Hs, k1, _⟩ := h.store
  have HL := Lib.hid (level_none k1 id ho)
  clear h hu ho k1
  go_enter Tryz.func10, Tryz.ntmps10
  go_wp2_with fail
  refine HL.out.mono ?_
  rintro e w1 ⟨rfl, hb⟩
  have HB := Lib.hid hb
  clear hb
  go_wp2
  go_ret
  exact ⟨rfl, HB.out⟩
set_option maxRecDepth 100000 in
theorem begin_bad {B P room b l G M : Nat} {s : MS} {w : World} {H : Nat → Prop} (h : Mc B P room b l G M s w H) (hu : s.U = []) (id j : Int) (n : Nat) (hn : n ≤ 37) (hl : Lv s.L n id) (hg : goB ((n : Int) + 3) j = false) :
    Calls Tryz.prog 10 #[.pointer (some ⟨G, 0, none⟩), .int .i64 id, .int .i64 j] w fun e w' => e = .returned (.iface 71 (.int .i64 1)) ∧ Below w.heap.size w w' := by
  obtain ⟨ao, cp, c3, _, _⟩ := h.under
  rw [hu] at c3
  have c3 : w.cell? ⟨G, 3, none⟩ = some (.slice ao 0 cp) := c3
  have c0 := h.cells.1
  obtain ⟨Hs, k1, _⟩ := h.store
  have hlev : (at' s.L id).lev = (n : Int) + 3 := by have := hl.2; omega
  have HL := Lib.hid (level_is k1 id hl.1 _ hlev)
  have HG := Lib.hid (fun w => goesOn_f ((n : Int) + 3) j (by omega) (by omega) w)
  rw [hg] at HG
  clear h hu hl k1 hlev hg
  generalize (n : Int) + 3 = lev at *
  go_enter Tryz.func10, Tryz.ntmps10
  go_wp2_with fail
  refine HL.out.mono ?_
  rintro e w1 ⟨rfl, hb⟩
  have HB := Lib.hid hb
  clear hb c3 c0
  go_wp2_with fail
  refine (HG.out _).mono ?_
  rintro e w2 ⟨rfl, rfl⟩
  go_wp2
  go_ret
  exact ⟨rfl, HB.out⟩
set_option maxRecDepth 100000 in
theorem begin_on {B P room b l G M : Nat} {s : MS} {w : World} {H : Nat → Prop} (h : Mc B P room b l G M s w H) (hu : s.U ≠ []) (id j : Int) :
    Calls Tryz.prog 10 #[.pointer (some ⟨G, 0, none⟩), .int .i64 id, .int .i64 j] w fun e w' => e = .returned (.iface 71 (.int .i64 14)) ∧ w = w' := by
  obtain ⟨ao, cp, c3, _, _⟩ := h.under
  have hlu : ¬ s.U.length = 0 := fun e => hu (List.eq_nil_of_length_eq_zero e)
  generalize s.U.length = un at *
  have hz : 0 < un := by omega
  clear h hu hlu
  go_enter Tryz.func10, Tryz.ntmps10
  go_wp2
  go_ret
  exact ⟨rfl, rfl⟩
set_option maxRecDepth 100000 in
theorem load_on {B P room b l G M : Nat} {s : MS} {w : World} {H : Nat → Prop} (h : Mc B P room b l G M s w H) (hu : s.U ≠ []) (al : Option Addr) (n c : Nat) :
    Calls Tryz.prog 18 #[.pointer (some ⟨G, 0, none⟩), .slice al n c] w fun e w' => e = .returned (.iface 71 (.int .i64 14)) ∧ w = w' := by
  obtain ⟨ao, cp, c3, _, _⟩ := h.under
  have hlu : ¬ s.U.length = 0 := fun e => hu (List.eq_nil_of_length_eq_zero e)
  generalize s.U.length = un at *
  have hz : 0 < un := by omega
  clear h hu hlu
  go_enter Tryz.func18, Tryz.ntmps18
  go_wp2
  go_ret
  exact ⟨rfl, rfl⟩
set_option maxRecDepth 100000 in
theorem run_none {B P room b l G M : Nat} {s : MS} {w : World} {H : Nat → Prop} (h : Mc B P room b l G M s w H) (hu : s.U = []) (n : Int) :
    Calls Tryz.prog 15 #[.pointer (some ⟨G, 0, none⟩), .int .i64 n] w fun e w' => e = .returned (.tuple #[.int .i64 0, .iface 71 (.int .i64 14)]) ∧ w = w' := by
  obtain ⟨ao, cp, c3, _, _⟩ := h.under
  rw [hu] at c3
  have c3 : w.cell? ⟨G, 3, none⟩ = some (.slice ao 0 cp) := c3
  clear h hu
  go_enter Tryz.func15, Tryz.ntmps15
  go_wp2
  go_ret2
  exact ⟨rfl, rfl⟩
set_option maxRecDepth 100000 in
theorem stand_nil (G : Nat) (w : World) : Calls Tryz.prog 40 #[.pointer (some ⟨G, 0, none⟩), .slice none 0 0] w fun e w' => e = .returned (.bool false) ∧ w = w' := by
  go_enter Tryz.func40, Tryz.ntmps40
  go_wp2
  go_ret
  exact ⟨rfl, rfl⟩
set_option maxRecDepth 100000 in
theorem load_empty {B P room b l G M : Nat} {s : MS} {w : World} {H : Nat → Prop} (h : Mc B P room b l G M s w H) (hu : s.U = []) :
    Calls Tryz.prog 18 #[.pointer (some ⟨G, 0, none⟩), .slice none 0 0] w fun e w' => e = .returned (.iface 71 (.int .i64 3)) ∧ w = w' := by
  obtain ⟨ao, cp, c3, _, _⟩ := h.under
  rw [hu] at c3
  have c3 : w.cell? ⟨G, 3, none⟩ = some (.slice ao 0 cp) := c3
  clear h hu
  go_enter Tryz.func18, Tryz.ntmps18
  go_wp2_with fail
  refine (stand_nil _ _).mono ?_
  rintro e wx ⟨rfl, rfl⟩
  go_wp2
  go_ret
  exact ⟨rfl, rfl⟩
end Go.Proofs.YtkefjkfknegogaaGreatDoor.Fm
namespace Go.Proofs.YtkefjkfknegogaaGreatDoor.Qd
open Ti

/-- the empty square that comes as the j-th -/
def laq (j : Nat) : Sq := if j = 0 then leafQ 0#64 else ⟨3 + j, 0, 0#64, j, j, j, j⟩
def lad (n : Nat) : List Sq := (List.range (n + 1)).map laq
theorem laq_lev (j : Nat) : (laq j).lev = 3 + j := by
  unfold laq
  split
  · rename_i h; subst h; rfl
  · rfl
theorem laq_cnt (j : Nat) : (laq j).cnt = 0 := by
  unfold laq
  split
  · decide +kernel
  · rfl
theorem lad_len (n : Nat) : (lad n).length = n + 1 := by simp [lad]
theorem lad_nd (n : Nat) : (lad n).Nodup := by
  unfold lad
  refine List.pairwise_map.2 (List.pairwise_lt_range.imp fun {a b} h e => ?_)
  have := congrArg Sq.lev e
  rw [laq_lev, laq_lev] at this
  omega
theorem lad_at {m j : Nat} (h : j ≤ m) : Ok (lad m) ((j : Int) + 1) ∧ at' (lad m) ((j : Int) + 1) = laq j := by
  refine ⟨⟨by omega, by rw [lad_len]; omega⟩, ?_⟩
  unfold at' lad
  rw [show ((j : Int) + 1 - 1).toNat = j by omega, List.getElem?_map, List.getElem?_range (by omega)]
  rfl
theorem lad_succ (n : Nat) : lad (n + 1) = lad n ++ [laq (n + 1)] := by
  unfold lad
  rw [List.range_succ, List.map_append]
  rfl
theorem lad_in {m j : Nat} (h : j ≤ m) : put (lad m) (laq j) = lad m ∧ nr (lad m) (laq j) = (j : Int) + 1 := by
  have hm : laq j ∈ lad m := List.mem_map.2 ⟨j, List.mem_range.2 (by omega), rfl⟩
  have hp : put (lad m) (laq j) = lad m := if_pos hm
  refine ⟨hp, ?_⟩
  have h1 := put_ok (lad m) (laq j)
  have h2 := put_at (lad m) (laq j)
  rw [hp] at h1 h2
  obtain ⟨h3, h4⟩ := lad_at h
  exact at_inj (lad_nd m) h1 h3 (h2.trans h4.symm)
theorem lad_join {m j : Nat} (h : j ≤ m) : joinQ (lad m) ((j : Int) + 1) ((j : Int) + 1) ((j : Int) + 1) ((j : Int) + 1) = laq (j + 1) := by
  unfold joinQ
  rw [(lad_at h).2, laq_lev, laq_cnt]
  unfold laq
  rw [if_neg (by omega)]
  refine Sq.ext' ?_ rfl rfl ?_ ?_ ?_ ?_
  · show 3 + (j : Int) + 1 = 3 + ((j + 1 : Nat) : Int)
    omega
  all_goals
    show (j : Int) + 1 = ((j + 1 : Nat) : Int)
    omega
theorem emp_lad : ∀ n, emp [] n = (lad n, (n : Int) + 1)
  | 0 => by decide +kernel
  | n + 1 => by
    show (put (emp [] n).1 (joinQ (emp [] n).1 (emp [] n).2 (emp [] n).2 (emp [] n).2 (emp [] n).2), nr (emp [] n).1 (joinQ (emp [] n).1 (emp [] n).2 (emp [] n).2 (emp [] n).2 (emp [] n).2)) = _
    rw [emp_lad n]
    show (put (lad n) (joinQ (lad n) ((n : Int) + 1) ((n : Int) + 1) ((n : Int) + 1) ((n : Int) + 1)), nr (lad n) (joinQ (lad n) ((n : Int) + 1) ((n : Int) + 1) ((n : Int) + 1) ((n : Int) + 1))) = _
    rw [lad_join (Nat.le_refl n)]
    have hm : ¬ laq (n + 1) ∈ lad n := fun hm => by
      obtain ⟨j, hj, e⟩ := List.mem_map.1 hm
      have := congrArg Sq.lev e
      rw [laq_lev, laq_lev] at this
      have := List.mem_range.1 hj
      omega
    rw [show put (lad n) (laq (n + 1)) = lad n ++ [laq (n + 1)] from if_neg hm, ← lad_succ]
    have : nr (lad n) (laq (n + 1)) = ((n + 1 : Nat) : Int) + 1 := by
      unfold nr
      rw [List.idxOf_eq_length hm, lad_len]
    rw [this]
theorem emp_again {m : Nat} : ∀ n, n ≤ m → emp (lad m) n = (lad m, (n : Int) + 1)
  | 0, h => by
    show (put (lad m) (leafQ 0#64), nr (lad m) (leafQ 0#64)) = _
    have := lad_in h
    rw [show laq 0 = leafQ 0#64 from rfl] at this
    rw [this.1, this.2]
  | n + 1, h => by
    show (put (emp (lad m) n).1 (joinQ (emp (lad m) n).1 (emp (lad m) n).2 (emp (lad m) n).2 (emp (lad m) n).2 (emp (lad m) n).2), nr (emp (lad m) n).1 (joinQ (emp (lad m) n).1 (emp (lad m) n).2 (emp (lad m) n).2 (emp (lad m) n).2 (emp (lad m) n).2)) = _
    rw [emp_again n (by omega)]
    show (put (lad m) (joinQ (lad m) ((n : Int) + 1) ((n : Int) + 1) ((n : Int) + 1) ((n : Int) + 1)), nr (lad m) (joinQ (lad m) ((n : Int) + 1) ((n : Int) + 1) ((n : Int) + 1) ((n : Int) + 1))) = _
    rw [lad_join (by omega), (lad_in h).1, (lad_in h).2]
end Go.Proofs.YtkefjkfknegogaaGreatDoor.Qd

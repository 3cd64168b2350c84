/-
  WALK of the statements' sure. Conditions: none.
  A GROWER BESIDE A MACHINE, over one store. Conditions: those that each lemma names.
-/
import Derived.Test.YtlejohclijjhnaaGreatDoorL38
import Derived.Test.YtlejohclijjhnaaGreatDoorL40
namespace Go.Proofs.YtlejohclijjhnaaGreatDoor.Fm
open Go.RowKit Ti Qd Go.Maps Go.WideMaps Ru

theorem count_is {B : Nat} {w : World} {P : Nat} {L : List Sq} {room : Nat} {H : Nat → Prop} (h : St B w P L room H) (id : Int) (ho : Ok L id) (c : Int) (hc : (at' L id).cnt = c) :
    Calls Tryz.prog 18 #[.pointer (some ⟨P, 0, none⟩), .int .i64 id] w fun e w' => e = .returned (.tuple #[.int .i64 c, .nilIface]) ∧ Below w.heap.size w w' := by
  rw [← hc]
  exact count_ok h id ho
theorem new_lit (room : Nat) (k : Int) (e : (room : Int) = k) (w : World) (h1 : 1 ≤ room) (h2 : room ≤ 65536) : Calls Tryz.prog 14 #[.int .i64 k] w (Made w room) := by
  rw [← e]
  exact new_ok room w h1 h2
theorem Bs.store2 {B P room b l G M : Nat} {s : MS} {w0 w : World} {H0 : Nat → Prop} {bx : List (Nat × Obj)} (h : Bs (Mc B P room b l G M s) w0 H0 bx w) : ∃ Hs, St B w P s.L room Hs ∧ (∀ x ∈ bx, ¬ Hs x.1) ∧ ∀ (L' : List Sq) (w' : World), Goes B w P room Hs L' w' → Bs (Mc B P room b l G M ⟨L', s.K, s.U, s.out⟩) w0 H0 bx w' := by
  obtain ⟨H, h1, h2, h3⟩ := h.call
  obtain ⟨uv, us, gr, Hs, k1, k2, k3, k4, rfl⟩ := h1
  obtain ⟨Hs', j1, j2⟩ := Mc.store (s := s) ⟨uv, us, gr, Hs, k1, k2, k3, k4, rfl⟩
  refine ⟨Hs, k1, fun x hx e => h2 x hx (.inr e), fun L' w' ⟨Hn, q1, q2⟩ => h3 _ _ ?_⟩
  refine ⟨_, ⟨uv, us, gr, Hn, q1, k2.moved fun x hx => q2.block x (k2.lt hx).2 (k4 x hx), k3, fun x hx e => ?_, rfl⟩, ⟨q2.os, q2.tape, q2.output, q2.size, fun k hk hn => q2.block k hk fun e => hn (.inr e), fun k hk => ?_⟩⟩
  · rcases q2.own x e with q | q
    · exact k4 x hx q
    · have := (k2.lt hx).2; omega
  · rcases hk with hk | hk
    · exact .inl (.inl hk)
    · rcases q2.own k hk with q | q
      · exact .inl (.inr q)
      · exact .inr q
theorem Bs.lt {B : Nat} {T : World → (Nat → Prop) → Prop} {w0 w : World} {H0 : Nat → Prop} {bx : List (Nat × Obj)} (h : Bs T w0 H0 bx w) (hH : ∀ x, H0 x → B ≤ x) (hB : B ≤ w0.heap.size) : Below B w0 w := by
  obtain ⟨⟨H, h1, h2, h3⟩, _⟩ := h
  exact h2.below hH hB
def sX (i : Nat) : Nat := if i = 0 then 455 else if i = 1 then 456 else if i = 2 then 519 else 520
theorem sF (x y : Nat) (hx : x < 16) (hy : y < 16) : fF sX 16 4 (y * 16 + x) = blk 7 7 (0 + x) (0 + y) := by
  have e : fF sX 16 4 = upd (upd (upd (upd (fun _ => false) 119 true) 120 true) 135 true) 136 true := rfl
  rw [e]
  unfold upd blk
  by_cases h4 : y * 16 + x = 136
  · rw [if_pos h4, decide_eq_true (by omega)]
  rw [if_neg h4]
  by_cases h3 : y * 16 + x = 135
  · rw [if_pos h3, decide_eq_true (by omega)]
  rw [if_neg h3]
  by_cases h2 : y * 16 + x = 120
  · rw [if_pos h2, decide_eq_true (by omega)]
  rw [if_neg h2]
  by_cases h1 : y * 16 + x = 119
  · rw [if_pos h1, decide_eq_true (by omega)]
  rw [if_neg h1, decide_eq_false (by omega)]
theorem blk_fld8 : fldC (blk 7 7) 4 4 8 8 = 4 := by decide +kernel
structure Sure (L : List Sq) (id : Int) (s : MS) : Prop where
  lv : Lv L 1 id
  k0 : SOk 8 12 ⟨L, K0, [nf id 2], 0⟩
  run : runF 8 12 5 ⟨L, K0, [nf id 2], 0⟩ = (1, s)
  u : s.U = []
  ok : SOk 8 12 s
  len : s.L.length ≤ 100
  o : Ok s.L s.out
  z : (s.out != 0) = true
  c : (at' s.L s.out).cnt = 4
theorem sure_q : ∃ (L : List Sq) (id : Int) (s : MS), layQ [] 1 16 (fF sX 16 4) 256 = (L, id) ∧ L.length ≤ 10 ∧ Sure L id s := by
  obtain ⟨R, hR⟩ : ∃ R, R = layQ [] 1 16 (fF sX 16 4) 256 := ⟨_, rfl⟩
  have ho : LayOk [] 1 16 (fF sX 16 4) 256 := lay_ok inv_nil 1 16 (by omega) rfl _ 256 (by omega)
  have hln := ho.len
  have hcl := ho.cel
  have hlv := ho.lv
  have hiv := ho.inv
  rw [← hR] at hln hcl hlv hiv
  have h2 := fF_few sX 16 256 4
  have h3 : trN (fF sX 16 4) 256 * (1 + 1) ≤ 4 * 2 := Nat.mul_le_mul h2 (by decide)
  simp only [List.length_nil] at hln
  have hw : Wn R.1 1 R.2 (blk 7 7) 0 0 := ⟨hlv, fun x y hx hy => by
    have hx : x < 16 := hx
    have hy : y < 16 := hy
    rw [show cel R.1 1 R.2 x y = _ from hcl x y hx hy, sF x y hx hy, decide_eq_true (by omega), Bool.true_and]⟩
  obtain ⟨s0, p0, b0⟩ := start_ok (b := 8) (l := 12) (K := K0) (gok_new 8 12 hiv) (n := 0) hlv (by decide) (j := 2) (by decide) (by decide) 0
  have r := run_ok 5 s0
  have e := run_end s0 (n := 5) (by rw [p0]; decide)
  have hb := bas_end (r.bas _ _ b0) e
  have hp := r.pot
  have hq := r.pos (by simp) (by decide)
  have hp1 : pot (⟨R.1, K0, [nf R.2 2], 0⟩ : MS).L (⟨R.1, K0, [nf R.2 2], 0⟩ : MS).U = 1 := p0
  rw [hp1] at hp
  have h1 := Nat.le_antisymm (Nat.le_trans (Nat.le_add_left _ _) hp) hq
  obtain ⟨q1, q2⟩ := r.ok.kn.kn _ _ _ hb
  have hw2 := (q2 0 _ _ _ (hw.ext hiv r.ext)).2
  rw [blk_gens] at hw2
  have hc := cnt_wn r.ok.kn.inv 0 _ _ _ _ (by decide) hw2
  have hok := hw2.1.1
  refine ⟨R.1, R.2, (runF 8 12 5 ⟨R.1, K0, [nf R.2 2], 0⟩).2, hR.symm, by omega, hlv, s0, Prod.ext h1 rfl, e, r.ok, ?_, hok, ?_, ?_⟩
  · have hl2 := r.len
    rw [h1] at hl2
    exact Nat.le_trans hl2 (by show R.1.length + 2 * 1 ≤ 100; omega)
  · unfold Ok at hok
    rw [bne_iff_ne]
    intro h
    rw [h] at hok
    omega
  · rw [hc]
    show ((fldC (blk 7 7) 4 4 8 8 : Nat) : Int) = 4
    rw [blk_fld8]
    rfl
set_option maxRecDepth 100000 in
set_option maxHeartbeats 4000000 in
theorem sure_any (w : World) : Calls Tryz.prog 5 #[] w fun e w' => e = .returned (.bool true) ∧ Below w.heap.size w w' := by
  have HN := Lib.hid (new_lit 100 100 rfl w (by decide) (by decide))
  obtain ⟨sL, sI, sS, hLQ, hlen, hQ⟩ := sure_q
  have HQ := Lib.hid hQ
  have HLQ := Lib.hid (And.intro hLQ hlen)
  clear hLQ hQ hlen
  go_enter Tryz.func5, Tryz.ntmps5
  go_wp2_with fail
  refine HN.out.mono ?_
  rintro e w1 ⟨P, Hs0, rfl, hs, hb⟩
  have HB1 := Lib.hid hb
  have HS1 := Lib.hid hs
  have HG := Lib.hid (show Calls Tryz.prog 10 #[.pointer (some ⟨P, 0, none⟩), .agg #[.int .u16 8, .int .u16 12]] w1 (NewM w1 P 8 12) from mnew_f P 8 12 (by decide) w1)
  clear hs hb HN
  go_wp2_with fail
  refine HG.out.mono ?_
  rintro e w2 ⟨G, M, rfl, g1, g2, g3, g4⟩
  have hmc : Mc w.heap.size P 100 8 12 G M ⟨[], K0, [], 0⟩ w2 _ := Mc.made (HS1.out.bel g3) (g4 w.heap.size HB1.out.size) g1 g2 (fun x hx => (HS1.out.lt x hx).2)
  have HB2 := Lib.hid (HB1.out.trans (g3.mono HB1.out.size))
  have HHL := Lib.hid (fun x hx => ((mc_fpt w.heap.size P 100 8 12 G M ⟨[], K0, [], 0⟩).lt hmc x hx).1)
  have HS := Lib.hid ((Bs.start hmc).alloc (mc_fpt _ _ _ _ _ _ _ _) (.cells #[.int .u64 455, .int .u64 456, .int .u64 519, .int .u64 520] 57) rfl)
  clear g1 g2 g3 g4 hmc HG HS1 HB1
  have HX := Lib.hid (show LiesX (w2.alloc (.cells #[.int .u64 455, .int .u64 456, .int .u64 519, .int .u64 520] 57)) (some ⟨w2.heap.size, 0, none⟩) 4 sX from fun i hi => ⟨w2.heap.size, 0, rfl, by
    obtain ⟨c0, c1, c2, c3⟩ := row4 (heap_alloc_new w2 (.cells #[.int .u64 455, .int .u64 456, .int .u64 519, .int .u64 520] 57))
    rcases (show i = 0 ∨ i = 1 ∨ i = 2 ∨ i = 3 by omega) with rfl | rfl | rfl | rfl
    · exact c0
    · exact c1
    · exact c2
    · exact c3, by
    rcases (show i = 0 ∨ i = 1 ∨ i = 2 ∨ i = 3 by omega) with rfl | rfl | rfl | rfl <;> decide⟩)
  have HT := Lib.hid (fun s => mc_fpt w.heap.size P 100 8 12 G M s)
  go_wp2_with fail
  generalize World.alloc _ _ = W at HS HX ⊢
  refine (show Calls Tryz.prog 16 #[.slice (some ⟨w2.heap.size, 0, none⟩) 4 4, .int .i64 16] W fun e W' => e = .returned (.slice (some ⟨W.heap.size, 0, none⟩) 256 256) ∧ FI W sX 16 256 4 W' from field_ok _ 4 4 sX 16 W HX.out (by decide) (by decide) (by decide)).mono ?_
  rintro e w3 ⟨rfl, hfi⟩
  have HS3 := Lib.hid (HS.out.made (HT.out _) hfi.bel hfi.row (Nat.le_refl _))
  clear hfi HX HS
  obtain ⟨Hs, hst, hno, hgo⟩ := HS3.out.store2
  have hL := (laid_16 hst (fF sX 16 4) W.heap.size HS3.out.b0 (hno _ List.mem_cons_self) (by show (layQ [] 1 16 (fF sX 16 4) 256).1.length ≤ 100; rw [HLQ.out.1]; exact Nat.le_trans HLQ.out.2 (by decide)))
  have hL : Calls Tryz.prog 15 #[.pointer (some ⟨P, 0, none⟩), .slice (some ⟨W.heap.size, 0, none⟩) 256 256, .int .i64 16] w3 fun e w' => e = .returned (.int .i64 (layQ [] 1 16 (fF sX 16 4) 256).2) ∧ Goes w.heap.size w3 P 100 Hs (layQ [] 1 16 (fF sX 16 4) 256).1 w' := hL
  rw [HLQ.out.1] at hL
  have HL := Lib.hid hL
  have HGO := Lib.hid hgo
  clear hst hno hgo hL
  go_wp2_with fail
  refine HL.out.mono ?_
  rintro e w4 ⟨rfl, hg⟩
  have HS4 : Hid (Bs (Mc w.heap.size P 100 8 12 G M ⟨sL, K0, [], 0⟩) w2 _ [] w4) := Lib.hid ((HGO.out _ _ hg).sub (by' := []) (fun x hx => by cases hx) List.nodup_nil)
  clear hg HL HGO HS3
  obtain ⟨H1, h1, _, h3⟩ := HS4.out.call
  have HBW := Lib.hid (HB2.out.trans ((HS4.out.lt HHL.out HB2.out.size).mono (Nat.le_refl _)))
  have HBE := Lib.hid (show Calls Tryz.prog 7 #[.pointer (some ⟨G, 0, none⟩), .int .i64 sI, .int .i64 2] w4 fun e w' => e = .returned .nilIface ∧ Goz (Mc w.heap.size P 100 8 12 G M ⟨sL, K0, [nf sI 2], 0⟩) w4 H1 w' from begin_f h1 HBW.out.size rfl sI 2 0 (by decide) HQ.out.lv (by decide) (by decide))
  have HN := Lib.hid h3
  clear h1 h3
  go_wp2_with fail
  refine HBE.out.mono ?_
  rintro e w5 ⟨rfl, hg⟩
  have HS5 := Lib.hid (HN.out _ _ hg)
  clear hg HBE HN HS4
  obtain ⟨H1, h1, _, h3⟩ := HS5.out.call
  have HFR := Lib.hid (frames_f h1 (by intro g hg; simp at hg; subst hg; exact Nat.zero_le _) (by show 1 ≤ 1000; decide))
  clear h1 h3
  go_wp2_with fail
  refine HFR.out.mono ?_
  rintro e w6 ⟨ao, cap, nw, rfl, _, _, _, _, _, hb⟩
  have HS6 := Lib.hid (HS5.out.below (HT.out _) hb)
  clear hb HFR HS5
  obtain ⟨H1, h1, _, h3⟩ := HS6.out.call
  have HBW := Lib.hid (HB2.out.trans ((HS6.out.lt HHL.out HB2.out.size).mono (Nat.le_refl _)))
  have HRU := Lib.hid (show Calls Tryz.prog 8 #[.pointer (some ⟨G, 0, none⟩), .int .i64 5] w6 fun e w' => e = .returned (.tuple #[.int .i64 1, .nilIface]) ∧ Goz (Mc w.heap.size P 100 8 12 G M sS) w6 H1 w' from by
    have := run_f h1 HBW.out.size HQ.out.k0 (by simp) (by decide) (by decide) 5 (by decide) (by rw [show ((5 : Int)).toNat = 5 from rfl, HQ.out.run]; exact HQ.out.len)
    rw [show ((5 : Int)).toNat = 5 from rfl, HQ.out.run] at this
    exact this)
  have HN := Lib.hid h3
  clear h1 h3
  go_wp2_with fail
  refine HRU.out.mono ?_
  rintro e w7 ⟨rfl, hg⟩
  have HS7 := Lib.hid (HN.out _ _ hg)
  clear hg HRU HN HS6
  obtain ⟨H1, h1, _, _⟩ := HS7.out.call
  have HOU := Lib.hid (out_f h1 true HQ.out.z)
  clear h1
  go_wp2_with fail
  refine HOU.out.mono ?_
  rintro e w8 ⟨rfl, hb⟩
  have HS8 := Lib.hid (HS7.out.below (HT.out _) hb)
  clear hb HOU HS7
  obtain ⟨Hs, hst, _⟩ := HS8.out.store
  have HCO := Lib.hid (count_is hst sS.out HQ.out.o 4 HQ.out.c)
  clear hst
  go_wp2_with fail
  refine HCO.out.mono ?_
  rintro e w9 ⟨rfl, hb⟩
  have HS9 := Lib.hid (HS8.out.below (HT.out _) hb)
  clear hb HCO HS8
  obtain ⟨H1, h1, _, _⟩ := HS9.out.call
  have HFR := Lib.hid (frames_f h1 (by intro g hg; rw [HQ.out.u] at hg; cases hg) (by rw [HQ.out.u]; decide))
  rw [HQ.out.u] at HFR
  clear h1
  go_wp2_with fail
  refine HFR.out.mono ?_
  rintro e w10 ⟨ao, cap, nw, rfl, _, _, _, _, _, hb⟩
  have HE := Lib.hid ((HB2.out.trans ((HS9.out.lt HHL.out HB2.out.size).mono (Nat.le_refl _))).trans (hb.mono (HB2.out.trans ((HS9.out.lt HHL.out HB2.out.size).mono (Nat.le_refl _))).size))
  clear hb
  go_wp2
  go_ret
  exact ⟨rfl, HE.out⟩
end Go.Proofs.YtlejohclijjhnaaGreatDoor.Fm
namespace Go.Proofs.YtlejohclijjhnaaGreatDoor.Fm
open Go.RowKit Ti Qd Go.Maps Go.WideMaps Ru

structure GrK (w : World) (P b l : Nat) (x : Nat × Nat) (K : Kn) : Prop where
  c0 : w.cell? ⟨x.1, 0, none⟩ = some (.pointer (some ⟨P, 0, none⟩))
  c1 : w.cell? ⟨x.1, 1, none⟩ = some (.int .u16 b)
  c2 : w.cell? ⟨x.1, 2, none⟩ = some (.int .u16 l)
  c3 : w.cell? ⟨x.1, 3, none⟩ = some (.map (some x.2))
  kn : KAt w x.2 K
theorem GrK.moved {w w' : World} {P b l : Nat} {x : Nat × Nat} {K : Kn} (h : GrK w P b l x K) (h1 : w'.heap[x.1]? = w.heap[x.1]?) (h2 : w'.heap[x.2]? = w.heap[x.2]?) : GrK w' P b l x K :=
  ⟨(World.cell?_of_block h1).trans h.c0, (World.cell?_of_block h1).trans h.c1, (World.cell?_of_block h1).trans h.c2, (World.cell?_of_block h1).trans h.c3, h.kn.moved h2⟩
def Mg (B P room b l G M : Nat) (x : Nat × Nat) (K : Kn) (s : MS) (w : World) (H : Nat → Prop) : Prop :=
  ∃ H1, Mc B P room b l G M s w H1 ∧ GrK w P b l x K ∧ B ≤ x.1 ∧ B ≤ x.2 ∧ ¬ x.1 = x.2 ∧ ¬ H1 x.1 ∧ ¬ H1 x.2 ∧ H = fun y => y = x.1 ∨ y = x.2 ∨ H1 y
theorem GrK.lt {w : World} {P b l : Nat} {x : Nat × Nat} {K : Kn} (h : GrK w P b l x K) : x.1 < w.heap.size ∧ x.2 < w.heap.size := ⟨World.block_lt_of_cell? w _ h.c0, h.kn.lt⟩
theorem mg_fpt (B P room b l G M : Nat) (x : Nat × Nat) (K : Kn) (s : MS) : Fpt B (Mg B P room b l G M x K s) where
  lt := by
    rintro w H ⟨H1, h1, h2, b1, b2, h3, h4, h5, rfl⟩ y (rfl | rfl | hy)
    · exact ⟨b1, h2.lt.1⟩
    · exact ⟨b2, h2.lt.2⟩
    · exact (mc_fpt B P room b l G M s).lt h1 y hy
  mv := by
    rintro w w' H ⟨H1, h1, h2, b1, b2, h3, h4, h5, rfl⟩ hb
    exact ⟨H1, (mc_fpt B P room b l G M s).mv h1 fun y hy => hb y (.inr (.inr hy)), h2.moved (hb _ (.inl rfl)) (hb _ (.inr (.inl rfl))), b1, b2, h3, h4, h5, rfl⟩
section
variable {B P room b l G M : Nat} {x : Nat × Nat} {K : Kn} {s : MS} {w : World} {H : Nat → Prop}
/-- the machine's calls, and the store's -/
theorem Mg.mc (h : Mg B P room b l G M x K s w H) : ∃ H1, Mc B P room b l G M s w H1 ∧ (∀ y, H1 y → H y) ∧ ∀ (s' : MS) (w' : World), Goz (Mc B P room b l G M s') w H1 w' → Goz (Mg B P room b l G M x K s') w H w' := by
  obtain ⟨H1, h1, h2, b1, b2, h3, h4, h5, rfl⟩ := h
  refine ⟨H1, h1, fun y hy => .inr (.inr hy), fun s' w' ⟨H', k1, k2⟩ => ⟨_, ⟨H', k1, h2.moved (k2.block _ h2.lt.1 h4) (k2.block _ h2.lt.2 h5), b1, b2, h3, fun e => ?_, fun e => ?_, rfl⟩, ⟨k2.os, k2.tape, k2.output, k2.size, fun y hy hn => k2.block y hy fun e => hn (.inr (.inr e)), fun y hy => ?_⟩⟩⟩
  · rcases k2.own _ e with q | q
    · exact h4 q
    · have := h2.lt.1; omega
  · rcases k2.own _ e with q | q
    · exact h5 q
    · have := h2.lt.2; omega
  · rcases hy with hy | hy | hy
    · exact .inl (.inl hy)
    · exact .inl (.inr (.inl hy))
    · rcases k2.own y hy with q | q
      · exact .inl (.inr (.inr q))
      · exact .inr q
/-- the grower's calls -/
theorem Mg.grow (h : Mg B P room b l G M x K s w H) : ∃ Hg, Gr B w x.1 P x.2 b l (s.L, K) room Hg ∧ ∀ (s' : GS) (w' : World), Gt B w x.1 P x.2 b l room Hg s' w' → Goz (Mg B P room b l G M x s'.2 ⟨s'.1, s.K, s.U, s.out⟩) w H w' := by
  obtain ⟨H1, h1, h2, b1, b2, h3, h4, h5, rfl⟩ := h
  obtain ⟨uv, us, gr, Hs, k1, k2, k3, k4, rfl⟩ := h1
  refine ⟨_, ⟨Hs, ⟨k1, h2.c0, h2.c1, h2.c2, h2.c3, h2.kn, b1, b2, fun e => h4 (.inr e), fun e => h5 (.inr e), h3⟩, rfl⟩, ?_⟩
  rintro s' w' ⟨H', ⟨Hs', gro, rfl⟩, st⟩
  have mv : ∀ y ∈ ownL G M uv us gr, w'.heap[y]? = w.heap[y]? := fun y hy => st.block y (k2.lt hy).2 fun e => by
    rcases e with e | e
    · exact h5 (e ▸ .inl hy)
    · exact k4 y hy e
  have ns : ∀ y ∈ ownL G M uv us gr, ¬ Hs' y := fun y hy hs => by
    rcases st.own y (.inr hs) with q | q
    · rcases q with q | q
      · exact h5 (q ▸ .inl hy)
      · exact k4 y hy q
    · have := (k2.lt hy).2
      omega
  refine ⟨_, ⟨_, ⟨uv, us, gr, Hs', gro.st, k2.moved mv, k3, ns, rfl⟩, ⟨gro.c0, gro.c1, gro.c2, gro.c3, gro.kn⟩, b1, b2, h3, fun e => ?_, fun e => ?_, rfl⟩, ⟨st.os, st.tape, st.output, st.size, fun y hy hn => st.block y hy fun e => hn ?_, fun y hy => ?_⟩⟩
  · rcases e with e | e
    · exact h4 (.inl e)
    · exact gro.nG e
  · rcases e with e | e
    · exact h5 (.inl e)
    · exact gro.nM e
  · rcases e with e | e
    · exact .inr (.inl e)
    · exact .inr (.inr (.inr e))
  · rcases hy with hy | hy | hy | hy
    · exact .inl (.inl hy)
    · exact .inl (.inr (.inl hy))
    · exact .inl (.inr (.inr (.inl hy)))
    · rcases st.own y (.inr hy) with q | q
      · rcases q with q | q
        · exact .inl (.inr (.inl q))
        · exact .inl (.inr (.inr (.inr q)))
      · exact .inr q
end
section
variable {B P room b l G M : Nat} {x : Nat × Nat} {K : Kn} {s : MS} {w0 w w' : World} {H0 : Nat → Prop} {bx : List (Nat × Obj)}
theorem Bs.into {T T' : World → (Nat → Prop) → Prop} (h : Bs T w0 H0 bx w) (k : ∀ H, T w H → ∃ H1, T' w H1 ∧ ∀ y, H1 y → H y) : Bs T' w0 H0 bx w := by
  obtain ⟨⟨H, h1, h2, h3⟩, h4⟩ := h
  obtain ⟨H1, k1, k2⟩ := k H h1
  refine ⟨⟨H1, k1, ⟨h2.os, h2.tape, h2.output, h2.size, h2.block, fun y hy => h2.own y (k2 y hy)⟩, fun y hy => ⟨(h3 y hy).1, fun e => (h3 y hy).2.1 (k2 _ e), (h3 y hy).2.2⟩⟩, h4⟩
/-- a grower, newly made -/
theorem Bs.withg (h : Bs (Mc B P room b l G M s) w0 H0 bx w) (hB : B ≤ w.heap.size) (hb : Below w.heap.size w w') (hg : GrA w' P b l x) (x1 : w.heap.size ≤ x.1) (x2 : w.heap.size ≤ x.2) (x3 : ¬ x.1 = x.2) : Bs (Mg B P room b l G M x K0 s) w0 H0 bx w' := by
  obtain ⟨⟨H, h1, h2, h3⟩, h4⟩ := h
  have lt := fun y hy => ((mc_fpt B P room b l G M s).lt h1 y hy).2
  refine ⟨⟨_, ⟨H, (mc_fpt B P room b l G M s).mv h1 fun y hy => hb.block y (lt y hy), ⟨hg.c0, hg.c1, hg.c2, hg.c3, hg.kn⟩, by omega, by omega, x3, fun e => ?_, fun e => ?_, rfl⟩, ?_, fun y hy => ⟨(h3 y hy).1, fun e => ?_, (hb.block _ (lt_of_block (h3 y hy).2.2)).trans (h3 y hy).2.2⟩⟩, h4⟩
  · have := lt _ e; omega
  · have := lt _ e; omega
  · have s1 := h2.size
    refine h2.trans ⟨hb.os, hb.tape, hb.output, hb.size, fun k hk _ => hb.block k hk, fun k hk => ?_⟩
    rcases hk with hk | hk | hk
    · exact .inr (by omega)
    · exact .inr (by omega)
    · exact .inl hk
  · have := lt_of_block (h3 y hy).2.2
    rcases e with e | e | e
    · omega
    · omega
    · exact (h3 y hy).2.1 e
theorem Bs.dropg (h : Bs (Mg B P room b l G M x K s) w0 H0 bx w) : Bs (Mc B P room b l G M s) w0 H0 bx w := h.into fun H hm => by
  obtain ⟨H1, h1, h2, _⟩ := hm.mc
  exact ⟨H1, h1, h2⟩
end
end Go.Proofs.YtlejohclijjhnaaGreatDoor.Fm

/-
  WALKS of canBe, of frames that can't be. Conditions: the store lies in memory; what can't be, each lemma names.
  WALKS of follows, of a frame that is not the next part of the one beneath. Conditions: the store lies in memory; it is not.
-/
import Derived.Test.YtlejohclijjhnaaGreatDoorL44
namespace Go.Proofs.YtlejohclijjhnaaGreatDoor.Fm
open Go.RowKit Ti Qd Go.Maps Go.WideMaps Ru

set_option maxRecDepth 100000 in
set_option maxHeartbeats 4000000 in
theorem canBe_none {B : Nat} {w : World} {P : Nat} {L : List Sq} {room : Nat} {Hs : Nat → Prop} {G : Nat} (hst : St B w P L room Hs) (hc : w.cell? ⟨G, 0, none⟩ = some (.pointer (some ⟨P, 0, none⟩))) (f : Fr) (ah : Option Addr) (k ch : Nat) (ho : ¬ Ok L f.id) :
    Calls Tryz.prog 45 #[.pointer (some ⟨G, 0, none⟩), fv f (.slice ah k ch)] w fun e w' => e = .returned (.bool false) ∧ Below w.heap.size w w' := by
  have HS : Hid (Bw w [(w.heap.size, fo f (.slice ah k ch))] (w.alloc (fo f (.slice ah k ch)))) := Lib.hid ((bw_start w).alloc t0_fpt (fo f (.slice ah k ch)) rfl)
  have HST := Lib.hid hst
  have HC := Lib.hid hc
  have HO := Lib.hid ho
  have HG := Lib.hid (show True from trivial)
  have HPA := Lib.hid (show True from trivial)
  obtain ⟨id, j, st, got⟩ := f
  simp only at *
  clear hst hc ho
  go_enter Tryz.func45, Tryz.ntmps45
  go_upto_region 1 with (fail)
  generalize World.alloc _ _ = W at HS ⊢
  have HD := Lib.hid (HS.out.drew t0_fpt)
  have KD := Lib.hid (And.intro (cell_bel HC.out HD.out.bel) (row4 HD.out.b0).1)
  have HLV0 := Lib.hid (level_none (HST.out.bel HD.out.bel) id HO.out)
  go_region_held3 (fun w' => w'.cell? ⟨G, 0, none⟩ = some (.pointer (some ⟨P, 0, none⟩)) ∧ w'.cell? ⟨w.heap.size, 0, none⟩ = some (.int .i64 id)) (first | with_reducible exact KD.out | with_reducible exact ks)
    (first
      | (go_at_call 21; with_reducible refine HLV0.out.mono ?_; rintro e w1 ⟨rfl, hb⟩; have HS1 := Lib.hid (HD.out.below t0_fpt hb); have ks := And.intro (cell_bel KD.out.1 hb) (cell_bel KD.out.2 hb); clear hb))
  clear ks KD HLV0 HD HS
  go_upto_region 2 with (fail)
  obtain ⟨a0, a1, a2, a3⟩ := row4 HS1.out.b0
  go_quiet (first | (go_at_call 22; exact Calls.quiet_of_same ((HG.out _).mono fun _ _ ⟨h, e⟩ => ⟨h, e.symm⟩)) | (go_at_call 52; exact Calls.quiet_of_same ((HPA.out _).mono fun _ _ ⟨h, e⟩ => ⟨h, e.symm⟩)))
  have HS2 := Lib.hid (HS1.out.below t0_fpt (Below.drewN' (Below.refl _ _) nq))
  clear HS1 a0 a1 a2 a3
  generalize w1.drewN nq = W1 at HS2 ⊢
  go_wp2
  go_ret
  exact ⟨rfl, HS2.out.bel⟩
set_option maxRecDepth 100000 in
set_option maxHeartbeats 4000000 in
theorem canBe_far {B : Nat} {w : World} {P : Nat} {L : List Sq} {room : Nat} {Hs : Nat → Prop} {G : Nat} (hst : St B w P L room Hs) (hc : w.cell? ⟨G, 0, none⟩ = some (.pointer (some ⟨P, 0, none⟩))) (f : Fr) (ah : Option Addr) (k ch : Nat) (lev : Int) (ho : Ok L f.id) (hlev : (at' L f.id).lev = lev) (l0 : 3 ≤ lev) (l1 : lev ≤ 40) (hg : goB lev f.j = false) :
    Calls Tryz.prog 45 #[.pointer (some ⟨G, 0, none⟩), fv f (.slice ah k ch)] w fun e w' => e = .returned (.bool false) ∧ Below w.heap.size w w' := by
  have HS : Hid (Bw w [(w.heap.size, fo f (.slice ah k ch))] (w.alloc (fo f (.slice ah k ch)))) := Lib.hid ((bw_start w).alloc t0_fpt (fo f (.slice ah k ch)) rfl)
  have HST := Lib.hid hst
  have HC := Lib.hid hc
  have HO := Lib.hid ho
  have HLE := Lib.hid hlev
  have HG := Lib.hid (fun w => goesOn_f lev f.j (by omega) (by omega) w)
  have HPA := Lib.hid (fun w => partsOf_f lev w)
  rw [hg] at HG
  generalize parts lev = pl at *
  obtain ⟨id, j, st, got⟩ := f
  simp only at *
  clear hst hc ho hlev hg
  go_enter Tryz.func45, Tryz.ntmps45
  go_upto_region 1 with (fail)
  generalize World.alloc _ _ = W at HS ⊢
  have HD := Lib.hid (HS.out.drew t0_fpt)
  have KD := Lib.hid (And.intro (cell_bel HC.out HD.out.bel) (row4 HD.out.b0).1)
  have HLV0 := Lib.hid (level_is (HST.out.bel HD.out.bel) id HO.out lev HLE.out)
  go_region_held3 (fun w' => w'.cell? ⟨G, 0, none⟩ = some (.pointer (some ⟨P, 0, none⟩)) ∧ w'.cell? ⟨w.heap.size, 0, none⟩ = some (.int .i64 id)) (first | with_reducible exact KD.out | with_reducible exact ks)
    (first
      | (go_at_call 21; with_reducible refine HLV0.out.mono ?_; rintro e w1 ⟨rfl, hb⟩; have HS1 := Lib.hid (HD.out.below t0_fpt hb); have ks := And.intro (cell_bel KD.out.1 hb) (cell_bel KD.out.2 hb); clear hb))
  clear ks KD HLV0 HD HS
  go_upto_region 2 with (fail)
  obtain ⟨a0, a1, a2, a3⟩ := row4 HS1.out.b0
  go_quiet (first | (go_at_call 22; exact Calls.quiet_of_same ((HG.out _).mono fun _ _ ⟨h, e⟩ => ⟨h, e.symm⟩)) | (go_at_call 52; exact Calls.quiet_of_same ((HPA.out _).mono fun _ _ ⟨h, e⟩ => ⟨h, e.symm⟩)))
  have HS2 := Lib.hid (HS1.out.below t0_fpt (Below.drewN' (Below.refl _ _) nq))
  clear HS1 a0 a1 a2 a3
  generalize w1.drewN nq = W1 at HS2 ⊢
  go_wp2
  go_ret
  exact ⟨rfl, HS2.out.bel⟩
set_option maxRecDepth 100000 in
set_option maxHeartbeats 4000000 in
theorem canBe_len {B : Nat} {w : World} {P : Nat} {L : List Sq} {room : Nat} {Hs : Nat → Prop} {G : Nat} (hst : St B w P L room Hs) (hc : w.cell? ⟨G, 0, none⟩ = some (.pointer (some ⟨P, 0, none⟩))) (f : Fr) (ah : Option Addr) (k ch : Nat) (lev : Int) (ho : Ok L f.id) (hlev : (at' L f.id).lev = lev) (l0 : 3 ≤ lev) (l1 : lev ≤ 40) (hg : goB lev f.j = true) (_hk : (k : Int) ≤ 1000) (hn : ¬ f.st = (k : Int)) :
    Calls Tryz.prog 45 #[.pointer (some ⟨G, 0, none⟩), fv f (.slice ah k ch)] w fun e w' => e = .returned (.bool false) ∧ Below w.heap.size w w' := by
  have HS : Hid (Bw w [(w.heap.size, fo f (.slice ah k ch))] (w.alloc (fo f (.slice ah k ch)))) := Lib.hid ((bw_start w).alloc t0_fpt (fo f (.slice ah k ch)) rfl)
  have HST := Lib.hid hst
  have HC := Lib.hid hc
  have HO := Lib.hid ho
  have HLE := Lib.hid hlev
  have HG := Lib.hid (fun w => goesOn_f lev f.j (by omega) (by omega) w)
  have HPA := Lib.hid (fun w => partsOf_f lev w)
  rw [hg] at HG
  generalize parts lev = pl at *
  obtain ⟨id, j, st, got⟩ := f
  simp only at *
  have hn2 : (st == (k : Int)) = false := by rw [beq_eq_false_iff_ne]; exact hn
  clear hst hc ho hlev hg
  go_enter Tryz.func45, Tryz.ntmps45
  go_upto_region 1 with (fail)
  generalize World.alloc _ _ = W at HS ⊢
  have HD := Lib.hid (HS.out.drew t0_fpt)
  have KD := Lib.hid (And.intro (cell_bel HC.out HD.out.bel) (row4 HD.out.b0).1)
  have HLV0 := Lib.hid (level_is (HST.out.bel HD.out.bel) id HO.out lev HLE.out)
  go_region_held3 (fun w' => w'.cell? ⟨G, 0, none⟩ = some (.pointer (some ⟨P, 0, none⟩)) ∧ w'.cell? ⟨w.heap.size, 0, none⟩ = some (.int .i64 id)) (first | with_reducible exact KD.out | with_reducible exact ks)
    (first
      | (go_at_call 21; with_reducible refine HLV0.out.mono ?_; rintro e w1 ⟨rfl, hb⟩; have HS1 := Lib.hid (HD.out.below t0_fpt hb); have ks := And.intro (cell_bel KD.out.1 hb) (cell_bel KD.out.2 hb); clear hb))
  clear ks KD HLV0 HD HS
  go_upto_region 2 with (fail)
  obtain ⟨a0, a1, a2, a3⟩ := row4 HS1.out.b0
  go_quiet (first | (go_at_call 22; exact Calls.quiet_of_same ((HG.out _).mono fun _ _ ⟨h, e⟩ => ⟨h, e.symm⟩)) | (go_at_call 52; exact Calls.quiet_of_same ((HPA.out _).mono fun _ _ ⟨h, e⟩ => ⟨h, e.symm⟩)))
  have HS2 := Lib.hid (HS1.out.below t0_fpt (Below.drewN' (Below.refl _ _) nq))
  clear HS1 a0 a1 a2 a3
  generalize w1.drewN nq = W1 at HS2 ⊢
  go_wp2
  go_ret
  exact ⟨rfl, HS2.out.bel⟩
set_option maxRecDepth 100000 in
set_option maxHeartbeats 4000000 in
theorem canBe_many {B : Nat} {w : World} {P : Nat} {L : List Sq} {room : Nat} {Hs : Nat → Prop} {G : Nat} (hst : St B w P L room Hs) (hc : w.cell? ⟨G, 0, none⟩ = some (.pointer (some ⟨P, 0, none⟩))) (f : Fr) (ah : Option Addr) (k ch : Nat) (lev : Int) (ho : Ok L f.id) (hlev : (at' L f.id).lev = lev) (l0 : 3 ≤ lev) (l1 : lev ≤ 40) (hg : goB lev f.j = true) (_hk : (k : Int) ≤ 1000) (hn : f.st = (k : Int)) (hp : parts lev < (k : Int)) :
    Calls Tryz.prog 45 #[.pointer (some ⟨G, 0, none⟩), fv f (.slice ah k ch)] w fun e w' => e = .returned (.bool false) ∧ Below w.heap.size w w' := by
  have HS : Hid (Bw w [(w.heap.size, fo f (.slice ah k ch))] (w.alloc (fo f (.slice ah k ch)))) := Lib.hid ((bw_start w).alloc t0_fpt (fo f (.slice ah k ch)) rfl)
  have HST := Lib.hid hst
  have HC := Lib.hid hc
  have HO := Lib.hid ho
  have HLE := Lib.hid hlev
  have HG := Lib.hid (fun w => goesOn_f lev f.j (by omega) (by omega) w)
  have HPA := Lib.hid (fun w => partsOf_f lev w)
  rw [hg] at HG
  generalize parts lev = pl at *
  obtain ⟨id, j, st, got⟩ := f
  simp only at *
  subst hn
  clear hst hc ho hlev hg
  go_enter Tryz.func45, Tryz.ntmps45
  go_upto_region 1 with (fail)
  generalize World.alloc _ _ = W at HS ⊢
  have HD := Lib.hid (HS.out.drew t0_fpt)
  have KD := Lib.hid (And.intro (cell_bel HC.out HD.out.bel) (row4 HD.out.b0).1)
  have HLV0 := Lib.hid (level_is (HST.out.bel HD.out.bel) id HO.out lev HLE.out)
  go_region_held3 (fun w' => w'.cell? ⟨G, 0, none⟩ = some (.pointer (some ⟨P, 0, none⟩)) ∧ w'.cell? ⟨w.heap.size, 0, none⟩ = some (.int .i64 id)) (first | with_reducible exact KD.out | with_reducible exact ks)
    (first
      | (go_at_call 21; with_reducible refine HLV0.out.mono ?_; rintro e w1 ⟨rfl, hb⟩; have HS1 := Lib.hid (HD.out.below t0_fpt hb); have ks := And.intro (cell_bel KD.out.1 hb) (cell_bel KD.out.2 hb); clear hb))
  clear ks KD HLV0 HD HS
  go_upto_region 2 with (fail)
  obtain ⟨a0, a1, a2, a3⟩ := row4 HS1.out.b0
  go_quiet (first | (go_at_call 22; exact Calls.quiet_of_same ((HG.out _).mono fun _ _ ⟨h, e⟩ => ⟨h, e.symm⟩)) | (go_at_call 52; exact Calls.quiet_of_same ((HPA.out _).mono fun _ _ ⟨h, e⟩ => ⟨h, e.symm⟩)))
  have HS2 := Lib.hid (HS1.out.below t0_fpt (Below.drewN' (Below.refl _ _) nq))
  clear HS1 a0 a1 a2 a3
  generalize w1.drewN nq = W1 at HS2 ⊢
  go_wp2
  go_ret
  exact ⟨rfl, HS2.out.bel⟩
set_option maxRecDepth 100000 in
set_option maxHeartbeats 4000000 in
theorem canBe_zero {B : Nat} {w : World} {P : Nat} {L : List Sq} {room : Nat} {Hs : Nat → Prop} {G : Nat} (hst : St B w P L room Hs) (hc : w.cell? ⟨G, 0, none⟩ = some (.pointer (some ⟨P, 0, none⟩))) (f : Fr) (bb off k ch : Nat) (lev : Int) (ho : Ok L f.id) (hlev : (at' L f.id).lev = lev) (l0 : 3 ≤ lev) (l1 : lev ≤ 40) (hg : goB lev f.j = true) (hk : (k : Int) ≤ 1000) (hn : f.st = (k : Int)) (hp : ¬ parts lev < (k : Int)) (hpos : 0 < k) (hz : w.cell? ⟨bb, off, none⟩ = some (.int .i64 0)) :
    Calls Tryz.prog 45 #[.pointer (some ⟨G, 0, none⟩), fv f (.slice (some ⟨bb, off, none⟩) k ch)] w fun e w' => e = .returned (.bool false) ∧ Below w.heap.size w w' := by
  have HS : Hid (Bw w [(w.heap.size, fo f (.slice (some ⟨bb, off, none⟩) k ch))] (w.alloc (fo f (.slice (some ⟨bb, off, none⟩) k ch)))) := Lib.hid ((bw_start w).alloc t0_fpt (fo f (.slice (some ⟨bb, off, none⟩) k ch)) rfl)
  have HST := Lib.hid hst
  have HC := Lib.hid hc
  have HO := Lib.hid ho
  have HLE := Lib.hid hlev
  have HG := Lib.hid (fun w => goesOn_f lev f.j (by omega) (by omega) w)
  have HPA := Lib.hid (fun w => partsOf_f lev w)
  rw [hg] at HG
  have HZ := Lib.hid hz
  have H0 := Lib.hid (show ¬ Ok L 0 from fun q => by have := q.1; omega)
  generalize parts lev = pl at *
  obtain ⟨id, j, st, got⟩ := f
  simp only at *
  subst hn
  have hk0 : (0 : Int) < (k : Int) := by omega
  clear hst hc ho hlev hg hz hpos
  go_enter Tryz.func45, Tryz.ntmps45
  go_upto_region 1 with (fail)
  generalize World.alloc _ _ = W at HS ⊢
  have HD := Lib.hid (HS.out.drew t0_fpt)
  have KD := Lib.hid (And.intro (cell_bel HC.out HD.out.bel) (row4 HD.out.b0).1)
  have HLV0 := Lib.hid (level_is (HST.out.bel HD.out.bel) id HO.out lev HLE.out)
  go_region_held3 (fun w' => w'.cell? ⟨G, 0, none⟩ = some (.pointer (some ⟨P, 0, none⟩)) ∧ w'.cell? ⟨w.heap.size, 0, none⟩ = some (.int .i64 id)) (first | with_reducible exact KD.out | with_reducible exact ks)
    (first
      | (go_at_call 21; with_reducible refine HLV0.out.mono ?_; rintro e w1 ⟨rfl, hb⟩; have HS1 := Lib.hid (HD.out.below t0_fpt hb); have ks := And.intro (cell_bel KD.out.1 hb) (cell_bel KD.out.2 hb); clear hb))
  clear ks KD HLV0 HD HS
  go_upto_region 2 with (fail)
  obtain ⟨a0, a1, a2, a3⟩ := row4 HS1.out.b0
  go_quiet (first | (go_at_call 22; exact Calls.quiet_of_same ((HG.out _).mono fun _ _ ⟨h, e⟩ => ⟨h, e.symm⟩)) | (go_at_call 52; exact Calls.quiet_of_same ((HPA.out _).mono fun _ _ ⟨h, e⟩ => ⟨h, e.symm⟩)))
  have HS2 := Lib.hid (HS1.out.below t0_fpt (Below.drewN' (Below.refl _ _) nq))
  clear HS1 a0 a1 a2 a3
  generalize w1.drewN nq = W1 at HS2 ⊢
  obtain ⟨a0, a1, a2, a3⟩ := row4 HS2.out.b0
  go_wp2
  clear a0 a1 a2 a3
  go_loopw [48] (fun v wr => v = .int .i64 0 ∧ Hid (Bw w [(w.heap.size, fo ⟨id, j, k, got⟩ (.slice (some ⟨bb, off, none⟩) k ch))] wr)) (fun _ _ => 0)
  case atStart => exact ⟨rfl, HS2⟩
  case round =>
    clear HS2
    obtain ⟨rfl, HR⟩ := hrel
    have hcw := cell_bel HZ.out HR.out.bel
    have hp := cell_bel HC.out HR.out.bel
    have HL1 := Lib.hid (level_none (HST.out.bel HR.out.bel) 0 H0.out)
    go_wp2_with fail
    refine HL1.out.mono ?_
    rintro e w2 ⟨rfl, hb⟩
    have HR2 := Lib.hid (HR.out.below t0_fpt hb)
    clear hb HR HL1
    go_wp2
    go_ret
    exact ⟨rfl, HR2.out.bel⟩
end Go.Proofs.YtlejohclijjhnaaGreatDoor.Fm
namespace Go.Proofs.YtlejohclijjhnaaGreatDoor.Fm
open Go.RowKit Ti Qd Go.Maps Go.WideMaps Ru

theorem run_ne4 (a0 a1 a2 a3 b0 b1 b2 b3 : Int) (h : ¬ a0 = b0) (w : World) : (binOp .eql 93 (.agg #[.int .i64 a0, .int .i64 a1, .int .i64 a2, .int .i64 a3]) (.agg #[.int .i64 b0, .int .i64 b1, .int .i64 b2, .int .i64 b3])).run Tryz.prog w = .ok (.bool false) w := by
  have e := eq4_int 9998 w a0 a1 a2 a3 b0 b1 b2 b3
  have hb : (a0 == b0) = false := by rw [beq_eq_false_iff_ne]; exact h
  rw [run_eql_struct, show (10000 : Nat) = 9998 + 1 + 1 from rfl, e, hb]
  simp
set_option maxRecDepth 100000 in
set_option maxHeartbeats 4000000 in
theorem follows_kids {B : Nat} {w : World} {P b l : Nat} {L : List Sq} {room : Nat} {Hs : Nat → Prop} {G : Nat} (hst : St B w P L room Hs) (hc : w.cell? ⟨G, 0, none⟩ = some (.pointer (some ⟨P, 0, none⟩))) (f g : Fr) (hb hg : Value) (n m : Nat) (hf : FOk b l L f n) (hl : LiesI w hb f.got) (hlg : LiesI w hg g.got) (x : Pa) (hx : nextP L f = some x) (hs : x.still = false) (hj : g.j = x.j) (hne : ¬ Qd.kid (at' L g.id) 0 = x.f 0) (hk : Lv L (m + 1) g.id) :
    Calls Tryz.prog 46 #[.pointer (some ⟨G, 0, none⟩), fv f hb, fv g hg] w fun e w' => e = .returned (.bool false) ∧ Below w.heap.size w w' := by
  have HS : Hid (Bw w [(w.heap.size + 1, fo g hg), (w.heap.size, fo f hb)] ((w.alloc (fo f hb)).alloc (fo g hg))) := Lib.hid (((bw_start w).alloc t0_fpt (fo f hb) rfl).alloc t0_fpt (fo g hg) (n := w.heap.size + 1) (by simp))
  have HST := Lib.hid hst
  have HC := Lib.hid hc
  have hl2 := hl
  obtain ⟨ah, ch, rfl, hz1⟩ := hl2
  obtain ⟨ag, cg, rfl, hz2⟩ := hlg
  obtain ⟨x0, hx0⟩ : ∃ y, y = x.f 0 := ⟨_, rfl⟩
  obtain ⟨x1, hx1⟩ : ∃ y, y = x.f 1 := ⟨_, rfl⟩
  obtain ⟨x2, hx2⟩ : ∃ y, y = x.f 2 := ⟨_, rfl⟩
  obtain ⟨x3, hx3⟩ : ∃ y, y = x.f 3 := ⟨_, rfl⟩
  obtain ⟨u0, k0⟩ : ∃ y, (at' L g.id).k0 = y := ⟨_, rfl⟩
  obtain ⟨u1, k1⟩ : ∃ y, (at' L g.id).k1 = y := ⟨_, rfl⟩
  obtain ⟨u2, k2⟩ : ∃ y, (at' L g.id).k2 = y := ⟨_, rfl⟩
  obtain ⟨u3, k3⟩ : ∃ y, (at' L g.id).k3 = y := ⟨_, rfl⟩
  have hne : ¬ u0 = x0 := by rw [← k0, hx0]; exact hne
  have HNX := Lib.hid (fun (W : World) (hW : Below w.heap.size w W) => show Calls Tryz.prog 34 #[.pointer (some ⟨G, 0, none⟩), fv f (.slice ah f.got.length ch)] W fun e w' => e = .returned (.tuple #[pv x0 x1 x2 x3 x.j false, .bool true, .nilIface]) ∧ Below W.heap.size W w' from by
    have := next_yes (hst.bel hW) (cell_bel hc hW) f (.slice ah f.got.length ch) n hf (hl.bel hW) x hx
    rw [hx0, hx1, hx2, hx3, ← hs]
    exact this)
  have HKI := Lib.hid (fun (W : World) (hW : Below w.heap.size w W) => show Calls Tryz.prog 64 #[.pointer (some ⟨P, 0, none⟩), .int .i64 g.id] W fun e w' => e = .returned (.tuple #[.agg #[.int .i64 u0, .int .i64 u1, .int .i64 u2, .int .i64 u3], .nilIface]) ∧ Below W.heap.size W w' from by
    have := kids_ok (hst.bel hW) m g.id hk _ rfl
    rw [k0, k1, k2, k3] at this
    exact this)
  have he4 := fun w => run_ne4 u0 u1 u2 u3 x0 x1 x2 x3 hne w
  clear hz1 hz2 hst hc hf hl hx hs hk hx0 hx1 hx2 hx3 k0 k1 k2 k3 hne
  obtain ⟨gid, gj, gst, ggot⟩ := g
  obtain ⟨fid, fj, fst', fgot⟩ := f
  simp only at *
  subst hj
  generalize x.j = xj at *
  generalize ggot.length = gl at *
  generalize fgot.length = fl at *
  go_enter Tryz.func46, Tryz.ntmps46
  go_upto_region 1 with (fail)
  generalize World.alloc _ _ = W at HS ⊢
  obtain ⟨a0, a1, a2, a3⟩ := row4 HS.out.b1
  have HC1 := Lib.hid (HNX.out W HS.out.bel)
  go_wp2_with fail
  refine HC1.out.mono ?_
  rintro e w2 ⟨rfl, hb⟩
  have HS2 := Lib.hid ((HS.out.below t0_fpt hb).alloc t0_fpt (po x0 x1 x2 x3 xj false) rfl)
  clear hb a0 a1 a2 a3 HC1 HS HNX
  go_upto_region 2 with (fail)
  generalize hg4 : w2.heap.size = g4 at *
  clear hg4
  generalize World.alloc _ _ = W2 at HS2 ⊢
  obtain ⟨⟨b0, b1, b2, b3, b4, b5⟩, _, _, _, _, _, _⟩ := row6 HS2.out.b0
  obtain ⟨a0, a1, a2, a3⟩ := row4 HS2.out.b1
  go_upto_region 4 with (fail)
  clear a0 a1 a2 a3 b0 b1 b2 b3 b4 b5
  have HB2 := Lib.hid HS2.out.bel
  have c0 := cell_bel HC.out HS2.out.bel
  have d0 := (row4 HS2.out.b1).1
  have n1 := World.new_ne W2 _ c0
  have n2 := World.new_ne W2 _ d0
  have KA := Lib.hid (And.intro c0 d0)
  have KD := Lib.hid (show W2.drew.cell? ⟨G, 0, none⟩ = some (.pointer (some ⟨P, 0, none⟩)) ∧ W2.drew.cell? ⟨w.heap.size + 1, 0, none⟩ = some (.int .i64 gid) from ⟨c0, d0⟩)
  have KE := Lib.hid (show (W2.alloc (.cells #[.int .i64 0, .int .i64 0, .int .i64 0, .int .i64 0] 93)).drew.cell? ⟨G, 0, none⟩ = some (.pointer (some ⟨P, 0, none⟩)) ∧ (W2.alloc (.cells #[.int .i64 0, .int .i64 0, .int .i64 0, .int .i64 0] 93)).drew.cell? ⟨w.heap.size + 1, 0, none⟩ = some (.int .i64 gid) from ⟨cell_al _ c0, cell_al _ d0⟩)
  have HBD := Lib.hid (show Below w.heap.size w W2.drew from HB2.out.drew)
  have HBE := Lib.hid (show Below w.heap.size w (W2.alloc (.cells #[.int .i64 0, .int .i64 0, .int .i64 0, .int .i64 0] 93)).drew from (HB2.out.trans ((alX W2 _).mono HB2.out.size)).drew)
  go_region_held3 (fun w' => w'.cell? ⟨G, 0, none⟩ = some (.pointer (some ⟨P, 0, none⟩)) ∧ w'.cell? ⟨w.heap.size + 1, 0, none⟩ = some (.int .i64 gid)) (first | with_reducible exact KA.out | with_reducible exact KD.out | with_reducible exact KE.out | with_reducible exact ks | go_keep)
    (first
      | (go_at_call 64; refine (HKI.out _ (by first | with_reducible exact HBD.out | with_reducible exact HBE.out)).mono ?_; rintro e w3 ⟨rfl, hb⟩; have ks := And.intro (cell_bel (by first | with_reducible exact KD.out.1 | with_reducible exact KE.out.1) hb) (cell_bel (by first | with_reducible exact KD.out.2 | with_reducible exact KE.out.2) hb); (first | (have z := box_after hb; obtain ⟨z0, z1, z2, z3⟩ := row4 z; have y0 := frozen_of_row _ _ 0 _ _ z; have y1 := frozen_of_row _ _ 1 _ _ z; have y2 := frozen_of_row _ _ 2 _ _ z; have y3 := frozen_of_row _ _ 3 _ _ z) | skip); have m1 := World.new_ne w3 _ ks.1; have m2 := World.new_ne w3 _ ks.2))
  · have HS3 := Lib.hid (((HS2.out.drew t0_fpt).below t0_fpt hb).alloc t0_fpt (box4' u0 u1 u2 u3) rfl)
    rename_i hHeld
    clear hHeld ks hb m1 m2 n1 n2 c0 d0 KA KD KE HBD HBE HB2 HS2 HKI
    generalize hg5 : w3.heap.size = g5 at *
    clear hg5
    unfold box4' at HS3
    generalize World.alloc w3 _ = W3 at HS3 ⊢
    obtain ⟨a0, a1, a2, a3⟩ := row4 HS3.out.b0
    obtain ⟨⟨b0, b1, b2, b3, b4, b5⟩, _, _, _, _, _, _⟩ := row6 HS3.out.b1
    go_upto_region 5 with (fail)
    go_wp2
    go_ret
    exact ⟨rfl, HS3.out.bel⟩
  · have q := ((HS2.out.alloc t0_fpt (box4' 0 0 0 0) rfl).drew t0_fpt).below t0_fpt hb
    have HS3 := Lib.hid (q.put t0_fpt (g := W2.heap.size) (o' := box4' u0 u1 u2 u3) (w' := set4 w3 W2.heap.size (.int .i64 u0) (.int .i64 u1) (.int .i64 u2) (.int .i64 u3)) (fun y hy => by
      unfold set4
      rw [Go.RowKit.Below.heap_setCell _ _ _ _ hy, Go.RowKit.Below.heap_setCell _ _ _ _ hy, Go.RowKit.Below.heap_setCell _ _ _ _ hy, Go.RowKit.Below.heap_setCell _ _ _ _ hy]) (row_set4 q.b0 _ _ _ _) rfl rfl rfl (by unfold set4; simp))
    rename_i hHeld
    clear hHeld ks hb m1 m2 n1 n2 c0 d0 KA KD KE HBD HBE HB2 HS2 HKI z z0 z1 z2 z3 y0 y1 y2 y3 q
    generalize hg5 : W2.heap.size = g5 at *
    clear hg5
    unfold set4 at HS3
    generalize World.setCell (World.setCell (World.setCell (World.setCell w3 _ _) _ _) _ _) _ _ = W3 at HS3 ⊢
    obtain ⟨a0, a1, a2, a3⟩ := row4 HS3.out.b0
    obtain ⟨⟨b0, b1, b2, b3, b4, b5⟩, _, _, _, _, _, _⟩ := row6 HS3.out.b1
    go_upto_region 5 with (fail)
    go_wp2
    go_ret
    exact ⟨rfl, HS3.out.bel⟩
set_option maxRecDepth 100000 in
set_option maxHeartbeats 4000000 in
theorem follows_none {B : Nat} {w : World} {P b l : Nat} {L : List Sq} {room : Nat} {Hs : Nat → Prop} {G : Nat} (hst : St B w P L room Hs) (hc : w.cell? ⟨G, 0, none⟩ = some (.pointer (some ⟨P, 0, none⟩))) (f g : Fr) (hb : Value) (ag : Option Addr) (ng cg : Nat) (n : Nat) (hf : FOk b l L f n) (hl : LiesI w hb f.got) (hn : nextP L f = none) :
    Calls Tryz.prog 46 #[.pointer (some ⟨G, 0, none⟩), fv f hb, fv g (.slice ag ng cg)] w fun e w' => e = .returned (.bool false) ∧ Below w.heap.size w w' := by
  have HS : Hid (Bw w [(w.heap.size + 1, fo g (.slice ag ng cg)), (w.heap.size, fo f hb)] ((w.alloc (fo f hb)).alloc (fo g (.slice ag ng cg)))) := Lib.hid (((bw_start w).alloc t0_fpt (fo f hb) rfl).alloc t0_fpt (fo g (.slice ag ng cg)) (n := w.heap.size + 1) (by simp))
  have hl2 := hl
  obtain ⟨ah, ch, rfl, hz1⟩ := hl2
  have HNX := Lib.hid (fun (W : World) (hW : Below w.heap.size w W) => show Calls Tryz.prog 34 #[.pointer (some ⟨G, 0, none⟩), fv f (.slice ah f.got.length ch)] W fun e w' => e = .returned (.tuple #[pv 0 0 0 0 0 false, .bool false, .nilIface]) ∧ Below W.heap.size W w' from
    next_not (hst.bel hW) (cell_bel hc hW) f (.slice ah f.got.length ch) n hf hn)
  clear hn
  clear hz1 hst hc hf hl
  obtain ⟨gid, gj, gst, ggot⟩ := g
  obtain ⟨fid, fj, fst', fgot⟩ := f
  simp only at *
  generalize fgot.length = fl at *
  go_enter Tryz.func46, Tryz.ntmps46
  go_upto_region 1 with (fail)
  generalize World.alloc _ _ = W at HS ⊢
  obtain ⟨a0, a1, a2, a3⟩ := row4 HS.out.b1
  have HC1 := Lib.hid (HNX.out W HS.out.bel)
  go_wp2_with fail
  refine HC1.out.mono ?_
  rintro e w2 ⟨rfl, hb⟩
  have HS2 := Lib.hid ((HS.out.below t0_fpt hb).alloc t0_fpt (po 0 0 0 0 0 false) rfl)
  clear hb a0 a1 a2 a3 HC1 HS HNX
  go_upto_region 2 with (fail)
  generalize hg4 : w2.heap.size = g4 at *
  clear hg4
  generalize World.alloc _ _ = W2 at HS2 ⊢
  obtain ⟨⟨b0, b1, b2, b3, b4, b5⟩, _, _, _, _, _, _⟩ := row6 HS2.out.b0
  obtain ⟨a0, a1, a2, a3⟩ := row4 HS2.out.b1
  go_wp2
  go_ret
  exact ⟨rfl, HS2.out.bel⟩
set_option maxRecDepth 100000 in
set_option maxHeartbeats 4000000 in
theorem follows_still {B : Nat} {w : World} {P b l : Nat} {L : List Sq} {room : Nat} {Hs : Nat → Prop} {G : Nat} (hst : St B w P L room Hs) (hc : w.cell? ⟨G, 0, none⟩ = some (.pointer (some ⟨P, 0, none⟩))) (f g : Fr) (hb : Value) (ag : Option Addr) (ng cg : Nat) (n : Nat) (hf : FOk b l L f n) (hl : LiesI w hb f.got) (x : Pa) (hx : nextP L f = some x) (hs : x.still = true) :
    Calls Tryz.prog 46 #[.pointer (some ⟨G, 0, none⟩), fv f hb, fv g (.slice ag ng cg)] w fun e w' => e = .returned (.bool false) ∧ Below w.heap.size w w' := by
  have HS : Hid (Bw w [(w.heap.size + 1, fo g (.slice ag ng cg)), (w.heap.size, fo f hb)] ((w.alloc (fo f hb)).alloc (fo g (.slice ag ng cg)))) := Lib.hid (((bw_start w).alloc t0_fpt (fo f hb) rfl).alloc t0_fpt (fo g (.slice ag ng cg)) (n := w.heap.size + 1) (by simp))
  have hl2 := hl
  obtain ⟨ah, ch, rfl, hz1⟩ := hl2
  obtain ⟨x0, hx0⟩ : ∃ y, y = x.f 0 := ⟨_, rfl⟩
  obtain ⟨x1, hx1⟩ : ∃ y, y = x.f 1 := ⟨_, rfl⟩
  obtain ⟨x2, hx2⟩ : ∃ y, y = x.f 2 := ⟨_, rfl⟩
  obtain ⟨x3, hx3⟩ : ∃ y, y = x.f 3 := ⟨_, rfl⟩
  have HNX := Lib.hid (fun (W : World) (hW : Below w.heap.size w W) => show Calls Tryz.prog 34 #[.pointer (some ⟨G, 0, none⟩), fv f (.slice ah f.got.length ch)] W fun e w' => e = .returned (.tuple #[pv x0 x1 x2 x3 x.j true, .bool true, .nilIface]) ∧ Below W.heap.size W w' from by
    have := next_yes (hst.bel hW) (cell_bel hc hW) f (.slice ah f.got.length ch) n hf (hl.bel hW) x hx
    unfold pvx at this
    rw [hs] at this
    rw [hx0, hx1, hx2, hx3]
    exact this)
  clear hx0 hx1 hx2 hx3 hx hs
  clear hz1 hst hc hf hl
  obtain ⟨gid, gj, gst, ggot⟩ := g
  obtain ⟨fid, fj, fst', fgot⟩ := f
  simp only at *
  generalize x.j = xj at *
  generalize fgot.length = fl at *
  go_enter Tryz.func46, Tryz.ntmps46
  go_upto_region 1 with (fail)
  generalize World.alloc _ _ = W at HS ⊢
  obtain ⟨a0, a1, a2, a3⟩ := row4 HS.out.b1
  have HC1 := Lib.hid (HNX.out W HS.out.bel)
  go_wp2_with fail
  refine HC1.out.mono ?_
  rintro e w2 ⟨rfl, hb⟩
  have HS2 := Lib.hid ((HS.out.below t0_fpt hb).alloc t0_fpt (po x0 x1 x2 x3 xj true) rfl)
  clear hb a0 a1 a2 a3 HC1 HS HNX
  go_upto_region 2 with (fail)
  generalize hg4 : w2.heap.size = g4 at *
  clear hg4
  generalize World.alloc _ _ = W2 at HS2 ⊢
  obtain ⟨⟨b0, b1, b2, b3, b4, b5⟩, _, _, _, _, _, _⟩ := row6 HS2.out.b0
  obtain ⟨a0, a1, a2, a3⟩ := row4 HS2.out.b1
  go_wp2
  go_ret
  exact ⟨rfl, HS2.out.bel⟩
set_option maxRecDepth 100000 in
set_option maxHeartbeats 4000000 in
theorem follows_j {B : Nat} {w : World} {P b l : Nat} {L : List Sq} {room : Nat} {Hs : Nat → Prop} {G : Nat} (hst : St B w P L room Hs) (hc : w.cell? ⟨G, 0, none⟩ = some (.pointer (some ⟨P, 0, none⟩))) (f g : Fr) (hb : Value) (ag : Option Addr) (ng cg : Nat) (n : Nat) (hf : FOk b l L f n) (hl : LiesI w hb f.got) (x : Pa) (hx : nextP L f = some x) (hs : x.still = false) (hj : ¬ g.j = x.j) :
    Calls Tryz.prog 46 #[.pointer (some ⟨G, 0, none⟩), fv f hb, fv g (.slice ag ng cg)] w fun e w' => e = .returned (.bool false) ∧ Below w.heap.size w w' := by
  have HS : Hid (Bw w [(w.heap.size + 1, fo g (.slice ag ng cg)), (w.heap.size, fo f hb)] ((w.alloc (fo f hb)).alloc (fo g (.slice ag ng cg)))) := Lib.hid (((bw_start w).alloc t0_fpt (fo f hb) rfl).alloc t0_fpt (fo g (.slice ag ng cg)) (n := w.heap.size + 1) (by simp))
  have hl2 := hl
  obtain ⟨ah, ch, rfl, hz1⟩ := hl2
  obtain ⟨x0, hx0⟩ : ∃ y, y = x.f 0 := ⟨_, rfl⟩
  obtain ⟨x1, hx1⟩ : ∃ y, y = x.f 1 := ⟨_, rfl⟩
  obtain ⟨x2, hx2⟩ : ∃ y, y = x.f 2 := ⟨_, rfl⟩
  obtain ⟨x3, hx3⟩ : ∃ y, y = x.f 3 := ⟨_, rfl⟩
  have HNX := Lib.hid (fun (W : World) (hW : Below w.heap.size w W) => show Calls Tryz.prog 34 #[.pointer (some ⟨G, 0, none⟩), fv f (.slice ah f.got.length ch)] W fun e w' => e = .returned (.tuple #[pv x0 x1 x2 x3 x.j false, .bool true, .nilIface]) ∧ Below W.heap.size W w' from by
    have := next_yes (hst.bel hW) (cell_bel hc hW) f (.slice ah f.got.length ch) n hf (hl.bel hW) x hx
    unfold pvx at this
    rw [hs] at this
    rw [hx0, hx1, hx2, hx3]
    exact this)
  clear hx0 hx1 hx2 hx3 hx hs
  clear hz1 hst hc hf hl
  obtain ⟨gid, gj, gst, ggot⟩ := g
  obtain ⟨fid, fj, fst', fgot⟩ := f
  simp only at *
  generalize x.j = xj at *
  have hj2 : (gj == xj) = false := by rw [beq_eq_false_iff_ne]; exact hj
  generalize fgot.length = fl at *
  go_enter Tryz.func46, Tryz.ntmps46
  go_upto_region 1 with (fail)
  generalize World.alloc _ _ = W at HS ⊢
  obtain ⟨a0, a1, a2, a3⟩ := row4 HS.out.b1
  have HC1 := Lib.hid (HNX.out W HS.out.bel)
  go_wp2_with fail
  refine HC1.out.mono ?_
  rintro e w2 ⟨rfl, hb⟩
  have HS2 := Lib.hid ((HS.out.below t0_fpt hb).alloc t0_fpt (po x0 x1 x2 x3 xj false) rfl)
  clear hb a0 a1 a2 a3 HC1 HS HNX
  go_upto_region 2 with (fail)
  generalize hg4 : w2.heap.size = g4 at *
  clear hg4
  generalize World.alloc _ _ = W2 at HS2 ⊢
  obtain ⟨⟨b0, b1, b2, b3, b4, b5⟩, _, _, _, _, _, _⟩ := row6 HS2.out.b0
  obtain ⟨a0, a1, a2, a3⟩ := row4 HS2.out.b1
  go_wp2
  go_ret
  exact ⟨rfl, HS2.out.bel⟩
end Go.Proofs.YtlejohclijjhnaaGreatDoor.Fm

/-
  WALK of step, where a part is asked for: one that is remembered. Conditions: something is under way, which can be; there is room.
  WALKS of step, in the words of plain data, of Run, Out, New and Begin. Conditions: the machine lies in memory; there is room.
-/
import Derived.Test.YtlejohclijjhnaaGreatDoorL35
namespace Go.Proofs.YtlejohclijjhnaaGreatDoor.Fm
open Go.RowKit Ti Qd Go.Maps Go.WideMaps Ru

set_option maxRecDepth 100000 in
set_option maxHeartbeats 6000000 in
theorem step_known {B P room b l G M : Nat} {s : MS} {w : World} {H : Nat → Prop} (h : Mc B P room b l G M s w H) (hB : B ≤ w.heap.size) (f : Fr) (r : List Fr) (n : Nat) (hs : StepW room b l s f r n) (x : Pa) (hn : nextP s.L f = some x) (hst : x.still = false) (o : Int) (hk : s.K (nr s.L (pjQ s.L x)) x.j = some o)
    (hr : (partU s.L s.K f r s.out x).L.length ≤ room) :
    Calls Tryz.prog 24 #[.pointer (some ⟨G, 0, none⟩)] w fun e w' => e = .returned .nilIface ∧ Goz (Mc B P room b l G M (partU s.L s.K f r s.out x)) w H w' := by
  have hfo := hs.fo
  obtain ⟨mm, rfl, hlt, hx⟩ := next_inv hfo hn
  have hi : Inv s.L := hs.ok.kn.inv
  have h36 := hfo.n36
  have hl4 : ∀ i, i < 4 → Lv s.L mm (x.f i) := fun i h4 => by rw [hx]; exact part_lv hi hfo hlt i h4
  have H4 := Lib.hid (four_of hl4)
  have HKL := Lib.hid (And.intro (join_lv hl4) (And.intro (join_inv hi (by omega) hl4) h36))
  have HXJ := Lib.hid (And.intro (rj_bd hfo) hx)
  have hr1 : (put s.L (pjQ s.L x)).length ≤ room := by
    unfold partU at hr
    rw [if_neg (by rw [hst]; decide)] at hr
    cases hc : s.K (nr s.L (pjQ s.L x)) x.j <;> rw [hc] at hr <;> exact hr
  have HKK := Lib.hid hk
  clear hk
  have HSTL := Lib.hid hst
  clear hfo hlt hx hi h36 hl4 hst
  have HT := Lib.hid (fun s => mc_fpt B P room b l G M s)
  have HS := Lib.hid (Bs.start h)
  obtain ⟨bu, cap, hv, c3, c4, c5, d0, d1, d2, d3, hl⟩ := h.topv hs.u
  have hl2 := hl
  obtain ⟨ah, ch, rfl, _⟩ := hl2
  have HLI := Lib.hid hl
  have HW := Lib.hid (And.intro hs (And.intro hn (And.intro hr1 hB)))
  have hm := hs.len
  clear h hs hn hr hr1 hB hl
  generalize hmm : r.length = m at *
  have HM := Lib.hid hmm
  clear hmm
  have e1 : IntKind.i64.wrap (((m + 1 : Nat) : Int) - 1) = (m : Int) := by
    rw [show ((m + 1 : Nat) : Int) - 1 = (m : Int) by omega]
    exact IntWalk.i64_in _ (by omega)
  have e4 : IntKind.i64.wrap (m : Int) = (m : Int) := IntWalk.i64_in _ (by omega)
  have e5 : ((m : Int)).toNat = m := by omega
  have e2 : (0 : Int) ≤ (m : Int) := by omega
  have e3 : (m : Int) < ((m + 1 : Nat) : Int) := by omega
  have c3' := cell_al (.cells #[.int .i64 0, .int .i64 0, .int .i64 0, .slice none 0 0] 47) c3
  have d0' := cell_al (.cells #[.int .i64 0, .int .i64 0, .int .i64 0, .slice none 0 0] 47) d0
  have d1' := cell_al (.cells #[.int .i64 0, .int .i64 0, .int .i64 0, .slice none 0 0] 47) d1
  have d2' := cell_al (.cells #[.int .i64 0, .int .i64 0, .int .i64 0, .slice none 0 0] 47) d2
  have d3' := cell_al (.cells #[.int .i64 0, .int .i64 0, .int .i64 0, .slice none 0 0] 47) d3
  go_enter Tryz.func24, Tryz.ntmps24
  go_upto_region 1 with (fail)
  go_region
  all_goals
    have HS1 : Hid (Bs (Mc B P room b l G M s) w H [(w.heap.size, fo f (.slice ah f.got.length ch))] (w.alloc (.cells #[.int .i64 f.id, .int .i64 f.j, .int .i64 f.st, .slice ah f.got.length ch] 47)).drew) := Lib.hid ((HS.out.alloc (HT.out s) (fo f (.slice ah f.got.length ch)) rfl).drew (HT.out s))
    have hl1 := HLI.out.bel (show Below w.heap.size w (w.alloc (.cells #[.int .i64 f.id, .int .i64 f.j, .int .i64 f.st, .slice ah f.got.length ch] 47)).drew from (alX w _).drew)
    clear c3 d0 d1 d2 d3 c3' d0' d1' d2' d3' e1 e2 e3 e4 e5 HS
    generalize World.drew _ = W1 at *
    obtain ⟨a0, a1, a2, a3⟩ := row4 HS1.out.b0
    obtain ⟨Hs1, k1, _⟩ := HS1.out.store
    have HNX := Lib.hid (next_yes k1 HS1.out.cells.1 f (.slice ah f.got.length ch) (mm + 1) HW.out.1.fo hl1 x HW.out.2.1)
    clear k1 hl1
    obtain ⟨x0, hx0⟩ : ∃ y, y = x.f 0 := ⟨_, rfl⟩
    obtain ⟨x1, hx1⟩ : ∃ y, y = x.f 1 := ⟨_, rfl⟩
    obtain ⟨x2, hx2⟩ : ∃ y, y = x.f 2 := ⟨_, rfl⟩
    obtain ⟨x3, hx3⟩ : ∃ y, y = x.f 3 := ⟨_, rfl⟩
    have H4x : Hid (Four s.L x0 x1 x2 x3 (mm + 3)) := by rw [hx0, hx1, hx2, hx3]; exact H4
    have HNX : Hid (Calls Tryz.prog 34 #[.pointer (some ⟨G, 0, none⟩), fv f (.slice ah f.got.length ch)] W1 fun e w' => e = .returned (.tuple #[pv x0 x1 x2 x3 x.j x.still, .bool true, .nilIface]) ∧ Below W1.heap.size W1 w') := by rw [hx0, hx1, hx2, hx3]; exact HNX
    have HQ := Lib.hid (show pjQ s.L x = joinQ s.L x0 x1 x2 x3 by rw [hx0, hx1, hx2, hx3]; rfl)
    clear hx0 hx1 hx2 hx3
    go_upto_region 2 with (fail)
    go_wp2_with fail
    refine HNX.out.mono ?_
    rintro e w2 ⟨rfl, hb⟩
    have HS2 := Lib.hid ((HS1.out.below (HT.out s) hb).alloc (HT.out s) (po x0 x1 x2 x3 x.j x.still) rfl)
    clear hb a0 a1 a2 a3 HNX HS1
    go_upto_region 3 with (fail)
    generalize hg4 : w2.heap.size = g4 at *
    clear hg4
    generalize World.alloc _ _ = W2 at HS2 ⊢
    go_upto_region 7 with (fail)
    have HD := Lib.hid (HS2.out.drew (HT.out s))
    have KD := Lib.hid (And.intro HD.out.cells.1 (row6 HD.out.b0).1)
    obtain ⟨Hs2, k1, k2⟩ := HD.out.store
    have HNO := Lib.hid (node_ok k1 x0 x1 x2 x3 (mm + 3) H4x.out (by have := HKL.out.2.2; omega) (by rw [← HQ.out]; exact HW.out.2.2.1))
    have HGO := Lib.hid k2
    clear k1 k2 HS2
    go_region_held3 (fun w' => w'.cell? ⟨G, 0, none⟩ = some (.pointer (some ⟨P, 0, none⟩)) ∧ w'.cell? ⟨g4, 0, none⟩ = some (.int .i64 x0) ∧ w'.cell? ⟨g4, 1, none⟩ = some (.int .i64 x1) ∧ w'.cell? ⟨g4, 2, none⟩ = some (.int .i64 x2) ∧ w'.cell? ⟨g4, 3, none⟩ = some (.int .i64 x3) ∧ w'.cell? ⟨g4, 4, none⟩ = some (.int .i64 x.j) ∧ w'.cell? ⟨g4, 5, none⟩ = some (.bool x.still)) (first | with_reducible exact KD.out | with_reducible exact ks)
      (first
        | (go_at_call 36; (with_reducible refine HNO.out.mono ?_); rintro e w3 ⟨rfl, hg⟩; have HS3 := Lib.hid (HGO.out _ _ hg); have ks := And.intro HS3.out.cells.1 (row6 HS3.out.b0).1; clear hg))
    rename_i hHH
    clear ks KD HD HNO HGO hHH
    have HL1 := Lib.hid (show put s.L (joinQ s.L x0 x1 x2 x3) = put s.L (pjQ s.L x) by rw [HQ.out])
    have HK1 := Lib.hid (show nr s.L (joinQ s.L x0 x1 x2 x3) = nr s.L (pjQ s.L x) by rw [HQ.out])
    rw [HL1.out] at HS3
    rw [HK1.out]
    clear H4x HL1 HK1 HQ
    generalize hL1 : put s.L (pjQ s.L x) = L1 at *
    generalize hk1 : nr s.L (pjQ s.L x) = k at *
    have HPU : Hid (partU s.L s.K f r s.out x = if x.still = true then stillU L1 s.K f r s.out k else goU L1 s.K f r s.out k x.j (s.K k x.j)) := Lib.hid (by rw [← hL1, ← hk1]; rfl)
    clear hL1 hk1
    obtain ⟨⟨p0, p1, p2, p3, p4, p5⟩, _⟩ := row6 HS3.out.b0
    rw [HSTL.out] at p5
    have hok := HKL.out.1.1
    obtain ⟨Hs3, k1, _⟩ := HS3.out.store
    have hsm : L1.length ≤ 65536 := k1.small
    have hk6 : I1 k := by unfold I1; unfold Ok at hok; omega
    have hj6 : I1 x.j := by have := HXJ.out; rw [this.2]; have := HKL.out.2.2; unfold I1; omega
    have HDD := Lib.hid (HS3.out.drew (HT.out _))
    have c5 := HS3.out.cells.2.2.2.2.1
    have l0 := Fk.ask_in HDD.out.cells.2.2.2.2.2 hk6 hj6 HKK.out
    unfold Fk.av at l0
    have HPS := Lib.hid (show partU s.L s.K f r s.out x = ⟨L1, s.K, take f o :: r, s.out⟩ from by rw [HPU.out, if_neg (by rw [HSTL.out]; decide), HKK.out]; rfl)
    clear k1 hsm hk6 hj6 hok HPU
    go_upto_region 16 with (fail)
    go_region
    clear l0 c5 p0 p1 p2 p3 p4 p5 HS3
    obtain ⟨H4', k1, _, k3⟩ := HDD.out.call
    have hsz := HDD.out.size
    have hfs := HW.out.1.all f (by simp)
    have HTK := Lib.hid (take_f k1 f r HW.out.1.u o hfs.1 hfs.2.1 hfs.2.2 (by have := HW.out.1.len; omega) (by have := HW.out.2.2.2; omega))
    have HN := Lib.hid k3
    clear k1 k3 hsz hfs
    go_wp2_with fail
    refine HTK.out.mono ?_
    rintro e w5 ⟨rfl, hg⟩
    have HS5 := Lib.hid (HN.out _ _ hg)
    clear hg
    go_wp2
    go_ret
    refine ⟨rfl, ?_⟩
    rw [HPS.out]
    exact HS5.out.out
set_option maxRecDepth 100000 in
set_option maxHeartbeats 6000000 in
theorem step_push {B P room b l G M : Nat} {s : MS} {w : World} {H : Nat → Prop} (h : Mc B P room b l G M s w H) (hB : B ≤ w.heap.size) (f : Fr) (r : List Fr) (n : Nat) (hs : StepW room b l s f r n) (x : Pa) (hn : nextP s.L f = some x) (hst : x.still = false) (hk : s.K (nr s.L (pjQ s.L x)) x.j = none)
    (hr : (partU s.L s.K f r s.out x).L.length ≤ room) :
    Calls Tryz.prog 24 #[.pointer (some ⟨G, 0, none⟩)] w fun e w' => e = .returned .nilIface ∧ Goz (Mc B P room b l G M (partU s.L s.K f r s.out x)) w H w' := by
  have hfo := hs.fo
  obtain ⟨mm, rfl, hlt, hx⟩ := next_inv hfo hn
  have hi : Inv s.L := hs.ok.kn.inv
  have h36 := hfo.n36
  have hl4 : ∀ i, i < 4 → Lv s.L mm (x.f i) := fun i h4 => by rw [hx]; exact part_lv hi hfo hlt i h4
  have H4 := Lib.hid (four_of hl4)
  have HKL := Lib.hid (And.intro (join_lv hl4) (And.intro (join_inv hi (by omega) hl4) h36))
  have HXJ := Lib.hid (And.intro (rj_bd hfo) hx)
  have hr1 : (put s.L (pjQ s.L x)).length ≤ room := by
    unfold partU at hr
    rw [if_neg (by rw [hst]; decide)] at hr
    cases hc : s.K (nr s.L (pjQ s.L x)) x.j <;> rw [hc] at hr <;> exact hr
  have HKK := Lib.hid hk
  clear hk
  have HSTL := Lib.hid hst
  clear hfo hlt hx hi h36 hl4 hst
  have HT := Lib.hid (fun s => mc_fpt B P room b l G M s)
  have HS := Lib.hid (Bs.start h)
  obtain ⟨bu, cap, hv, c3, c4, c5, d0, d1, d2, d3, hl⟩ := h.topv hs.u
  have hl2 := hl
  obtain ⟨ah, ch, rfl, _⟩ := hl2
  have HLI := Lib.hid hl
  have HW := Lib.hid (And.intro hs (And.intro hn (And.intro hr1 hB)))
  have hm := hs.len
  clear h hs hn hr hr1 hB hl
  generalize hmm : r.length = m at *
  have HM := Lib.hid hmm
  clear hmm
  have e1 : IntKind.i64.wrap (((m + 1 : Nat) : Int) - 1) = (m : Int) := by
    rw [show ((m + 1 : Nat) : Int) - 1 = (m : Int) by omega]
    exact IntWalk.i64_in _ (by omega)
  have e4 : IntKind.i64.wrap (m : Int) = (m : Int) := IntWalk.i64_in _ (by omega)
  have e5 : ((m : Int)).toNat = m := by omega
  have e2 : (0 : Int) ≤ (m : Int) := by omega
  have e3 : (m : Int) < ((m + 1 : Nat) : Int) := by omega
  have c3' := cell_al (.cells #[.int .i64 0, .int .i64 0, .int .i64 0, .slice none 0 0] 47) c3
  have d0' := cell_al (.cells #[.int .i64 0, .int .i64 0, .int .i64 0, .slice none 0 0] 47) d0
  have d1' := cell_al (.cells #[.int .i64 0, .int .i64 0, .int .i64 0, .slice none 0 0] 47) d1
  have d2' := cell_al (.cells #[.int .i64 0, .int .i64 0, .int .i64 0, .slice none 0 0] 47) d2
  have d3' := cell_al (.cells #[.int .i64 0, .int .i64 0, .int .i64 0, .slice none 0 0] 47) d3
  go_enter Tryz.func24, Tryz.ntmps24
  go_upto_region 1 with (fail)
  go_region
  all_goals
    have HS1 : Hid (Bs (Mc B P room b l G M s) w H [(w.heap.size, fo f (.slice ah f.got.length ch))] (w.alloc (.cells #[.int .i64 f.id, .int .i64 f.j, .int .i64 f.st, .slice ah f.got.length ch] 47)).drew) := Lib.hid ((HS.out.alloc (HT.out s) (fo f (.slice ah f.got.length ch)) rfl).drew (HT.out s))
    have hl1 := HLI.out.bel (show Below w.heap.size w (w.alloc (.cells #[.int .i64 f.id, .int .i64 f.j, .int .i64 f.st, .slice ah f.got.length ch] 47)).drew from (alX w _).drew)
    clear c3 d0 d1 d2 d3 c3' d0' d1' d2' d3' e1 e2 e3 e4 e5 HS
    generalize World.drew _ = W1 at *
    obtain ⟨a0, a1, a2, a3⟩ := row4 HS1.out.b0
    obtain ⟨Hs1, k1, _⟩ := HS1.out.store
    have HNX := Lib.hid (next_yes k1 HS1.out.cells.1 f (.slice ah f.got.length ch) (mm + 1) HW.out.1.fo hl1 x HW.out.2.1)
    clear k1 hl1
    obtain ⟨x0, hx0⟩ : ∃ y, y = x.f 0 := ⟨_, rfl⟩
    obtain ⟨x1, hx1⟩ : ∃ y, y = x.f 1 := ⟨_, rfl⟩
    obtain ⟨x2, hx2⟩ : ∃ y, y = x.f 2 := ⟨_, rfl⟩
    obtain ⟨x3, hx3⟩ : ∃ y, y = x.f 3 := ⟨_, rfl⟩
    have H4x : Hid (Four s.L x0 x1 x2 x3 (mm + 3)) := by rw [hx0, hx1, hx2, hx3]; exact H4
    have HNX : Hid (Calls Tryz.prog 34 #[.pointer (some ⟨G, 0, none⟩), fv f (.slice ah f.got.length ch)] W1 fun e w' => e = .returned (.tuple #[pv x0 x1 x2 x3 x.j x.still, .bool true, .nilIface]) ∧ Below W1.heap.size W1 w') := by rw [hx0, hx1, hx2, hx3]; exact HNX
    have HQ := Lib.hid (show pjQ s.L x = joinQ s.L x0 x1 x2 x3 by rw [hx0, hx1, hx2, hx3]; rfl)
    clear hx0 hx1 hx2 hx3
    go_upto_region 2 with (fail)
    go_wp2_with fail
    refine HNX.out.mono ?_
    rintro e w2 ⟨rfl, hb⟩
    have HS2 := Lib.hid ((HS1.out.below (HT.out s) hb).alloc (HT.out s) (po x0 x1 x2 x3 x.j x.still) rfl)
    clear hb a0 a1 a2 a3 HNX HS1
    go_upto_region 3 with (fail)
    generalize hg4 : w2.heap.size = g4 at *
    clear hg4
    generalize World.alloc _ _ = W2 at HS2 ⊢
    go_upto_region 7 with (fail)
    have HD := Lib.hid (HS2.out.drew (HT.out s))
    have KD := Lib.hid (And.intro HD.out.cells.1 (row6 HD.out.b0).1)
    obtain ⟨Hs2, k1, k2⟩ := HD.out.store
    have HNO := Lib.hid (node_ok k1 x0 x1 x2 x3 (mm + 3) H4x.out (by have := HKL.out.2.2; omega) (by rw [← HQ.out]; exact HW.out.2.2.1))
    have HGO := Lib.hid k2
    clear k1 k2 HS2
    go_region_held3 (fun w' => w'.cell? ⟨G, 0, none⟩ = some (.pointer (some ⟨P, 0, none⟩)) ∧ w'.cell? ⟨g4, 0, none⟩ = some (.int .i64 x0) ∧ w'.cell? ⟨g4, 1, none⟩ = some (.int .i64 x1) ∧ w'.cell? ⟨g4, 2, none⟩ = some (.int .i64 x2) ∧ w'.cell? ⟨g4, 3, none⟩ = some (.int .i64 x3) ∧ w'.cell? ⟨g4, 4, none⟩ = some (.int .i64 x.j) ∧ w'.cell? ⟨g4, 5, none⟩ = some (.bool x.still)) (first | with_reducible exact KD.out | with_reducible exact ks)
      (first
        | (go_at_call 36; (with_reducible refine HNO.out.mono ?_); rintro e w3 ⟨rfl, hg⟩; have HS3 := Lib.hid (HGO.out _ _ hg); have ks := And.intro HS3.out.cells.1 (row6 HS3.out.b0).1; clear hg))
    rename_i hHH
    clear ks KD HD HNO HGO hHH
    have HL1 := Lib.hid (show put s.L (joinQ s.L x0 x1 x2 x3) = put s.L (pjQ s.L x) by rw [HQ.out])
    have HK1 := Lib.hid (show nr s.L (joinQ s.L x0 x1 x2 x3) = nr s.L (pjQ s.L x) by rw [HQ.out])
    rw [HL1.out] at HS3
    rw [HK1.out]
    clear H4x HL1 HK1 HQ
    generalize hL1 : put s.L (pjQ s.L x) = L1 at *
    generalize hk1 : nr s.L (pjQ s.L x) = k at *
    have HPU : Hid (partU s.L s.K f r s.out x = if x.still = true then stillU L1 s.K f r s.out k else goU L1 s.K f r s.out k x.j (s.K k x.j)) := Lib.hid (by rw [← hL1, ← hk1]; rfl)
    clear hL1 hk1
    obtain ⟨⟨p0, p1, p2, p3, p4, p5⟩, _⟩ := row6 HS3.out.b0
    rw [HSTL.out] at p5
    have hok := HKL.out.1.1
    obtain ⟨Hs3, k1, _⟩ := HS3.out.store
    have hsm : L1.length ≤ 65536 := k1.small
    have hk6 : I1 k := by unfold I1; unfold Ok at hok; omega
    have hj6 : I1 x.j := by have := HXJ.out; rw [this.2]; have := HKL.out.2.2; unfold I1; omega
    have HDD := Lib.hid (HS3.out.drew (HT.out _))
    have c5 := HS3.out.cells.2.2.2.2.1
    obtain ⟨cc, l0⟩ := Fk.ask_out HDD.out.cells.2.2.2.2.2 hk6 hj6 HKK.out
    unfold Fk.av at l0
    have HPS := Lib.hid (show partU s.L s.K f r s.out x = ⟨L1, s.K, nf k x.j :: f :: r, s.out⟩ from by rw [HPU.out, if_neg (by rw [HSTL.out]; decide), HKK.out]; rfl)
    clear k1 hsm hk6 hj6 hok HPU
    go_upto_region 16 with (fail)
    go_region
    clear l0 c5 p0 p1 p2 p3 p4 p5 HS3
    go_upto_region 20 with (fail)
    have HDE := Lib.hid (HDD.out.drew (HT.out _))
    obtain ⟨H4', k1, _, k3⟩ := HDE.out.call
    have hsz := HDE.out.size
    obtain ⟨ao, cp, ao', cp', w5, q1, q2, q3, q4, q5⟩ := k1.push (by have := HW.out.2.2.2; omega) (by show s.U.length ≤ 1000; rw [HW.out.1.u, List.length_cons]; have := HW.out.1.len; omega) k x.j
    have HS5 := Lib.hid (k3 _ _ q5)
    have c4 := (row6 HDE.out.b0).1.2.2.2.2.1
    clear k1 k3 hsz q5
    generalize hun : s.U.length = un at *
    have HUN := Lib.hid hun
    clear hun
    generalize w3.drew = W3 at *
    have q1 : W3.cell? ⟨G, 3, none⟩ = some (.slice ao un cp) := q1
    have c4 : W3.cell? ⟨g4, 4, none⟩ = some (.int .i64 x.j) := c4
    have q1a := cell_al (nfo k x.j) q1
    have c4a := cell_al (nfo k x.j) c4
    have q2 : (Builtin.append_ #[40, 40] 40 #[.slice ao un cp, .slice (some ⟨W3.heap.size, 0, none⟩) 1 1]).run Tryz.prog (W3.drew.alloc (nfo k x.j)) = .ok (.slice ao' (un + 1) cp') w5 := q2
    clear HDD HDE
    go_region_law (refine step_append_runI rfl (.tmp 86) (.tmp 91) 40 40 rfl (.slice ao un cp) (.slice (some ⟨W3.heap.size, 0, none⟩) 1 1) (by simp [Act.eval]) (by simp [Act.eval]) q2 ?_)
    all_goals
      go_wp2
      go_ret
      refine ⟨rfl, ?_⟩
      rw [HPS.out]
      have hh := HS5.out.out
      simp only [HW.out.1.u] at hh
      exact hh
end Go.Proofs.YtlejohclijjhnaaGreatDoor.Fm
namespace Go.Proofs.YtlejohclijjhnaaGreatDoor.Fm
open Go.RowKit Ti Qd Go.Maps Go.WideMaps Ru

theorem step_f {B P room b l G M : Nat} {s : MS} {w : World} {H : Nat → Prop} (h : Mc B P room b l G M s w H) (hB : B ≤ w.heap.size) (hok : SOk b l s) (hu : s.U ≠ []) (hm : mayR b l = true) (h6 : room ≤ 65536) (hr : (stepF b l s).L.length ≤ room) :
    Calls Tryz.prog 24 #[.pointer (some ⟨G, 0, none⟩)] w fun e w' => e = .returned .nilIface ∧ Goz (Mc B P room b l G M (stepF b l s)) w H w' := by
  match e : s.U with
  | [] => exact absurd e hu
  | f :: r =>
    have es : stepF b l s = stepU b l s.L s.K f r s.out (nextP s.L f) := by
      obtain ⟨L, K, U, out⟩ := s
      simp only at e
      subst e
      rfl
    have hst := hok.stk
    rw [e] at hst
    obtain ⟨n, hf⟩ := Stk.top hst
    have hl := stk_len hok.kn.inv r f n hst hf
    have sw : StepW room b l s f r n := ⟨hok, e, hf, hm, h6, by omega, fun g hg => by
      obtain ⟨q, hq⟩ := stk_all _ hst g hg
      exact fok_small hq⟩
    rw [es] at hr ⊢
    cases hn : nextP s.L f with
    | none =>
      rw [hn] at hr
      have e2 : (stepU b l s.L s.K f r s.out none).L = put s.L (endQ b l s.L f) := by
        cases r <;> rfl
      rw [e2] at hr
      exact step_not h hB f r n sw hn hr
    | some x =>
      rw [hn] at hr
      by_cases hs : x.still = true
      · exact step_still h hB f r n sw x hn hs hr
      · have hs : x.still = false := by simpa using hs
        cases hk : s.K (nr s.L (pjQ s.L x)) x.j with
        | some o => exact step_known h hB f r n sw x hn hs o hk hr
        | none => exact step_push h hB f r n sw x hn hs hk hr
theorem run_next {b l k : Nat} {s s' : MS} (h : runF b l k s = (k, s')) (hu : s'.U ≠ []) : runF b l (k + 1) s = (k + 1, stepF b l s') := by
  rw [runF_add, h]
  simp only
  rw [runF_succ b l 0 hu]
  simp [runF]
theorem run_stop {b l k n : Nat} {s s' : MS} (h : runF b l k s = (k, s')) (hn : k ≤ n) (hu : s'.U = [] ∨ k = n) : runF b l n s = (k, s') := by
  obtain ⟨d, rfl⟩ : ∃ d, n = k + d := ⟨n - k, by omega⟩
  rw [runF_add, h]
  simp only
  rcases hu with hu | hu
  · rw [runF_nil b l d hu]
    simp
  · obtain rfl : d = 0 := by omega
    simp [runF]
theorem run_mid {b l k n : Nat} {s s' : MS} (hok : SOk b l s) (h : runF b l k s = (k, s')) (hn : k ≤ n) : SOk b l s' ∧ s'.L <+: (runF b l n s).2.L := by
  have h1 := run_ok k hok
  rw [h] at h1
  obtain ⟨d, rfl⟩ : ∃ d, n = k + d := ⟨n - k, by omega⟩
  have h2 := run_ok d h1.ok
  rw [runF_add, h]
  exact ⟨h1.ok, h2.ext⟩
set_option maxRecDepth 100000 in
set_option maxHeartbeats 4000000 in
theorem run_f {B P room b l G M : Nat} {s : MS} {w : World} {H : Nat → Prop} (h : Mc B P room b l G M s w H) (hB : B ≤ w.heap.size) (hok : SOk b l s) (hu : s.U ≠ []) (hm : mayR b l = true) (h6 : room ≤ 65536) (n : Int) (hn : n ≤ 100000000) (hr : (runF b l n.toNat s).2.L.length ≤ room) :
    Calls Tryz.prog 8 #[.pointer (some ⟨G, 0, none⟩), .int .i64 n] w fun e w' => e = .returned (.tuple #[.int .i64 ((runF b l n.toNat s).1 : Nat), .nilIface]) ∧ Goz (Mc B P room b l G M (runF b l n.toNat s).2) w H w' := by
  have HS := Lib.hid (Bs.start h)
  have HW := Lib.hid (And.intro hok (And.intro hm (And.intro h6 (And.intro hr hB))))
  obtain ⟨ao, cp, c3, c4, c5⟩ := h.under
  have hlu : ¬ s.U.length = 0 := fun e => hu (List.eq_nil_of_length_eq_zero e)
  generalize hun : s.U.length = un at *
  have hz : ((un : Int) == 0) = false := by rw [beq_eq_false_iff_ne]; omega
  clear h hok hu hm h6 hr hB hun hlu
  go_enter Tryz.func8, Tryz.ntmps8
  go_wp2
  clear c3 hz
  go_loopw [6] (fun v wr => ∃ (k : Nat) (s' : MS), runF b l k s = (k, s') ∧ k ≤ n.toNat ∧ v = .int .i64 (k : Int) ∧ Hid (Bs (Mc B P room b l G M s') w H [] wr)) (fun v _ => (n - intOf v).toNat)
  case atStart => exact ⟨0, s, rfl, Nat.zero_le _, rfl, HS⟩
  case round =>
    clear HS
    obtain ⟨k, s', hk, hkn, rfl, HR⟩ := hrel
    by_cases hlt : (k : Int) < n
    · cases hu : s'.U with
      | nil =>
        obtain ⟨ao, cp, c3, _, _⟩ := HR.out.under
        rw [hu] at c3
        have c3 : wr.cell? ⟨G, 3, none⟩ = some (.slice ao 0 cp) := c3
        have HE := Lib.hid (run_stop hk hkn (.inl hu))
        clear hk hkn hu
        go_wp2
        go_ret2
        rw [HE.out]
        exact ⟨rfl, HR.out.out⟩
      | cons f r =>
        obtain ⟨ao, cp, c3, _, _⟩ := HR.out.under
        rw [hu] at c3
        have c3 : wr.cell? ⟨G, 3, none⟩ = some (.slice ao (r.length + 1) cp) := c3
        have hne : s'.U ≠ [] := by rw [hu]; simp
        have hkn1 : k + 1 ≤ n.toNat := by omega
        obtain ⟨m1, _⟩ := run_mid HW.out.1 hk hkn
        have hnx := run_next hk hne
        obtain ⟨_, m3⟩ := run_mid HW.out.1 hnx hkn1
        obtain ⟨H1, k1, _, k3⟩ := HR.out.call
        have hsz := HR.out.size
        have HST := Lib.hid (step_f k1 (by have := HW.out.2.2.2.2; omega) m1 hne HW.out.2.1 HW.out.2.2.1 (Nat.le_trans m3.length_le HW.out.2.2.2.1))
        have HN := Lib.hid k3
        have HE := Lib.hid (And.intro hnx hkn1)
        have hpos : (0 : Int) < (r.length : Int) + 1 := by omega
        have hk64 : (k : Int) ≤ 100000000 := by omega
        clear hk hkn hu hne hkn1 m1 hnx m3 k1 k3 hsz HR
        go_wp2_with fail
        refine HST.out.mono ?_
        rintro e w2 ⟨rfl, hg⟩
        have HR2 := Lib.hid (HN.out _ _ hg)
        clear hg c3
        go_wp2
        go_roundw
        case rel => exact ⟨k + 1, _, HE.out.1, HE.out.2, by go_num, HR2⟩
        case measure => simp [intOf]; omega
    · have hle : n ≤ (k : Int) := by omega
      have HE := Lib.hid (run_stop hk hkn (.inr (by omega)))
      have hd : decide ((k : Int) < n) = false := decide_eq_false hlt
      clear hk hkn hlt
      go_wp2
      go_ret2
      rw [HE.out]
      exact ⟨rfl, HR.out.out⟩
end Go.Proofs.YtlejohclijjhnaaGreatDoor.Fm

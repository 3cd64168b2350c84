/-
  next, in the words of plain data; how many frames stand upon each other. Conditions: the frame is one that can be.
  WALK of step. Conditions: something is under way, which can be; there is room.
  WALK of step, where a part is asked for: one that does not go on. Conditions: something is under way, which can be; there is room.
  ONE FRAME MORE, in a machine's memory. Conditions: the machine lies in memory.
-/
import Derived.Test.YtlejohclijjhnaaGreatDoorL34
namespace Go.Proofs.YtlejohclijjhnaaGreatDoor.Fm
open Go.RowKit Ti Qd Go.Maps Go.WideMaps Ru

abbrev pvx (x : Pa) : Value := pv (x.f 0) (x.f 1) (x.f 2) (x.f 3) x.j x.still
theorem next_not {B : Nat} {w : World} {P b l : Nat} {L : List Sq} {room : Nat} {Hs : Nat → Prop} {G : Nat} (hst : St B w P L room Hs) (hc : w.cell? ⟨G, 0, none⟩ = some (.pointer (some ⟨P, 0, none⟩))) (f : Fr) (h : Value) (n : Nat) (hf : FOk b l L f n) (hn : nextP L f = none) :
    Calls Tryz.prog 34 #[.pointer (some ⟨G, 0, none⟩), fv f h] w fun e w' => e = .returned (.tuple #[pv 0 0 0 0 0 false, .bool false, .nilIface]) ∧ Below w.heap.size w w' := by
  refine next_none_f hst hc f h _ hf.lv.1 rfl ?_
  rw [hf.lev]
  unfold parts
  rcases end_len hf hn with rfl | ⟨m, rfl, h13⟩
  · rw [if_pos (by decide), hf.st, hf.low rfl]; rfl
  · rw [if_neg (by omega), hf.st, h13]; rfl
theorem next_yes {B : Nat} {w : World} {P b l : Nat} {L : List Sq} {room : Nat} {Hs : Nat → Prop} {G : Nat} (hst : St B w P L room Hs) (hc : w.cell? ⟨G, 0, none⟩ = some (.pointer (some ⟨P, 0, none⟩))) (f : Fr) (h : Value) (n : Nat) (hf : FOk b l L f n) (hl : LiesI w h f.got) (x : Pa) (hx : nextP L f = some x) :
    Calls Tryz.prog 34 #[.pointer (some ⟨G, 0, none⟩), fv f h] w fun e w' => e = .returned (.tuple #[pvx x, .bool true, .nilIface]) ∧ Below w.heap.size w w' := by
  obtain ⟨m, rfl, hlt, rfl⟩ := next_inv hf hx
  have hlev : (at' L f.id).lev = (m : Int) + 5 := by rw [hf.lev]; omega
  have h36 := hf.n36
  have h0 := hf.j0
  have h1 := hf.j1
  have hs := hf.st
  unfold paP
  by_cases k9 : f.got.length < 9
  · rw [if_pos k9]
    by_cases hj : f.j = m + 3
    · have e1 : rj ((m : Int) + 5) f.j = f.j - 1 := if_pos (by omega)
      have e2 : (!decide (f.j = (m : Int) + 3)) = false := by rw [decide_eq_true hj]; rfl
      rw [e1, e2]
      exact next_go_f hst hc f h _ hf.lv.1 hlev (by omega) (by omega) m hf.lv f.got.length k9 hs (by omega) (by omega) h0 (by omega)
    · have e1 : rj ((m : Int) + 5) f.j = f.j := if_neg (by omega)
      have e2 : (!decide (f.j = (m : Int) + 3)) = true := by rw [decide_eq_false hj]; rfl
      rw [e1, e2]
      exact next_still_f hst hc f h _ hf.lv.1 hlev (by omega) (by omega) m hf.lv f.got.length k9 hs (by omega) (by omega) h0 (by omega)
  · rw [if_neg k9]
    by_cases hj : f.j = m + 3
    · have e1 : rj ((m : Int) + 5) f.j = f.j - 1 := if_pos (by omega)
      rw [e1]
      exact next_far_f hst hc f h _ hf.lv.1 hlev (by omega) (by omega) f.got hl (f.got.length - 9) (by omega) (by omega) (by rw [hs]; omega) (by omega) h0 (by omega)
    · have e1 : rj ((m : Int) + 5) f.j = f.j := if_neg (by omega)
      rw [e1]
      exact next_near_f hst hc f h _ hf.lv.1 hlev (by omega) (by omega) f.got hl (f.got.length - 9) (by omega) (by omega) (by rw [hs]; omega) (by omega) h0 (by omega)
theorem stk_len {b l : Nat} {L : List Sq} (hi : Inv L) : ∀ (r : List Fr) (f : Fr) (n : Nat), Stk b l L (f :: r) → FOk b l L f n → n + r.length ≤ 36
  | [], f, n, _, hf => by have := hf.n36; simpa using this
  | g :: r, f, n, h, hf => by
    obtain ⟨_, hfo, ht⟩ := (show (∃ n, FOk b l L f n) ∧ Fol L g f ∧ Stk b l L (g :: r) from h)
    obtain ⟨q, hg⟩ := Stk.top ht
    obtain ⟨e, _⟩ := hfo.lev hi hg hf
    have := stk_len hi r g q ht hg
    rw [List.length_cons]
    omega
theorem stk_all {b l : Nat} {L : List Sq} : ∀ (r : List Fr), Stk b l L r → ∀ g ∈ r, ∃ n, FOk b l L g n
  | [], _, g, hg => by cases hg
  | f :: r, h, g, hg => by
    rcases List.mem_cons.1 hg with e | e
    · subst e
      exact Stk.top h
    · exact stk_all r (Stk.rest h) g e
theorem fok_small {b l : Nat} {L : List Sq} {g : Fr} {n : Nat} (h : FOk b l L g n) : 0 ≤ g.st ∧ g.st ≤ 1000 ∧ g.got.length ≤ 1000 := by
  have h1 := h.st
  have h2 := h.len
  omega
end Go.Proofs.YtlejohclijjhnaaGreatDoor.Fm
namespace Go.Proofs.YtlejohclijjhnaaGreatDoor.Fm
open Go.RowKit Ti Qd Go.Maps Go.WideMaps Ru

theorem info_f : (Tryz.prog.info? 47).map (fun i => (i.zero, i.size, i.bytes)) = some (some (.agg #[.int .i64 0, .int .i64 0, .int .i64 0, .slice none 0 0]), 4, 48) := by kernel_rfl
theorem Bs.topv {B P room b l G M : Nat} {s : MS} {w0 w : World} {H0 : Nat → Prop} {bx : List (Nat × Obj)} {f : Fr} {r : List Fr} (h : Bs (Mc B P room b l G M s) w0 H0 bx w) (hU : s.U = f :: r) : ∃ bu cap hv, w.cell? ⟨G, 3, none⟩ = some (.slice (some ⟨bu, 0, none⟩) (r.length + 1) cap) ∧ r.length + 1 ≤ cap ∧ cap ≤ 9223372036854775807 ∧ w.cell? ⟨bu, r.length * 4, none⟩ = some (.int .i64 f.id) ∧ w.cell? ⟨bu, r.length * 4 + 1, none⟩ = some (.int .i64 f.j) ∧ w.cell? ⟨bu, r.length * 4 + 2, none⟩ = some (.int .i64 f.st) ∧ w.cell? ⟨bu, r.length * 4 + 3, none⟩ = some hv ∧ LiesI w hv f.got := by
  obtain ⟨H, h1, _, h3⟩ := h.call
  exact h1.topv hU
/-- what a step begins with -/
structure StepW (room b l : Nat) (s : MS) (f : Fr) (r : List Fr) (n : Nat) : Prop where
  ok : SOk b l s
  u : s.U = f :: r
  fo : FOk b l s.L f n
  m : mayR b l = true
  r6 : room ≤ 65536
  len : r.length ≤ 36
  all : ∀ g ∈ f :: r, 0 ≤ g.st ∧ g.st ≤ 1000 ∧ g.got.length ≤ 1000
set_option maxRecDepth 100000 in
set_option maxHeartbeats 4000000 in
theorem step_not {B P room b l G M : Nat} {s : MS} {w : World} {H : Nat → Prop} (h : Mc B P room b l G M s w H) (hB : B ≤ w.heap.size) (f : Fr) (r : List Fr) (n : Nat) (hs : StepW room b l s f r n) (hn : nextP s.L f = none)
    (hr : (put s.L (endQ b l s.L f)).length ≤ room) :
    Calls Tryz.prog 24 #[.pointer (some ⟨G, 0, none⟩)] w fun e w' => e = .returned .nilIface ∧ Goz (Mc B P room b l G M (endU b l s.L s.K f s.out r)) w H w' := by
  have HT := Lib.hid (fun s => mc_fpt B P room b l G M s)
  have HS := Lib.hid (Bs.start h)
  obtain ⟨bu, cap, hv, c3, c4, c5, d0, d1, d2, d3, hl⟩ := h.topv hs.u
  have hl2 := hl
  obtain ⟨ah, ch, rfl, _⟩ := hl2
  have HLI := Lib.hid hl
  have HW := Lib.hid (And.intro hs (And.intro hn (And.intro hr hB)))
  have hm := hs.len
  clear h hs hn hr hB hl
  generalize hmm : r.length = m at *
  have HM := Lib.hid hmm
  clear hmm
  have e1 : IntKind.i64.wrap (((m + 1 : Nat) : Int) - 1) = (m : Int) := by
    rw [show ((m + 1 : Nat) : Int) - 1 = (m : Int) by omega]
    exact IntWalk.i64_in _ (by omega)
  have e4 : IntKind.i64.wrap (m : Int) = (m : Int) := IntWalk.i64_in _ (by omega)
  have e5 : ((m : Int)).toNat = m := by omega
  have e2 : (0 : Int) ≤ (m : Int) := by omega
  have e3 : (m : Int) < ((m + 1 : Nat) : Int) := by omega
  have c3' := cell_al (.cells #[.int .i64 0, .int .i64 0, .int .i64 0, .slice none 0 0] 47) c3
  have d0' := cell_al (.cells #[.int .i64 0, .int .i64 0, .int .i64 0, .slice none 0 0] 47) d0
  have d1' := cell_al (.cells #[.int .i64 0, .int .i64 0, .int .i64 0, .slice none 0 0] 47) d1
  have d2' := cell_al (.cells #[.int .i64 0, .int .i64 0, .int .i64 0, .slice none 0 0] 47) d2
  have d3' := cell_al (.cells #[.int .i64 0, .int .i64 0, .int .i64 0, .slice none 0 0] 47) d3
  go_enter Tryz.func24, Tryz.ntmps24
  go_upto_region 1 with (fail)
  go_region
  all_goals
    have HS1 : Hid (Bs (Mc B P room b l G M s) w H [(w.heap.size, fo f (.slice ah f.got.length ch))] (w.alloc (.cells #[.int .i64 f.id, .int .i64 f.j, .int .i64 f.st, .slice ah f.got.length ch] 47)).drew) := Lib.hid ((HS.out.alloc (HT.out s) (fo f (.slice ah f.got.length ch)) rfl).drew (HT.out s))
    have hl1 := HLI.out.bel (show Below w.heap.size w (w.alloc (.cells #[.int .i64 f.id, .int .i64 f.j, .int .i64 f.st, .slice ah f.got.length ch] 47)).drew from (alX w _).drew)
    have HLI1 := Lib.hid hl1
    clear hl1 c3 d0 d1 d2 d3 c3' d0' d1' d2' d3' e1 e2 e3 e4 e5 HS
    generalize World.drew _ = W1 at *
    obtain ⟨a0, a1, a2, a3⟩ := row4 HS1.out.b0
    obtain ⟨Hs1, k1, _⟩ := HS1.out.store
    have HNX := Lib.hid (next_not k1 HS1.out.cells.1 f (.slice ah f.got.length ch) n HW.out.1.fo HW.out.2.1)
    clear k1
    go_upto_region 2 with (fail)
    go_wp2_with fail
    refine HNX.out.mono ?_
    rintro e w2 ⟨rfl, hb⟩
    have HS2 := Lib.hid ((HS1.out.below (HT.out s) hb).alloc (HT.out s) (po 0 0 0 0 0 false) rfl)
    have HLI2 := Lib.hid (HLI1.out.bel (hb.trans ((alX w2 (po 0 0 0 0 0 false)).mono hb.size)))
    clear hb a0 a1 a2 a3 HNX HS1
    go_upto_region 3 with (fail)
    generalize World.alloc _ _ = W2 at HS2 HLI2 ⊢
    obtain ⟨a0, a1, a2, a3⟩ := row4 HS2.out.b1
    obtain ⟨H3, k1, _, k3⟩ := HS2.out.call
    have hsz := HS2.out.size
    have HEN := Lib.hid (end_f k1 HW.out.1.m (by have := HW.out.2.2.2; omega) f r HW.out.1.u (.slice ah f.got.length ch) n HW.out.1.fo HW.out.2.1 HLI2.out HW.out.2.2.1 HW.out.1.r6 (by have := HW.out.1.len; omega) (fun g hg => HW.out.1.all g (List.mem_cons_of_mem _ hg)))
    have HN := Lib.hid k3
    clear k1 k3 hsz
    go_wp2_with fail
    refine HEN.out.mono ?_
    rintro e w3 ⟨rfl, hg⟩
    have HS3 := Lib.hid (HN.out _ _ hg)
    clear hg
    go_wp2
    go_ret
    exact ⟨rfl, HS3.out.out⟩
end Go.Proofs.YtlejohclijjhnaaGreatDoor.Fm
namespace Go.Proofs.YtlejohclijjhnaaGreatDoor.Fm
open Go.RowKit Ti Qd Go.Maps Go.WideMaps Ru

theorem IsPre.length_le {α : Type} {a c : List α} (h : a <+: c) : a.length ≤ c.length := h.length_le
set_option maxRecDepth 100000 in
set_option maxHeartbeats 6000000 in
theorem step_still {B P room b l G M : Nat} {s : MS} {w : World} {H : Nat → Prop} (h : Mc B P room b l G M s w H) (hB : B ≤ w.heap.size) (f : Fr) (r : List Fr) (n : Nat) (hs : StepW room b l s f r n) (x : Pa) (hn : nextP s.L f = some x) (hst : x.still = true)
    (hr : (partU s.L s.K f r s.out x).L.length ≤ room) :
    Calls Tryz.prog 24 #[.pointer (some ⟨G, 0, none⟩)] w fun e w' => e = .returned .nilIface ∧ Goz (Mc B P room b l G M (partU s.L s.K f r s.out x)) w H w' := by
  have hfo := hs.fo
  obtain ⟨mm, rfl, hlt, hx⟩ := next_inv hfo hn
  have hi : Inv s.L := hs.ok.kn.inv
  have h36 := hfo.n36
  have hl4 : ∀ i, i < 4 → Lv s.L mm (x.f i) := fun i h4 => by rw [hx]; exact part_lv hi hfo hlt i h4
  have H4 := Lib.hid (four_of hl4)
  have HKL := Lib.hid (And.intro (join_lv hl4) (And.intro (join_inv hi (by omega) hl4) h36))
  have HXJ := Lib.hid (And.intro (rj_bd hfo) hx)
  have hr1 : (put s.L (pjQ s.L x)).length ≤ room := by
    unfold partU at hr
    rw [if_pos hst] at hr
    exact Nat.le_trans (ctr_ok (b := b) (l := l) (join_inv hi (by omega) hl4) (show mm ≤ 36 by omega) (join_lv hl4)).1.length_le hr
  have HR2 : Hid ((ctrG (put s.L (pjQ s.L x), K0) (nr s.L (pjQ s.L x))).1.1.length ≤ room) := Lib.hid (by
    unfold partU at hr
    rw [if_pos hst] at hr
    exact hr)
  have HSTL := Lib.hid hst
  clear hfo hlt hx hi h36 hl4 hst
  have HT := Lib.hid (fun s => mc_fpt B P room b l G M s)
  have HS := Lib.hid (Bs.start h)
  obtain ⟨bu, cap, hv, c3, c4, c5, d0, d1, d2, d3, hl⟩ := h.topv hs.u
  have hl2 := hl
  obtain ⟨ah, ch, rfl, _⟩ := hl2
  have HLI := Lib.hid hl
  have HW := Lib.hid (And.intro hs (And.intro hn (And.intro hr1 hB)))
  have hm := hs.len
  clear h hs hn hr hr1 hB hl
  generalize hmm : r.length = m at *
  have HM := Lib.hid hmm
  clear hmm
  have e1 : IntKind.i64.wrap (((m + 1 : Nat) : Int) - 1) = (m : Int) := by
    rw [show ((m + 1 : Nat) : Int) - 1 = (m : Int) by omega]
    exact IntWalk.i64_in _ (by omega)
  have e4 : IntKind.i64.wrap (m : Int) = (m : Int) := IntWalk.i64_in _ (by omega)
  have e5 : ((m : Int)).toNat = m := by omega
  have e2 : (0 : Int) ≤ (m : Int) := by omega
  have e3 : (m : Int) < ((m + 1 : Nat) : Int) := by omega
  have c3' := cell_al (.cells #[.int .i64 0, .int .i64 0, .int .i64 0, .slice none 0 0] 47) c3
  have d0' := cell_al (.cells #[.int .i64 0, .int .i64 0, .int .i64 0, .slice none 0 0] 47) d0
  have d1' := cell_al (.cells #[.int .i64 0, .int .i64 0, .int .i64 0, .slice none 0 0] 47) d1
  have d2' := cell_al (.cells #[.int .i64 0, .int .i64 0, .int .i64 0, .slice none 0 0] 47) d2
  have d3' := cell_al (.cells #[.int .i64 0, .int .i64 0, .int .i64 0, .slice none 0 0] 47) d3
  go_enter Tryz.func24, Tryz.ntmps24
  go_upto_region 1 with (fail)
  go_region
  all_goals
    have HS1 : Hid (Bs (Mc B P room b l G M s) w H [(w.heap.size, fo f (.slice ah f.got.length ch))] (w.alloc (.cells #[.int .i64 f.id, .int .i64 f.j, .int .i64 f.st, .slice ah f.got.length ch] 47)).drew) := Lib.hid ((HS.out.alloc (HT.out s) (fo f (.slice ah f.got.length ch)) rfl).drew (HT.out s))
    have hl1 := HLI.out.bel (show Below w.heap.size w (w.alloc (.cells #[.int .i64 f.id, .int .i64 f.j, .int .i64 f.st, .slice ah f.got.length ch] 47)).drew from (alX w _).drew)
    clear c3 d0 d1 d2 d3 c3' d0' d1' d2' d3' e1 e2 e3 e4 e5 HS
    generalize World.drew _ = W1 at *
    obtain ⟨a0, a1, a2, a3⟩ := row4 HS1.out.b0
    obtain ⟨Hs1, k1, _⟩ := HS1.out.store
    have HNX := Lib.hid (next_yes k1 HS1.out.cells.1 f (.slice ah f.got.length ch) (mm + 1) HW.out.1.fo hl1 x HW.out.2.1)
    clear k1 hl1
    obtain ⟨x0, hx0⟩ : ∃ y, y = x.f 0 := ⟨_, rfl⟩
    obtain ⟨x1, hx1⟩ : ∃ y, y = x.f 1 := ⟨_, rfl⟩
    obtain ⟨x2, hx2⟩ : ∃ y, y = x.f 2 := ⟨_, rfl⟩
    obtain ⟨x3, hx3⟩ : ∃ y, y = x.f 3 := ⟨_, rfl⟩
    have H4x : Hid (Four s.L x0 x1 x2 x3 (mm + 3)) := by rw [hx0, hx1, hx2, hx3]; exact H4
    have HNX : Hid (Calls Tryz.prog 34 #[.pointer (some ⟨G, 0, none⟩), fv f (.slice ah f.got.length ch)] W1 fun e w' => e = .returned (.tuple #[pv x0 x1 x2 x3 x.j x.still, .bool true, .nilIface]) ∧ Below W1.heap.size W1 w') := by rw [hx0, hx1, hx2, hx3]; exact HNX
    have HQ := Lib.hid (show pjQ s.L x = joinQ s.L x0 x1 x2 x3 by rw [hx0, hx1, hx2, hx3]; rfl)
    clear hx0 hx1 hx2 hx3
    go_upto_region 2 with (fail)
    go_wp2_with fail
    refine HNX.out.mono ?_
    rintro e w2 ⟨rfl, hb⟩
    have HS2 := Lib.hid ((HS1.out.below (HT.out s) hb).alloc (HT.out s) (po x0 x1 x2 x3 x.j x.still) rfl)
    clear hb a0 a1 a2 a3 HNX HS1
    go_upto_region 3 with (fail)
    generalize hg4 : w2.heap.size = g4 at *
    clear hg4
    generalize World.alloc _ _ = W2 at HS2 ⊢
    go_upto_region 7 with (fail)
    have HD := Lib.hid (HS2.out.drew (HT.out s))
    have KD := Lib.hid (And.intro HD.out.cells.1 (row6 HD.out.b0).1)
    obtain ⟨Hs2, k1, k2⟩ := HD.out.store
    have HNO := Lib.hid (node_ok k1 x0 x1 x2 x3 (mm + 3) H4x.out (by have := HKL.out.2.2; omega) (by rw [← HQ.out]; exact HW.out.2.2.1))
    have HGO := Lib.hid k2
    clear k1 k2 HS2
    go_region_held3 (fun w' => w'.cell? ⟨G, 0, none⟩ = some (.pointer (some ⟨P, 0, none⟩)) ∧ w'.cell? ⟨g4, 0, none⟩ = some (.int .i64 x0) ∧ w'.cell? ⟨g4, 1, none⟩ = some (.int .i64 x1) ∧ w'.cell? ⟨g4, 2, none⟩ = some (.int .i64 x2) ∧ w'.cell? ⟨g4, 3, none⟩ = some (.int .i64 x3) ∧ w'.cell? ⟨g4, 4, none⟩ = some (.int .i64 x.j) ∧ w'.cell? ⟨g4, 5, none⟩ = some (.bool x.still)) (first | with_reducible exact KD.out | with_reducible exact ks)
      (first
        | (go_at_call 36; (with_reducible refine HNO.out.mono ?_); rintro e w3 ⟨rfl, hg⟩; have HS3 := Lib.hid (HGO.out _ _ hg); have ks := And.intro HS3.out.cells.1 (row6 HS3.out.b0).1; clear hg))
    rename_i hHH
    clear ks KD HD HNO HGO hHH
    have HL1 := Lib.hid (show put s.L (joinQ s.L x0 x1 x2 x3) = put s.L (pjQ s.L x) by rw [HQ.out])
    have HK1 := Lib.hid (show nr s.L (joinQ s.L x0 x1 x2 x3) = nr s.L (pjQ s.L x) by rw [HQ.out])
    rw [HL1.out] at HS3
    rw [HK1.out]
    clear H4x HL1 HK1 HQ
    generalize hL1 : put s.L (pjQ s.L x) = L1 at *
    generalize hk1 : nr s.L (pjQ s.L x) = k at *
    have HPU : Hid (partU s.L s.K f r s.out x = if x.still = true then stillU L1 s.K f r s.out k else goU L1 s.K f r s.out k x.j (s.K k x.j)) := Lib.hid (by rw [← hL1, ← hk1]; rfl)
    clear hL1 hk1
    obtain ⟨⟨p0, p1, p2, p3, p4, p5⟩, _⟩ := row6 HS3.out.b0
    rw [HSTL.out] at p5
    obtain ⟨H3, k1, _, k3⟩ := HS3.out.call
    have hsz := HS3.out.size
    have HMI := Lib.hid (middle_f k1 HW.out.1.m (by have := HW.out.2.2.2; omega) k mm (by have := HKL.out.2.2; omega) HKL.out.1 HR2.out)
    have HN := Lib.hid k3
    have HPS := Lib.hid (show partU s.L s.K f r s.out x = ⟨(ctrG (L1, K0) k).1.1, s.K, take f (ctrG (L1, K0) k).2 :: r, s.out⟩ from by rw [HPU.out, if_pos HSTL.out]; rfl)
    clear k1 k3 hsz HR2 HPU
    simp only at HMI
    generalize ctrG (L1, K0) k = c at *
    go_wp2_with fail
    refine HMI.out.mono ?_
    rintro e w4 ⟨rfl, hg⟩
    have HS4 := Lib.hid (HN.out _ _ hg)
    clear hg p0 p1 p2 p3 p4 p5 HS3 HMI HN
    obtain ⟨H4', k1, _, k3⟩ := HS4.out.call
    have hsz := HS4.out.size
    have hfs := HW.out.1.all f (by simp)
    have HTK := Lib.hid (take_f k1 f r HW.out.1.u c.2 hfs.1 hfs.2.1 hfs.2.2 (by have := HW.out.1.len; omega) (by have := HW.out.2.2.2; omega))
    have HN := Lib.hid k3
    clear k1 k3 hsz hfs
    go_wp2_with fail
    refine HTK.out.mono ?_
    rintro e w5 ⟨rfl, hg⟩
    have HS5 := Lib.hid (HN.out _ _ hg)
    clear hg
    go_wp2
    go_ret
    refine ⟨rfl, ?_⟩
    rw [HPS.out]
    exact HS5.out.out
end Go.Proofs.YtlejohclijjhnaaGreatDoor.Fm
namespace Go.Proofs.YtlejohclijjhnaaGreatDoor.Fm
open Go.RowKit Ti Qd Go.Maps Go.WideMaps Ru

abbrev nilS : Value := .slice none 0 0
abbrev nf (k j : Int) : Fr := ⟨k, j, 0, []⟩
abbrev nfo (k j : Int) : Obj := .cells #[.int .i64 k, .int .i64 j, .int .i64 0, .slice none 0 0] 47
theorem cells4n (w : World) (k j : Int) : ∀ i u, (fcs (nf k j, nilS))[i]? = some u → (w.alloc (nfo k j)).cell? ((⟨w.heap.size, 0, none⟩ : Addr).add i) = some u := by
  intro i u hu
  rcases i with _ | _ | _ | _ | i <;> simp [fcs, nilS] at hu <;> subst hu <;> simp [Addr.add]
theorem fcs_one (x : FH) (h : ∃ a n c, x.2 = .slice a n c) : ∀ u ∈ fcs x, u.oneCell' = true := by
  obtain ⟨a, n, c, h⟩ := h
  intro u hu
  unfold fcs at hu
  rw [h] at hu
  simp at hu
  rcases hu with rfl | rfl | rfl | rfl <;> rfl
theorem Mach.push {B : Nat} {w w2 : World} {P b l G M : Nat} {uv v' : Value} {us : List FH} {gr : Option (Nat × Nat)} {K : Kn} {out : Int} (k : Mach B w P b l G M uv us gr K out) (q j : Int) (hg : w.grownBy w2 uv.ownBlock) (ho : OwnF w2 B v' (us ++ [(nf q j, nilS)])) (hat : v'.ownBlock = uv.ownBlock ∨ ∃ x, v'.ownBlock = some x ∧ w.heap.size ≤ x) :
    Mach B (w2.setCell ⟨G, 3, none⟩ v') P b l G M v' (us ++ [(nf q j, nilS)]) gr K out := by
  have hn : ownU (us ++ [(nf q j, nilS)]) = ownU us := by rw [ownU_snoc]; simp [ownV, Value.ownBlock]
  refine k.set3 (fun y hy hne => hg.block y (k.lt hy).2 fun e => hne e.symm) ho (fun x hx => ?_) ?_ (fun x hx he => ?_)
  · rcases List.mem_append.1 hx with hx | hx
    · refine own_moved (k.got x hx) fun y hy => hg.block y ((k.got x hx).lt y hy).2 fun e => k.uvR (x := y) (List.mem_append_left _ ?_) e.symm
      unfold ownU
      rw [List.mem_flatMap]
      exact ⟨x, hx, mem_ownV.2 hy⟩
    · rw [List.mem_singleton] at hx
      subst hx
      exact World.ownsRow_nil _ _ _ _
  · have hnd := k.nd
    rw [ownL_uv] at hnd ⊢
    rw [hn]
    refine nd_new hnd (ownV_or hat (fun x hx => (k.lt ?_).2) (fun x hx => (k.lt ?_).2))
    · rw [ownL_uv]
      exact List.mem_append_left _ hx
    · rw [ownL_uv]
      exact List.mem_append_right _ (List.mem_append_right _ hx)
  · rcases List.mem_append.1 hx with hx | hx
    · exact k.gn x hx he
    · rw [List.mem_singleton] at hx
      subst hx
      rfl
/-- append of a frame, and the store of its slice -/
theorem Mc.push {B P room b l G M : Nat} {s : MS} {w : World} {H : Nat → Prop} (h : Mc B P room b l G M s w H) (hB : B ≤ w.heap.size) (hlen : s.U.length ≤ 1000) (q j : Int) :
    ∃ ao cap ao' cap' w2, w.cell? ⟨G, 3, none⟩ = some (.slice ao s.U.length cap) ∧
      (Builtin.append_ #[40, 40] 40 #[.slice ao s.U.length cap, .slice (some ⟨w.heap.size, 0, none⟩) 1 1]).run Tryz.prog (w.alloc (nfo q j)) = .ok (.slice ao' (s.U.length + 1) cap') w2 ∧
      w2.cell? ⟨G, 3, none⟩ = some (.slice ao s.U.length cap) ∧ w2.frozen? ⟨G, 3, none⟩ = false ∧ Goz (Mc B P room b l G M ⟨s.L, s.K, nf q j :: s.U, s.out⟩) w H (w2.setCell ⟨G, 3, none⟩ (.slice ao' (s.U.length + 1) cap')) := by
  obtain ⟨uv, us, gr, Hs, k1, k2, k3, k4, rfl⟩ := h
  have hl : us.length = s.U.length := by
    have := congrArg List.length k3
    simpa using this
  have hr := k2.row
  obtain ⟨ao, cap, rfl⟩ := own_form hr
  obtain ⟨i, hi, z0, z1, z2⟩ := info_of info_f
  obtain ⟨v', w2, a1, a2, a3, _, a5⟩ := run_append_own_at (w.alloc (nfo q j)) B 40 40 47 i (.agg #[.int .i64 0, .int .i64 0, .int .i64 0, .slice none 0 0]) 4 48 Tryz.underlying40 hi z0 z1 z2 rfl (by decide) (.slice ao us.length cap) us.length (fls us) (hr.alloc _) ⟨w.heap.size, 0, none⟩ 1 1 (fcs (nf q j, nilS)) rfl (cells4n w q j) (fcs_one _ ⟨none, 0, 0, rfl⟩) (by unfold maxLen; omega) (by omega) (by simp; omega)
  obtain ⟨ao', cap', rfl⟩ := own_form a2
  have hg : w.grownBy w2 (Value.slice ao us.length cap).ownBlock := (World.grownBy_alloc w _ _).trans a3
  have ho : OwnF w2 B (.slice ao' (us.length + 1) cap') (us ++ [(nf q j, nilS)]) := by
    unfold OwnF
    rw [fls_snoc, List.length_append]
    exact a2
  have hat : (Value.slice ao' (us.length + 1) cap').ownBlock = (Value.slice ao us.length cap).ownBlock ∨ ∃ x, (Value.slice ao' (us.length + 1) cap').ownBlock = some x ∧ w.heap.size ≤ x := a5.imp (fun e => e) fun e => ⟨_, e, by simp⟩
  have km := k2.push q j hg ho hat
  have hG := hg.block G (k2.lt own_G).2 fun e => k2.uvG.1 e.symm
  rw [hl] at a1 km hat hg
  have c3 := k2.c3
  rw [hl] at c3
  have hown : ∀ x, (Value.slice ao us.length cap).ownBlock = some x → x ∈ ownL G M (.slice ao us.length cap) us gr := fun x hx => own_u hx
  refine ⟨ao, cap, ao', cap', w2, c3, a1, (World.cell?_of_block (a := ⟨G, 3, none⟩) hG).trans c3, (World.frozen?_of_block (a := ⟨G, 3, none⟩) hG).trans (k2.fz 3), Mc.change (s' := ⟨s.L, s.K, nf q j :: s.U, s.out⟩) k1 k4 km rfl ?_ hg.os hg.tape hg.output (by simpa using hg.size) (fun x hx hn => ?_) (fun x hx => ?_)⟩
  · rw [List.map_append, k3]
    exact (List.reverse_cons).symm
  · have nx : ¬ x = G := fun e => hn (by rw [e]; exact own_G)
    exact (Go.RowKit.Below.heap_setCell _ _ _ _ nx).trans (hg.block x hx fun e => hn (own_u (by rw [hl]; exact e.symm)))
  · rcases own_in hx with e | e | e | ⟨z, hz, e⟩ | ⟨z, hz, e⟩
    · exact .inl (e ▸ own_G)
    · exact .inl (e ▸ own_M)
    · rcases hat with p | ⟨y, p, hy⟩
      · exact .inl (own_u (by rw [hl]; exact p.symm.trans e))
      · rw [p] at e
        injection e with e
        exact .inr (by omega)
    · rcases List.mem_append.1 hz with hz | hz
      · exact .inl (own_h hz e)
      · rw [List.mem_singleton] at hz
        subst hz
        cases e
    · rcases e with e | e
      · exact .inl (e ▸ (own_g hz).1)
      · exact .inl (e ▸ (own_g hz).2)
end Go.Proofs.YtlejohclijjhnaaGreatDoor.Fm

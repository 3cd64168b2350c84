/-
  WALK of end: the uppermost frame ends. Conditions: it has no part more; there is room.
  next, in the words of plain data; how many frames stand upon each other. Conditions: the frame is one that can be.
  WALK of step. Conditions: something is under way, which can be; there is room.
-/
import Derived.Test.YtkefjkfknegogaaGreatP37
namespace Go.Proofs.YtkefjkfknegogaaGreat.Fm
open Go.RowKit Ti Qd Go.Maps Go.WideMaps Ru

theorem whole_f {B P room b l G M : Nat} {s : MS} {w : World} {H : Nat → Prop} (h : Mc B P room b l G M s w H) (hm : mayR b l = true) (f : Fr) (hv : Value) (n : Nat) (hf : FOk b l s.L f n) (hn : nextP s.L f = none) (hl : LiesI w hv f.got)
    (hr : (put s.L (endQ b l s.L f)).length ≤ room) :
    Calls Tryz.prog 52 #[.pointer (some ⟨G, 0, none⟩), fv f hv] w fun e w' => e = .returned (.tuple #[.int .i64 (nr s.L (endQ b l s.L f)), .nilIface]) ∧ Goz (Mc B P room b l G M ⟨put s.L (endQ b l s.L f), s.K, s.U, s.out⟩) w H w' := by
  rcases end_len hf hn with rfl | ⟨m, rfl, h13⟩
  · have hj := hf.j1
    exact whole_low h hm f hv hf.lv f.j.toNat (j_cast hf.j0).symm (by omega) (by rw [hf.st, hf.low rfl]; rfl) hr
  · exact whole_13 h f hv m hf h13 hl hr
section
variable {B P room b l G M : Nat} {s : MS} {w0 w w' : World} {H0 : Nat → Prop} {bx : List (Nat × Obj)}
theorem Bs.noted {K' : Kn} (h : Bs (Mc B P room b l G M s) w0 H0 bx w) (hk : Fk.KAt w' M K') (hg : w.grownBy w' (some M)) : Bs (Mc B P room b l G M ⟨s.L, K', s.U, s.out⟩) w0 H0 bx w' := by
  obtain ⟨H, h1, _, h3⟩ := h.call
  exact h3 _ _ (h1.noted hk hg)
theorem Bs.set4 (h : Bs (Mc B P room b l G M s) w0 H0 bx w) (o : Int) : Bs (Mc B P room b l G M ⟨s.L, s.K, s.U, o⟩) w0 H0 bx (w.setCell ⟨G, 4, none⟩ (.int .i64 o)) := by
  obtain ⟨H, h1, _, h3⟩ := h.call
  exact h3 _ _ (h1.set4 o)
theorem Bs.pop {f : Fr} {r : List Fr} (h : Bs (Mc B P room b l G M s) w0 H0 bx w) (hU : s.U = f :: r) : ∃ bu cap, w.cell? ⟨G, 3, none⟩ = some (.slice (some ⟨bu, 0, none⟩) (r.length + 1) cap) ∧ r.length + 1 ≤ cap ∧ cap ≤ 9223372036854775807 ∧ Bs (Mc B P room b l G M ⟨s.L, s.K, r, s.out⟩) w0 H0 bx (w.setCell ⟨G, 3, none⟩ (.slice (some ⟨bu, 0, none⟩) r.length cap)) := by
  obtain ⟨H, h1, _, h3⟩ := h.call
  obtain ⟨bu, cap, c1, c2, c3, c4⟩ := h1.pop hU
  exact ⟨bu, cap, c1, c2, c3, h3 _ _ c4⟩
theorem Bs.under (h : Bs (Mc B P room b l G M s) w0 H0 bx w) : ∃ ao cap, w.cell? ⟨G, 3, none⟩ = some (.slice ao s.U.length cap) ∧ s.U.length ≤ cap ∧ cap ≤ 9223372036854775807 := by
  obtain ⟨H, h1, _, h3⟩ := h.call
  exact h1.under
theorem Bs.fz (h : Bs (Mc B P room b l G M s) w0 H0 bx w) (i : Nat) : w.frozen? ⟨G, i, none⟩ = false := by
  obtain ⟨H, h1, _, h3⟩ := h.call
  exact h1.fz i
theorem Bs.size {T : World → (Nat → Prop) → Prop} (h : Bs T w0 H0 bx w) : w0.heap.size ≤ w.heap.size := by
  obtain ⟨⟨H, h1, h2, h3⟩, _⟩ := h
  exact h2.size
end
def endR (q : List Sq) (K : Kn) (o : Int) (out : Int) : List Fr → MS
  | [] => ⟨q, K, [], o⟩
  | g :: r => ⟨q, K, take g o :: r, out⟩
theorem end_r (b l : Nat) (L : List Sq) (K : Kn) (f : Fr) (out : Int) (r : List Fr) : endU b l L K f out r = endR (put L (endQ b l L f)) (K.note f.id f.j (nr L (endQ b l L f))) (nr L (endQ b l L f)) out r := by
  cases r <;> rfl
set_option maxRecDepth 100000 in
set_option maxHeartbeats 4000000 in
theorem end_f {B P room b l G M : Nat} {s : MS} {w : World} {H : Nat → Prop} (h : Mc B P room b l G M s w H) (hm : mayR b l = true) (hB : B ≤ w.heap.size) (f : Fr) (r : List Fr) (hU : s.U = f :: r) (hv : Value) (n : Nat) (hf : FOk b l s.L f n) (hn : nextP s.L f = none) (hl : LiesI w hv f.got)
    (hr : (put s.L (endQ b l s.L f)).length ≤ room) (h6 : room ≤ 65536) (hlen : r.length ≤ 100) (hst : ∀ g ∈ r, 0 ≤ g.st ∧ g.st ≤ 1000 ∧ g.got.length ≤ 1000) :
    Calls Tryz.prog 37 #[.pointer (some ⟨G, 0, none⟩), fv f hv] w fun e w' => e = .returned .nilIface ∧ Goz (Mc B P room b l G M (endU b l s.L s.K f s.out r)) w H w' := by
  have HT := Lib.hid (fun s => mc_fpt B P room b l G M s)
  have HS := Lib.hid ((Bs.start h).alloc (HT.out s) (fo f hv) rfl)
  obtain ⟨H1, h1, _, h3⟩ := HS.out.call
  have HW := Lib.hid (whole_f h1 hm f hv n hf hn (hl.bel (alX w (fo f hv))) hr)
  have HN := Lib.hid h3
  have hid : 1 ≤ f.id ∧ f.id ≤ 65536 := by
    have h1 := hf.lv.1
    have h2 := (put_len s.L (endQ b l s.L f)).1
    unfold Ok at h1
    omega
  have hj : 0 ≤ f.j ∧ f.j ≤ 40 := by
    have h0 := hf.j0
    have h1 := hf.j1
    have h2 := hf.n36
    omega
  have ho : I1 (nr s.L (endQ b l s.L f)) := by
    have := put_ok s.L (endQ b l s.L f)
    unfold Ok at this
    unfold I1
    omega
  have HK := Lib.hid (And.intro hid (And.intro hj ho))
  have HST := Lib.hid (And.intro hst (And.intro hB hlen))
  obtain ⟨L, K, U, out⟩ := s
  simp only at *
  subst hU
  obtain ⟨c0, c1, c2, c3⟩ := row4 HS.out.b0
  clear h h1 h3 hm hf hn hl hr h6 hid hj ho hst hlen hB
  have hout : ∃ q o, q = put L (endQ b l L f) ∧ o = nr L (endQ b l L f) := ⟨_, _, rfl, rfl⟩
  obtain ⟨q, o, hq, ho⟩ := hout
  rw [end_r, ← hq, ← ho]
  rw [← hq, ← ho] at HW
  rw [← ho] at HK
  clear hq ho
  obtain ⟨id, j, st, got⟩ := f
  simp only at *
  go_enter Tryz.func37, Tryz.ntmps37
  go_upto_region 1 with (fail)
  generalize World.alloc _ _ = W at *
  go_wp2_with fail
  refine HW.out.mono ?_
  rintro e w1 ⟨rfl, hg⟩
  have HS1 := Lib.hid (HN.out _ _ hg)
  clear hg c0 c1 c2 c3 HS HW HN
  have c5 := HS1.out.cells.2.2.2.2.1
  obtain ⟨b0, b1, b2, b3⟩ := row4 HS1.out.b0
  obtain ⟨w2, l0, k0, k1⟩ := Fk.ask_note (HS1.out.drew (HT.out _)).cells.2.2.2.2.2 HK.out.1 HK.out.2.1 HK.out.2.2
  unfold Fk.av at l0
  have HS2 := Lib.hid ((HS1.out.drew (HT.out _)).noted k0 k1)
  clear k0 k1
  go_upto_region 4 with (fail)
  go_region
  clear c5 b0 b1 b2 b3 l0 HS1
  obtain ⟨bu, cap, d1, d2, d3, d4⟩ := HS2.out.pop rfl
  have HS3 := Lib.hid (d4.drew (HT.out _))
  have f3 := HS2.out.fz 3
  have c3 : w2.cell? ⟨G, 3, none⟩ = some (.slice (some ⟨bu, 0, none⟩) (r.length + 1) cap) := d1
  clear d4 d1
  generalize hm : r.length = m at *
  have HM := Lib.hid hm
  clear hm
  have e1 : IntKind.i64.wrap (((m + 1 : Nat) : Int) - 1) = (m : Int) := by
    have := HST.out.2.2
    rw [show ((m + 1 : Nat) : Int) - 1 = (m : Int) by omega]
    exact IntWalk.i64_in _ (by omega)
  have e2 : (0 : Int) ≤ (m : Int) := by omega
  have e3 : (m : Int) ≤ (cap : Int) := by omega
  have e4 : (cap : Int) ≤ 9223372036854775807 := by omega
  go_upto_region 5 with (fail)
  go_region
  clear c3 f3 HS2 e1 e3
  go_upto_region 6 with (fail)
  generalize World.drew _ = W3 at HS3 ⊢
  obtain ⟨ao, cp, c3a, _, _⟩ := HS3.out.under
  cases hr : r with
  | nil =>
    have HRE := Lib.hid hr
    have hz : m = 0 := by rw [← HM.out, hr]; rfl
    clear hr
    subst hz
    have c3 : W3.cell? ⟨G, 3, none⟩ = some (.slice ao 0 cp) := by
      have := c3a
      rw [show List.length _ = 0 from HM.out] at this
      exact this
    clear c3a
    have c4 := HS3.out.cells.2.2.2.1
    have f4 := HS3.out.fz 4
    have HS4 := Lib.hid (HS3.out.set4 o)
    clear HS3
    go_wp2
    go_ret
    refine ⟨rfl, ?_⟩
    have := HS4.out.out
    rw [HRE.out] at this ⊢
    exact this
  | cons g r' =>
    have HRE := Lib.hid hr
    have hml : m = r'.length + 1 := by rw [← HM.out, hr]; rfl
    have c3 : W3.cell? ⟨G, 3, none⟩ = some (.slice ao (r'.length + 1) cp) := by
      have := c3a
      rw [show List.length _ = r'.length + 1 from HM.out.trans hml] at this
      exact this
    clear c3a
    have hz : ((((r'.length : Int) + 1)) == 0) = false := by rw [beq_eq_false_iff_ne]; omega
    obtain ⟨H2, k1, _, k3⟩ := HS3.out.call
    have hw := HS3.out.size
    have hs := HST.out.1 g (by rw [hr]; simp)
    have HTK := Lib.hid (take_f k1 g r' hr o hs.1 hs.2.1 hs.2.2 (by have := HST.out.2.2; have := HM.out; omega) (by have := HST.out.2.1; omega))
    have HN3 := Lib.hid k3
    clear k1 k3 hw hs HS3 hr hml
    go_wp2_with fail
    refine HTK.out.mono ?_
    rintro e w4 ⟨rfl, hg⟩
    have HS4 := Lib.hid (HN3.out _ _ hg)
    clear hg
    go_wp2
    go_ret
    refine ⟨rfl, ?_⟩
    have := HS4.out.out
    rw [HRE.out]
    exact this
end Go.Proofs.YtkefjkfknegogaaGreat.Fm
namespace Go.Proofs.YtkefjkfknegogaaGreat.Fm
open Go.RowKit Ti Qd Go.Maps Go.WideMaps Ru

abbrev pvx (x : Pa) : Value := pv (x.f 0) (x.f 1) (x.f 2) (x.f 3) x.j x.still
theorem next_not {B : Nat} {w : World} {P b l : Nat} {L : List Sq} {room : Nat} {Hs : Nat → Prop} {G : Nat} (hst : St B w P L room Hs) (hc : w.cell? ⟨G, 0, none⟩ = some (.pointer (some ⟨P, 0, none⟩))) (f : Fr) (h : Value) (n : Nat) (hf : FOk b l L f n) (hn : nextP L f = none) :
    Calls Tryz.prog 36 #[.pointer (some ⟨G, 0, none⟩), fv f h] w fun e w' => e = .returned (.tuple #[pv 0 0 0 0 0 false, .bool false, .nilIface]) ∧ Below w.heap.size w w' := by
  refine next_none_f hst hc f h _ hf.lv.1 rfl ?_
  rw [hf.lev]
  unfold parts
  rcases end_len hf hn with rfl | ⟨m, rfl, h13⟩
  · rw [if_pos (by decide), hf.st, hf.low rfl]; rfl
  · rw [if_neg (by omega), hf.st, h13]; rfl
theorem next_yes {B : Nat} {w : World} {P b l : Nat} {L : List Sq} {room : Nat} {Hs : Nat → Prop} {G : Nat} (hst : St B w P L room Hs) (hc : w.cell? ⟨G, 0, none⟩ = some (.pointer (some ⟨P, 0, none⟩))) (f : Fr) (h : Value) (n : Nat) (hf : FOk b l L f n) (hl : LiesI w h f.got) (x : Pa) (hx : nextP L f = some x) :
    Calls Tryz.prog 36 #[.pointer (some ⟨G, 0, none⟩), fv f h] w fun e w' => e = .returned (.tuple #[pvx x, .bool true, .nilIface]) ∧ Below w.heap.size w w' := by
  obtain ⟨m, rfl, hlt, rfl⟩ := next_inv hf hx
  have hlev : (at' L f.id).lev = (m : Int) + 5 := by rw [hf.lev]; omega
  have h36 := hf.n36
  have h0 := hf.j0
  have h1 := hf.j1
  have hs := hf.st
  unfold paP
  by_cases k9 : f.got.length < 9
  · rw [if_pos k9]
    by_cases hj : f.j = m + 3
    · have e1 : rj ((m : Int) + 5) f.j = f.j - 1 := if_pos (by omega)
      have e2 : (!decide (f.j = (m : Int) + 3)) = false := by rw [decide_eq_true hj]; rfl
      rw [e1, e2]
      exact next_go_f hst hc f h _ hf.lv.1 hlev (by omega) (by omega) m hf.lv f.got.length k9 hs (by omega) (by omega) h0 (by omega)
    · have e1 : rj ((m : Int) + 5) f.j = f.j := if_neg (by omega)
      have e2 : (!decide (f.j = (m : Int) + 3)) = true := by rw [decide_eq_false hj]; rfl
      rw [e1, e2]
      exact next_still_f hst hc f h _ hf.lv.1 hlev (by omega) (by omega) m hf.lv f.got.length k9 hs (by omega) (by omega) h0 (by omega)
  · rw [if_neg k9]
    by_cases hj : f.j = m + 3
    · have e1 : rj ((m : Int) + 5) f.j = f.j - 1 := if_pos (by omega)
      rw [e1]
      exact next_far_f hst hc f h _ hf.lv.1 hlev (by omega) (by omega) f.got hl (f.got.length - 9) (by omega) (by omega) (by rw [hs]; omega) (by omega) h0 (by omega)
    · have e1 : rj ((m : Int) + 5) f.j = f.j := if_neg (by omega)
      rw [e1]
      exact next_near_f hst hc f h _ hf.lv.1 hlev (by omega) (by omega) f.got hl (f.got.length - 9) (by omega) (by omega) (by rw [hs]; omega) (by omega) h0 (by omega)
theorem stk_len {b l : Nat} {L : List Sq} (hi : Inv L) : ∀ (r : List Fr) (f : Fr) (n : Nat), Stk b l L (f :: r) → FOk b l L f n → n + r.length ≤ 36
  | [], f, n, _, hf => by have := hf.n36; simpa using this
  | g :: r, f, n, h, hf => by
    obtain ⟨_, hfo, ht⟩ := (show (∃ n, FOk b l L f n) ∧ Fol L g f ∧ Stk b l L (g :: r) from h)
    obtain ⟨q, hg⟩ := Stk.top ht
    obtain ⟨e, _⟩ := hfo.lev hi hg hf
    have := stk_len hi r g q ht hg
    rw [List.length_cons]
    omega
theorem stk_all {b l : Nat} {L : List Sq} : ∀ (r : List Fr), Stk b l L r → ∀ g ∈ r, ∃ n, FOk b l L g n
  | [], _, g, hg => by cases hg
  | f :: r, h, g, hg => by
    rcases List.mem_cons.1 hg with e | e
    · subst e
      exact Stk.top h
    · exact stk_all r (Stk.rest h) g e
theorem fok_small {b l : Nat} {L : List Sq} {g : Fr} {n : Nat} (h : FOk b l L g n) : 0 ≤ g.st ∧ g.st ≤ 1000 ∧ g.got.length ≤ 1000 := by
  have h1 := h.st
  have h2 := h.len
  omega
end Go.Proofs.YtkefjkfknegogaaGreat.Fm
namespace Go.Proofs.YtkefjkfknegogaaGreat.Fm
open Go.RowKit Ti Qd Go.Maps Go.WideMaps Ru

theorem info_f : (Tryz.prog.info? 79).map (fun i => (i.zero, i.size, i.bytes)) = some (some (.agg #[.int .i64 0, .int .i64 0, .int .i64 0, .slice none 0 0]), 4, 48) := by kernel_rfl
theorem Bs.topv {B P room b l G M : Nat} {s : MS} {w0 w : World} {H0 : Nat → Prop} {bx : List (Nat × Obj)} {f : Fr} {r : List Fr} (h : Bs (Mc B P room b l G M s) w0 H0 bx w) (hU : s.U = f :: r) : ∃ bu cap hv, w.cell? ⟨G, 3, none⟩ = some (.slice (some ⟨bu, 0, none⟩) (r.length + 1) cap) ∧ r.length + 1 ≤ cap ∧ cap ≤ 9223372036854775807 ∧ w.cell? ⟨bu, r.length * 4, none⟩ = some (.int .i64 f.id) ∧ w.cell? ⟨bu, r.length * 4 + 1, none⟩ = some (.int .i64 f.j) ∧ w.cell? ⟨bu, r.length * 4 + 2, none⟩ = some (.int .i64 f.st) ∧ w.cell? ⟨bu, r.length * 4 + 3, none⟩ = some hv ∧ LiesI w hv f.got := by
  obtain ⟨H, h1, _, h3⟩ := h.call
  exact h1.topv hU
/-- what a step begins with -/
structure StepW (room b l : Nat) (s : MS) (f : Fr) (r : List Fr) (n : Nat) : Prop where
  ok : SOk b l s
  u : s.U = f :: r
  fo : FOk b l s.L f n
  m : mayR b l = true
  r6 : room ≤ 65536
  len : r.length ≤ 36
  all : ∀ g ∈ f :: r, 0 ≤ g.st ∧ g.st ≤ 1000 ∧ g.got.length ≤ 1000
set_option maxRecDepth 100000 in
set_option maxHeartbeats 4000000 in
theorem step_not {B P room b l G M : Nat} {s : MS} {w : World} {H : Nat → Prop} (h : Mc B P room b l G M s w H) (hB : B ≤ w.heap.size) (f : Fr) (r : List Fr) (n : Nat) (hs : StepW room b l s f r n) (hn : nextP s.L f = none)
    (hr : (put s.L (endQ b l s.L f)).length ≤ room) :
    Calls Tryz.prog 24 #[.pointer (some ⟨G, 0, none⟩)] w fun e w' => e = .returned .nilIface ∧ Goz (Mc B P room b l G M (endU b l s.L s.K f s.out r)) w H w' := by
  have HT := Lib.hid (fun s => mc_fpt B P room b l G M s)
  have HS := Lib.hid (Bs.start h)
  obtain ⟨bu, cap, hv, c3, c4, c5, d0, d1, d2, d3, hl⟩ := h.topv hs.u
  have hl2 := hl
  obtain ⟨ah, ch, rfl, _⟩ := hl2
  have HLI := Lib.hid hl
  have HW := Lib.hid (And.intro hs (And.intro hn (And.intro hr hB)))
  have hm := hs.len
  clear h hs hn hr hB hl
  generalize hmm : r.length = m at *
  have HM := Lib.hid hmm
  clear hmm
  have e1 : IntKind.i64.wrap (((m + 1 : Nat) : Int) - 1) = (m : Int) := by
    rw [show ((m + 1 : Nat) : Int) - 1 = (m : Int) by omega]
    exact IntWalk.i64_in _ (by omega)
  have e4 : IntKind.i64.wrap (m : Int) = (m : Int) := IntWalk.i64_in _ (by omega)
  have e5 : ((m : Int)).toNat = m := by omega
  have e2 : (0 : Int) ≤ (m : Int) := by omega
  have e3 : (m : Int) < ((m + 1 : Nat) : Int) := by omega
  have c3' := cell_al (.cells #[.int .i64 0, .int .i64 0, .int .i64 0, .slice none 0 0] 79) c3
  have d0' := cell_al (.cells #[.int .i64 0, .int .i64 0, .int .i64 0, .slice none 0 0] 79) d0
  have d1' := cell_al (.cells #[.int .i64 0, .int .i64 0, .int .i64 0, .slice none 0 0] 79) d1
  have d2' := cell_al (.cells #[.int .i64 0, .int .i64 0, .int .i64 0, .slice none 0 0] 79) d2
  have d3' := cell_al (.cells #[.int .i64 0, .int .i64 0, .int .i64 0, .slice none 0 0] 79) d3
  go_enter Tryz.func24, Tryz.ntmps24
  go_upto_region 1 with (fail)
  go_region
  all_goals
    have HS1 : Hid (Bs (Mc B P room b l G M s) w H [(w.heap.size, fo f (.slice ah f.got.length ch))] (w.alloc (.cells #[.int .i64 f.id, .int .i64 f.j, .int .i64 f.st, .slice ah f.got.length ch] 79)).drew) := Lib.hid ((HS.out.alloc (HT.out s) (fo f (.slice ah f.got.length ch)) rfl).drew (HT.out s))
    have hl1 := HLI.out.bel (show Below w.heap.size w (w.alloc (.cells #[.int .i64 f.id, .int .i64 f.j, .int .i64 f.st, .slice ah f.got.length ch] 79)).drew from (alX w _).drew)
    have HLI1 := Lib.hid hl1
    clear hl1 c3 d0 d1 d2 d3 c3' d0' d1' d2' d3' e1 e2 e3 e4 e5 HS
    generalize World.drew _ = W1 at *
    obtain ⟨a0, a1, a2, a3⟩ := row4 HS1.out.b0
    obtain ⟨Hs1, k1, _⟩ := HS1.out.store
    have HNX := Lib.hid (next_not k1 HS1.out.cells.1 f (.slice ah f.got.length ch) n HW.out.1.fo HW.out.2.1)
    clear k1
    go_upto_region 2 with (fail)
    go_wp2_with fail
    refine HNX.out.mono ?_
    rintro e w2 ⟨rfl, hb⟩
    have HS2 := Lib.hid ((HS1.out.below (HT.out s) hb).alloc (HT.out s) (po 0 0 0 0 0 false) rfl)
    have HLI2 := Lib.hid (HLI1.out.bel (hb.trans ((alX w2 (po 0 0 0 0 0 false)).mono hb.size)))
    clear hb a0 a1 a2 a3 HNX HS1
    go_upto_region 3 with (fail)
    generalize World.alloc _ _ = W2 at HS2 HLI2 ⊢
    obtain ⟨a0, a1, a2, a3⟩ := row4 HS2.out.b1
    obtain ⟨H3, k1, _, k3⟩ := HS2.out.call
    have hsz := HS2.out.size
    have HEN := Lib.hid (end_f k1 HW.out.1.m (by have := HW.out.2.2.2; omega) f r HW.out.1.u (.slice ah f.got.length ch) n HW.out.1.fo HW.out.2.1 HLI2.out HW.out.2.2.1 HW.out.1.r6 (by have := HW.out.1.len; omega) (fun g hg => HW.out.1.all g (List.mem_cons_of_mem _ hg)))
    have HN := Lib.hid k3
    clear k1 k3 hsz
    go_wp2_with fail
    refine HEN.out.mono ?_
    rintro e w3 ⟨rfl, hg⟩
    have HS3 := Lib.hid (HN.out _ _ hg)
    clear hg
    go_wp2
    go_ret
    exact ⟨rfl, HS3.out.out⟩
end Go.Proofs.YtkefjkfknegogaaGreat.Fm

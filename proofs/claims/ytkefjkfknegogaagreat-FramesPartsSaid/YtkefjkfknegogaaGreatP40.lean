/-
  WALKS of step, in the words of plain data, of Run, Out, New and Begin. Conditions: the machine lies in memory; there is room.
  WALKS of Out, New and Begin. Conditions: the machine, or the store, lies in memory.
  WALK of Begin. Conditions: nothing is under way; the square can go on so far.
-/
import Derived.Test.YtkefjkfknegogaaGreatP39
namespace Go.Proofs.YtkefjkfknegogaaGreat.Fm
open Go.RowKit Ti Qd Go.Maps Go.WideMaps Ru

theorem step_f {B P room b l G M : Nat} {s : MS} {w : World} {H : Nat → Prop} (h : Mc B P room b l G M s w H) (hB : B ≤ w.heap.size) (hok : SOk b l s) (hu : s.U ≠ []) (hm : mayR b l = true) (h6 : room ≤ 65536) (hr : (stepF b l s).L.length ≤ room) :
    Calls Tryz.prog 24 #[.pointer (some ⟨G, 0, none⟩)] w fun e w' => e = .returned .nilIface ∧ Goz (Mc B P room b l G M (stepF b l s)) w H w' := by
  match e : s.U with
  | [] => exact absurd e hu
  | f :: r =>
    have es : stepF b l s = stepU b l s.L s.K f r s.out (nextP s.L f) := by
      obtain ⟨L, K, U, out⟩ := s
      simp only at e
      subst e
      rfl
    have hst := hok.stk
    rw [e] at hst
    obtain ⟨n, hf⟩ := Stk.top hst
    have hl := stk_len hok.kn.inv r f n hst hf
    have sw : StepW room b l s f r n := ⟨hok, e, hf, hm, h6, by omega, fun g hg => by
      obtain ⟨q, hq⟩ := stk_all _ hst g hg
      exact fok_small hq⟩
    rw [es] at hr ⊢
    cases hn : nextP s.L f with
    | none =>
      rw [hn] at hr
      have e2 : (stepU b l s.L s.K f r s.out none).L = put s.L (endQ b l s.L f) := by
        cases r <;> rfl
      rw [e2] at hr
      exact step_not h hB f r n sw hn hr
    | some x =>
      rw [hn] at hr
      by_cases hs : x.still = true
      · exact step_still h hB f r n sw x hn hs hr
      · have hs : x.still = false := by simpa using hs
        cases hk : s.K (nr s.L (pjQ s.L x)) x.j with
        | some o => exact step_known h hB f r n sw x hn hs o hk hr
        | none => exact step_push h hB f r n sw x hn hs hk hr
theorem run_next {b l k : Nat} {s s' : MS} (h : runF b l k s = (k, s')) (hu : s'.U ≠ []) : runF b l (k + 1) s = (k + 1, stepF b l s') := by
  rw [runF_add, h]
  simp only
  rw [runF_succ b l 0 hu]
  simp [runF]
theorem run_stop {b l k n : Nat} {s s' : MS} (h : runF b l k s = (k, s')) (hn : k ≤ n) (hu : s'.U = [] ∨ k = n) : runF b l n s = (k, s') := by
  obtain ⟨d, rfl⟩ : ∃ d, n = k + d := ⟨n - k, by omega⟩
  rw [runF_add, h]
  simp only
  rcases hu with hu | hu
  · rw [runF_nil b l d hu]
    simp
  · obtain rfl : d = 0 := by omega
    simp [runF]
theorem run_mid {b l k n : Nat} {s s' : MS} (hok : SOk b l s) (h : runF b l k s = (k, s')) (hn : k ≤ n) : SOk b l s' ∧ s'.L <+: (runF b l n s).2.L := by
  have h1 := run_ok k hok
  rw [h] at h1
  obtain ⟨d, rfl⟩ : ∃ d, n = k + d := ⟨n - k, by omega⟩
  have h2 := run_ok d h1.ok
  rw [runF_add, h]
  exact ⟨h1.ok, h2.ext⟩
set_option maxRecDepth 100000 in
set_option maxHeartbeats 4000000 in
theorem run_f {B P room b l G M : Nat} {s : MS} {w : World} {H : Nat → Prop} (h : Mc B P room b l G M s w H) (hB : B ≤ w.heap.size) (hok : SOk b l s) (hu : s.U ≠ []) (hm : mayR b l = true) (h6 : room ≤ 65536) (n : Int) (hn : n ≤ 100000000) (hr : (runF b l n.toNat s).2.L.length ≤ room) :
    Calls Tryz.prog 9 #[.pointer (some ⟨G, 0, none⟩), .int .i64 n] w fun e w' => e = .returned (.tuple #[.int .i64 ((runF b l n.toNat s).1 : Nat), .nilIface]) ∧ Goz (Mc B P room b l G M (runF b l n.toNat s).2) w H w' := by
  have HS := Lib.hid (Bs.start h)
  have HW := Lib.hid (And.intro hok (And.intro hm (And.intro h6 (And.intro hr hB))))
  obtain ⟨ao, cp, c3, c4, c5⟩ := h.under
  have hlu : ¬ s.U.length = 0 := fun e => hu (List.eq_nil_of_length_eq_zero e)
  generalize hun : s.U.length = un at *
  have hz : ((un : Int) == 0) = false := by rw [beq_eq_false_iff_ne]; omega
  clear h hok hu hm h6 hr hB hun hlu
  go_enter Tryz.func9, Tryz.ntmps9
  go_wp2
  clear c3 hz
  go_loopw [6] (fun v wr => ∃ (k : Nat) (s' : MS), runF b l k s = (k, s') ∧ k ≤ n.toNat ∧ v = .int .i64 (k : Int) ∧ Hid (Bs (Mc B P room b l G M s') w H [] wr)) (fun v _ => (n - intOf v).toNat)
  case atStart => exact ⟨0, s, rfl, Nat.zero_le _, rfl, HS⟩
  case round =>
    clear HS
    obtain ⟨k, s', hk, hkn, rfl, HR⟩ := hrel
    by_cases hlt : (k : Int) < n
    · cases hu : s'.U with
      | nil =>
        obtain ⟨ao, cp, c3, _, _⟩ := HR.out.under
        rw [hu] at c3
        have c3 : wr.cell? ⟨G, 3, none⟩ = some (.slice ao 0 cp) := c3
        have HE := Lib.hid (run_stop hk hkn (.inl hu))
        clear hk hkn hu
        go_wp2
        go_ret2
        rw [HE.out]
        exact ⟨rfl, HR.out.out⟩
      | cons f r =>
        obtain ⟨ao, cp, c3, _, _⟩ := HR.out.under
        rw [hu] at c3
        have c3 : wr.cell? ⟨G, 3, none⟩ = some (.slice ao (r.length + 1) cp) := c3
        have hne : s'.U ≠ [] := by rw [hu]; simp
        have hkn1 : k + 1 ≤ n.toNat := by omega
        obtain ⟨m1, _⟩ := run_mid HW.out.1 hk hkn
        have hnx := run_next hk hne
        obtain ⟨_, m3⟩ := run_mid HW.out.1 hnx hkn1
        obtain ⟨H1, k1, _, k3⟩ := HR.out.call
        have hsz := HR.out.size
        have HST := Lib.hid (step_f k1 (by have := HW.out.2.2.2.2; omega) m1 hne HW.out.2.1 HW.out.2.2.1 (Nat.le_trans m3.length_le HW.out.2.2.2.1))
        have HN := Lib.hid k3
        have HE := Lib.hid (And.intro hnx hkn1)
        have hpos : (0 : Int) < (r.length : Int) + 1 := by omega
        have hk64 : (k : Int) ≤ 100000000 := by omega
        clear hk hkn hu hne hkn1 m1 hnx m3 k1 k3 hsz HR
        go_wp2_with fail
        refine HST.out.mono ?_
        rintro e w2 ⟨rfl, hg⟩
        have HR2 := Lib.hid (HN.out _ _ hg)
        clear hg c3
        go_wp2
        go_roundw
        case rel => exact ⟨k + 1, _, HE.out.1, HE.out.2, by go_num, HR2⟩
        case measure => simp [intOf]; omega
    · have hle : n ≤ (k : Int) := by omega
      have HE := Lib.hid (run_stop hk hkn (.inr (by omega)))
      have hd : decide ((k : Int) < n) = false := decide_eq_false hlt
      clear hk hkn hlt
      go_wp2
      go_ret2
      rw [HE.out]
      exact ⟨rfl, HR.out.out⟩
end Go.Proofs.YtkefjkfknegogaaGreat.Fm
namespace Go.Proofs.YtkefjkfknegogaaGreat.Fm
open Go.RowKit Ti Qd Go.Maps Go.WideMaps Ru

set_option maxRecDepth 100000 in
theorem out_f {B P room b l G M : Nat} {s : MS} {w : World} {H : Nat → Prop} (h : Mc B P room b l G M s w H) (c : Bool) (hc : (s.out != 0) = c) :
    Calls Tryz.prog 12 #[.pointer (some ⟨G, 0, none⟩)] w fun e w' => e = .returned (.tuple #[.int .i64 s.out, .bool c]) ∧ Below w.heap.size w w' := by
  have c4 := h.cells.2.2.2.1
  have HC := Lib.hid hc
  clear h hc
  generalize s.out = o at *
  go_enter Tryz.func12, Tryz.ntmps12
  go_upto_region 3 with (fail)
  go_quiet (fail)
  go_wp2
  go_ret2
  rw [← HC.out]
  exact ⟨rfl, Below.drewN' (Below.refl _ _) nq⟩
/-- a machine, newly made -/
def NewM (w : World) (P b l : Nat) (e : Ending) (w' : World) : Prop := ∃ G M, e = .returned (.tuple #[.pointer (some ⟨G, 0, none⟩), .nilIface]) ∧ w.heap.size ≤ G ∧ w.heap.size ≤ M ∧ Below w.heap.size w w' ∧ ∀ B, B ≤ w.heap.size → Mach B w' P b l G M nilS [] none (fun _ _ => none) 0
abbrev mo (P b l M : Nat) : Obj := .cells #[.pointer (some ⟨P, 0, none⟩), .int .u16 b, .int .u16 l, .slice none 0 0, .int .i64 0, .map (some M), .int .u32 0, .int .i32 0, .int .u32 0, .pointer none] 74
theorem newm_of {w w1 : World} (P b l : Nat) (hb : Below w.heap.size w w1) :
    NewM w P b l (.returned (.tuple #[.pointer (some ⟨w1.heap.size + 1, 0, none⟩), .nilIface])) ((w1.alloc (.map #[] 0)).alloc (mo P b l w1.heap.size)) := by
  have h1 := alX w1 (.map #[] 0)
  have h2 := alX (w1.alloc (.map #[] 0)) (mo P b l w1.heap.size)
  have hc : ((w1.alloc (.map #[] 0)).alloc (mo P b l w1.heap.size)).heap[w1.heap.size + 1]? = some (mo P b l w1.heap.size) := by
    have := heap_alloc_new (w1.alloc (.map #[] 0)) (mo P b l w1.heap.size)
    simpa using this
  have hbb := hb.trans ((h1.trans (h2.mono (by simp))).mono hb.size)
  have hz := hb.size
  have c := fun i => cell_of_row _ (w1.heap.size + 1) i _ _ _ hc
  have f := fun i => frozen_of_row _ (w1.heap.size + 1) i _ _ hc
  refine ⟨w1.heap.size + 1, w1.heap.size, rfl, by omega, hz, hbb, fun B hB => ⟨c 0, c 1, c 2, c 3, c 4, c 5, c 6, c 7, c 9, f, ⟨.map [], [], ((World.ownsMap_made (H := Unit) w1 Tryz.prog 110 (plainElem Tryz.prog 3)).alloc _), Fk.mpA_nil, List.nodup_nil, by simp, by simp⟩, World.ownsRow_nil _ _ _ _, (fun x hx => by cases hx), (fun x hx => by cases hx), ?_, by omega, by omega, (fun x hx => by cases hx)⟩⟩
  simp [ownL, ownV, ownU, grL, Value.ownBlock]
set_option maxRecDepth 100000 in
set_option maxHeartbeats 1000000 in
theorem mnew_f (P b l : Nat) (hm : mayR b l = true) (w : World) :
    Calls Tryz.prog 10 #[.pointer (some ⟨P, 0, none⟩), Rv b l] w (NewM w P b l) := by
  have HC := Lib.hid (fun w => check_ok b l hm w)
  have HM := Lib.hid (fun (w1 : World) (hb : Below w.heap.size w w1) => newm_of P b l hb)
  clear hm
  unfold Rv at HC ⊢
  have HB := Lib.hid (alX w (.cells #[.int .u16 b, .int .u16 l] 44))
  obtain ⟨c0, c1⟩ := two_cells (heap_alloc_new w (.cells #[.int .u16 b, .int .u16 l] 44))
  have HR := Lib.hid (heap_alloc_new w (.cells #[.int .u16 b, .int .u16 l] 44))
  have hmm := @run_makeMap Tryz.prog
  go_enter Tryz.func10, Tryz.ntmps10
  go_wp2_with fail
  refine (HC.out _).mono ?_
  rintro e w1 ⟨rfl, hb⟩
  have HB1 := Lib.hid (HB.out.trans (hb.mono HB.out.size))
  obtain ⟨c0, c1⟩ := two_cells ((hb.block _ (lt_of_block HR.out)).trans HR.out)
  clear hb
  go_wp2
  go_ret2
  exact HM.out _ HB1.out
theorem Mc.made {B w0 P room b l G M L K out} {w : World} {Hs : Nat → Prop} (h : St B w P L room Hs) (k : Mach B w P b l G M nilS [] none K out) (hG : w0 ≤ G) (hM : w0 ≤ M) (hH : ∀ x, Hs x → x < w0) : Mc B P room b l G M ⟨L, K, [], out⟩ w (fun x => x ∈ ownL G M nilS [] none ∨ Hs x) := by
  refine ⟨nilS, [], none, Hs, h, k, rfl, fun x hx hs => ?_, rfl⟩
  have := hH x hs
  simp [ownL, ownV, ownU, grL, Value.ownBlock] at hx
  rcases hx with rfl | rfl <;> omega
/-- what is under way is another -/
theorem Mc.laid {B P room b l G M : Nat} {s : MS} {w w2 : World} {H : Nat → Prop} (h : Mc B P room b l G M s w H) {v' : Value} {us' : List FH} (U' : List Fr) (hb : Below w.heap.size w w2) (hrow : OwnF w2 w.heap.size v' us') (hgot : ∀ x ∈ us', OwnI w2 w.heap.size x.2 x.1.got) (hnd : (ownV v' ++ ownU us').Nodup) (hgn : ∀ x ∈ us', x.1.got = [] → x.2 = .slice none 0 0) (hU : us'.map Prod.fst = U'.reverse) (hB : B ≤ w.heap.size) :
    Goz (Mc B P room b l G M ⟨s.L, s.K, U', s.out⟩) w H (w2.setCell ⟨G, 3, none⟩ v') := by
  obtain ⟨uv, us, gr, Hs, k1, k2, k3, k4, rfl⟩ := h
  have hbl : ∀ y ∈ ownL G M uv us gr, w2.heap[y]? = w.heap[y]? := fun y hy => hb.block y (k2.lt hy).2
  have hv : ∀ x ∈ ownV v', w.heap.size ≤ x := fun x hx => (hrow.lt x (mem_ownV.1 hx)).1
  have hu : ∀ x ∈ ownU us', w.heap.size ≤ x := fun x hx => by
    unfold ownU at hx
    rw [List.mem_flatMap] at hx
    obtain ⟨z, hz, hx⟩ := hx
    exact ((hgot z hz).lt x (mem_ownV.1 hx)).1
  have hnd0 := k2.nd
  have hnd2 : (ownL G M v' us' gr).Nodup := by
    have e : ownL G M v' us' gr = [G, M] ++ ((ownV v' ++ ownU us') ++ grL gr) := by simp [ownL]
    have e0 : ownL G M uv us gr = [G, M] ++ ((ownV uv ++ ownU us) ++ grL gr) := by simp [ownL]
    rw [e]
    rw [e0] at hnd0
    obtain ⟨a1, a2, a3, a4, a5, a6⟩ := nd_split hnd0
    have ls : ∀ x, x ∈ ownL G M uv us gr → x < w.heap.size := fun x hx => (k2.lt hx).2
    have lg : ∀ x ∈ [G, M], x < w.heap.size := fun x hx => ls x (by rw [e0]; exact List.mem_append_left _ hx)
    have lc : ∀ x ∈ grL gr, x < w.heap.size := fun x hx => ls x (by rw [e0]; exact List.mem_append_right _ (List.mem_append_right _ hx))
    have hi : ∀ x ∈ ownV v' ++ ownU us', w.heap.size ≤ x := fun x hx => (List.mem_append.1 hx).elim (hv x) (hu x)
    exact nd_join a1 hnd a3 (fun x hx q => by have := lg x hx; have := hi x q; omega) a5 (fun x hx q => by have := lc x q; have := hi x hx; omega)
  have mono : ∀ {e s v n xs}, w2.ownsRow w.heap.size e s v n xs → w2.ownsRow B e s v n xs := fun h => by
    refine ⟨h.1, h.2.imp id ?_⟩
    rintro ⟨g, cap, cur, e1, e2, e3⟩
    exact ⟨g, cap, cur, e1, Nat.le_trans hB e2, e3⟩
  have km := k2.set3 (w2 := w2) (fun y hy _ => hbl y hy) (mono hrow) (fun x hx => mono (hgot x hx)) hnd2 hgn
  refine Mc.change (s' := ⟨s.L, s.K, U', s.out⟩) k1 k4 km rfl hU hb.os hb.tape hb.output (by simpa using hb.size) (fun x hx hn => ?_) (fun x hx => ?_)
  · have nx : ¬ x = G := fun e => hn (by rw [e]; exact own_G)
    exact (Go.RowKit.Below.heap_setCell _ _ _ _ nx).trans (hb.block x hx)
  · rcases own_in hx with e | e | e | ⟨z, hz, e⟩ | ⟨z, hz, e⟩
    · exact .inl (e ▸ own_G)
    · exact .inl (e ▸ own_M)
    · exact .inr (hv x (mem_ownV.2 e))
    · exact .inr (hu x (by unfold ownU; rw [List.mem_flatMap]; exact ⟨z, hz, mem_ownV.2 e⟩))
    · rcases e with e | e
      · exact .inl (e ▸ (own_g hz).1)
      · exact .inl (e ▸ (own_g hz).2)
set_option maxRecDepth 100000 in
set_option maxHeartbeats 2000000 in
/-- start, of a list that the call has made -/
theorem start_f {B P room b l G M : Nat} {s : MS} {w W : World} {H : Nat → Prop} (h : Mc B P room b l G M s w H) {ao : Option Addr} {n cap : Nat} {us' : List FH} (U' : List Fr) (hb : Below w.heap.size w W) (hrow : OwnF W w.heap.size (.slice ao n cap) us') (hgot : ∀ x ∈ us', OwnI W w.heap.size x.2 x.1.got) (hnd : (ownV (.slice ao n cap) ++ ownU us').Nodup) (hgn : ∀ x ∈ us', x.1.got = [] → x.2 = .slice none 0 0) (hU : us'.map Prod.fst = U'.reverse) (hB : B ≤ w.heap.size) :
    Calls Tryz.prog 22 #[.pointer (some ⟨G, 0, none⟩), .slice ao n cap] W fun e w' => e = .returned (.tuple #[]) ∧ Goz (Mc B P room b l G M ⟨s.L, s.K, U', 0⟩) w H w' := by
  obtain ⟨a3, p3, c3, _, _⟩ := h.under
  have c4 := h.cells.2.2.2.1
  have f3 := h.fz 3
  have f4 := h.fz 4
  have hG := World.block_lt_of_cell? w _ c3
  have d3 := (World.cell?_of_block (a := ⟨G, 3, none⟩) (hb.block G hG)).trans c3
  have d4 := (World.cell?_of_block (a := ⟨G, 4, none⟩) (hb.block G hG)).trans c4
  have e3 := (World.frozen?_of_block (a := ⟨G, 3, none⟩) (hb.block G hG)).trans f3
  have e4 := (World.frozen?_of_block (a := ⟨G, 4, none⟩) (hb.block G hG)).trans f4
  obtain ⟨H1, k1, k2⟩ := h.laid U' hb hrow hgot hnd hgn hU hB
  obtain ⟨H2, j1, j2⟩ := k1.set4 0
  have HE := Lib.hid (And.intro j1 (k2.trans j2))
  clear h hb hrow hgot hnd hgn hU hB c3 c4 f3 f4 hG k1 k2 j1 j2
  go_enter Tryz.func22, Tryz.ntmps22
  go_wp2
  go_end0
  exact ⟨rfl, _, HE.out.1, HE.out.2⟩
end Go.Proofs.YtkefjkfknegogaaGreat.Fm
namespace Go.Proofs.YtkefjkfknegogaaGreat.Fm
open Go.RowKit Ti Qd Go.Maps Go.WideMaps Ru

theorem own_nf {W : World} {g : Nat} {k j : Int} {B : Nat} (hg : W.heap[g]? = some (nfo k j)) (hB : B ≤ g) : OwnF W B (.slice (some ⟨g, 0, none⟩) 1 1) [(nf k j, nilS)] :=
  ⟨rfl, .inr ⟨g, 1, _, rfl, hB, hg, Nat.le_refl _, by unfold maxLen; omega, rfl, rfl⟩⟩
set_option maxRecDepth 100000 in
set_option maxHeartbeats 2000000 in
theorem begin_f {B P room b l G M : Nat} {s : MS} {w : World} {H : Nat → Prop} (h : Mc B P room b l G M s w H) (hB : B ≤ w.heap.size) (hu : s.U = []) (id j : Int) (n : Nat) (hn : n ≤ 36) (hl : Lv s.L (n + 1) id) (h0 : 0 ≤ j) (h1 : j ≤ n + 2) :
    Calls Tryz.prog 7 #[.pointer (some ⟨G, 0, none⟩), .int .i64 id, .int .i64 j] w fun e w' => e = .returned .nilIface ∧ Goz (Mc B P room b l G M ⟨s.L, s.K, [nf id j], 0⟩) w H w' := by
  obtain ⟨ao, cp, c3, _, _⟩ := h.under
  rw [hu] at c3
  have c3 : w.cell? ⟨G, 3, none⟩ = some (.slice ao 0 cp) := c3
  have c0 := h.cells.1
  obtain ⟨Hs, k1, _⟩ := h.store
  have hlev : (at' s.L id).lev = (n : Int) + 4 := by rw [hl.2]; omega
  have HL := Lib.hid (level_is k1 id hl.1 _ hlev)
  have hgo : goB ((n : Int) + 4) j = true := decide_eq_true (by omega)
  have HG := Lib.hid (fun w => goesOn_f ((n : Int) + 4) j (by omega) (by omega) w)
  rw [hgo] at HG
  have HST := Lib.hid (fun (W : World) (hb : Below w.heap.size w W) (g : Nat) (hg : W.heap[g]? = some (nfo id j)) (hs : w.heap.size ≤ g) => start_f h [nf id j] hb (own_nf hg hs) (by intro x hx; rw [List.mem_singleton] at hx; subst hx; exact World.ownsRow_nil _ _ _ _) (by simp [ownV, ownU, Value.ownBlock]) (by intro x hx _; rw [List.mem_singleton] at hx; subst hx; rfl) rfl hB)
  clear h hB hu hl h0 h1 k1 hlev hgo
  generalize (n : Int) + 4 = lev at *
  go_enter Tryz.func7, Tryz.ntmps7
  go_wp2_with fail
  refine HL.out.mono ?_
  rintro e w1 ⟨rfl, hb⟩
  have HB := Lib.hid hb
  clear hb c3 c0
  go_wp2_with fail
  refine (HG.out _).mono ?_
  rintro e w2 ⟨rfl, rfl⟩
  have HW := Lib.hid (HST.out (w1.alloc (nfo id j)) (HB.out.trans ((alX w1 _).mono HB.out.size)) w1.heap.size (heap_alloc_new w1 _) HB.out.size)
  clear HST
  go_wp2_with fail
  refine HW.out.mono ?_
  rintro e w3 ⟨rfl, hg⟩
  have HE := Lib.hid hg
  clear hg
  go_wp2
  go_ret
  exact ⟨rfl, HE.out⟩
end Go.Proofs.YtkefjkfknegogaaGreat.Fm

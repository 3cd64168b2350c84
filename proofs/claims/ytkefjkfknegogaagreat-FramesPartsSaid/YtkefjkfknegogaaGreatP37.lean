/-
  WALK of middle, whole: the middle of a square as it is. Conditions: the machine lies in memory, the square is of level 4 or above, there is room.
  WHAT BECOMES OF A MACHINE IN MEMORY, more: another slice of what is under way, another answer, more that is remembered. Conditions: the machine lies in memory.
-/
import Derived.Test.YtkefjkfknegogaaGreatP36
namespace Go.Proofs.YtkefjkfknegogaaGreat.Fm
open Go.RowKit Ti Qd Go.Maps Go.WideMaps Ru

theorem Mach.regr {B : Nat} {w w' : World} {P b l G M : Nat} {uv : Value} {us : List FH} {K : Kn} {out : Int} {x : Nat × Nat} (k : Mach B w P b l G M uv us (some x) K out) (hb : ∀ y ∈ ownL G M uv us (some x), ¬ y = x.2 → w'.heap[y]? = w.heap[y]?) (hg : GrA w' P b l x) : Mach B w' P b l G M uv us (some x) K out := by
  have hnd := k.nd
  have e : ownL G M uv us (some x) = (G :: M :: (ownV uv ++ ownU us)) ++ [x.1, x.2] := by simp [ownL, grL]
  rw [e] at hnd hb
  rw [List.nodup_append] at hnd
  obtain ⟨_, _, h3⟩ := hnd
  have mv : ∀ y ∈ G :: M :: (ownV uv ++ ownU us), w'.heap[y]? = w.heap[y]? := fun y hy => hb y (List.mem_append_left _ hy) (h3 y hy x.2 (by simp))
  have hG := mv G (by simp)
  have c := fun i => World.cell?_of_block (w := w) (w' := w') (a := ⟨G, i, none⟩) hG
  exact ⟨(c 0).trans k.c0, (c 1).trans k.c1, (c 2).trans k.c2, (c 3).trans k.c3, (c 4).trans k.c4, (c 5).trans k.c5, (c 6).trans k.c6, (c 7).trans k.c7, (c 9).trans k.c9, fun i => (World.frozen?_of_block hG).trans (k.fz i), k.kn.moved (mv M (by simp)), own_moved k.row fun y hy => mv y (by simp [mem_ownV, hy]), fun z hz => own_moved (k.got z hz) fun y hy => mv y (by
    have : y ∈ ownU us := by unfold ownU; rw [List.mem_flatMap]; exact ⟨z, hz, mem_ownV.2 hy⟩
    simp [this]), fun y hy => by
    injection hy with hy
    subst hy
    exact ⟨hg, (k.gw x rfl).2⟩, k.nd, k.bG, k.bM, k.gn⟩
theorem ctr_kn (L : List Sq) (k : Int) : (ctrG (L, K0) k).1.2 = K0 := by
  unfold ctrG midG
  split <;> rfl
/-- the calls of what finds middles -/
theorem McS.grow {B P room b l G M : Nat} {x : Nat × Nat} {s : MS} {w : World} {H : Nat → Prop} (h : McS B P room b l G M x s w H) : ∃ Hg, Gr B w x.1 P x.2 b l (s.L, K0) room Hg ∧ w.cell? ⟨G, 9, none⟩ = some (.pointer (some ⟨x.1, 0, none⟩)) ∧ ∀ (L' : List Sq) (w' : World), Gt B w x.1 P x.2 b l room Hg (L', K0) w' → Goz (Mc B P room b l G M ⟨L', s.K, s.U, s.out⟩) w H w' := by
  obtain ⟨uv, us, Hs, h1, h2, h3, h4, rfl⟩ := h
  obtain ⟨g1, g2, g3⟩ := h2.gw x rfl
  have m := own_g (G := G) (M := M) (uv := uv) (us := us) (gr := some x) rfl
  have ne : ¬ x.1 = x.2 := fun e => by
    have hnd := h2.nd
    have e2 : ownL G M uv us (some x) = (G :: M :: (ownV uv ++ ownU us)) ++ [x.1, x.2] := by simp [ownL, grL]
    rw [e2, List.nodup_append] at hnd
    have := hnd.2.1
    simp at this
    exact this e
  refine ⟨_, ⟨Hs, ⟨h1, g1.c0, g1.c1, g1.c2, g1.c3, g1.kn, g2, g3, h4 _ m.1, h4 _ m.2, ne⟩, rfl⟩, h2.c9, ?_⟩
  rintro L' w' ⟨H', ⟨Hs', gro, rfl⟩, st⟩
  have mv : ∀ y ∈ ownL G M uv us (some x), ¬ y = x.2 → w'.heap[y]? = w.heap[y]? := fun y hy hn => st.block y (h2.lt hy).2 fun e => by
    rcases e with e | e
    · exact hn e
    · exact h4 y hy e
  have km := h2.regr mv ⟨gro.c0, gro.c1, gro.c2, gro.c3, gro.kn⟩
  refine ⟨_, ⟨uv, us, some x, Hs', gro.st, km, h3, fun y hy hs => ?_, rfl⟩, ⟨st.os, st.tape, st.output, st.size, fun y hy hn => st.block y hy fun e => hn ?_, fun y hy => ?_⟩⟩
  · rcases st.own y (.inr hs) with q | q
    · rcases q with q | q
      · exact gro.nM (q ▸ hs)
      · exact h4 y hy q
    · have := (h2.lt hy).2
      omega
  · rcases e with e | e
    · exact .inl (e ▸ m.2)
    · exact .inr e
  · rcases hy with hy | hy
    · exact .inl (.inl hy)
    · rcases st.own y (.inr hy) with q | q
      · rcases q with q | q
        · exact .inl (.inl (q ▸ m.2))
        · exact .inl (.inr q)
      · exact .inr q
abbrev pbx (G : Nat) : Obj := .cells #[.pointer (some ⟨G, 0, none⟩)] 31
set_option maxRecDepth 100000 in
set_option maxHeartbeats 2000000 in
theorem middle_f {B P room b l G M : Nat} {s : MS} {w : World} {H : Nat → Prop} (h : Mc B P room b l G M s w H) (hm : mayR b l = true) (hB : B ≤ w.heap.size) (id : Int) (n : Nat) (hn : n ≤ 36) (hl : Lv s.L (n + 1) id) (hr : (ctrG (s.L, K0) id).1.1.length ≤ room) :
    Calls Tryz.prog 39 #[.pointer (some ⟨G, 0, none⟩), .int .i64 id] w fun e w' => e = .returned (.tuple #[.int .i64 (ctrG (s.L, K0) id).2, .nilIface]) ∧ Goz (Mc B P room b l G M ⟨(ctrG (s.L, K0) id).1.1, s.K, s.U, s.out⟩) w H w' := by
  have HS := Lib.hid ((Bs.start h).alloc (mc_fpt B P room b l G M s) (pbx G) rfl)
  obtain ⟨H1, h1, h2, h3⟩ := HS.out.call
  have cb := one_cell HS.out.b0
  have HO := Lib.hid (once_f h1 hm (show B ≤ (w.alloc (pbx G)).heap.size by simp; omega) w.heap.size cb (h2 _ List.mem_cons_self))
  have HN := Lib.hid h3
  have HC := Lib.hid (fun (x : Nat × Nat) (W : World) (Hg : Nat → Prop) (hg : Gr B W x.1 P x.2 b l (s.L, K0) room Hg) => center_ok hg n hn id hl hr)
  have hmf : ∀ (fn : Fn) (first cap : Array Value) (w : World), (Instr.makeFunc fn first cap).run Tryz.prog w = .ok (.func fn first cap) w := fun _ _ _ _ => rfl
  have HK := Lib.hid (ctr_kn s.L id)
  have hC : ∀ (x : Nat × Nat) (W : World) (Hg : Nat → Prop), Gr B W x.1 P x.2 b l (s.L, K0) room Hg → Calls Tryz.prog 57 #[.pointer (some ⟨x.1, 0, none⟩), .int .i64 id] W fun e w' => e = .returned (.tuple #[.int .i64 (ctrG (s.L, K0) id).2, .nilIface]) ∧ Gt B W x.1 P x.2 b l room Hg ((ctrG (s.L, K0) id).1.1, K0) w' := fun x W Hg hg => by
    have := HC.out x W Hg hg
    have e : (ctrG (s.L, K0) id).1 = ((ctrG (s.L, K0) id).1.1, K0) := Prod.ext rfl HK.out
    rw [← e]
    exact this
  have HC := Lib.hid hC
  generalize ctrG (s.L, K0) id = c at *
  clear h h1 h2 h3 hm hl hr hB hC HK
  go_enter Tryz.func39, Tryz.ntmps39
  go_upto_region 1 with (fail)
  generalize World.alloc _ _ = W at *
  go_wp2_with fail
  refine HO.out.mono ?_
  rintro e w1 ⟨rfl, x, hg⟩
  have HS1 := Lib.hid (HN.out _ _ hg)
  clear hg cb HO HN HS hmf
  obtain ⟨H2, k1, _, k3⟩ := HS1.out.call
  obtain ⟨Hg, g1, g2, g3⟩ := k1.grow
  have HCC := Lib.hid (HC.out x w1 Hg g1)
  have HN2 := Lib.hid (fun L' w' hg => k3 _ _ (g3 L' w' hg))
  have cb := one_cell HS1.out.b0
  clear k1 k3 g1 g3 HC
  go_wp2_with fail
  refine HCC.out.mono ?_
  rintro e w2 ⟨rfl, hg⟩
  have HS2 := Lib.hid (HN2.out _ _ hg)
  clear hg
  go_wp2
  go_ret2
  exact ⟨rfl, HS2.out.out⟩
end Go.Proofs.YtkefjkfknegogaaGreat.Fm
namespace Go.Proofs.YtkefjkfknegogaaGreat.Fm
open Go.RowKit Ti Qd Go.Maps Go.WideMaps Ru

section
variable {B : Nat} {w w' w2 : World} {P b l G M : Nat} {uv : Value} {us : List FH} {gr : Option (Nat × Nat)} {K : Kn} {out : Int}
theorem Mach.uvG (k : Mach B w P b l G M uv us gr K out) : ¬ uv.ownBlock = some G ∧ ¬ uv.ownBlock = some M := by
  have hnd := k.nd
  rw [ownL_uv] at hnd
  obtain ⟨_, _, _, a4, _⟩ := nd_split hnd
  exact ⟨fun e => a4 G (by simp) (mem_ownV.2 e), fun e => a4 M (by simp) (mem_ownV.2 e)⟩
theorem Mach.uvR (k : Mach B w P b l G M uv us gr K out) {x : Nat} (hx : x ∈ ownU us ++ grL gr) : ¬ uv.ownBlock = some x := by
  have hnd := k.nd
  rw [ownL_uv] at hnd
  obtain ⟨_, _, _, _, _, a6⟩ := nd_split hnd
  exact fun e => a6 x (mem_ownV.2 e) hx
theorem Mach.neG (k : Mach B w P b l G M uv us gr K out) {x : Nat} (hx : x ∈ M :: (ownV uv ++ (ownU us ++ grL gr))) : ¬ x = G := fun e => by
  have hnd := k.nd
  unfold ownL at hnd
  rw [List.nodup_cons] at hnd
  exact hnd.1 (e ▸ hx)
theorem Mach.set3 (k : Mach B w P b l G M uv us gr K out) {uv' : Value} {us' : List FH} (hb : ∀ y ∈ ownL G M uv us gr, ¬ uv.ownBlock = some y → w2.heap[y]? = w.heap[y]?) (hrow : OwnF w2 B uv' us') (hgot : ∀ x ∈ us', OwnI w2 B x.2 x.1.got) (hnd : (ownL G M uv' us' gr).Nodup) (hgn : ∀ x ∈ us', x.1.got = [] → x.2 = .slice none 0 0) :
    Mach B (w2.setCell ⟨G, 3, none⟩ uv') P b l G M uv' us' gr K out := by
  have ne : ∀ y, ¬ y = G → (w2.setCell ⟨G, 3, none⟩ uv').heap[y]? = w2.heap[y]? := fun y hy => Go.RowKit.Below.heap_setCell _ _ _ _ hy
  have hG := hb G own_G k.uvG.1
  have c : ∀ i v, ¬ i = 3 → w.cell? ⟨G, i, none⟩ = some v → (w2.setCell ⟨G, 3, none⟩ uv').cell? ⟨G, i, none⟩ = some v := fun i v hi hv =>
    (World.cell?_setCell_other _ _ _ _ (by simp <;> omega)).trans ((World.cell?_of_block (a := ⟨G, i, none⟩) hG).trans hv)
  have nM : ¬ M = G := k.neG (by simp)
  have hM := hb M own_M k.uvG.2
  have nG' : ∀ y ∈ M :: (ownV uv' ++ (ownU us' ++ grL gr)), ¬ y = G := fun y hy e => by
    unfold ownL at hnd
    rw [List.nodup_cons] at hnd
    exact hnd.1 (e ▸ hy)
  refine ⟨c 0 _ (by omega) k.c0, c 1 _ (by omega) k.c1, c 2 _ (by omega) k.c2, ?_, c 4 _ (by omega) k.c4, c 5 _ (by omega) k.c5, c 6 _ (by omega) k.c6, c 7 _ (by omega) k.c7, c 9 _ (by omega) k.c9, fun i => (World.frozen?_setCell _ _ _ _).trans ((World.frozen?_of_block (a := ⟨G, i, none⟩) hG).trans (k.fz i)), (k.kn.moved hM).moved (ne M nM), own_moved hrow fun y hy => ne y (nG' y (by simp [mem_ownV, hy])), fun z hz => own_moved (hgot z hz) fun y hy => ne y (nG' y ?_), fun z hz => ?_, hnd, k.bG, k.bM, hgn⟩
  · exact World.cell?_setCell_same _ _ _ ((World.cell?_of_block (a := ⟨G, 3, none⟩) hG).trans k.c3)
  · have : y ∈ ownU us' := by unfold ownU; rw [List.mem_flatMap]; exact ⟨z, hz, mem_ownV.2 hy⟩
    simp [this]
  · obtain ⟨g1, g2⟩ := k.gw z hz
    subst hz
    have m := own_g (G := G) (M := M) (uv := uv) (us := us) (gr := some z) rfl
    have r1 : z.1 ∈ ownU us ++ grL (some z) := by simp [grL]
    have r2 : z.2 ∈ ownU us ++ grL (some z) := by simp [grL]
    exact ⟨g1.moved ((ne _ (k.neG (by simp [grL]))).trans (hb _ m.1 (k.uvR r1))) ((ne _ (k.neG (by simp [grL]))).trans (hb _ m.2 (k.uvR r2))), g2⟩
theorem Mach.set4 (k : Mach B w P b l G M uv us gr K out) (o : Int) : Mach B (w.setCell ⟨G, 4, none⟩ (.int .i64 o)) P b l G M uv us gr K o := by
  have ne : ∀ y, ¬ y = G → (w.setCell ⟨G, 4, none⟩ (.int .i64 o)).heap[y]? = w.heap[y]? := fun y hy => Go.RowKit.Below.heap_setCell _ _ _ _ hy
  have c : ∀ i v, ¬ i = 4 → w.cell? ⟨G, i, none⟩ = some v → (w.setCell ⟨G, 4, none⟩ (.int .i64 o)).cell? ⟨G, i, none⟩ = some v := fun i v hi hv => (World.cell?_setCell_other _ _ _ _ (by simp <;> omega)).trans hv
  refine ⟨c 0 _ (by omega) k.c0, c 1 _ (by omega) k.c1, c 2 _ (by omega) k.c2, c 3 _ (by omega) k.c3, World.cell?_setCell_same _ _ _ k.c4, c 5 _ (by omega) k.c5, c 6 _ (by omega) k.c6, c 7 _ (by omega) k.c7, c 9 _ (by omega) k.c9, fun i => (World.frozen?_setCell _ _ _ _).trans (k.fz i), k.kn.moved (ne M (k.neG (by simp))), own_moved k.row fun y hy => ne y (k.neG (by simp [mem_ownV, hy])), fun z hz => own_moved (k.got z hz) fun y hy => ne y (k.neG ?_), fun z hz => ?_, k.nd, k.bG, k.bM, k.gn⟩
  · have : y ∈ ownU us := by unfold ownU; rw [List.mem_flatMap]; exact ⟨z, hz, mem_ownV.2 hy⟩
    simp [this]
  · obtain ⟨g1, g2⟩ := k.gw z hz
    subst hz
    exact ⟨g1.moved (ne _ (k.neG (by simp [grL]))) (ne _ (k.neG (by simp [grL]))), g2⟩
theorem Mach.noted {K' : Kn} (k : Mach B w P b l G M uv us gr K out) (hk : Fk.KAt w' M K') (hg : w.grownBy w' (some M)) : Mach B w' P b l G M uv us gr K' out := by
  have hnd := k.nd
  have nM : ∀ y ∈ ownL G M uv us gr, ¬ y = M → w'.heap[y]? = w.heap[y]? := fun y hy hn => hg.block y (k.lt hy).2 fun e => hn (Option.some.inj e)
  have hnd2 : (M :: G :: (ownV uv ++ (ownU us ++ grL gr))).Nodup := by
    unfold ownL at hnd
    exact (List.Perm.swap M G _).nodup_iff.1 hnd
  rw [List.nodup_cons] at hnd2
  have ne : ∀ y ∈ G :: (ownV uv ++ (ownU us ++ grL gr)), w'.heap[y]? = w.heap[y]? := fun y hy => nM y (by
    unfold ownL
    rcases List.mem_cons.1 hy with q | q
    · rw [q]; exact List.mem_cons_self
    · exact List.mem_cons_of_mem _ (List.mem_cons_of_mem _ q)) fun e => hnd2.1 (e ▸ hy)
  have hG := ne G (by simp)
  have c := fun i => World.cell?_of_block (w := w) (w' := w') (a := ⟨G, i, none⟩) hG
  refine ⟨(c 0).trans k.c0, (c 1).trans k.c1, (c 2).trans k.c2, (c 3).trans k.c3, (c 4).trans k.c4, (c 5).trans k.c5, (c 6).trans k.c6, (c 7).trans k.c7, (c 9).trans k.c9, fun i => (World.frozen?_of_block hG).trans (k.fz i), hk, own_moved k.row fun y hy => ne y (by simp [mem_ownV, hy]), fun z hz => own_moved (k.got z hz) fun y hy => ne y ?_, fun z hz => ?_, k.nd, k.bG, k.bM, k.gn⟩
  · have : y ∈ ownU us := by unfold ownU; rw [List.mem_flatMap]; exact ⟨z, hz, mem_ownV.2 hy⟩
    simp [this]
  · obtain ⟨g1, g2⟩ := k.gw z hz
    subst hz
    exact ⟨g1.moved (ne _ (by simp [grL])) (ne _ (by simp [grL])), g2⟩
end
section
variable {B P room b l G M : Nat} {s : MS} {w w' : World} {H : Nat → Prop}
/-- the slice of what is under way -/
theorem Mc.under (h : Mc B P room b l G M s w H) : ∃ ao cap, w.cell? ⟨G, 3, none⟩ = some (.slice ao s.U.length cap) ∧ s.U.length ≤ cap ∧ cap ≤ 9223372036854775807 := by
  obtain ⟨uv, us, gr, Hs, k1, k2, k3, k4, rfl⟩ := h
  have hl : us.length = s.U.length := by
    have := congrArg List.length k3
    simpa using this
  have hr := k2.row
  unfold OwnF at hr
  rw [hl] at hr
  rcases hr.2 with ⟨rfl, h0⟩ | ⟨bu, cap, cur, rfl, _, _, hc, hm, _⟩
  · refine ⟨none, 0, ?_, ?_, ?_⟩
    · rw [h0]
      exact k2.c3
    · omega
    · omega
  · exact ⟨_, cap, k2.c3, hc, hm⟩
theorem Mc.fz (h : Mc B P room b l G M s w H) (i : Nat) : w.frozen? ⟨G, i, none⟩ = false := by
  obtain ⟨uv, us, gr, Hs, k1, k2, k3, k4, rfl⟩ := h
  exact k2.fz i
theorem Mc.noted {K' : Kn} (h : Mc B P room b l G M s w H) (hk : Fk.KAt w' M K') (hg : w.grownBy w' (some M)) : Goz (Mc B P room b l G M ⟨s.L, K', s.U, s.out⟩) w H w' := by
  obtain ⟨uv, us, gr, Hs, k1, k2, k3, k4, rfl⟩ := h
  exact Mc.change (s' := ⟨s.L, K', s.U, s.out⟩) k1 k4 (k2.noted hk hg) rfl k3 hg.os hg.tape hg.output hg.size (fun x hx hn => hg.block x hx fun e => hn ((Option.some.inj e) ▸ own_M)) (fun x hx => .inl hx)
theorem Mc.set4 (h : Mc B P room b l G M s w H) (o : Int) : Goz (Mc B P room b l G M ⟨s.L, s.K, s.U, o⟩) w H (w.setCell ⟨G, 4, none⟩ (.int .i64 o)) := by
  obtain ⟨uv, us, gr, Hs, k1, k2, k3, k4, rfl⟩ := h
  exact Mc.change (s' := ⟨s.L, s.K, s.U, o⟩) k1 k4 (k2.set4 o) rfl k3 rfl rfl rfl (by simp) (fun x _ hn => Go.RowKit.Below.heap_setCell _ _ _ _ (fun e => hn (e ▸ own_G))) (fun x hx => .inl hx)
/-- one frame less -/
theorem Mc.pop {f : Fr} {r : List Fr} (h : Mc B P room b l G M s w H) (hU : s.U = f :: r) : ∃ bu cap, w.cell? ⟨G, 3, none⟩ = some (.slice (some ⟨bu, 0, none⟩) (r.length + 1) cap) ∧ r.length + 1 ≤ cap ∧ cap ≤ 9223372036854775807 ∧ Goz (Mc B P room b l G M ⟨s.L, s.K, r, s.out⟩) w H (w.setCell ⟨G, 3, none⟩ (.slice (some ⟨bu, 0, none⟩) r.length cap)) := by
  obtain ⟨uv, us, gr, Hs, k1, k2, k3, k4, rfl⟩ := h
  rw [hU] at k3
  obtain ⟨us, hv, rfl, k5⟩ := us_top k3
  obtain ⟨bu, cap, rfl, c1, c2, _⟩ := k2.top
  have hl : us.length = r.length := by
    have := congrArg List.length k5
    simpa using this
  have hr := k2.row
  unfold OwnF at hr
  rw [show (us ++ [(f, hv)]).length = us.length + 1 by simp, fls_snoc] at hr
  have hr2 := ownsRow_pop (fls_len us) hr
  have hnd := k2.nd
  rw [ownL_top] at hnd
  obtain ⟨a1, a2, a3, a4, a5, a6⟩ := nd_split hnd
  have hnd2 : (ownL G M (.slice (some ⟨bu, 0, none⟩) us.length cap) us gr).Nodup := by
    have := nd_join (x := []) a1 List.nodup_nil a3 (fun _ _ h => by cases h) a5 (fun _ h => by cases h)
    simpa [ownL, ownV, Value.ownBlock] using this
  have km := k2.set3 (w2 := w) (fun _ _ _ => rfl) hr2 (fun x hx => k2.got x (List.mem_append_left _ hx)) hnd2 (fun x hx => k2.gn x (List.mem_append_left _ hx))
  rw [← hl]
  refine ⟨bu, cap, k2.c3, c1, c2, Mc.change (s' := ⟨s.L, s.K, r, s.out⟩) k1 k4 km rfl k5 rfl rfl rfl (by simp) (fun x _ hn => Go.RowKit.Below.heap_setCell _ _ _ _ (fun e => hn (e ▸ own_G))) (fun x hx => .inl ?_)⟩
  rcases own_in hx with e | e | e | ⟨z, hz, e⟩ | ⟨z, hz, e⟩
  · exact e ▸ own_G
  · exact e ▸ own_M
  · exact own_u e
  · exact own_h (List.mem_append_left _ hz) e
  · rcases e with e | e
    · exact e ▸ (own_g hz).1
    · exact e ▸ (own_g hz).2
/-- the uppermost frame, as it lies there -/
theorem Mc.topv {f : Fr} {r : List Fr} (h : Mc B P room b l G M s w H) (hU : s.U = f :: r) : ∃ bu cap hv, w.cell? ⟨G, 3, none⟩ = some (.slice (some ⟨bu, 0, none⟩) (r.length + 1) cap) ∧ r.length + 1 ≤ cap ∧ cap ≤ 9223372036854775807 ∧ w.cell? ⟨bu, r.length * 4, none⟩ = some (.int .i64 f.id) ∧ w.cell? ⟨bu, r.length * 4 + 1, none⟩ = some (.int .i64 f.j) ∧ w.cell? ⟨bu, r.length * 4 + 2, none⟩ = some (.int .i64 f.st) ∧ w.cell? ⟨bu, r.length * 4 + 3, none⟩ = some hv ∧ LiesI w hv f.got := by
  obtain ⟨uv, us, gr, Hs, k1, k2, k3, k4, rfl⟩ := h
  rw [hU] at k3
  obtain ⟨us, hv, rfl, k5⟩ := us_top k3
  obtain ⟨bu, cap, rfl, c1, c2, hc, _⟩ := k2.top
  have hl : us.length = r.length := by
    have := congrArg List.length k5
    simpa using this
  rw [← hl]
  refine ⟨bu, cap, hv, k2.c3, c1, c2, hc 0 (by decide), hc 1 (by decide), hc 2 (by decide), hc 3 (by decide), ?_⟩
  have hg : OwnI w B hv f.got := k2.got (f, hv) (by simp)
  obtain ⟨ao, cp, rfl⟩ := own_form hg
  rcases hg.2 with ⟨e, h0⟩ | ⟨g, c3, cur, e, _, hgg, c4, c5, c6, ht⟩
  · injection e with e1 e2 e3
    subst e1 e3
    exact ⟨none, 0, by rw [h0], by omega, by omega, fun i hi => by omega⟩
  · injection e with e1 e2 e3
    subst e1 e3
    refine ⟨_, cp, rfl, c4, c5, fun i hi => ⟨g, 0, rfl, ?_⟩⟩
    rw [Nat.zero_add]
    have := hg.cellAt i (by omega)
    rw [this]
    unfold ints
    simp [hi]
end
end Go.Proofs.YtkefjkfknegogaaGreat.Fm

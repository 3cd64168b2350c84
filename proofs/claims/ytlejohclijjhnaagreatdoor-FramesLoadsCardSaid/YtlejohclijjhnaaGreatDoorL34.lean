/-
  WHAT BECOMES OF A MACHINE IN MEMORY, more: another slice of what is under way, another answer, more that is remembered. Conditions: the machine lies in memory.
  WALK of end: the uppermost frame ends. Conditions: it has no part more; there is room.
-/
import Derived.Test.YtlejohclijjhnaaGreatDoorL33
namespace Go.Proofs.YtlejohclijjhnaaGreatDoor.Fm
open Go.RowKit Ti Qd Go.Maps Go.WideMaps Ru

section
variable {B : Nat} {w w' w2 : World} {P b l G M : Nat} {uv : Value} {us : List FH} {gr : Option (Nat × Nat)} {K : Kn} {out : Int}
theorem Mach.uvG (k : Mach B w P b l G M uv us gr K out) : ¬ uv.ownBlock = some G ∧ ¬ uv.ownBlock = some M := by
  have hnd := k.nd
  rw [ownL_uv] at hnd
  obtain ⟨_, _, _, a4, _⟩ := nd_split hnd
  exact ⟨fun e => a4 G (by simp) (mem_ownV.2 e), fun e => a4 M (by simp) (mem_ownV.2 e)⟩
theorem Mach.uvR (k : Mach B w P b l G M uv us gr K out) {x : Nat} (hx : x ∈ ownU us ++ grL gr) : ¬ uv.ownBlock = some x := by
  have hnd := k.nd
  rw [ownL_uv] at hnd
  obtain ⟨_, _, _, _, _, a6⟩ := nd_split hnd
  exact fun e => a6 x (mem_ownV.2 e) hx
theorem Mach.neG (k : Mach B w P b l G M uv us gr K out) {x : Nat} (hx : x ∈ M :: (ownV uv ++ (ownU us ++ grL gr))) : ¬ x = G := fun e => by
  have hnd := k.nd
  unfold ownL at hnd
  rw [List.nodup_cons] at hnd
  exact hnd.1 (e ▸ hx)
theorem Mach.set3 (k : Mach B w P b l G M uv us gr K out) {uv' : Value} {us' : List FH} (hb : ∀ y ∈ ownL G M uv us gr, ¬ uv.ownBlock = some y → w2.heap[y]? = w.heap[y]?) (hrow : OwnF w2 B uv' us') (hgot : ∀ x ∈ us', OwnI w2 B x.2 x.1.got) (hnd : (ownL G M uv' us' gr).Nodup) (hgn : ∀ x ∈ us', x.1.got = [] → x.2 = .slice none 0 0) :
    Mach B (w2.setCell ⟨G, 3, none⟩ uv') P b l G M uv' us' gr K out := by
  have ne : ∀ y, ¬ y = G → (w2.setCell ⟨G, 3, none⟩ uv').heap[y]? = w2.heap[y]? := fun y hy => Go.RowKit.Below.heap_setCell _ _ _ _ hy
  have hG := hb G own_G k.uvG.1
  have c : ∀ i v, ¬ i = 3 → w.cell? ⟨G, i, none⟩ = some v → (w2.setCell ⟨G, 3, none⟩ uv').cell? ⟨G, i, none⟩ = some v := fun i v hi hv =>
    (World.cell?_setCell_other _ _ _ _ (by simp <;> omega)).trans ((World.cell?_of_block (a := ⟨G, i, none⟩) hG).trans hv)
  have nM : ¬ M = G := k.neG (by simp)
  have hM := hb M own_M k.uvG.2
  have nG' : ∀ y ∈ M :: (ownV uv' ++ (ownU us' ++ grL gr)), ¬ y = G := fun y hy e => by
    unfold ownL at hnd
    rw [List.nodup_cons] at hnd
    exact hnd.1 (e ▸ hy)
  refine ⟨c 0 _ (by omega) k.c0, c 1 _ (by omega) k.c1, c 2 _ (by omega) k.c2, ?_, c 4 _ (by omega) k.c4, c 5 _ (by omega) k.c5, c 6 _ (by omega) k.c6, c 7 _ (by omega) k.c7, c 9 _ (by omega) k.c9, fun i => (World.frozen?_setCell _ _ _ _).trans ((World.frozen?_of_block (a := ⟨G, i, none⟩) hG).trans (k.fz i)), (k.kn.moved hM).moved (ne M nM), own_moved hrow fun y hy => ne y (nG' y (by simp [mem_ownV, hy])), fun z hz => own_moved (hgot z hz) fun y hy => ne y (nG' y ?_), fun z hz => ?_, hnd, k.bG, k.bM, hgn⟩
  · exact World.cell?_setCell_same _ _ _ ((World.cell?_of_block (a := ⟨G, 3, none⟩) hG).trans k.c3)
  · have : y ∈ ownU us' := by unfold ownU; rw [List.mem_flatMap]; exact ⟨z, hz, mem_ownV.2 hy⟩
    simp [this]
  · obtain ⟨g1, g2⟩ := k.gw z hz
    subst hz
    have m := own_g (G := G) (M := M) (uv := uv) (us := us) (gr := some z) rfl
    have r1 : z.1 ∈ ownU us ++ grL (some z) := by simp [grL]
    have r2 : z.2 ∈ ownU us ++ grL (some z) := by simp [grL]
    exact ⟨g1.moved ((ne _ (k.neG (by simp [grL]))).trans (hb _ m.1 (k.uvR r1))) ((ne _ (k.neG (by simp [grL]))).trans (hb _ m.2 (k.uvR r2))), g2⟩
theorem Mach.set4 (k : Mach B w P b l G M uv us gr K out) (o : Int) : Mach B (w.setCell ⟨G, 4, none⟩ (.int .i64 o)) P b l G M uv us gr K o := by
  have ne : ∀ y, ¬ y = G → (w.setCell ⟨G, 4, none⟩ (.int .i64 o)).heap[y]? = w.heap[y]? := fun y hy => Go.RowKit.Below.heap_setCell _ _ _ _ hy
  have c : ∀ i v, ¬ i = 4 → w.cell? ⟨G, i, none⟩ = some v → (w.setCell ⟨G, 4, none⟩ (.int .i64 o)).cell? ⟨G, i, none⟩ = some v := fun i v hi hv => (World.cell?_setCell_other _ _ _ _ (by simp <;> omega)).trans hv
  refine ⟨c 0 _ (by omega) k.c0, c 1 _ (by omega) k.c1, c 2 _ (by omega) k.c2, c 3 _ (by omega) k.c3, World.cell?_setCell_same _ _ _ k.c4, c 5 _ (by omega) k.c5, c 6 _ (by omega) k.c6, c 7 _ (by omega) k.c7, c 9 _ (by omega) k.c9, fun i => (World.frozen?_setCell _ _ _ _).trans (k.fz i), k.kn.moved (ne M (k.neG (by simp))), own_moved k.row fun y hy => ne y (k.neG (by simp [mem_ownV, hy])), fun z hz => own_moved (k.got z hz) fun y hy => ne y (k.neG ?_), fun z hz => ?_, k.nd, k.bG, k.bM, k.gn⟩
  · have : y ∈ ownU us := by unfold ownU; rw [List.mem_flatMap]; exact ⟨z, hz, mem_ownV.2 hy⟩
    simp [this]
  · obtain ⟨g1, g2⟩ := k.gw z hz
    subst hz
    exact ⟨g1.moved (ne _ (k.neG (by simp [grL]))) (ne _ (k.neG (by simp [grL]))), g2⟩
theorem Mach.noted {K' : Kn} (k : Mach B w P b l G M uv us gr K out) (hk : Fk.KAt w' M K') (hg : w.grownBy w' (some M)) : Mach B w' P b l G M uv us gr K' out := by
  have hnd := k.nd
  have nM : ∀ y ∈ ownL G M uv us gr, ¬ y = M → w'.heap[y]? = w.heap[y]? := fun y hy hn => hg.block y (k.lt hy).2 fun e => hn (Option.some.inj e)
  have hnd2 : (M :: G :: (ownV uv ++ (ownU us ++ grL gr))).Nodup := by
    unfold ownL at hnd
    exact (List.Perm.swap M G _).nodup_iff.1 hnd
  rw [List.nodup_cons] at hnd2
  have ne : ∀ y ∈ G :: (ownV uv ++ (ownU us ++ grL gr)), w'.heap[y]? = w.heap[y]? := fun y hy => nM y (by
    unfold ownL
    rcases List.mem_cons.1 hy with q | q
    · rw [q]; exact List.mem_cons_self
    · exact List.mem_cons_of_mem _ (List.mem_cons_of_mem _ q)) fun e => hnd2.1 (e ▸ hy)
  have hG := ne G (by simp)
  have c := fun i => World.cell?_of_block (w := w) (w' := w') (a := ⟨G, i, none⟩) hG
  refine ⟨(c 0).trans k.c0, (c 1).trans k.c1, (c 2).trans k.c2, (c 3).trans k.c3, (c 4).trans k.c4, (c 5).trans k.c5, (c 6).trans k.c6, (c 7).trans k.c7, (c 9).trans k.c9, fun i => (World.frozen?_of_block hG).trans (k.fz i), hk, own_moved k.row fun y hy => ne y (by simp [mem_ownV, hy]), fun z hz => own_moved (k.got z hz) fun y hy => ne y ?_, fun z hz => ?_, k.nd, k.bG, k.bM, k.gn⟩
  · have : y ∈ ownU us := by unfold ownU; rw [List.mem_flatMap]; exact ⟨z, hz, mem_ownV.2 hy⟩
    simp [this]
  · obtain ⟨g1, g2⟩ := k.gw z hz
    subst hz
    exact ⟨g1.moved (ne _ (by simp [grL])) (ne _ (by simp [grL])), g2⟩
end
section
variable {B P room b l G M : Nat} {s : MS} {w w' : World} {H : Nat → Prop}
/-- the slice of what is under way -/
theorem Mc.under (h : Mc B P room b l G M s w H) : ∃ ao cap, w.cell? ⟨G, 3, none⟩ = some (.slice ao s.U.length cap) ∧ s.U.length ≤ cap ∧ cap ≤ 9223372036854775807 := by
  obtain ⟨uv, us, gr, Hs, k1, k2, k3, k4, rfl⟩ := h
  have hl : us.length = s.U.length := by
    have := congrArg List.length k3
    simpa using this
  have hr := k2.row
  unfold OwnF at hr
  rw [hl] at hr
  rcases hr.2 with ⟨rfl, h0⟩ | ⟨bu, cap, cur, rfl, _, _, hc, hm, _⟩
  · refine ⟨none, 0, ?_, ?_, ?_⟩
    · rw [h0]
      exact k2.c3
    · omega
    · omega
  · exact ⟨_, cap, k2.c3, hc, hm⟩
theorem Mc.fz (h : Mc B P room b l G M s w H) (i : Nat) : w.frozen? ⟨G, i, none⟩ = false := by
  obtain ⟨uv, us, gr, Hs, k1, k2, k3, k4, rfl⟩ := h
  exact k2.fz i
theorem Mc.noted {K' : Kn} (h : Mc B P room b l G M s w H) (hk : Fk.KAt w' M K') (hg : w.grownBy w' (some M)) : Goz (Mc B P room b l G M ⟨s.L, K', s.U, s.out⟩) w H w' := by
  obtain ⟨uv, us, gr, Hs, k1, k2, k3, k4, rfl⟩ := h
  exact Mc.change (s' := ⟨s.L, K', s.U, s.out⟩) k1 k4 (k2.noted hk hg) rfl k3 hg.os hg.tape hg.output hg.size (fun x hx hn => hg.block x hx fun e => hn ((Option.some.inj e) ▸ own_M)) (fun x hx => .inl hx)
theorem Mc.set4 (h : Mc B P room b l G M s w H) (o : Int) : Goz (Mc B P room b l G M ⟨s.L, s.K, s.U, o⟩) w H (w.setCell ⟨G, 4, none⟩ (.int .i64 o)) := by
  obtain ⟨uv, us, gr, Hs, k1, k2, k3, k4, rfl⟩ := h
  exact Mc.change (s' := ⟨s.L, s.K, s.U, o⟩) k1 k4 (k2.set4 o) rfl k3 rfl rfl rfl (by simp) (fun x _ hn => Go.RowKit.Below.heap_setCell _ _ _ _ (fun e => hn (e ▸ own_G))) (fun x hx => .inl hx)
/-- one frame less -/
theorem Mc.pop {f : Fr} {r : List Fr} (h : Mc B P room b l G M s w H) (hU : s.U = f :: r) : ∃ bu cap, w.cell? ⟨G, 3, none⟩ = some (.slice (some ⟨bu, 0, none⟩) (r.length + 1) cap) ∧ r.length + 1 ≤ cap ∧ cap ≤ 9223372036854775807 ∧ Goz (Mc B P room b l G M ⟨s.L, s.K, r, s.out⟩) w H (w.setCell ⟨G, 3, none⟩ (.slice (some ⟨bu, 0, none⟩) r.length cap)) := by
  obtain ⟨uv, us, gr, Hs, k1, k2, k3, k4, rfl⟩ := h
  rw [hU] at k3
  obtain ⟨us, hv, rfl, k5⟩ := us_top k3
  obtain ⟨bu, cap, rfl, c1, c2, _⟩ := k2.top
  have hl : us.length = r.length := by
    have := congrArg List.length k5
    simpa using this
  have hr := k2.row
  unfold OwnF at hr
  rw [show (us ++ [(f, hv)]).length = us.length + 1 by simp, fls_snoc] at hr
  have hr2 := ownsRow_pop (fls_len us) hr
  have hnd := k2.nd
  rw [ownL_top] at hnd
  obtain ⟨a1, a2, a3, a4, a5, a6⟩ := nd_split hnd
  have hnd2 : (ownL G M (.slice (some ⟨bu, 0, none⟩) us.length cap) us gr).Nodup := by
    have := nd_join (x := []) a1 List.nodup_nil a3 (fun _ _ h => by cases h) a5 (fun _ h => by cases h)
    simpa [ownL, ownV, Value.ownBlock] using this
  have km := k2.set3 (w2 := w) (fun _ _ _ => rfl) hr2 (fun x hx => k2.got x (List.mem_append_left _ hx)) hnd2 (fun x hx => k2.gn x (List.mem_append_left _ hx))
  rw [← hl]
  refine ⟨bu, cap, k2.c3, c1, c2, Mc.change (s' := ⟨s.L, s.K, r, s.out⟩) k1 k4 km rfl k5 rfl rfl rfl (by simp) (fun x _ hn => Go.RowKit.Below.heap_setCell _ _ _ _ (fun e => hn (e ▸ own_G))) (fun x hx => .inl ?_)⟩
  rcases own_in hx with e | e | e | ⟨z, hz, e⟩ | ⟨z, hz, e⟩
  · exact e ▸ own_G
  · exact e ▸ own_M
  · exact own_u e
  · exact own_h (List.mem_append_left _ hz) e
  · rcases e with e | e
    · exact e ▸ (own_g hz).1
    · exact e ▸ (own_g hz).2
/-- the uppermost frame, as it lies there -/
theorem Mc.topv {f : Fr} {r : List Fr} (h : Mc B P room b l G M s w H) (hU : s.U = f :: r) : ∃ bu cap hv, w.cell? ⟨G, 3, none⟩ = some (.slice (some ⟨bu, 0, none⟩) (r.length + 1) cap) ∧ r.length + 1 ≤ cap ∧ cap ≤ 9223372036854775807 ∧ w.cell? ⟨bu, r.length * 4, none⟩ = some (.int .i64 f.id) ∧ w.cell? ⟨bu, r.length * 4 + 1, none⟩ = some (.int .i64 f.j) ∧ w.cell? ⟨bu, r.length * 4 + 2, none⟩ = some (.int .i64 f.st) ∧ w.cell? ⟨bu, r.length * 4 + 3, none⟩ = some hv ∧ LiesI w hv f.got := by
  obtain ⟨uv, us, gr, Hs, k1, k2, k3, k4, rfl⟩ := h
  rw [hU] at k3
  obtain ⟨us, hv, rfl, k5⟩ := us_top k3
  obtain ⟨bu, cap, rfl, c1, c2, hc, _⟩ := k2.top
  have hl : us.length = r.length := by
    have := congrArg List.length k5
    simpa using this
  rw [← hl]
  refine ⟨bu, cap, hv, k2.c3, c1, c2, hc 0 (by decide), hc 1 (by decide), hc 2 (by decide), hc 3 (by decide), ?_⟩
  have hg : OwnI w B hv f.got := k2.got (f, hv) (by simp)
  obtain ⟨ao, cp, rfl⟩ := own_form hg
  rcases hg.2 with ⟨e, h0⟩ | ⟨g, c3, cur, e, _, hgg, c4, c5, c6, ht⟩
  · injection e with e1 e2 e3
    subst e1 e3
    exact ⟨none, 0, by rw [h0], by omega, by omega, fun i hi => by omega⟩
  · injection e with e1 e2 e3
    subst e1 e3
    refine ⟨_, cp, rfl, c4, c5, fun i hi => ⟨g, 0, rfl, ?_⟩⟩
    rw [Nat.zero_add]
    have := hg.cellAt i (by omega)
    rw [this]
    unfold ints
    simp [hi]
end
end Go.Proofs.YtlejohclijjhnaaGreatDoor.Fm
namespace Go.Proofs.YtlejohclijjhnaaGreatDoor.Fm
open Go.RowKit Ti Qd Go.Maps Go.WideMaps Ru

theorem whole_f {B P room b l G M : Nat} {s : MS} {w : World} {H : Nat → Prop} (h : Mc B P room b l G M s w H) (hm : mayR b l = true) (f : Fr) (hv : Value) (n : Nat) (hf : FOk b l s.L f n) (hn : nextP s.L f = none) (hl : LiesI w hv f.got)
    (hr : (put s.L (endQ b l s.L f)).length ≤ room) :
    Calls Tryz.prog 55 #[.pointer (some ⟨G, 0, none⟩), fv f hv] w fun e w' => e = .returned (.tuple #[.int .i64 (nr s.L (endQ b l s.L f)), .nilIface]) ∧ Goz (Mc B P room b l G M ⟨put s.L (endQ b l s.L f), s.K, s.U, s.out⟩) w H w' := by
  rcases end_len hf hn with rfl | ⟨m, rfl, h13⟩
  · have hj := hf.j1
    exact whole_low h hm f hv hf.lv f.j.toNat (j_cast hf.j0).symm (by omega) (by rw [hf.st, hf.low rfl]; rfl) hr
  · exact whole_13 h f hv m hf h13 hl hr
section
variable {B P room b l G M : Nat} {s : MS} {w0 w w' : World} {H0 : Nat → Prop} {bx : List (Nat × Obj)}
theorem Bs.noted {K' : Kn} (h : Bs (Mc B P room b l G M s) w0 H0 bx w) (hk : Fk.KAt w' M K') (hg : w.grownBy w' (some M)) : Bs (Mc B P room b l G M ⟨s.L, K', s.U, s.out⟩) w0 H0 bx w' := by
  obtain ⟨H, h1, _, h3⟩ := h.call
  exact h3 _ _ (h1.noted hk hg)
theorem Bs.set4 (h : Bs (Mc B P room b l G M s) w0 H0 bx w) (o : Int) : Bs (Mc B P room b l G M ⟨s.L, s.K, s.U, o⟩) w0 H0 bx (w.setCell ⟨G, 4, none⟩ (.int .i64 o)) := by
  obtain ⟨H, h1, _, h3⟩ := h.call
  exact h3 _ _ (h1.set4 o)
theorem Bs.pop {f : Fr} {r : List Fr} (h : Bs (Mc B P room b l G M s) w0 H0 bx w) (hU : s.U = f :: r) : ∃ bu cap, w.cell? ⟨G, 3, none⟩ = some (.slice (some ⟨bu, 0, none⟩) (r.length + 1) cap) ∧ r.length + 1 ≤ cap ∧ cap ≤ 9223372036854775807 ∧ Bs (Mc B P room b l G M ⟨s.L, s.K, r, s.out⟩) w0 H0 bx (w.setCell ⟨G, 3, none⟩ (.slice (some ⟨bu, 0, none⟩) r.length cap)) := by
  obtain ⟨H, h1, _, h3⟩ := h.call
  obtain ⟨bu, cap, c1, c2, c3, c4⟩ := h1.pop hU
  exact ⟨bu, cap, c1, c2, c3, h3 _ _ c4⟩
theorem Bs.under (h : Bs (Mc B P room b l G M s) w0 H0 bx w) : ∃ ao cap, w.cell? ⟨G, 3, none⟩ = some (.slice ao s.U.length cap) ∧ s.U.length ≤ cap ∧ cap ≤ 9223372036854775807 := by
  obtain ⟨H, h1, _, h3⟩ := h.call
  exact h1.under
theorem Bs.fz (h : Bs (Mc B P room b l G M s) w0 H0 bx w) (i : Nat) : w.frozen? ⟨G, i, none⟩ = false := by
  obtain ⟨H, h1, _, h3⟩ := h.call
  exact h1.fz i
theorem Bs.size {T : World → (Nat → Prop) → Prop} (h : Bs T w0 H0 bx w) : w0.heap.size ≤ w.heap.size := by
  obtain ⟨⟨H, h1, h2, h3⟩, _⟩ := h
  exact h2.size
end
def endR (q : List Sq) (K : Kn) (o : Int) (out : Int) : List Fr → MS
  | [] => ⟨q, K, [], o⟩
  | g :: r => ⟨q, K, take g o :: r, out⟩
theorem end_r (b l : Nat) (L : List Sq) (K : Kn) (f : Fr) (out : Int) (r : List Fr) : endU b l L K f out r = endR (put L (endQ b l L f)) (K.note f.id f.j (nr L (endQ b l L f))) (nr L (endQ b l L f)) out r := by
  cases r <;> rfl
set_option maxRecDepth 100000 in
set_option maxHeartbeats 4000000 in
theorem end_f {B P room b l G M : Nat} {s : MS} {w : World} {H : Nat → Prop} (h : Mc B P room b l G M s w H) (hm : mayR b l = true) (hB : B ≤ w.heap.size) (f : Fr) (r : List Fr) (hU : s.U = f :: r) (hv : Value) (n : Nat) (hf : FOk b l s.L f n) (hn : nextP s.L f = none) (hl : LiesI w hv f.got)
    (hr : (put s.L (endQ b l s.L f)).length ≤ room) (h6 : room ≤ 65536) (hlen : r.length ≤ 100) (hst : ∀ g ∈ r, 0 ≤ g.st ∧ g.st ≤ 1000 ∧ g.got.length ≤ 1000) :
    Calls Tryz.prog 35 #[.pointer (some ⟨G, 0, none⟩), fv f hv] w fun e w' => e = .returned .nilIface ∧ Goz (Mc B P room b l G M (endU b l s.L s.K f s.out r)) w H w' := by
  have HT := Lib.hid (fun s => mc_fpt B P room b l G M s)
  have HS := Lib.hid ((Bs.start h).alloc (HT.out s) (fo f hv) rfl)
  obtain ⟨H1, h1, _, h3⟩ := HS.out.call
  have HW := Lib.hid (whole_f h1 hm f hv n hf hn (hl.bel (alX w (fo f hv))) hr)
  have HN := Lib.hid h3
  have hid : 1 ≤ f.id ∧ f.id ≤ 65536 := by
    have h1 := hf.lv.1
    have h2 := (put_len s.L (endQ b l s.L f)).1
    unfold Ok at h1
    omega
  have hj : 0 ≤ f.j ∧ f.j ≤ 40 := by
    have h0 := hf.j0
    have h1 := hf.j1
    have h2 := hf.n36
    omega
  have ho : I1 (nr s.L (endQ b l s.L f)) := by
    have := put_ok s.L (endQ b l s.L f)
    unfold Ok at this
    unfold I1
    omega
  have HK := Lib.hid (And.intro hid (And.intro hj ho))
  have HST := Lib.hid (And.intro hst (And.intro hB hlen))
  obtain ⟨L, K, U, out⟩ := s
  simp only at *
  subst hU
  obtain ⟨c0, c1, c2, c3⟩ := row4 HS.out.b0
  clear h h1 h3 hm hf hn hl hr h6 hid hj ho hst hlen hB
  have hout : ∃ q o, q = put L (endQ b l L f) ∧ o = nr L (endQ b l L f) := ⟨_, _, rfl, rfl⟩
  obtain ⟨q, o, hq, ho⟩ := hout
  rw [end_r, ← hq, ← ho]
  rw [← hq, ← ho] at HW
  rw [← ho] at HK
  clear hq ho
  obtain ⟨id, j, st, got⟩ := f
  simp only at *
  go_enter Tryz.func35, Tryz.ntmps35
  go_upto_region 1 with (fail)
  generalize World.alloc _ _ = W at *
  go_wp2_with fail
  refine HW.out.mono ?_
  rintro e w1 ⟨rfl, hg⟩
  have HS1 := Lib.hid (HN.out _ _ hg)
  clear hg c0 c1 c2 c3 HS HW HN
  have c5 := HS1.out.cells.2.2.2.2.1
  obtain ⟨b0, b1, b2, b3⟩ := row4 HS1.out.b0
  obtain ⟨w2, l0, k0, k1⟩ := Fk.ask_note (HS1.out.drew (HT.out _)).cells.2.2.2.2.2 HK.out.1 HK.out.2.1 HK.out.2.2
  unfold Fk.av at l0
  have HS2 := Lib.hid ((HS1.out.drew (HT.out _)).noted k0 k1)
  clear k0 k1
  go_upto_region 4 with (fail)
  go_region
  clear c5 b0 b1 b2 b3 l0 HS1
  obtain ⟨bu, cap, d1, d2, d3, d4⟩ := HS2.out.pop rfl
  have HS3 := Lib.hid (d4.drew (HT.out _))
  have f3 := HS2.out.fz 3
  have c3 : w2.cell? ⟨G, 3, none⟩ = some (.slice (some ⟨bu, 0, none⟩) (r.length + 1) cap) := d1
  clear d4 d1
  generalize hm : r.length = m at *
  have HM := Lib.hid hm
  clear hm
  have e1 : IntKind.i64.wrap (((m + 1 : Nat) : Int) - 1) = (m : Int) := by
    have := HST.out.2.2
    rw [show ((m + 1 : Nat) : Int) - 1 = (m : Int) by omega]
    exact IntWalk.i64_in _ (by omega)
  have e2 : (0 : Int) ≤ (m : Int) := by omega
  have e3 : (m : Int) ≤ (cap : Int) := by omega
  have e4 : (cap : Int) ≤ 9223372036854775807 := by omega
  go_upto_region 5 with (fail)
  go_region
  clear c3 f3 HS2 e1 e3
  go_upto_region 6 with (fail)
  generalize World.drew _ = W3 at HS3 ⊢
  obtain ⟨ao, cp, c3a, _, _⟩ := HS3.out.under
  cases hr : r with
  | nil =>
    have HRE := Lib.hid hr
    have hz : m = 0 := by rw [← HM.out, hr]; rfl
    clear hr
    subst hz
    have c3 : W3.cell? ⟨G, 3, none⟩ = some (.slice ao 0 cp) := by
      have := c3a
      rw [show List.length _ = 0 from HM.out] at this
      exact this
    clear c3a
    have c4 := HS3.out.cells.2.2.2.1
    have f4 := HS3.out.fz 4
    have HS4 := Lib.hid (HS3.out.set4 o)
    clear HS3
    go_wp2
    go_ret
    refine ⟨rfl, ?_⟩
    have := HS4.out.out
    rw [HRE.out] at this ⊢
    exact this
  | cons g r' =>
    have HRE := Lib.hid hr
    have hml : m = r'.length + 1 := by rw [← HM.out, hr]; rfl
    have c3 : W3.cell? ⟨G, 3, none⟩ = some (.slice ao (r'.length + 1) cp) := by
      have := c3a
      rw [show List.length _ = r'.length + 1 from HM.out.trans hml] at this
      exact this
    clear c3a
    have hz : ((((r'.length : Int) + 1)) == 0) = false := by rw [beq_eq_false_iff_ne]; omega
    obtain ⟨H2, k1, _, k3⟩ := HS3.out.call
    have hw := HS3.out.size
    have hs := HST.out.1 g (by rw [hr]; simp)
    have HTK := Lib.hid (take_f k1 g r' hr o hs.1 hs.2.1 hs.2.2 (by have := HST.out.2.2; have := HM.out; omega) (by have := HST.out.2.1; omega))
    have HN3 := Lib.hid k3
    clear k1 k3 hw hs HS3 hr hml
    go_wp2_with fail
    refine HTK.out.mono ?_
    rintro e w4 ⟨rfl, hg⟩
    have HS4 := Lib.hid (HN3.out _ _ hg)
    clear hg
    go_wp2
    go_ret
    refine ⟨rfl, ?_⟩
    have := HS4.out.out
    rw [HRE.out]
    exact this
end Go.Proofs.YtlejohclijjhnaaGreatDoor.Fm

/-
  WALKS of Out, New and Begin. Conditions: the machine, or the store, lies in memory.
  WALK of Begin. Conditions: nothing is under way; the square can go on so far.
  WALKS of slices.Clone and copied: frames that share nothing. Conditions: what is copied lies in memory, and is short.
-/
import Derived.Test.YtlejohclijjhnaaGreatDoorL36
namespace Go.Proofs.YtlejohclijjhnaaGreatDoor.Fm
open Go.RowKit Ti Qd Go.Maps Go.WideMaps Ru

set_option maxRecDepth 100000 in
theorem out_f {B P room b l G M : Nat} {s : MS} {w : World} {H : Nat → Prop} (h : Mc B P room b l G M s w H) (c : Bool) (hc : (s.out != 0) = c) :
    Calls Tryz.prog 17 #[.pointer (some ⟨G, 0, none⟩)] w fun e w' => e = .returned (.tuple #[.int .i64 s.out, .bool c]) ∧ Below w.heap.size w w' := by
  have c4 := h.cells.2.2.2.1
  have HC := Lib.hid hc
  clear h hc
  generalize s.out = o at *
  go_enter Tryz.func17, Tryz.ntmps17
  go_upto_region 3 with (fail)
  go_quiet (fail)
  go_wp2
  go_ret2
  rw [← HC.out]
  exact ⟨rfl, Below.drewN' (Below.refl _ _) nq⟩
/-- a machine, newly made -/
def NewM (w : World) (P b l : Nat) (e : Ending) (w' : World) : Prop := ∃ G M, e = .returned (.tuple #[.pointer (some ⟨G, 0, none⟩), .nilIface]) ∧ w.heap.size ≤ G ∧ w.heap.size ≤ M ∧ Below w.heap.size w w' ∧ ∀ B, B ≤ w.heap.size → Mach B w' P b l G M nilS [] none (fun _ _ => none) 0
abbrev mo (P b l M : Nat) : Obj := .cells #[.pointer (some ⟨P, 0, none⟩), .int .u16 b, .int .u16 l, .slice none 0 0, .int .i64 0, .map (some M), .int .u32 0, .int .i32 0, .int .u32 0, .pointer none] 78
theorem newm_of {w w1 : World} (P b l : Nat) (hb : Below w.heap.size w w1) :
    NewM w P b l (.returned (.tuple #[.pointer (some ⟨w1.heap.size + 1, 0, none⟩), .nilIface])) ((w1.alloc (.map #[] 0)).alloc (mo P b l w1.heap.size)) := by
  have h1 := alX w1 (.map #[] 0)
  have h2 := alX (w1.alloc (.map #[] 0)) (mo P b l w1.heap.size)
  have hc : ((w1.alloc (.map #[] 0)).alloc (mo P b l w1.heap.size)).heap[w1.heap.size + 1]? = some (mo P b l w1.heap.size) := by
    have := heap_alloc_new (w1.alloc (.map #[] 0)) (mo P b l w1.heap.size)
    simpa using this
  have hbb := hb.trans ((h1.trans (h2.mono (by simp))).mono hb.size)
  have hz := hb.size
  have c := fun i => cell_of_row _ (w1.heap.size + 1) i _ _ _ hc
  have f := fun i => frozen_of_row _ (w1.heap.size + 1) i _ _ hc
  refine ⟨w1.heap.size + 1, w1.heap.size, rfl, by omega, hz, hbb, fun B hB => ⟨c 0, c 1, c 2, c 3, c 4, c 5, c 6, c 7, c 9, f, ⟨.map [], [], ((World.ownsMap_made (H := Unit) w1 Tryz.prog 113 (plainElem Tryz.prog 3)).alloc _), Fk.mpA_nil, List.nodup_nil, by simp, by simp⟩, World.ownsRow_nil _ _ _ _, (fun x hx => by cases hx), (fun x hx => by cases hx), ?_, by omega, by omega, (fun x hx => by cases hx)⟩⟩
  simp [ownL, ownV, ownU, grL, Value.ownBlock]
set_option maxRecDepth 100000 in
set_option maxHeartbeats 1000000 in
theorem mnew_f (P b l : Nat) (hm : mayR b l = true) (w : World) :
    Calls Tryz.prog 10 #[.pointer (some ⟨P, 0, none⟩), Rv b l] w (NewM w P b l) := by
  have HC := Lib.hid (fun w => check_ok b l hm w)
  have HM := Lib.hid (fun (w1 : World) (hb : Below w.heap.size w w1) => newm_of P b l hb)
  clear hm
  unfold Rv at HC ⊢
  have HB := Lib.hid (alX w (.cells #[.int .u16 b, .int .u16 l] 44))
  obtain ⟨c0, c1⟩ := two_cells (heap_alloc_new w (.cells #[.int .u16 b, .int .u16 l] 44))
  have HR := Lib.hid (heap_alloc_new w (.cells #[.int .u16 b, .int .u16 l] 44))
  have hmm := @run_makeMap Tryz.prog
  go_enter Tryz.func10, Tryz.ntmps10
  go_wp2_with fail
  refine (HC.out _).mono ?_
  rintro e w1 ⟨rfl, hb⟩
  have HB1 := Lib.hid (HB.out.trans (hb.mono HB.out.size))
  obtain ⟨c0, c1⟩ := two_cells ((hb.block _ (lt_of_block HR.out)).trans HR.out)
  clear hb
  go_wp2
  go_ret2
  exact HM.out _ HB1.out
theorem Mc.made {B w0 P room b l G M L K out} {w : World} {Hs : Nat → Prop} (h : St B w P L room Hs) (k : Mach B w P b l G M nilS [] none K out) (hG : w0 ≤ G) (hM : w0 ≤ M) (hH : ∀ x, Hs x → x < w0) : Mc B P room b l G M ⟨L, K, [], out⟩ w (fun x => x ∈ ownL G M nilS [] none ∨ Hs x) := by
  refine ⟨nilS, [], none, Hs, h, k, rfl, fun x hx hs => ?_, rfl⟩
  have := hH x hs
  simp [ownL, ownV, ownU, grL, Value.ownBlock] at hx
  rcases hx with rfl | rfl <;> omega
/-- what is under way is another -/
theorem Mc.laid {B P room b l G M : Nat} {s : MS} {w w2 : World} {H : Nat → Prop} (h : Mc B P room b l G M s w H) {v' : Value} {us' : List FH} (U' : List Fr) (hb : Below w.heap.size w w2) (hrow : OwnF w2 w.heap.size v' us') (hgot : ∀ x ∈ us', OwnI w2 w.heap.size x.2 x.1.got) (hnd : (ownV v' ++ ownU us').Nodup) (hgn : ∀ x ∈ us', x.1.got = [] → x.2 = .slice none 0 0) (hU : us'.map Prod.fst = U'.reverse) (hB : B ≤ w.heap.size) :
    Goz (Mc B P room b l G M ⟨s.L, s.K, U', s.out⟩) w H (w2.setCell ⟨G, 3, none⟩ v') := by
  obtain ⟨uv, us, gr, Hs, k1, k2, k3, k4, rfl⟩ := h
  have hbl : ∀ y ∈ ownL G M uv us gr, w2.heap[y]? = w.heap[y]? := fun y hy => hb.block y (k2.lt hy).2
  have hv : ∀ x ∈ ownV v', w.heap.size ≤ x := fun x hx => (hrow.lt x (mem_ownV.1 hx)).1
  have hu : ∀ x ∈ ownU us', w.heap.size ≤ x := fun x hx => by
    unfold ownU at hx
    rw [List.mem_flatMap] at hx
    obtain ⟨z, hz, hx⟩ := hx
    exact ((hgot z hz).lt x (mem_ownV.1 hx)).1
  have hnd0 := k2.nd
  have hnd2 : (ownL G M v' us' gr).Nodup := by
    have e : ownL G M v' us' gr = [G, M] ++ ((ownV v' ++ ownU us') ++ grL gr) := by simp [ownL]
    have e0 : ownL G M uv us gr = [G, M] ++ ((ownV uv ++ ownU us) ++ grL gr) := by simp [ownL]
    rw [e]
    rw [e0] at hnd0
    obtain ⟨a1, a2, a3, a4, a5, a6⟩ := nd_split hnd0
    have ls : ∀ x, x ∈ ownL G M uv us gr → x < w.heap.size := fun x hx => (k2.lt hx).2
    have lg : ∀ x ∈ [G, M], x < w.heap.size := fun x hx => ls x (by rw [e0]; exact List.mem_append_left _ hx)
    have lc : ∀ x ∈ grL gr, x < w.heap.size := fun x hx => ls x (by rw [e0]; exact List.mem_append_right _ (List.mem_append_right _ hx))
    have hi : ∀ x ∈ ownV v' ++ ownU us', w.heap.size ≤ x := fun x hx => (List.mem_append.1 hx).elim (hv x) (hu x)
    exact nd_join a1 hnd a3 (fun x hx q => by have := lg x hx; have := hi x q; omega) a5 (fun x hx q => by have := lc x q; have := hi x hx; omega)
  have mono : ∀ {e s v n xs}, w2.ownsRow w.heap.size e s v n xs → w2.ownsRow B e s v n xs := fun h => by
    refine ⟨h.1, h.2.imp id ?_⟩
    rintro ⟨g, cap, cur, e1, e2, e3⟩
    exact ⟨g, cap, cur, e1, Nat.le_trans hB e2, e3⟩
  have km := k2.set3 (w2 := w2) (fun y hy _ => hbl y hy) (mono hrow) (fun x hx => mono (hgot x hx)) hnd2 hgn
  refine Mc.change (s' := ⟨s.L, s.K, U', s.out⟩) k1 k4 km rfl hU hb.os hb.tape hb.output (by simpa using hb.size) (fun x hx hn => ?_) (fun x hx => ?_)
  · have nx : ¬ x = G := fun e => hn (by rw [e]; exact own_G)
    exact (Go.RowKit.Below.heap_setCell _ _ _ _ nx).trans (hb.block x hx)
  · rcases own_in hx with e | e | e | ⟨z, hz, e⟩ | ⟨z, hz, e⟩
    · exact .inl (e ▸ own_G)
    · exact .inl (e ▸ own_M)
    · exact .inr (hv x (mem_ownV.2 e))
    · exact .inr (hu x (by unfold ownU; rw [List.mem_flatMap]; exact ⟨z, hz, mem_ownV.2 e⟩))
    · rcases e with e | e
      · exact .inl (e ▸ (own_g hz).1)
      · exact .inl (e ▸ (own_g hz).2)
set_option maxRecDepth 100000 in
set_option maxHeartbeats 2000000 in
/-- start, of a list that the call has made -/
theorem start_f {B P room b l G M : Nat} {s : MS} {w W : World} {H : Nat → Prop} (h : Mc B P room b l G M s w H) {ao : Option Addr} {n cap : Nat} {us' : List FH} (U' : List Fr) (hb : Below w.heap.size w W) (hrow : OwnF W w.heap.size (.slice ao n cap) us') (hgot : ∀ x ∈ us', OwnI W w.heap.size x.2 x.1.got) (hnd : (ownV (.slice ao n cap) ++ ownU us').Nodup) (hgn : ∀ x ∈ us', x.1.got = [] → x.2 = .slice none 0 0) (hU : us'.map Prod.fst = U'.reverse) (hB : B ≤ w.heap.size) :
    Calls Tryz.prog 23 #[.pointer (some ⟨G, 0, none⟩), .slice ao n cap] W fun e w' => e = .returned (.tuple #[]) ∧ Goz (Mc B P room b l G M ⟨s.L, s.K, U', 0⟩) w H w' := by
  obtain ⟨a3, p3, c3, _, _⟩ := h.under
  have c4 := h.cells.2.2.2.1
  have f3 := h.fz 3
  have f4 := h.fz 4
  have hG := World.block_lt_of_cell? w _ c3
  have d3 := (World.cell?_of_block (a := ⟨G, 3, none⟩) (hb.block G hG)).trans c3
  have d4 := (World.cell?_of_block (a := ⟨G, 4, none⟩) (hb.block G hG)).trans c4
  have e3 := (World.frozen?_of_block (a := ⟨G, 3, none⟩) (hb.block G hG)).trans f3
  have e4 := (World.frozen?_of_block (a := ⟨G, 4, none⟩) (hb.block G hG)).trans f4
  obtain ⟨H1, k1, k2⟩ := h.laid U' hb hrow hgot hnd hgn hU hB
  obtain ⟨H2, j1, j2⟩ := k1.set4 0
  have HE := Lib.hid (And.intro j1 (k2.trans j2))
  clear h hb hrow hgot hnd hgn hU hB c3 c4 f3 f4 hG k1 k2 j1 j2
  go_enter Tryz.func23, Tryz.ntmps23
  go_wp2
  go_end0
  exact ⟨rfl, _, HE.out.1, HE.out.2⟩
end Go.Proofs.YtlejohclijjhnaaGreatDoor.Fm
namespace Go.Proofs.YtlejohclijjhnaaGreatDoor.Fm
open Go.RowKit Ti Qd Go.Maps Go.WideMaps Ru

theorem own_nf {W : World} {g : Nat} {k j : Int} {B : Nat} (hg : W.heap[g]? = some (nfo k j)) (hB : B ≤ g) : OwnF W B (.slice (some ⟨g, 0, none⟩) 1 1) [(nf k j, nilS)] :=
  ⟨rfl, .inr ⟨g, 1, _, rfl, hB, hg, Nat.le_refl _, by unfold maxLen; omega, rfl, rfl⟩⟩
set_option maxRecDepth 100000 in
set_option maxHeartbeats 2000000 in
theorem begin_f {B P room b l G M : Nat} {s : MS} {w : World} {H : Nat → Prop} (h : Mc B P room b l G M s w H) (hB : B ≤ w.heap.size) (hu : s.U = []) (id j : Int) (n : Nat) (hn : n ≤ 36) (hl : Lv s.L (n + 1) id) (h0 : 0 ≤ j) (h1 : j ≤ n + 2) :
    Calls Tryz.prog 7 #[.pointer (some ⟨G, 0, none⟩), .int .i64 id, .int .i64 j] w fun e w' => e = .returned .nilIface ∧ Goz (Mc B P room b l G M ⟨s.L, s.K, [nf id j], 0⟩) w H w' := by
  obtain ⟨ao, cp, c3, _, _⟩ := h.under
  rw [hu] at c3
  have c3 : w.cell? ⟨G, 3, none⟩ = some (.slice ao 0 cp) := c3
  have c0 := h.cells.1
  obtain ⟨Hs, k1, _⟩ := h.store
  have hlev : (at' s.L id).lev = (n : Int) + 4 := by rw [hl.2]; omega
  have HL := Lib.hid (level_is k1 id hl.1 _ hlev)
  have hgo : goB ((n : Int) + 4) j = true := decide_eq_true (by omega)
  have HG := Lib.hid (fun w => goesOn_f ((n : Int) + 4) j (by omega) (by omega) w)
  rw [hgo] at HG
  have HST := Lib.hid (fun (W : World) (hb : Below w.heap.size w W) (g : Nat) (hg : W.heap[g]? = some (nfo id j)) (hs : w.heap.size ≤ g) => start_f h [nf id j] hb (own_nf hg hs) (by intro x hx; rw [List.mem_singleton] at hx; subst hx; exact World.ownsRow_nil _ _ _ _) (by simp [ownV, ownU, Value.ownBlock]) (by intro x hx _; rw [List.mem_singleton] at hx; subst hx; rfl) rfl hB)
  clear h hB hu hl h0 h1 k1 hlev hgo
  generalize (n : Int) + 4 = lev at *
  go_enter Tryz.func7, Tryz.ntmps7
  go_wp2_with fail
  refine HL.out.mono ?_
  rintro e w1 ⟨rfl, hb⟩
  have HB := Lib.hid hb
  clear hb c3 c0
  go_wp2_with fail
  refine (HG.out _).mono ?_
  rintro e w2 ⟨rfl, rfl⟩
  have HW := Lib.hid (HST.out (w1.alloc (nfo id j)) (HB.out.trans ((alX w1 _).mono HB.out.size)) w1.heap.size (heap_alloc_new w1 _) HB.out.size)
  clear HST
  go_wp2_with fail
  refine HW.out.mono ?_
  rintro e w3 ⟨rfl, hg⟩
  have HE := Lib.hid hg
  clear hg
  go_wp2
  go_ret
  exact ⟨rfl, HE.out⟩
end Go.Proofs.YtlejohclijjhnaaGreatDoor.Fm
namespace Go.Proofs.YtlejohclijjhnaaGreatDoor.Fm
open Go.RowKit Ti Qd Go.Maps Go.WideMaps Ru

theorem own_zero (T : TypeId) (s : Nat) (w : World) : (w.alloc (.cells #[] T)).ownsRow w.heap.size T s (.slice (some ⟨w.heap.size, 0, none⟩) 0 0) 0 [] :=
  ⟨by simp, .inr ⟨w.heap.size, 0, #[], rfl, Nat.le_refl _, heap_alloc_new w _, Nat.le_refl _, by unfold maxLen; omega, by simp, by simp⟩⟩
def CloneI (w : World) (h : Value) (got : List Int) (e : Ending) (w' : World) : Prop := ∃ ao n cap, e = .returned (.slice ao n cap) ∧ OwnI w' w.heap.size (.slice ao n cap) got ∧ (h = nilS → (.slice ao n cap : Value) = nilS) ∧ Below w.heap.size w w'
theorem lies_cells {w : World} {ad : Addr} {c : Nat} {l : List Int} (h : LiesI w (.slice (some ad) l.length c) l) : ∀ j u, (ints l)[j]? = some u → w.cell? (ad.add j) = some u := by
  intro j u hu
  obtain ⟨ao, cap, e, _, _, h4⟩ := h
  injection e with e
  have hj : j < l.length := by
    have := (List.getElem?_eq_some_iff.1 hu).1
    rwa [ints_len] at this
  obtain ⟨b, off, e2, hc⟩ := h4 j hj
  rw [← e] at e2
  injection e2 with e2
  subst e2
  unfold ints at hu
  simp [hj] at hu
  rw [← hu, Addr.add_mid]
  exact hc
set_option maxRecDepth 100000 in
theorem clone_i (h : Value) (got : List Int) (w : World) (hl : LiesI w h got) (hm : got.length ≤ 1000) :
    Calls Tryz.prog 40 #[h] w (CloneI w h got) := by
  have hl0 := hl
  obtain ⟨ao, c, rfl, h1, h2, h4⟩ := hl
  cases ao with
  | none =>
    have h0 : got = [] := by
      cases got with
      | nil => rfl
      | cons a t => obtain ⟨b, off, e, _⟩ := h4 0 (by simp); cases e
    subst h0
    clear h4 hl0 hm
    have he : ∀ W : World, (binOp .eql 45 (.slice none 0 c) (.slice none 0 0)).run Tryz.prog W = .ok (.bool true) W := fun _ => rfl
    have he : ∀ W : World, (binOp .eql 45 (.slice none (List.length ([] : List Int)) c) (.slice none 0 0)).run Tryz.prog W = .ok (.bool true) W := fun _ => rfl
    show Calls _ _ #[.slice none 0 c] w _
    have he : ∀ W : World, (binOp .eql 45 (.slice none 0 c) (.slice none 0 0)).run Tryz.prog W = .ok (.bool true) W := fun _ => rfl
    go_enter Tryz.func40, Tryz.ntmps40
    go_wp2
    go_ret
    exact ⟨none, 0, 0, rfl, World.ownsRow_nil _ _ _ _, fun _ => rfl, Below.refl _ _⟩
  | some ad =>
    have HC : Hid (∀ j u, (ints got)[j]? = some u → (w.alloc (.cells #[] 3)).cell? (ad.add j) = some u) := Lib.hid lies_cells (hl0.bel (alX w _))
    have HL := Lib.hid (show (ints got).length = got.length * 1 by rw [ints_len, Nat.mul_one])
    have HM := Lib.hid hm
    obtain ⟨i0, hi, z0, z1, z2⟩ := info_of info_i
    have HI := Lib.hid (And.intro hi (And.intro z0 (And.intro z1 z2)))
    clear hi z0 z1 z2 h4 hl0 hm
    generalize hn : got.length = n at *
    have HN := Lib.hid hn
    clear hn
    have he : ∀ W : World, (binOp .eql 45 (.slice (some ad) n c) (.slice none 0 0)).run Tryz.prog W = .ok (.bool false) W := fun _ => rfl
    go_enter Tryz.func40, Tryz.ntmps40
    go_wp2_with (at_builtin; refine wpList_append_own _ rfl (.tmp 5) (.tmp 6) 45 rfl w.heap.size 3 i0 (.int .i64 0) 1 8 Tryz.underlying45 HI.out.1 HI.out.2.1 HI.out.2.2.1 HI.out.2.2.2 rfl (by decide) _ 0 [] rfl (own_zero _ _ _) ad n c (ints got) rfl HL.out HC.out (ints_one got) (by have := HM.out; unfold maxLen; omega) (by have := HM.out; omega) (by simp) ?_; intro v2 w5 hown hgrow _; obtain ⟨a2, c2, rfl⟩ := own_form hown; have HO := Lib.hid hown; have HB := Lib.hid ((alX w (.cells #[] 3)).grown hgrow (by simp) (fun j hj => by cases hj; exact Nat.le_refl _)); clear hown hgrow)
    go_ret
    refine ⟨_, _, _, rfl, ?_, ?_, HB.out⟩
    · have := HO.out
      unfold OwnI
      rw [HN.out]
      simpa using this
    · intro h
      injection h with h
      cases h
/-- frames that lie in a row -/
def LiesF (w : World) (ao : Option Addr) (us : List FH) : Prop := ∀ i (hi : i < us.length), ∃ b off, ao = some ⟨b, off, none⟩ ∧ ∀ j, j < 4 → w.cell? ⟨b, off + i * 4 + j, none⟩ = (fcs us[i])[j]?
theorem LiesF.bel {w w' : World} {ao : Option Addr} {us : List FH} (h : LiesF w ao us) (hb : Below w.heap.size w w') : LiesF w' ao us := fun i hi => by
  obtain ⟨b, off, e, hc⟩ := h i hi
  refine ⟨b, off, e, fun j hj => ?_⟩
  have h0 := hc 0 (by decide)
  have hl : b < w.heap.size := World.block_lt_of_cell? w ⟨b, off + i * 4 + 0, none⟩ h0
  exact (World.cell?_of_block (a := ⟨b, off + i * 4 + j, none⟩) (hb.block b hl)).trans (hc j hj)
theorem liesf_cells {w : World} {ad : Addr} {us : List FH} (h : LiesF w (some ad) us) : ∀ j u, (fls us)[j]? = some u → w.cell? (ad.add j) = some u := by
  intro j u hu
  have hj : j < us.length * 4 := by
    have := (List.getElem?_eq_some_iff.1 hu).1
    rwa [fls_len] at this
  have e := fls_at us (j / 4) (by omega) (j % 4) (by omega)
  rw [show j / 4 * 4 + j % 4 = j by omega, hu] at e
  obtain ⟨b, off, ha, hc⟩ := h (j / 4) (by omega)
  obtain rfl : ad = ⟨b, off, none⟩ := by simpa using ha
  rw [Addr.add_mid]
  have := hc (j % 4) (by omega)
  rw [show off + j / 4 * 4 + j % 4 = off + j by omega] at this
  rw [this, ← e]
theorem fls_one (us : List FH) (h : ∀ x ∈ us, ∃ a n c, x.2 = .slice a n c) : ∀ u ∈ fls us, u.oneCell' = true := by
  induction us with
  | nil => intro u hu; cases hu
  | cons x r ih =>
    intro u hu
    rcases List.mem_append.1 (show u ∈ fcs x ++ fls r from hu) with q | q
    · exact fcs_one x (h x List.mem_cons_self) u q
    · exact ih (fun y hy => h y (List.mem_cons_of_mem _ hy)) u q
def CloneF (w : World) (us : List FH) (e : Ending) (w' : World) : Prop := ∃ ao cap, e = .returned (.slice ao us.length cap) ∧ OwnF w' w.heap.size (.slice ao us.length cap) us ∧ Below w.heap.size w w'
set_option maxRecDepth 100000 in
theorem clone_f (ao : Option Addr) (c : Nat) (us : List FH) (w : World) (hl : LiesF w ao us) (hs : ∀ x ∈ us, ∃ a n c, x.2 = .slice a n c) (hm : us.length ≤ 1000) :
    Calls Tryz.prog 39 #[.slice ao us.length c] w (CloneF w us) := by
  cases ao with
  | none =>
    have h0 : us = [] := by
      cases us with
      | nil => rfl
      | cons a t => obtain ⟨b, off, e, _⟩ := hl 0 (by simp); cases e
    subst h0
    clear hl hs hm
    show Calls _ _ #[.slice none 0 c] w _
    have he : ∀ W : World, (binOp .eql 40 (.slice none 0 c) (.slice none 0 0)).run Tryz.prog W = .ok (.bool true) W := fun _ => rfl
    go_enter Tryz.func39, Tryz.ntmps39
    go_wp2
    go_ret
    exact ⟨none, 0, rfl, World.ownsRow_nil _ _ _ _, Below.refl _ _⟩
  | some ad =>
    have HC := Lib.hid (liesf_cells (hl.bel (alX w (.cells #[] 47))))
    have HL := Lib.hid (fls_len us)
    have HO1 := Lib.hid (fls_one us hs)
    have HM := Lib.hid hm
    obtain ⟨i0, hi, z0, z1, z2⟩ := info_of info_f
    have HI := Lib.hid (And.intro hi (And.intro z0 (And.intro z1 z2)))
    clear hi z0 z1 z2 hl hs hm
    generalize hn : us.length = n at *
    have HN := Lib.hid hn
    clear hn
    have he : ∀ W : World, (binOp .eql 40 (.slice (some ad) n c) (.slice none 0 0)).run Tryz.prog W = .ok (.bool false) W := fun _ => rfl
    go_enter Tryz.func39, Tryz.ntmps39
    go_wp2_with (at_builtin; refine wpList_append_own _ rfl (.tmp 5) (.tmp 6) 40 rfl w.heap.size 47 i0 (.agg #[.int .i64 0, .int .i64 0, .int .i64 0, .slice none 0 0]) 4 48 Tryz.underlying40 HI.out.1 HI.out.2.1 HI.out.2.2.1 HI.out.2.2.2 rfl (by decide) _ 0 [] rfl (own_zero _ _ _) ad n c (fls us) rfl HL.out HC.out HO1.out (by have := HM.out; unfold maxLen; omega) (by have := HM.out; omega) (by simp) ?_; intro v2 w5 hown hgrow _; obtain ⟨a2, c2, rfl⟩ := own_form hown; have HO := Lib.hid hown; have HB := Lib.hid ((alX w (.cells #[] 47)).grown hgrow (by simp) (fun j hj => by cases hj; exact Nat.le_refl _)); clear hown hgrow)
    go_ret
    refine ⟨a2, c2, ?_, ?_, HB.out⟩
    · rw [HN.out]
      simp
    · have := HO.out
      unfold OwnF
      rw [HN.out]
      simpa using this
theorem fls_mid (nw : List FH) (x : Fr) (h h' : Value) (r : List FH) : (fls (nw ++ (x, h) :: r)).set (nw.length * 4 + 3) h' = fls (nw ++ (x, h') :: r) := by
  rw [fls_app, fls_app, List.set_append_right _ _ (by rw [fls_len]; omega), fls_len, Nat.add_sub_cancel_left]
  rfl
/-- copies, one behind the other -/
structure Cpd (w : World) (v : Value) (us : List FH) (k : Nat) (wr : World) (nw : List FH) : Prop where
  len : nw.length = k
  fst : nw.map Prod.fst = (us.take k).map Prod.fst
  row : wr.ownsRow w.heap.size 47 4 v us.length (fls (nw ++ us.drop k))
  got : ∀ x ∈ nw, OwnI wr w.heap.size x.2 x.1.got
  nd : (ownV v ++ ownU nw).Nodup
  gn : ∀ x ∈ nw, x.1.got = [] → x.2 = .slice none 0 0
  bel : Below w.heap.size w wr
theorem own_mono {w : World} {B C : Nat} {e : TypeId} {s : Nat} {v : Value} {n : Nat} {xs : List Value} (h : w.ownsRow C e s v n xs) (hB : B ≤ C) : w.ownsRow B e s v n xs := by
  refine ⟨h.1, h.2.imp id ?_⟩
  rintro ⟨g, cap, cur, e1, e2, e3⟩
  exact ⟨g, cap, cur, e1, Nat.le_trans hB e2, e3⟩
theorem Cpd.next {w : World} {g cap : Nat} {us : List FH} {k : Nat} {wr w1 : World} {nw : List FH} (h : Cpd w (.slice (some ⟨g, 0, none⟩) us.length cap) us k wr nw) (hk : k < us.length) {h' : Value} (hb : Below wr.heap.size wr w1) (ho : OwnI w1 wr.heap.size h' us[k].1.got) (hn : us[k].1.got = [] → h' = .slice none 0 0) :
    Cpd w (.slice (some ⟨g, 0, none⟩) us.length cap) us (k + 1) (w1.setCell ⟨g, k * 4 + 3, none⟩ h') (nw ++ [(us[k].1, h')]) := by
  have hs := h.bel.size
  have hg : g < wr.heap.size := (h.row.lt g rfl).2
  have hd : us.drop k = us[k] :: us.drop (k + 1) := List.drop_eq_getElem_cons hk
  have hrow := h.row
  rw [hd] at hrow
  have hr1 := own_moved (w' := w1) hrow fun x hx => by
    have : g = x := by simpa [Value.ownBlock] using hx
    subst this
    exact hb.block g hg
  have hst := (hr1.stored (k * 4 + 3) h').1
  have hmid := fls_mid nw us[k].1 us[k].2 h' (us.drop (k + 1))
  rw [h.len] at hmid
  rw [show nw ++ us[k] :: us.drop (k + 1) = nw ++ (us[k].1, us[k].2) :: us.drop (k + 1) from rfl, hmid] at hst
  have h'g : ¬ h'.ownBlock = some g := fun e => by have := (ho.lt g e).1; omega
  have hnd := h.nd
  refine ⟨by simp [h.len], ?_, by rw [List.append_assoc]; exact hst, fun x hx => ?_, ?_, fun x hx he => ?_, (h.bel.trans (hb.mono hs)).setCell (h.row.lt g rfl).1 _⟩
  · rw [List.map_append, h.fst, List.take_succ_eq_append_getElem hk, List.map_append]
    rfl
  · rcases List.mem_append.1 hx with hx | hx
    · have ho2 := h.got x hx
      refine own_moved ho2 fun y hy => ?_
      have hyg : ¬ y = g := fun e => by
        rw [List.nodup_append] at hnd
        refine hnd.2.2 g (mem_ownV.2 rfl) y ?_ e.symm
        unfold ownU
        rw [List.mem_flatMap]
        exact ⟨x, hx, mem_ownV.2 hy⟩
      exact (Go.RowKit.Below.heap_setCell _ _ _ _ hyg).trans (hb.block y (ho2.lt y hy).2)
    · rw [List.mem_singleton] at hx
      subst hx
      exact own_mono (own_moved ho fun y hy => Go.RowKit.Below.heap_setCell _ _ _ _ fun e => h'g (by rw [hy, e])) hs
  · rw [ownU_snoc, ← List.append_assoc, List.nodup_append]
    refine ⟨hnd, by unfold ownV; cases h'.ownBlock <;> simp, fun a ha c hc e => ?_⟩
    subst e
    have h1 := (ho.lt a (mem_ownV.1 hc)).1
    have h2 : a < wr.heap.size := by
      rcases List.mem_append.1 ha with q | q
      · exact (h.row.lt a (mem_ownV.1 q)).2
      · unfold ownU at q
        rw [List.mem_flatMap] at q
        obtain ⟨z, hz, q⟩ := q
        exact ((h.got z hz).lt a (mem_ownV.1 q)).2
    omega
  · rcases List.mem_append.1 hx with hx | hx
    · exact h.gn x hx he
    · rw [List.mem_singleton] at hx
      subst hx
      exact hn he
def Copied (w : World) (us : List FH) (e : Ending) (w' : World) : Prop := ∃ ao cap nw, e = .returned (.slice ao us.length cap) ∧ nw.map Prod.fst = us.map Prod.fst ∧ OwnF w' w.heap.size (.slice ao us.length cap) nw ∧ (∀ x ∈ nw, OwnI w' w.heap.size x.2 x.1.got) ∧ (ownV (.slice ao us.length cap) ++ ownU nw).Nodup ∧ (∀ x ∈ nw, x.1.got = [] → x.2 = .slice none 0 0) ∧ Below w.heap.size w w'
end Go.Proofs.YtlejohclijjhnaaGreatDoor.Fm

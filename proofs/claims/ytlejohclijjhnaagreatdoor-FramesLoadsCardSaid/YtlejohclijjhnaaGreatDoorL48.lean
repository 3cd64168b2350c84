/-
  WALK of Load, of frames that can't be loaded. Conditions: nothing is under way; canStand says no.
  FRAMES THAT ARE TOLD CAN BE LOADED; what stays from run to run. Conditions: those that each lemma names.
  NO FRAME OF A LIST THAT CAN STAND STANDS UPON ITS UPPERMOST ONE; frames of which one thing is another can't be. Conditions: those that each lemma names.
  WHAT append MAKES OF nil AND A LIST OF FRAMES: a list of its own. Conditions: the list lies in memory, is short and not empty.
  Load OF A LIST THAT WAS TOLD, with one frame another that can't be, or with one more upon it. Conditions: those that each lemma names.
-/
import Derived.Test.YtlejohclijjhnaaGreatDoorL45
import Derived.Test.YtlejohclijjhnaaGreatDoorL46
import Derived.Test.YtlejohclijjhnaaGreatDoorL47
namespace Go.Proofs.YtlejohclijjhnaaGreatDoor.Fm
open Go.RowKit Ti Qd Go.Maps Go.WideMaps Ru

set_option maxRecDepth 100000 in
theorem load_no {B P room b l G M : Nat} {s : MS} {w : World} {H : Nat → Prop} (h : Mc B P room b l G M s w H) (hu : s.U = []) (ao : Option Addr) (n cap : Nat) (hcs : Calls Tryz.prog 28 #[.pointer (some ⟨G, 0, none⟩), .slice ao n cap] w fun e w' => e = .returned (.bool false) ∧ Below w.heap.size w w') :
    Calls Tryz.prog 13 #[.pointer (some ⟨G, 0, none⟩), .slice ao n cap] w fun e w' => e = .returned (.iface 63 (.int .i64 3)) ∧ Below w.heap.size w w' := by
  obtain ⟨a3, p3, c3, _, _⟩ := h.under
  rw [hu] at c3
  have c3 : w.cell? ⟨G, 3, none⟩ = some (.slice a3 0 p3) := c3
  have HCS := Lib.hid hcs
  clear h hu hcs
  go_enter Tryz.func13, Tryz.ntmps13
  go_wp2_with fail
  refine HCS.out.mono ?_
  rintro e w1 ⟨rfl, hb⟩
  have HB := Lib.hid hb
  clear hb c3
  go_wp2
  go_ret
  exact ⟨rfl, HB.out⟩
end Go.Proofs.YtlejohclijjhnaaGreatDoor.Fm
namespace Go.Proofs.YtlejohclijjhnaaGreatDoor.Fm
open Go.RowKit Ti Qd Go.Maps Go.WideMaps Ru

theorem stk_fol {b l : Nat} {L : List Sq} : ∀ {U : List Fr}, Stk b l L U → ∀ i (hi : i + 1 < U.length), Fol L U[i + 1] U[i]
  | [], _, i, hi => absurd hi (by simp)
  | [_], _, i, hi => absurd hi (by simp)
  | g :: f :: r, h, 0, _ => h.2.1
  | g :: f :: r, h, i + 1, hi => stk_fol (U := f :: r) h.2.2 i (by simpa using hi)
theorem stk_each {b l : Nat} {L : List Sq} : ∀ {U : List Fr}, Stk b l L U → ∀ g ∈ U, ∃ n, FOk b l L g n
  | [], _, g, hg => absurd hg (by simp)
  | f :: r, h, g, hg => by
    rcases List.mem_cons.1 hg with rfl | hg
    · exact Stk.top h
    · exact stk_each (Stk.rest h) g hg
theorem ldb_of {b l : Nat} {s : MS} (h : SOk b l s) (hu : s.U ≠ []) {us : List FH} (e : us.map Prod.fst = s.U.reverse) : Ldb b l s.L us := by
  have hl : us.length = s.U.length := by
    have := congrArg List.length e
    simpa using this
  have hat : ∀ i (hi : i < us.length), us[i].1 = s.U[s.U.length - 1 - i]'(by omega) := fun i hi => by
    have h1 : (us.map Prod.fst)[i]'(by simpa using hi) = us[i].1 := by simp
    have h2 : (us.map Prod.fst)[i]'(by simpa using hi) = s.U.reverse[i]'(by simp; omega) := by simp only [e]
    rw [← h1, h2, List.getElem_reverse]
  have hpos : 0 < s.U.length := List.length_pos_iff.2 hu
  have hle : s.U.length ≤ 40 := by
    have hst := h.stk
    have hi : Inv s.L := h.kn.inv
    match hU : s.U with
    | [] => exact absurd hU hu
    | f :: r =>
      rw [hU] at hst
      obtain ⟨n, hf⟩ := Stk.top hst
      have := stk_len hi r f n hst hf
      show r.length + 1 ≤ 40
      omega
  refine ⟨by omega, by omega, fun i hi => ?_, fun i hi => ?_⟩
  · rw [hat i hi]
    exact stk_each h.stk _ (List.getElem_mem _)
  · have e1 := hat i (by omega)
    have e2 := hat (i + 1) hi
    rw [e1, e2]
    have k := stk_fol h.stk (s.U.length - 2 - i) (by omega)
    have q1 : s.U.length - 2 - i + 1 = s.U.length - 1 - i := by omega
    have q2 : s.U.length - 1 - (i + 1) = s.U.length - 2 - i := by omega
    simp only [q1] at k
    simp only [q2]
    exact k
/-- what stays, from run to run, whichever machine runs -/
structure Iv (r l : Nat) (L0 : List Sq) (id j : Int) (s : MS) : Prop where
  ok : SOk r l s
  bas : Bas id j s
  ext : L0 <+: s.L
  len : s.L.length + 2 * pot s.L s.U ≤ 9818
theorem Iv.run {r l : Nat} {L0 : List Sq} {id j : Int} {s : MS} (h : Iv r l L0 id j s) (n : Nat) : Iv r l L0 id j (runF r l n s).2 ∧ (runF r l n s).2.L.length ≤ 40000 := by
  have ro := run_ok n h.ok
  have h1 := ro.len
  have h2 := ro.pot
  have h3 := h.len
  exact ⟨⟨ro.ok, ro.bas id j h.bas, h.ext.trans ro.ext, by omega⟩, by omega⟩
theorem Iv.load {r l : Nat} {L0 : List Sq} {id j : Int} {s : MS} (h : Iv r l L0 id j s) (hu : s.U ≠ []) : Iv r l L0 id j ⟨s.L, K0, s.U, 0⟩ := by
  refine ⟨⟨gok_new r l h.ok.kn.inv, h.ok.stk⟩, ?_, h.ext, h.len⟩
  rcases h.bas with ⟨e, _⟩ | e
  · exact absurd e hu
  · exact .inr e
theorem Iv.last {r l : Nat} {L0 : List Sq} {id j : Int} {s : MS} (h : Iv r l L0 id j s) (hu : s.U ≠ []) : (runF r l 1048576 s).2.U = [] ∧ 0 < (runF r l 1048576 s).1 := by
  obtain ⟨N, hN⟩ : ∃ N : Nat, N = 1048576 := ⟨_, rfl⟩
  rw [← hN]
  have := h.len
  exact ⟨run_end h.ok (by omega), (run_ok N h.ok).pos hu (by omega)⟩
theorem cst_le : ∀ p, p ≤ 3 → ∀ j, j ≤ p + 2 → cst p j ≤ 25000 := by decide
/-- what came of it is what Grow answers -/
theorem Iv.end_ {r l : Nat} {L0 : List Sq} {id : Int} {j p : Nat} {s : MS} (h : Iv r l L0 id j s) (hu : s.U = []) (hl : Lv L0 (p + 1) id) (hp : p ≤ 3) (hj : j ≤ p + 2) : (s.out != 0) = true ∧ (growQ r l p (s.L, K0) id j).2 = s.out ∧ (growQ r l p (s.L, K0) id j).1.1.length ≤ 40000 ∧ GOk r l (s.L, K0) ∧ Lv s.L (p + 1) id := by
  have hk := bas_end h.bas hu
  have hv : Lv s.L (p + 1) id := hl.ext h.ext
  have g : Grn r l s.L id j s.out := (h.ok.kn.kn _ _ _ hk).2
  have hi : Inv s.L := h.ok.kn.inv
  have hg : GOk r l (s.L, K0) := gok_new r l hi
  have gr := grow_ok r l p Tt _ (uni_any r l) (s.L, K0) id j _ 0 0 hg (by omega) hj (Wn.self hv) trivial
  have w1 := (g p _ _ _ (Wn.self hv)).2
  have e0 : s.L <+: (growQ r l p (s.L, K0) id j).1.1 := gr.ext
  have w2 := w1.ext hi e0
  rw [show ((j : Int)).toNat = j from Int.toNat_natCast j] at w2
  have hlen := gr.len
  have hcs := cst_le p hp j hj
  have hL := h.len
  have e1 : ((s.L, K0) : GS).1.length = s.L.length := rfl
  refine ⟨?_, Wn.uniq gr.ok.inv gr.win w2, by omega, hg, hv⟩
  have ho := w1.1.1
  unfold Ok at ho
  rw [bne_iff_ne]
  intro q
  rw [q] at ho
  omega
end Go.Proofs.YtlejohclijjhnaaGreatDoor.Fm
namespace Go.Proofs.YtlejohclijjhnaaGreatDoor.Fm
open Go.RowKit Ti Qd Go.Maps Go.WideMaps Ru

theorem stk_lev {b l : Nat} {L : List Sq} (hi : Inv L) : ∀ {r : List Fr} {f : Fr} {n : Nat}, Stk b l L (f :: r) → FOk b l L f n → ∀ g ∈ f :: r, ∃ m, n ≤ m ∧ FOk b l L g m
  | [], f, n, _, hf, g, hg => by
    obtain rfl : g = f := by simpa using hg
    exact ⟨n, Nat.le_refl _, hf⟩
  | y :: r, f, n, h, hf, g, hg => by
    rcases List.mem_cons.1 hg with rfl | hg
    · exact ⟨n, Nat.le_refl _, hf⟩
    · obtain ⟨_, hfo, hst⟩ := (show (∃ n, FOk b l L f n) ∧ Fol L y f ∧ Stk b l L (y :: r) from h)
      obtain ⟨q, hy⟩ := Stk.top hst
      obtain ⟨e, _⟩ := hfo.lev hi hy hf
      obtain ⟨m, h1, h2⟩ := stk_lev hi hst hy g hg
      exact ⟨m, by omega, h2⟩
theorem follows_top {B : Nat} {w : World} {P b l : Nat} {L : List Sq} {room : Nat} {Hs : Nat → Prop} {G : Nat} (hst : St B w P L room Hs) (hc : w.cell? ⟨G, 0, none⟩ = some (.pointer (some ⟨P, 0, none⟩))) {f g : Fr} {r : List Fr} (hs : Stk b l L (f :: r)) (hg : g ∈ f :: r) (hb hh : Value) (hl : LiesI w hb f.got) (hlg : LiesI w hh g.got) :
    Calls Tryz.prog 46 #[.pointer (some ⟨G, 0, none⟩), fv f hb, fv g hh] w fun e w' => e = .returned (.bool false) ∧ Below w.heap.size w w' := by
  have hi := hst.inv
  obtain ⟨n, hf⟩ := Stk.top hs
  obtain ⟨m, hm, hgm⟩ := stk_lev hi hs hf g hg
  cases hx : nextP L f with
  | none =>
    obtain ⟨ag, cg, rfl, _⟩ := hlg
    exact follows_none hst hc f g hb ag _ cg n hf hl hx
  | some x =>
    cases hst2 : x.still with
    | true =>
      obtain ⟨ag, cg, rfl, _⟩ := hlg
      exact follows_still hst hc f g hb ag _ cg n hf hl x hx hst2
    | false =>
      by_cases hj : g.j = x.j
      · refine follows_kids hst hc f g hb hh n m hf hl hlg x hx hst2 hj (fun e => ?_) hgm.lv
        obtain ⟨q, rfl, hlt, hxe⟩ := next_inv hf hx
        have a := (hi.kid hgm.lv 0).2
        have c := (part_lv hi hf hlt 0 (by decide)).2
        rw [← hxe, ← e] at c
        omega
      · obtain ⟨ag, cg, rfl, _⟩ := hlg
        exact follows_j hst hc f g hb ag _ cg n hf hl x hx hst2 hj
/-- a frame of which one thing is another: the five ways of the statement -/
theorem canBe_ways {B : Nat} {w : World} {P b l : Nat} {L : List Sq} {room : Nat} {Hs : Nat → Prop} {G : Nat} (hst : St B w P L room Hs) (hc : w.cell? ⟨G, 0, none⟩ = some (.pointer (some ⟨P, 0, none⟩))) {f : Fr} {n : Nat} (hf : FOk b l L f n) (ah : Option Addr) (ch : Nat) (g : Fr)
    (hw : (g = ⟨L.length + 5, f.j, f.st, f.got⟩) ∨ (g = ⟨f.id, 39, f.st, f.got⟩) ∨ (g = ⟨f.id, f.j, f.st + 1, f.got⟩) ∨ (g = ⟨f.id, -1, f.st, f.got⟩)) :
    Calls Tryz.prog 45 #[.pointer (some ⟨G, 0, none⟩), fv g (.slice ah f.got.length ch)] w fun e w' => e = .returned (.bool false) ∧ Below w.heap.size w w' := by
  have h36 := hf.n36
  have hl := hf.len
  rcases hw with rfl | rfl | rfl | rfl
  · exact canBe_none hst hc _ ah _ ch (fun q => by have := q.2; simp only at this; omega)
  · exact canBe_far hst hc _ ah _ ch ((n : Int) + 4) hf.lv.1 hf.lev (by omega) (by omega) (decide_eq_false (by simp only; omega))
  · exact canBe_len hst hc _ ah _ ch ((n : Int) + 4) hf.lv.1 hf.lev (by omega) (by omega) (decide_eq_true (by have := hf.j0; have := hf.j1; simp only; omega)) (by omega) (by have := hf.st; simp only; omega)
  · exact canBe_far hst hc _ ah _ ch ((n : Int) + 4) hf.lv.1 hf.lev (by omega) (by omega) (decide_eq_false (by simp only; omega))
theorem canBe_way4 {B : Nat} {w : World} {P b l : Nat} {L : List Sq} {room : Nat} {Hs : Nat → Prop} {G : Nat} (hst : St B w P L room Hs) (hc : w.cell? ⟨G, 0, none⟩ = some (.pointer (some ⟨P, 0, none⟩))) {f : Fr} {n : Nat} (hf : FOk b l L f n) (bb off ch : Nat) (hz : w.cell? ⟨bb, off, none⟩ = some (.int .i64 0)) (got : List Int) :
    Calls Tryz.prog 45 #[.pointer (some ⟨G, 0, none⟩), fv ⟨f.id, f.j, f.st + 1, got⟩ (.slice (some ⟨bb, off, none⟩) (f.got.length + 1) ch)] w fun e w' => e = .returned (.bool false) ∧ Below w.heap.size w w' := by
  have h36 := hf.n36
  have hl := hf.len
  have hg : goB ((n : Int) + 4) f.j = true := decide_eq_true (by have := hf.j0; have := hf.j1; omega)
  have hs : f.st + 1 = ((f.got.length + 1 : Nat) : Int) := by have := hf.st; omega
  by_cases hp : parts ((n : Int) + 4) < ((f.got.length + 1 : Nat) : Int)
  · exact canBe_many hst hc ⟨f.id, f.j, f.st + 1, got⟩ _ _ ch ((n : Int) + 4) hf.lv.1 hf.lev (by omega) (by omega) hg (by omega) hs hp
  · exact canBe_zero hst hc ⟨f.id, f.j, f.st + 1, got⟩ bb off _ ch ((n : Int) + 4) hf.lv.1 hf.lev (by omega) (by omega) hg (by omega) hs hp (by omega) hz
end Go.Proofs.YtlejohclijjhnaaGreatDoor.Fm
namespace Go.Proofs.YtlejohclijjhnaaGreatDoor.Fm
open Go.RowKit Ti Qd Go.Maps Go.WideMaps Ru

theorem append_now (ao : Option Addr) (cap : Nat) (nw : List FH) (w : World) (hl : LiesF w ao nw) (hs : ∀ x ∈ nw, ∃ a n c, x.2 = .slice a n c) (hp : 0 < nw.length) (hm : nw.length ≤ 1000) :
    ∃ ao' cap' w2, (Builtin.append_ #[40, 40] 40 #[.slice none 0 0, .slice ao nw.length cap]).run Tryz.prog w = .ok (.slice ao' nw.length cap') w2 ∧ OwnF w2 w.heap.size (.slice ao' nw.length cap') nw ∧ Below w.heap.size w w2 := by
  obtain ⟨b0, off, rfl, _⟩ := hl 0 hp
  obtain ⟨i, hi, z0, z1, z2⟩ := info_of info_f
  have hfl : (fls nw).length = nw.length * 4 := fls_len nw
  obtain ⟨v', w2, a1, a2, a3, _, a5⟩ := run_append_own_at w w.heap.size 40 40 47 i (.agg #[.int .i64 0, .int .i64 0, .int .i64 0, .slice none 0 0]) 4 48 Tryz.underlying40 hi z0 z1 z2 rfl (by decide) (.slice none 0 0) 0 [] (World.ownsRow_nil _ _ _ _) ⟨b0, off, none⟩ nw.length cap (fls nw) hfl (liesf_cells hl) (fls_one nw hs) (by unfold maxLen; omega) (by omega) (Nat.le_refl _)
  have a2 : w2.ownsRow w.heap.size 47 4 v' nw.length (fls nw) := by
    have := a2
    rw [List.nil_append, Nat.zero_add] at this
    exact this
  obtain ⟨ao', cap', rfl⟩ := own_form a2
  exact ⟨ao', cap', w2, a1, a2, ⟨a3.os, a3.tape, a3.output, a3.size, fun k hk => a3.block k hk (by intro e; cases e)⟩⟩
end Go.Proofs.YtlejohclijjhnaaGreatDoor.Fm
namespace Go.Proofs.YtlejohclijjhnaaGreatDoor.Fm
open Go.RowKit Ti Qd Go.Maps Go.WideMaps Ru

theorem told_len {s : MS} {nw : List FH} (e : nw.map Prod.fst = s.U.reverse) : nw.length = s.U.length := by
  have := congrArg List.length e
  simpa using this
/-- the list's own frame number k is g, which can't be -/
theorem load_set {B P room r l G M : Nat} {s4 : MS} {w : World} {H : Nat → Prop} (h : Mc B P room r l G M ⟨s4.L, K0, [], 0⟩ w H) (hok : SOk r l s4) (hu : s4.U ≠ []) {nw : List FH} (e : nw.map Prod.fst = s4.U.reverse) (hg : ∀ x ∈ nw, LiesI w x.2 x.1.got) (ao : Option Addr) (cap k : Nat) (hk : k < nw.length) (y : FH) (hy : ∃ a n c, y.2 = .slice a n c) (hl : LiesF w ao (nw.set k y))
    (hbad : ∀ W, Below w.heap.size w W → Calls Tryz.prog 45 #[.pointer (some ⟨G, 0, none⟩), fv y.1 y.2] W fun e w' => e = .returned (.bool false) ∧ Below W.heap.size W w') :
    Calls Tryz.prog 13 #[.pointer (some ⟨G, 0, none⟩), .slice ao nw.length cap] w fun e w' => e = .returned (.iface 63 (.int .i64 3)) ∧ Below w.heap.size w w' := by
  obtain ⟨Hs, hst, _⟩ := h.store
  have hst : St B w P s4.L room Hs := hst
  have hc := h.cells.1
  have hd := ldb_of hok hu e
  have hlen : (nw.set k y).length = nw.length := List.length_set
  refine load_no h rfl ao _ cap ?_
  rw [← hlen]
  refine canStand_be ao cap (nw.set k y) hl (fun i hi => ?_) (by rw [hlen]; exact hd.pos) (by rw [hlen]; exact hd.le) k (fun W hW i hi hik => ?_) (fun W hW i hi hik => ?_) (by rw [hlen]; exact hk) (fun W hW => ?_)
  · by_cases q : k = i
    · subst q
      rw [List.getElem_set_self]
      exact hy
    · rw [List.getElem_set_ne q]
      obtain ⟨a, c, e2, _⟩ := hg _ (List.getElem_mem (by rw [hlen] at hi; exact hi))
      exact ⟨a, _, c, e2⟩
  · have hi2 : i < nw.length := by omega
    have e1 : (nw.set k y)[i] = nw[i] := List.getElem_set_ne (by omega) _
    rw [e1]
    obtain ⟨n, hf⟩ := hd.ok i hi2
    exact canBe_f (hst.bel hW) (cell_bel hc hW) nw[i].1 nw[i].2 n hf ((hg _ (List.getElem_mem hi2)).bel hW)
  · have hi2 : i + 1 < nw.length := by omega
    have e1 : (nw.set k y)[i] = nw[i] := List.getElem_set_ne (by omega) _
    have e2 : (nw.set k y)[i + 1] = nw[i + 1] := List.getElem_set_ne (by omega) _
    rw [e1, e2]
    obtain ⟨n, hf⟩ := hd.ok i (by omega)
    obtain ⟨m, hf2⟩ := hd.ok (i + 1) hi2
    exact follows_f (hst.bel hW) (cell_bel hc hW) nw[i].1 nw[i + 1].1 nw[i].2 nw[i + 1].2 n m hf ((hg _ (List.getElem_mem (by omega))).bel hW) ((hg _ (List.getElem_mem hi2)).bel hW) (hd.fol i hi2) hf2.lv
  · have e1 : (nw.set k y)[k]'(by rw [hlen]; exact hk) = y := List.getElem_set_self _
    rw [e1]
    exact hbad W hW
/-- one of the list's own frames once more, upon all -/
theorem load_more {B P room r l G M : Nat} {s4 : MS} {w : World} {H : Nat → Prop} (h : Mc B P room r l G M ⟨s4.L, K0, [], 0⟩ w H) (hok : SOk r l s4) (hu : s4.U ≠ []) {nw : List FH} (e : nw.map Prod.fst = s4.U.reverse) (hg : ∀ x ∈ nw, LiesI w x.2 x.1.got) (ao : Option Addr) (cap k : Nat) (hk : k < nw.length) (h39 : nw.length ≤ 39) (hl : LiesF w ao (nw ++ [nw[k]])) :
    Calls Tryz.prog 13 #[.pointer (some ⟨G, 0, none⟩), .slice ao (nw.length + 1) cap] w fun e w' => e = .returned (.iface 63 (.int .i64 3)) ∧ Below w.heap.size w w' := by
  obtain ⟨Hs, hst, _⟩ := h.store
  have hst : St B w P s4.L room Hs := hst
  have hc := h.cells.1
  have hd := ldb_of hok hu e
  have hlen : (nw ++ [nw[k]]).length = nw.length + 1 := by simp
  have hpos := hd.pos
  obtain ⟨q0, hq0⟩ : ∃ q0, nw.length = q0 + 1 := ⟨nw.length - 1, by omega⟩
  have old : ∀ i (hi : i < nw.length), (nw ++ [nw[k]])[i]'(by omega) = nw[i] := fun i hi => List.getElem_append_left hi
  have new : (nw ++ [nw[k]])[q0 + 1]'(by omega) = nw[k] := by
    rw [List.getElem_append_right (by omega)]
    simp [hq0]
  refine load_no h rfl ao _ cap ?_
  rw [← hlen]
  refine canStand_fol ao cap (nw ++ [nw[k]]) hl (fun i hi => ?_) (by omega) (by omega) q0 (fun W hW i hi hik => ?_) (fun W hW i hi hik => ?_) (by omega) (fun W hW => ?_) (fun W hW => ?_)
  · have hm : (nw ++ [nw[k]])[i] ∈ nw := by
      rcases List.mem_append.1 (List.getElem_mem hi) with q | q
      · exact q
      · rw [List.mem_singleton] at q
        rw [q]
        exact List.getElem_mem hk
    obtain ⟨a, c, e2, _⟩ := hg _ hm
    exact ⟨a, _, c, e2⟩
  · rw [old i (by omega)]
    obtain ⟨n, hf⟩ := hd.ok i (by omega)
    exact canBe_f (hst.bel hW) (cell_bel hc hW) nw[i].1 nw[i].2 n hf ((hg _ (List.getElem_mem (by omega))).bel hW)
  · rw [old i (by omega), old (i + 1) (by omega)]
    obtain ⟨n, hf⟩ := hd.ok i (by omega)
    obtain ⟨m, hf2⟩ := hd.ok (i + 1) (by omega)
    exact follows_f (hst.bel hW) (cell_bel hc hW) nw[i].1 nw[i + 1].1 nw[i].2 nw[i + 1].2 n m hf ((hg _ (List.getElem_mem (by omega))).bel hW) ((hg _ (List.getElem_mem (by omega))).bel hW) (hd.fol i (by omega)) hf2.lv
  · rw [new]
    obtain ⟨n, hf⟩ := hd.ok k hk
    exact canBe_f (hst.bel hW) (cell_bel hc hW) nw[k].1 nw[k].2 n hf ((hg _ (List.getElem_mem hk)).bel hW)
  · rw [new, old q0 (by omega)]
    have hat : ∀ i (hi : i < nw.length), nw[i].1 = s4.U[s4.U.length - 1 - i]'(by have := told_len e; omega) := fun i hi => by
      have h1 : (nw.map Prod.fst)[i]'(by simpa using hi) = nw[i].1 := by simp
      have h2 : (nw.map Prod.fst)[i]'(by simpa using hi) = s4.U.reverse[i]'(by have := told_len e; simp; omega) := by simp only [e]
      rw [← h1, h2, List.getElem_reverse]
    have hl4 := told_len e
    match hU : s4.U with
    | [] => exact absurd hU hu
    | f :: t =>
      have e1 : nw[q0].1 = f := by
        rw [hat q0 (by omega)]
        have z : (f :: t).length - 1 - q0 = 0 := by rw [← hU]; omega
        simp only [hU, z]
        rfl
      have hmem : nw[k].1 ∈ f :: t := by
        rw [hat k hk, ← hU]
        exact List.getElem_mem _
      have hs := hok.stk
      rw [hU, ← e1] at hs
      rw [← e1] at hmem
      exact follows_top (hst.bel hW) (cell_bel hc hW) hs hmem nw[q0].2 nw[k].2 ((hg _ (List.getElem_mem (by omega))).bel hW) ((hg _ (List.getElem_mem hk)).bel hW)
end Go.Proofs.YtlejohclijjhnaaGreatDoor.Fm

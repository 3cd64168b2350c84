/-
  A FRAME PUT INTO A LIST OF FRAMES OF ONE'S OWN. Conditions: the list lies in memory, the place is one of it.
-/
import Derived.Deep.AppendLies
import Derived.Test.YtlejohclijjhnaaGreatDoorL48
namespace Go.Proofs.YtlejohclijjhnaaGreatDoor.Fm
open Go.RowKit Ti Qd Go.Maps Go.WideMaps Ru

theorem bstep {w0 w w' : World} (h : Below w0.heap.size w0 w) (k : Below w.heap.size w w') : Below w0.heap.size w0 w' := h.trans (k.mono h.size)
theorem heap_ne (w : World) (g o x : Nat) (v : Value) (h : ¬ x = g) : (w.setCell ⟨g, o, none⟩ v).heap[x]? = w.heap[x]? := Below.heap_setCell _ _ _ _ h
set_option maxRecDepth 100000 in
theorem len_f {B : Nat} {w : World} {P : Nat} {L : List Sq} {room : Nat} {H : Nat → Prop} (h : St B w P L room H) :
    Calls Tryz.prog 11 #[.pointer (some ⟨P, 0, none⟩)] w fun e w' => e = .returned (.int .i64 (L.length : Int)) ∧ w = w' := by
  obtain ⟨M, sv, hs, rfl⟩ := h
  obtain ⟨ao, cap, rfl, hc, hcm, h0, h00, h01⟩ := own_sq hs.row
  have c1 := hs.c1
  clear hs h0 h00 h01
  generalize L.length = n at *
  go_enter Tryz.func11, Tryz.ntmps11
  go_wp2
  go_ret
  exact ⟨rfl, rfl⟩
abbrev put4 (w : World) (g o : Nat) (v0 v1 v2 v3 : Value) : World := (((w.setCell ⟨g, o, none⟩ v0).setCell ⟨g, o + 1, none⟩ v1).setCell ⟨g, o + 2, none⟩ v2).setCell ⟨g, o + 3, none⟩ v3
theorem set_ne (w : World) (g a b : Nat) (v : Value) (h : ¬ a = b) : (w.setCell ⟨g, a, none⟩ v).cell? ⟨g, b, none⟩ = w.cell? ⟨g, b, none⟩ := World.cell?_setCell_other _ _ _ _ (fun e => h (by injection e))
theorem put4_at {w : World} {g o : Nat} (v0 v1 v2 v3 : Value) (h : ∀ j, j < 4 → (w.cell? ⟨g, o + j, none⟩).isSome = true) : ∀ j, j < 4 → (put4 w g o v0 v1 v2 v3).cell? ⟨g, o + j, none⟩ = #[v0, v1, v2, v3][j]? := by
  have s0 := h 0 (by decide)
  have s1 := h 1 (by decide)
  have s2 := h 2 (by decide)
  have s3 := h 3 (by decide)
  intro j hj
  unfold put4
  have h4 : j = 0 ∨ j = 1 ∨ j = 2 ∨ j = 3 := by omega
  rcases h4 with rfl | rfl | rfl | rfl
  · rw [set_ne _ _ _ _ _ (show ¬ o + 3 = o + 0 by omega), set_ne _ _ _ _ _ (show ¬ o + 2 = o + 0 by omega), set_ne _ _ _ _ _ (show ¬ o + 1 = o + 0 by omega)]
    exact World.cell?_setCell_same' _ _ _ s0
  · rw [set_ne _ _ _ _ _ (show ¬ o + 3 = o + 1 by omega), set_ne _ _ _ _ _ (show ¬ o + 2 = o + 1 by omega)]
    exact World.cell?_setCell_same' _ _ _ (by rw [set_ne _ _ _ _ _ (show ¬ o = o + 1 by omega)]; exact s1)
  · rw [set_ne _ _ _ _ _ (show ¬ o + 3 = o + 2 by omega)]
    exact World.cell?_setCell_same' _ _ _ (by rw [set_ne _ _ _ _ _ (show ¬ o + 1 = o + 2 by omega), set_ne _ _ _ _ _ (show ¬ o = o + 2 by omega)]; exact s2)
  · exact World.cell?_setCell_same' _ _ _ (by rw [set_ne _ _ _ _ _ (show ¬ o + 2 = o + 3 by omega), set_ne _ _ _ _ _ (show ¬ o + 1 = o + 3 by omega), set_ne _ _ _ _ _ (show ¬ o = o + 3 by omega)]; exact s3)
theorem put4_out {w : World} {g o q : Nat} (v0 v1 v2 v3 : Value) (h : q < o ∨ o + 4 ≤ q) : (put4 w g o v0 v1 v2 v3).cell? ⟨g, q, none⟩ = w.cell? ⟨g, q, none⟩ := by
  unfold put4
  rw [set_ne _ _ _ _ _ (show ¬ o + 3 = q by omega), set_ne _ _ _ _ _ (show ¬ o + 2 = q by omega), set_ne _ _ _ _ _ (show ¬ o + 1 = q by omega), set_ne _ _ _ _ _ (show ¬ o = q by omega)]
theorem put4_heap (w : World) (g o x : Nat) (v0 v1 v2 v3 : Value) (h : ¬ x = g) : (put4 w g o v0 v1 v2 v3).heap[x]? = w.heap[x]? :=
  (Below.heap_setCell _ _ _ _ h).trans ((Below.heap_setCell _ _ _ _ h).trans ((Below.heap_setCell _ _ _ _ h).trans (Below.heap_setCell _ _ _ _ h)))
theorem put4_bel {n : Nat} {w0 w : World} {g : Nat} (hb : Below n w0 w) (hg : n ≤ g) (o : Nat) (v0 v1 v2 v3 : Value) : Below n w0 (put4 w g o v0 v1 v2 v3) :=
  (((hb.setCell (p := ⟨g, o, none⟩) hg v0).setCell (p := ⟨g, o + 1, none⟩) hg v1).setCell (p := ⟨g, o + 2, none⟩) hg v2).setCell (p := ⟨g, o + 3, none⟩) hg v3
theorem liesf_put {w : World} {g off : Nat} {us : List FH} (h : LiesF w (some ⟨g, off, none⟩) us) {k : Nat} (hk : k < us.length) (y : FH) :
    LiesF (put4 w g (off + k * 4) (.int .i64 y.1.id) (.int .i64 y.1.j) (.int .i64 y.1.st) y.2) (some ⟨g, off, none⟩) (us.set k y) := by
  have hat : ∀ i (hi : i < us.length) j, j < 4 → w.cell? ⟨g, off + i * 4 + j, none⟩ = (fcs us[i])[j]? := fun i hi j hj => by
    obtain ⟨b, o, e, hc⟩ := h i hi
    cases e
    exact hc j hj
  intro i hi
  rw [List.length_set] at hi
  refine ⟨g, off, rfl, fun j hj => ?_⟩
  by_cases e : k = i
  · subst e
    rw [List.getElem_set_self, put4_at _ _ _ _ (fun j hj => by
      rw [hat k hk j hj]
      have h4 : j = 0 ∨ j = 1 ∨ j = 2 ∨ j = 3 := by omega
      rcases h4 with rfl | rfl | rfl | rfl <;> rfl) j hj]
    have h4 : j = 0 ∨ j = 1 ∨ j = 2 ∨ j = 3 := by omega
    rcases h4 with rfl | rfl | rfl | rfl <;> rfl
  · rw [List.getElem_set_ne e, put4_out _ _ _ _ (by omega)]
    exact hat i hi j hj
theorem liesf_one {w : World} {g off : Nat} {us : List FH} (h : LiesF w (some ⟨g, off, none⟩) us) {k : Nat} (hk : k < us.length) :
    (w.cell? ⟨g, off + k * 4, none⟩ = some (.int .i64 us[k].1.id) ∧ w.cell? ⟨g, off + k * 4 + 1, none⟩ = some (.int .i64 us[k].1.j)) ∧ (w.cell? ⟨g, off + k * 4 + 2, none⟩ = some (.int .i64 us[k].1.st) ∧ w.cell? ⟨g, off + k * 4 + 3, none⟩ = some us[k].2) := by
  obtain ⟨b, o, e, hc⟩ := h k hk
  cases e
  exact ⟨⟨hc 0 (by decide), hc 1 (by decide)⟩, ⟨hc 2 (by decide), hc 3 (by decide)⟩⟩
theorem liesf_blk {w w' : World} {g off : Nat} {us : List FH} (h : LiesF w (some ⟨g, off, none⟩) us) (e : w'.heap[g]? = w.heap[g]?) : LiesF w' (some ⟨g, off, none⟩) us := fun i hi => by
  obtain ⟨b, o, eb, hc⟩ := h i hi
  cases eb
  exact ⟨g, off, rfl, fun j hj => (World.cell?_of_block (a := ⟨g, off + i * 4 + j, none⟩) e).trans (hc j hj)⟩
theorem row_y {w : World} {g : Nat} {a b c d : Value} {T : TypeId} (h : w.heap[g]? = some (.cells #[a, b, c, d] T (0, 0))) : w.cell? ⟨g, 0, none⟩ = some a ∧ w.cell? ⟨g, 1, none⟩ = some b ∧ w.cell? ⟨g, 2, none⟩ = some c ∧ w.cell? ⟨g, 3, none⟩ = some d :=
  ⟨cell_of_row w g 0 _ _ _ h, cell_of_row w g 1 _ _ _ h, cell_of_row w g 2 _ _ _ h, cell_of_row w g 3 _ _ _ h⟩
theorem row_yf {w : World} {g : Nat} {a b c d : Value} {T : TypeId} (h : w.heap[g]? = some (.cells #[a, b, c, d] T (0, 0))) : w.frozen? ⟨g, 0, none⟩ = false ∧ w.frozen? ⟨g, 1, none⟩ = false ∧ w.frozen? ⟨g, 2, none⟩ = false ∧ w.frozen? ⟨g, 3, none⟩ = false :=
  ⟨frozen_of_row w g 0 _ _ h, frozen_of_row w g 1 _ _ h, frozen_of_row w g 2 _ _ h, frozen_of_row w g 3 _ _ h⟩
/-- what is told of a list, with a block of its own -/
theorem own_at {w : World} {B n cap : Nat} {ao : Option Addr} {us : List FH} (h : OwnF w B (.slice ao n cap) us) (hp : 0 < us.length) : ∃ g off, ao = some ⟨g, off, none⟩ ∧ B ≤ g ∧ g < w.heap.size ∧ LiesF w (some ⟨g, off, none⟩) us ∧ (∀ j, w.frozen? ⟨g, j, none⟩ = false) := by
  obtain ⟨ao', cap', e, hl, _, _⟩ := own_liesf h
  cases e
  rcases h.2 with ⟨e, h0⟩ | ⟨g, cap, cur, e, hb, hg, _⟩
  · omega
  · cases e
    exact ⟨g, 0, rfl, hb, lt_of_block hg, hl, fun j => frozen_of_row _ _ j _ _ hg⟩
theorem told_few {b l : Nat} {s : MS} (h : SOk b l s) : s.U.length ≤ 39 := by
  have hst := h.stk
  have hi : Inv s.L := h.kn.inv
  match hU : s.U with
  | [] => exact Nat.zero_le _
  | f :: r =>
    rw [hU] at hst
    obtain ⟨n, hf⟩ := Stk.top hst
    have := stk_len hi r f n hst hf
    show r.length + 1 ≤ 39
    omega
/-- a nought ahead of what came -/
theorem append_zero {w : World} {h : Value} {got : List Int} (hl : LiesI (w.alloc (.cells #[.int .i64 0] 3)) h got) (hn : got = [] → h = .slice none 0 0) (hm : got.length ≤ 1000) :
    ∃ bb off cap w2, (Builtin.append_ #[45, 45] 45 #[.slice (some ⟨w.heap.size, 0, none⟩) 1 1, h]).run Tryz.prog (w.alloc (.cells #[.int .i64 0] 3)) = .ok (.slice (some ⟨bb, off, none⟩) (got.length + 1) cap) w2 ∧ w.heap.size ≤ bb ∧ w2.cell? ⟨bb, off, none⟩ = some (.int .i64 0) ∧ Below w.heap.size w w2 := by
  obtain ⟨i, hi, z0, z1, z2⟩ := info_of info_i
  have hown : (w.alloc (.cells #[.int .i64 0] 3)).ownsRow w.heap.size 3 1 (.slice (some ⟨w.heap.size, 0, none⟩) 1 1) 1 [.int .i64 0] := World.ownsRow_lit w #[.int .i64 0] 1 (Nat.le_refl _) (by unfold maxLen; omega) rfl
  have hb1 := alX w (.cells #[.int .i64 0] 3)
  cases got with
  | nil =>
    rw [hn rfl]
    refine ⟨w.heap.size, 0, 1, _, run_append_owned_none _ w.heap.size 45 45 3 i 1 Tryz.underlying45 hi _ _ _ hown, Nat.le_refl _, ?_, hb1⟩
    exact cell_of_row _ _ 0 _ _ _ (heap_alloc_new w (.cells #[.int .i64 0] 3))
  | cons x t =>
    obtain ⟨ao, cap, rfl, _, _, hc⟩ := hl
    obtain ⟨b, off, rfl, _⟩ := hc 0 (by simp)
    obtain ⟨g, cp, w2, a1, a2, a3, a4, _⟩ := run_append_lies _ 45 45 w.heap.size 3 i (.int .i64 0) 1 8 Tryz.underlying45 hi z0 z1 z2 rfl (by decide) _ 1 [.int .i64 0] hown ⟨b, off, none⟩ (x :: t).length cap (ints (x :: t)) (by unfold ints; simp) (fun j u hu => by
        obtain ⟨hj, e⟩ := List.getElem?_eq_some_iff.1 hu
        have hj2 : j < (x :: t).length := by unfold ints at hj; simpa using hj
        obtain ⟨b', off', e', hcj⟩ := hc j hj2
        cases e'
        rw [show (⟨b, off, none⟩ : Addr).add j = ⟨b, off + j, none⟩ by simp [Addr.add], hcj, ← hu]
        unfold ints
        rw [List.getElem?_map, List.getElem?_eq_getElem hj2]
        rfl) (fun u hu => by
        unfold ints at hu
        obtain ⟨y, _, rfl⟩ := List.mem_map.1 hu
        rfl) (by simp) (by unfold maxLen; omega) (by omega) (by simp) _ rfl
    refine ⟨g, 0, cp, w2, by rw [Nat.add_comm]; exact a1, ?_, ?_, hb1.trans ⟨a3.os, a3.tape, a3.output, Nat.le_trans (by simp) a3.size, fun k hk => a3.block k (by simp; omega) (by intro e; have e2 : w.heap.size = k := (Option.some.inj e).symm; omega)⟩⟩
    · rcases a4 with a4 | a4
      · have e2 : w.heap.size = g := Option.some.inj a4
        omega
      · rw [a4, World.size_alloc]
        exact Nat.le_succ _
    exact World.ownsRow.cellAt a2 0 (by omega)
/-- one of the list's own frames, once more, upon all -/
theorem append_one {w : World} {B : Nat} {ao : Option Addr} {cap : Nat} {us : List FH} (hr : OwnF w B (.slice ao us.length cap) us) (hB : B ≤ w.heap.size) (y : FH) (hy : ∃ a n c, y.2 = .slice a n c) (hm : us.length ≤ 1000) :
    ∃ ao' cap' w2, (Builtin.append_ #[40, 40] 40 #[.slice ao us.length cap, .slice (some ⟨w.heap.size, 0, none⟩) 1 1]).run Tryz.prog (w.alloc (.cells #[.int .i64 y.1.id, .int .i64 y.1.j, .int .i64 y.1.st, y.2] 47)) = .ok (.slice ao' (us.length + 1) cap') w2 ∧ OwnF w2 B (.slice ao' (us.length + 1) cap') (us ++ [y]) ∧ w.grownBy w2 (Value.slice ao us.length cap).ownBlock := by
  obtain ⟨i, hi, z0, z1, z2⟩ := info_of info_f
  obtain ⟨v', w2, a1, a2, a3, _, a5⟩ := run_append_own_at (w.alloc (.cells #[.int .i64 y.1.id, .int .i64 y.1.j, .int .i64 y.1.st, y.2] 47)) B 40 40 47 i (.agg #[.int .i64 0, .int .i64 0, .int .i64 0, .slice none 0 0]) 4 48 Tryz.underlying40 hi z0 z1 z2 rfl (by decide) (.slice ao us.length cap) us.length (fls us) (hr.alloc _) ⟨w.heap.size, 0, none⟩ 1 1 (fcs y) rfl (fun j u hu => by
      rw [show (⟨w.heap.size, 0, none⟩ : Addr).add j = ⟨w.heap.size, j, none⟩ by cases j <;> simp [Addr.add], cell_of_row _ _ j _ _ _ (heap_alloc_new w (.cells #[.int .i64 y.1.id, .int .i64 y.1.j, .int .i64 y.1.st, y.2] 47)), ← hu]
      unfold fcs
      simp) (fcs_one _ hy) (by unfold maxLen; omega) (by omega) (by simp; omega)
  obtain ⟨ao', cap', rfl⟩ := own_form a2
  refine ⟨ao', cap', w2, a1, ?_, (World.grownBy_alloc w _ _).trans a3⟩
  unfold OwnF
  rw [fls_snoc, List.length_append]
  exact a2
end Go.Proofs.YtlejohclijjhnaaGreatDoor.Fm

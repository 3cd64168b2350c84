/-
  THE WALK of next. Conditions: the map counts what lives; the rule may be.
-/

import Derived.Test.YticnhpddidaaeaaCn
namespace Go.Proofs.Yticnhpddidaaeaa
open Go.RowKit Ru Ce Go.Maps Go.Shelf
attribute [local go_sem] Oper.semAt_some

def rul (b l : Nat) : Rul := fun x n => pick b l x n
/-- the keys that live next -/
def onC {D : DataW Unit} (r : Rul) (S : List Cel) (pre : List (KC D)) : List Cel := (pre.map Subtype.val).filter (alive r S)
theorem onC_snoc {D : DataW Unit} (r : Rul) (S : List Cel) (pre : List (KC D)) (x : KC D) : onC r S (pre ++ [x]) = onC r S pre ++ if alive r S x.1 = true then [x.1] else [] := by
  unfold onC
  rw [List.map_append, List.filter_append]
  congr 1
  show List.filter _ [x.1] = _
  by_cases h : alive r S x.1 = true <;> simp [h]
def NextR (w : World) (r : Rul) (S : List Cel) (e : Ending) (w' : World) : Prop :=
  if fine (nxt r S) = true then ∃ v ks, e = .returned (.tuple #[v, .nilIface]) ∧ OwnC 31 w' w.heap.size v ks.length ks ∧ ks.Perm (nxt r S) ∧ Below w.heap.size w w'
  else e = .returned (.tuple #[.slice none 0 0, .iface 41 (.int .i64 6)]) ∧ Below w.heap.size w w'
/-- what lies between two rounds -/
structure NI (w : World) (R M E4 E5 O : Nat) (bb ll b nn : Nat) (D : DataW Unit) (v : Value) (L : List Cel) (u4 u5 : Value) (W : World) : Prop where
  rb : W.heap[R]? = some (.cells #[.int .u16 bb, .int .u16 ll] 36 (0, 0))
  mb : Boxed W M 43 (.map (some b))
  e4 : Boxed W E4 28 u4
  e5 : Boxed W E5 33 u5
  o0 : Boxed W O 28 v
  row : OwnC 31 W w.heap.size v L.length L
  own : OwnsC W b nn D
  bel : Below w.heap.size w W
section
variable {w : World} {R M E4 E5 O bb ll b nn : Nat} {D : DataW Unit} {v : Value} {L : List Cel} {u4 u5 : Value} {W : World}
theorem NI.r0 (h : NI w R M E4 E5 O bb ll b nn D v L u4 u5 W) : W.cell? ⟨R, 0, none⟩ = some (.int .u16 bb) := cell_of_row _ _ 0 _ _ _ h.rb
theorem NI.r1 (h : NI w R M E4 E5 O bb ll b nn D v L u4 u5 W) : W.cell? ⟨R, 1, none⟩ = some (.int .u16 ll) := cell_of_row _ _ 1 _ _ _ h.rb
theorem NI.m0 (h : NI w R M E4 E5 O bb ll b nn D v L u4 u5 W) : W.cell? ⟨M, 0, none⟩ = some (.map (some b)) := h.mb.cell
theorem ne_row {X g : Nat} {cs cur : Array Value} {T T' : TypeId} (h : W.heap[X]? = some (.cells cs T (0, 0))) (hT : T ≠ T') (hg : W.heap[g]? = some (.cells cur T' (0, 0))) : ¬ X = g := by
  rintro rfl
  rw [h] at hg
  injection hg with hg
  injection hg with _ hg
  exact hT hg
/-- what stays where the row alone turns, and new blocks come -/
structure NK (R M E4 E5 b nn bb ll : Nat) (D : DataW Unit) (u4 u5 : Value) (W : World) : Prop where
  rb : W.heap[R]? = some (.cells #[.int .u16 bb, .int .u16 ll] 36 (0, 0))
  mb : Boxed W M 43 (.map (some b))
  e4 : Boxed W E4 28 u4
  e5 : Boxed W E5 33 u5
  own : OwnsC W b nn D
theorem NK.kept {B : World} {row : Option Nat} (h : NK R M E4 E5 b nn bb ll D u4 u5 W) (hg : W.grownBy B row) (h1 : some R ≠ row) (h2 : some M ≠ row) (h3 : some E4 ≠ row) (h4 : some E5 ≠ row) (h5 : some b ≠ row) : NK R M E4 E5 b nn bb ll D u4 u5 B :=
  ⟨(hg.block R (lt_of_block h.rb) h1).trans h.rb, h.mb.kept hg h2, h.e4.kept hg h3, h.e5.kept hg h4, h.own.kept hg h5⟩
theorem NI.nk (h : NI w R M E4 E5 O bb ll b nn D v L u4 u5 W) : NK R M E4 E5 b nn bb ll D u4 u5 W := ⟨h.rb, h.mb, h.e4, h.e5, h.own⟩
theorem NI.ne_own (h : NI w R M E4 E5 O bb ll b nn D v L u4 u5 W) : some R ≠ v.ownBlock ∧ some M ≠ v.ownBlock ∧ some E4 ≠ v.ownBlock ∧ some E5 ≠ v.ownBlock ∧ some b ≠ v.ownBlock := by
  rcases h.row.2 with ⟨ev, _⟩ | ⟨g, cap, cur, ev, _, hgb, _⟩
  · rw [ev]; simp [Value.ownBlock]
  · rw [ev]
    have hb : ¬ b = g := by
      rintro rfl
      obtain ⟨es, clock, hb, _⟩ := h.own
      rw [hgb] at hb
      cases hb
    exact ⟨fun e => ne_row h.rb (by decide) hgb (Option.some.inj e), fun e => ne_row h.mb (by decide) hgb (Option.some.inj e), fun e => ne_row h.e4 (by decide) hgb (Option.some.inj e), fun e => ne_row h.e5 (by decide) hgb (Option.some.inj e), fun e => hb (Option.some.inj e)⟩
theorem NI.append (h : NI w R M E4 E5 O bb ll b nn D v L u4 u5 W) (hne : ¬ R = O ∧ ¬ M = O ∧ ¬ E4 = O ∧ ¬ E5 = O) (hbO : ¬ b = O) {tmp : Obj} {w3 : World} {v' : Value} {L' : List Cel} (hgrow : (W.alloc tmp).grownBy w3 v.ownBlock)
    (hO : Boxed (w3.setCell ⟨O, 0, none⟩ v') O 28 v') (hr : OwnC 31 (w3.setCell ⟨O, 0, none⟩ v') w.heap.size v' L'.length L') (hb : Below w.heap.size W (w3.setCell ⟨O, 0, none⟩ v')) :
    NI w R M E4 E5 O bb ll b nn D v' L' u4 u5 (w3.setCell ⟨O, 0, none⟩ v') := by
  obtain ⟨a1, a2, a3, a4, a5⟩ := h.ne_own
  have k1 := (h.nk.kept (World.grownBy_alloc W tmp none) (by simp) (by simp) (by simp) (by simp) (by simp)).kept hgrow a1 a2 a3 a4 a5
  have k2 := k1.kept (grownBy_setCell' w3 O v') (fun e => hne.1 (Option.some.inj e)) (fun e => hne.2.1 (Option.some.inj e)) (fun e => hne.2.2.1 (Option.some.inj e)) (fun e => hne.2.2.2 (Option.some.inj e)) (fun e => hbO (Option.some.inj e))
  exact ⟨k2.rb, k2.mb, k2.e4, k2.e5, hO, hr, k2.own, h.bel.trans hb⟩
theorem NI.turn {B : World} {row : Option Nat} (h : NI w R M E4 E5 O bb ll b nn D v L u4 u5 W) (hg : W.grownBy B row)
    (hr : ∀ r, row = some r → (w.heap.size ≤ r ∧ ¬ r = b) ∧ ∃ o : Obj, W.heap[r]? = some o ∧ o.isCells = false) : NI w R M E4 E5 O bb ll b nn D v L u4 u5 B := by
  have key : ∀ {X : Nat} {cs : Array Value} {T : TypeId}, W.heap[X]? = some (.cells cs T (0, 0)) → some X ≠ row := by
    intro X cs T hX e
    obtain ⟨o, ho, hc⟩ := (hr X e.symm).2
    rw [hX] at ho
    cases ho
    cases hc
  have k := h.nk.kept hg (key h.rb) (key h.mb) (key h.e4) (key h.e5) (fun e => (hr b e.symm).1.2 rfl)
  refine ⟨k.rb, k.mb, k.e4, k.e5, h.o0.kept hg (key h.o0), ?_, k.own, h.bel.grown hg h.bel.size (fun j e => (hr j e).1.1)⟩
  refine h.row.kept hg ?_
  rcases h.row.2 with ⟨ev, _⟩ | ⟨g, cap, cur, ev, _, hgb, _⟩
  · exact .inl (by rw [ev]; rfl)
  · refine .inr (fun e => ?_)
    rw [ev] at e
    exact key hgb e
end
theorem ni_ne_b {w : World} {R M E4 E5 O bb ll b nn : Nat} {D : DataW Unit} {v : Value} {L : List Cel} {u4 u5 : Value} {W : World} (h : NI w R M E4 E5 O bb ll b nn D v L u4 u5 W) : ¬ E4 = b ∧ ¬ E5 = b ∧ ¬ O = b :=
  ⟨owns_cell_ne h.own h.e4.cell, owns_cell_ne h.own h.e5.cell, owns_cell_ne h.own h.o0.cell⟩
theorem NI.set4 {w : World} {R M E4 E5 O bb ll b nn : Nat} {D : DataW Unit} {v : Value} {L : List Cel} {u4 u5 : Value} {W : World} (h : NI w R M E4 E5 O bb ll b nn D v L u4 u5 W) (h1 : ¬ R = E4) (h2 : ¬ M = E4) (h3 : ¬ E5 = E4) (h4 : ¬ O = E4) (hle : w.heap.size ≤ E4) (u : Value) :
    NI w R M E4 E5 O bb ll b nn D v L u u5 (W.setCell ⟨E4, 0, none⟩ u) := by
  have hg := grownBy_setCell' W E4 u
  exact ⟨(hg.block R (lt_of_block h.rb) (fun e => h1 (Option.some.inj e))).trans h.rb, h.mb.other h2 u, h.e4.set u, h.e5.other h3 u, h.o0.other h4 u, h.row.kept hg (.inr (fun e => (h.e4.not_row (by decide) h.row) e.symm)), h.own.kept hg (fun e => (ni_ne_b h).1 (Option.some.inj e).symm), h.bel.setCell (p := ⟨E4, 0, none⟩) hle u⟩
theorem NI.set5 {w : World} {R M E4 E5 O bb ll b nn : Nat} {D : DataW Unit} {v : Value} {L : List Cel} {u4 u5 : Value} {W : World} (h : NI w R M E4 E5 O bb ll b nn D v L u4 u5 W) (h1 : ¬ R = E5) (h2 : ¬ M = E5) (h3 : ¬ E4 = E5) (h4 : ¬ O = E5) (hle : w.heap.size ≤ E5) (u : Value) :
    NI w R M E4 E5 O bb ll b nn D v L u4 u (W.setCell ⟨E5, 0, none⟩ u) := by
  have hg := grownBy_setCell' W E5 u
  exact ⟨(hg.block R (lt_of_block h.rb) (fun e => h1 (Option.some.inj e))).trans h.rb, h.mb.other h2 u, h.e4.other h3 u, h.e5.set u, h.o0.other h4 u, h.row.kept hg (.inr (fun e => (h.e5.not_row (by decide) h.row) e.symm)), h.own.kept hg (fun e => (ni_ne_b h).2.1 (Option.some.inj e).symm), h.bel.setCell (p := ⟨E5, 0, none⟩) hle u⟩
set_option maxRecDepth 100000 in
theorem res_next (V : World) (tmps : Array Value) {E4 E5 : Nat} {a c : Value} (h4 : tmps.getD 4 undef = .pointer (some ⟨E4, 0, none⟩)) (h5 : tmps.getD 5 undef = .pointer (some ⟨E5, 0, none⟩)) (c4 : V.cell? ⟨E4, 0, none⟩ = some a) (c5 : V.cell? ⟨E5, 0, none⟩ = some c) :
    (results Try.f12 tmps).run Try.prog V = .ok (.tuple #[a, c]) V := by
  have h4' : tmps[4]?.getD undef = .pointer (some ⟨E4, 0, none⟩) := by simpa using h4
  have h5' : tmps[5]?.getD undef = .pointer (some ⟨E5, 0, none⟩) := by simpa using h5
  simp [results, Try.results12, go_sem, c4, c5, h4', h5']
/-- what has come is where something was counted -/
theorem key_mem {D : DataW Unit} {S : List Cel} (hf : MpC (cf S) D) (hok : ∀ x ∈ S, okc x = true) {ys : List (KC D)} (h : AllC D ys) (x : Cel) : x ∈ ys.map Subtype.val ↔ ¬ cf S x = 0 := by
  by_cases hx : I6 x
  · rw [h.2 x hx, hf.has x hx]
  · constructor
    · intro q
      obtain ⟨y, _, rfl⟩ := List.mem_map.1 q
      exact absurd y.2.1 hx
    · intro q
      exfalso
      obtain ⟨s, hs, hn⟩ := (cf_ne_zero S x).1 q
      have h1 := (okc_iff s).1 (hok s hs)
      have h2 := (near_iff s x).1 hn
      exact hx ⟨⟨by omega, by omega⟩, ⟨by omega, by omega⟩⟩
theorem next_good {D : DataW Unit} {S : List Cel} {r : Rul} (hf : MpC (cf S) D) (hok : ∀ x ∈ S, okc x = true) {ys : List (KC D)} (h : AllC D ys) (h2 : (onC r S ys).length ≤ 4096 ∧ ∀ x ∈ onC r S ys, okc x = true) : (onC r S ys).Perm (nxt r S) ∧ fine (nxt r S) = true := by
  have hp : (onC r S ys).Perm (nxt r S) := keys_next r S _ h.1 (key_mem hf hok h)
  exact ⟨hp, (fine_iff _).2 ⟨by rw [← hp.length_eq]; exact h2.1, fun x hx => h2.2 x (hp.mem_iff.2 hx)⟩⟩
theorem next_bad {D : DataW Unit} {S : List Cel} {r : Rul} (hf : MpC (cf S) D) {ys : List (KC D)} (h : (ys.map Subtype.val).Nodup) (hb : 4096 < (onC r S ys).length ∨ ∃ x ∈ ys.map Subtype.val, alive r S x = true ∧ okc x = false) : fine (nxt r S) = false := by
  refine keys_bad r S _ h (fun x hx => ?_) hb
  obtain ⟨y, _, rfl⟩ := List.mem_map.1 hx
  exact (hf.has _ y.2.1).1 y.2.2
theorem ni_start (w : World) (bb ll b nn : Nat) (D : DataW Unit) (h : OwnsC w b nn D) :
    NI w w.heap.size (w.heap.size + 1) (w.heap.size + 1 + 1) (w.heap.size + 1 + 1 + 1) (w.heap.size + 1 + 1 + 1 + 1) bb ll b nn D (.slice none 0 0) [] (.slice none 0 0) .nilIface
      ((((((w.alloc (.cells #[.int .u16 bb, .int .u16 ll] 36)).alloc (.cells #[.map (some b)] 43)).alloc (.cells #[.slice none 0 0] 28)).alloc (.cells #[.nilIface] 33)).alloc (.cells #[.slice none 0 0] 28)).alloc (.cells #[.map (some b)] 43)) ∧
    ((((((w.alloc (.cells #[.int .u16 bb, .int .u16 ll] 36)).alloc (.cells #[.map (some b)] 43)).alloc (.cells #[.slice none 0 0] 28)).alloc (.cells #[.nilIface] 33)).alloc (.cells #[.slice none 0 0] 28)).alloc (.cells #[.map (some b)] 43)).cell? ⟨w.heap.size + 1 + 1 + 1 + 1 + 1, 0, none⟩ = some (.map (some b)) ∧
    ((((((w.alloc (.cells #[.int .u16 bb, .int .u16 ll] 36)).alloc (.cells #[.map (some b)] 43)).alloc (.cells #[.slice none 0 0] 28)).alloc (.cells #[.nilIface] 33)).alloc (.cells #[.slice none 0 0] 28)).alloc (.cells #[.map (some b)] 43)).heap.size = w.heap.size + 6 := by
  have h0 := heap_alloc_new w (.cells #[.int .u16 bb, .int .u16 ll] 36)
  have s1 : (w.alloc (.cells #[.int .u16 bb, .int .u16 ll] 36)).heap.size = w.heap.size + 1 := World.size_alloc _ _
  have o1 := h.alloc (.cells #[.int .u16 bb, .int .u16 ll] 36)
  have b1 := alX w (.cells #[.int .u16 bb, .int .u16 ll] 36)
  generalize w.alloc (.cells #[.int .u16 bb, .int .u16 ll] 36) = w1 at h0 s1 o1 b1 ⊢
  have x2 := Boxed.new w1 43 (.map (some b))
  rw [s1] at x2
  have s2 : (w1.alloc (.cells #[.map (some b)] 43)).heap.size = w.heap.size + 1 + 1 := by rw [World.size_alloc, s1]
  have h0 := (Below.heap_alloc _ (.cells #[.map (some b)] 43) w.heap.size (lt_of_block h0)).trans h0
  have o2 := o1.alloc (.cells #[.map (some b)] 43)
  have b2 := b1.alloc b1.size (.cells #[.map (some b)] 43)
  generalize w1.alloc (.cells #[.map (some b)] 43) = w2 at h0 s2 o2 b2 x2 ⊢
  have x3 := Boxed.new w2 28 (.slice none 0 0)
  rw [s2] at x3
  have s3 : (w2.alloc (.cells #[.slice none 0 0] 28)).heap.size = w.heap.size + 1 + 1 + 1 := by rw [World.size_alloc, s2]
  have h0 := (Below.heap_alloc _ (.cells #[.slice none 0 0] 28) w.heap.size (lt_of_block h0)).trans h0
  have o3 := o2.alloc (.cells #[.slice none 0 0] 28)
  have b3 := b2.alloc b2.size (.cells #[.slice none 0 0] 28)
  have x2 := x2.alloc (.cells #[.slice none 0 0] 28)
  generalize w2.alloc (.cells #[.slice none 0 0] 28) = w3 at h0 s3 o3 b3 x2 x3 ⊢
  have x4 := Boxed.new w3 33 .nilIface
  rw [s3] at x4
  have s4 : (w3.alloc (.cells #[.nilIface] 33)).heap.size = w.heap.size + 1 + 1 + 1 + 1 := by rw [World.size_alloc, s3]
  have h0 := (Below.heap_alloc _ (.cells #[.nilIface] 33) w.heap.size (lt_of_block h0)).trans h0
  have o4 := o3.alloc (.cells #[.nilIface] 33)
  have b4 := b3.alloc b3.size (.cells #[.nilIface] 33)
  have x2 := x2.alloc (.cells #[.nilIface] 33)
  have x3 := x3.alloc (.cells #[.nilIface] 33)
  generalize w3.alloc (.cells #[.nilIface] 33) = w4 at h0 s4 o4 b4 x2 x3 x4 ⊢
  have x5 := Boxed.new w4 28 (.slice none 0 0)
  rw [s4] at x5
  have s5 : (w4.alloc (.cells #[.slice none 0 0] 28)).heap.size = w.heap.size + 1 + 1 + 1 + 1 + 1 := by rw [World.size_alloc, s4]
  have h0 := (Below.heap_alloc _ (.cells #[.slice none 0 0] 28) w.heap.size (lt_of_block h0)).trans h0
  have o5 := o4.alloc (.cells #[.slice none 0 0] 28)
  have b5 := b4.alloc b4.size (.cells #[.slice none 0 0] 28)
  have x2 := x2.alloc (.cells #[.slice none 0 0] 28)
  have x3 := x3.alloc (.cells #[.slice none 0 0] 28)
  have x4 := x4.alloc (.cells #[.slice none 0 0] 28)
  generalize w4.alloc (.cells #[.slice none 0 0] 28) = w5 at h0 s5 o5 b5 x2 x3 x4 x5 ⊢
  have x6 := Boxed.new w5 43 (.map (some b))
  rw [s5] at x6
  refine ⟨⟨(Below.heap_alloc _ _ w.heap.size (lt_of_block h0)).trans h0, x2.alloc _, x3.alloc _, x4.alloc _, x5.alloc _, World.ownsRow_nil _ _ _ _, o5.alloc _, b5.alloc b5.size _⟩, x6.cell, by rw [World.size_alloc, s5]⟩
set_option maxRecDepth 100000 in
set_option maxHeartbeats 4000000 in
theorem next_in (bb ll b nn : Nat) (D : DataW Unit) (S : List Cel) (w : World) (hm : mayR bb ll = true) (hown : OwnsC w b nn D) (hf : MpC (cf S) D) (hnd : S.Nodup) (hok : ∀ x ∈ S, okc x = true) :
    CallsIn Fence.wide 6 Try.prog 12 #[Rv bb ll, .map (some b)] w (NextR w (rul bb ll) S) := by
  have hfK : Fence.wide.fn 19 := trivial
  have hfK1 : Fence.wide.fn 28 := trivial
  have hbl := hown.lt
  unfold Rv
  refine callsIn_of_wp_marks Try.func12 rfl trivial ?_ rfl
  simp only [Try.ntmps12, List.size_toArray, List.length_cons, List.length_nil, Nat.reduceAdd, Nat.reduceSub, Array.replicate_succ, Array.replicate_zero, List.push_toArray, List.append_toArray, List.nil_append, List.cons_append]
  gi_wp2_with (gi_at_call 19; refine (keys_in Fence.wide _ hfK rfl _ _).mono ?_; rintro e w' ⟨rfl, rfl⟩)
  obtain ⟨hN0, hkb, hs6⟩ := ni_start w bb ll b nn D hown
  generalize ((((((w.alloc (.cells #[.int .u16 bb, .int .u16 ll] 36)).alloc (.cells #[.map (some b)] 43)).alloc (.cells #[.slice none 0 0] 28)).alloc (.cells #[.nilIface] 33)).alloc (.cells #[.slice none 0 0] 28)).alloc (.cells #[.map (some b)] 43)) = W0 at hN0 hkb hs6 ⊢
  obtain ⟨R, hR⟩ : ∃ R, R = w.heap.size := ⟨_, rfl⟩
  rw [← hR] at hN0 hkb hs6 hbl ⊢
  obtain ⟨M, hM⟩ : ∃ M, M = R + 1 := ⟨_, rfl⟩
  rw [← hM] at hN0 hkb ⊢
  obtain ⟨E4, hE4⟩ : ∃ E4, E4 = M + 1 := ⟨_, rfl⟩
  rw [← hE4] at hN0 hkb ⊢
  obtain ⟨E5, hE5⟩ : ∃ E5, E5 = E4 + 1 := ⟨_, rfl⟩
  rw [← hE5] at hN0 hkb ⊢
  obtain ⟨O, hO⟩ : ∃ O, O = E5 + 1 := ⟨_, rfl⟩
  rw [← hO] at hN0 hkb ⊢
  obtain ⟨KB, hKB⟩ : ∃ KB, KB = O + 1 := ⟨_, rfl⟩
  rw [← hKB] at hkb ⊢
  have HRZ := Lib.hid hR
  have HNE := Lib.hid (show ¬ E4 = O ∧ ¬ E5 = O ∧ ¬ E4 = E5 by omega)
  have HNF := Lib.hid (show (¬ R = E4 ∧ ¬ M = E4 ∧ ¬ E5 = E4 ∧ ¬ O = E4) ∧ (¬ R = E5 ∧ ¬ M = E5 ∧ ¬ E4 = E5 ∧ ¬ O = E5) ∧ (¬ R = O ∧ ¬ M = O ∧ ¬ E4 = O ∧ ¬ E5 = O) by omega)
  have HLE := Lib.hid (show w.heap.size ≤ E4 ∧ w.heap.size ≤ E5 ∧ w.heap.size ≤ O ∧ KB < W0.heap.size ∧ b < W0.heap.size ∧ w.heap.size ≤ W0.heap.size ∧ b < w.heap.size by omega)
  clear hR hM hE4 hE5 hO hKB hs6 hbl
  refine wpIn_rangeFunc_ownH rfl (by omega) (gf := 28) (lb := #[.pointer (some ⟨KB, 0, none⟩)]) rfl hfK1 (enters_of Try.func28 (by kernel_rfl) rfl)
    (keys_stops Fence.wide _ hfK1 rfl (by omega) KB b nn D W0 HLE.out.2.2.2.1 hkb hN0.own) walksK_t walksK_b (Below.refl _ _) (fun _ => rfl)
    (fun pre W => ∃ v, NI w R M E4 E5 O bb ll b nn D v (onC (rul bb ll) S pre) (.slice none 0 0) .nilIface W ∧ ((onC (rul bb ll) S pre).length ≤ 4096 ∧ ∀ x ∈ onC (rul bb ll) S pre, okc x = true))
    (fun c pre W => c = .ret ∧ (4096 < (onC (rul bb ll) S pre).length ∨ ∃ y ∈ pre.map Subtype.val, alive (rul bb ll) S y = true ∧ okc y = false) ∧ ∃ v L, NI w R M E4 E5 O bb ll b nn D v L (.slice none 0 0) (.iface 41 (.int .i64 6)) W)
    ?hI ?hIx ⟨_, hN0, ⟨by show 0 ≤ 4096; omega, fun x hx => by cases hx⟩⟩
    (fun x a' W => ∃ Bx, W.cell? ⟨Bx, 0, none⟩ = some (.int .i64 x.1.1) ∧ W.cell? ⟨Bx, 1, none⟩ = some (.int .i64 x.1.2) ∧ a' = { tmps := #[.agg #[.int .u16 bb, .int .u16 ll], .map (some b), .pointer (some ⟨R, 0, none⟩), .pointer (some ⟨M, 0, none⟩), .pointer (some ⟨E4, 0, none⟩), .pointer (some ⟨E5, 0, none⟩), .pointer (some ⟨O, 0, none⟩), .pointer (some ⟨Bx, 0, none⟩), undef, undef, undef, .map (some b), .func (.func 28) #[] #[.pointer (some ⟨KB, 0, none⟩)], .agg #[.int .i64 x.1.1, .int .i64 x.1.2], undef, undef, undef, undef, undef, undef, undef, undef, undef, undef, undef, undef, undef, undef, undef, undef, undef, undef, undef, undef, undef, undef, undef, undef, undef, undef, undef, undef, undef, undef], defers := [] })
    (fun x a' _ X Y row hs hg hr => by obtain ⟨Bx, h1, h2, h3⟩ := hs; exact ⟨Bx, cell_kept h1 hg (fun r e => (hr r e).2), cell_kept h2 hg (fun r e => (hr r e).2), h3⟩)
    ?assign ?body ?done ?stop
  case hI =>
    rintro s A B row ⟨v, h1, h2⟩ hg hr
    exact ⟨v, h1.turn hg (fun r e => ⟨⟨by have := (hr r e).1; have := HLE.out; omega, by have := (hr r e).1; have := HLE.out; omega⟩, (hr r e).2⟩), h2⟩
  case hIx =>
    rintro c s A B row ⟨h0, h2, v, L, h1⟩ hg hr
    exact ⟨h0, h2, v, L, h1.turn hg (fun r e => ⟨⟨by have := (hr r e).1; have := HLE.out; omega, by have := (hr r e).1; have := HLE.out; omega⟩, (hr r e).2⟩)⟩
  case assign =>
    rintro l pre x W K ⟨v, h1, h2⟩ hK
    gi_wp2
    have hh := heap_alloc_new W (.cells #[.int .i64 x.1.1, .int .i64 x.1.2] 31)
    exact hK _ _ ((KeepsOthers.alloc _ _).from _) (KeepsWalks.alloc _ _) ⟨v, h1.turn (World.grownBy_alloc W _ none) (fun r e => by cases e), h2⟩ ⟨W.heap.size, cell_of_row _ _ 0 _ _ _ hh, cell_of_row _ _ 1 _ _ _ hh, rfl⟩
  case body =>
    rintro l pre x a' W hl ⟨rr, hrr⟩ ⟨v, hN, ⟨hlen, hoks⟩⟩ ⟨Bx, c0, c1, rfl⟩ hltN
    have hx6 := x.2.1
    have hlk := look_run hN.own hf hx6
    have r0 := hN.r0
    have r1 := hN.r1
    have m0 := hN.m0
    have hv := cf_le S hnd x.1
    have hal := alive_cf (rul bb ll) S hnd x.1
    have hsn := onC_snoc (rul bb ll) S pre x
    obtain ⟨xc, hxc⟩ : ∃ xc : Cel, xc = x.1 := ⟨_, rfl⟩
    rw [← hxc] at hlk hal hsn c0 c1 hv hx6 ⊢
    have HN := Lib.hid hN
    have HSN := Lib.hid hsn
    have HLEN := Lib.hid (And.intro hlen hoks)
    have HX := Lib.hid hxc
    have HMEM := Lib.hid (show xc ∈ (pre ++ [x]).map Subtype.val by rw [hxc, List.map_append]; simp)
    have HC := Lib.hid (And.intro c0 c1)
    clear hN hsn hlen hoks hxc hrr hltN hown hN0 hkb
    obtain ⟨m, hmm⟩ : ∃ m, m = cf S xc % 9 := ⟨_, rfl⟩
    have hm8 : m ≤ 8 := by omega
    have hmod : ((cf S xc : Nat) : Int) % 9 = (m : Int) := by omega
    rw [← hmm] at hal
    clear hmm
    have HNX := Lib.hid (fun W1 => next_ok bb ll (decide (9 ≤ cf S xc)) m hm hm8 W1)
    have hpick : pick bb ll (decide (9 ≤ cf S xc)) m = alive (rul bb ll) S xc := hal
    rw [hpick] at HNX
    unfold Rv at HNX
    have HF := Lib.hid hf
    clear hal hpick hf hm8
    obtain ⟨al, hal⟩ : ∃ al, al = alive (rul bb ll) S xc := ⟨_, rfl⟩
    rw [← hal] at HSN HNX
    have HAL := Lib.hid hal
    clear hal
    generalize cf S xc = z at hlk hv hmod HNX
    have z0 : (0 : Int) ≤ (z : Int) := by omega
    have z1 : (z : Int) ≤ 17 := by omega
    have HB9 : (9 ≤ z ∧ (9 : Int) ≤ (z : Int)) ∨ (¬ 9 ≤ z ∧ ¬ (9 : Int) ≤ (z : Int)) := by omega
    cases al
    · rw [if_neg (by decide), List.append_nil] at HSN
      rcases HB9 with ⟨h9, i9⟩ | ⟨h9, i9⟩
      all_goals
        simp only [h9, decide_true, decide_false] at HNX
        clear h9
        gi_wp2_with (refine ⟨trivial, ?_⟩; gi_at_call 20; refine (CallsIn.inRound l (callsIn_wide.2 (HNX.out _))).mono ?_; rintro e w1 ⟨rfl, hb1⟩; have HG1 := Lib.hid (show W.grownBy w1 none from ⟨hb1.os, hb1.tape, hb1.output, hb1.size, fun k hk _ => hb1.block k hk⟩); clear hb1)
        exact ⟨(KeepsOthers.of_grownBy HG1.out (fun j o e => by cases e)).from _, (KeepsOthers.of_grownBy HG1.out (fun j o e => by cases e)).walks, v, by rw [HSN.out]; exact HN.out.turn HG1.out (fun r e => by cases e), by rw [HSN.out]; exact HLEN.out⟩
    · rw [if_pos rfl] at HSN
      obtain ⟨ao, cap, rfl, _⟩ := own_cls HN.out.row
      obtain ⟨len, hlen⟩ : ∃ len, len = (onC (rul bb ll) S pre).length := ⟨_, rfl⟩
      rw [← hlen] at HN
      have HLN := Lib.hid hlen
      have n1 := HNE.out.2.2
      have n2 : ¬ E5 = E4 := fun e => n1 e.symm
      by_cases hfull : len = 4096
      · have HFU := Lib.hid (show 4096 < (onC (rul bb ll) S (pre ++ [x])).length by rw [HSN.out, List.length_append, ← hlen, hfull]; show 4096 < 4096 + 1; decide)
        clear hlen
        subst hfull
        rcases HB9 with ⟨h9, i9⟩ | ⟨h9, i9⟩
        all_goals
          simp only [h9, decide_true, decide_false] at HNX
          clear h9
          gi_wp2_with (refine ⟨trivial, ?_⟩; gi_at_call 20; refine (CallsIn.inRound l (callsIn_wide.2 (HNX.out _))).mono ?_; rintro e w1 ⟨rfl, hb1⟩; have HG1 := Lib.hid (show W.grownBy w1 none from ⟨hb1.os, hb1.tape, hb1.output, hb1.size, fun k hk _ => hb1.block k hk⟩); have HN1 := Lib.hid (HN.out.turn HG1.out (fun r e => by cases e)); have o0 := HN1.out.o0.cell; have p4 := HN1.out.e4.cell; have q4 := HN1.out.e4.frozen; have p5 := HN1.out.e5.cell; have q5 := HN1.out.e5.frozen; clear hb1)
          refine ⟨trivial, ?_⟩
          gi_wp2
          exact ⟨(((KeepsOthers.of_grownBy HG1.out (fun j o e => by cases e)).trans (KeepsOthers.setCell _ _ _)).trans (KeepsOthers.setCell _ _ _)).from _, rfl, .inl HFU.out, _, _, (HN1.out.set4 HNF.out.1.1 HNF.out.1.2.1 HNF.out.1.2.2.1 HNF.out.1.2.2.2 HLE.out.1 _).set5 HNF.out.2.1.1 HNF.out.2.1.2.1 HNF.out.2.1.2.2.1 HNF.out.2.1.2.2.2 HLE.out.2.1 _⟩
      · have hl4 : len < 4096 := by have := HLEN.out.1; omega
        have f1 : ((len : Int) == 4096) = false := by
          rw [beq_eq_false_iff_ne]
          omega
        have HBV := Lib.hid (fun W1 => beyond_any xc W1)
        unfold cv at HBV
        obtain ⟨ok, hok1⟩ : ∃ ok, ok = okc xc := ⟨_, rfl⟩
        rw [← hok1] at HBV
        have HOK := Lib.hid hok1
        have HL4 := Lib.hid hl4
        clear hlen hok1 hl4 hfull
        cases ok
        · rcases HB9 with ⟨h9, i9⟩ | ⟨h9, i9⟩
          all_goals
            simp only [h9, decide_true, decide_false] at HNX
            clear h9
            gi_wp2_with (first
              | (refine ⟨trivial, ?_⟩; gi_at_call 20; refine (CallsIn.inRound l (callsIn_wide.2 (HNX.out _))).mono ?_; rintro e w1 ⟨rfl, hb1⟩; have HG1 := Lib.hid (show W.grownBy w1 none from ⟨hb1.os, hb1.tape, hb1.output, hb1.size, fun k hk _ => hb1.block k hk⟩); have HN1 := Lib.hid (HN.out.turn HG1.out (fun r e => by cases e)); have o0 := HN1.out.o0.cell; have d0 := HG1.out.cell HC.out.1 (by simp); have d1 := HG1.out.cell HC.out.2 (by simp); clear hb1)
              | (refine ⟨trivial, ?_⟩; gi_at_call 21; refine (CallsIn.inRound l (callsIn_wide.2 (HBV.out _))).mono ?_; rintro e w2 ⟨rfl, hb2⟩; have HG2 := Lib.hid (show w1.grownBy w2 none from ⟨hb2.os, hb2.tape, hb2.output, hb2.size, fun k hk _ => hb2.block k hk⟩); have HN2 := Lib.hid (HN1.out.turn HG2.out (fun r e => by cases e)); have p4 := HN2.out.e4.cell; have q4 := HN2.out.e4.frozen; have p5 := HN2.out.e5.cell; have q5 := HN2.out.e5.frozen; clear hb2))
            exact ⟨((((KeepsOthers.of_grownBy HG1.out (fun j o e => by cases e)).trans (KeepsOthers.of_grownBy HG2.out (fun j o e => by cases e))).trans (KeepsOthers.setCell _ _ _)).trans (KeepsOthers.setCell _ _ _)).from _, rfl, .inr ⟨xc, HMEM.out, HAL.out.symm, HOK.out.symm⟩, _, _, (HN2.out.set4 HNF.out.1.1 HNF.out.1.2.1 HNF.out.1.2.2.1 HNF.out.1.2.2.2 HLE.out.1 _).set5 HNF.out.2.1.1 HNF.out.2.1.2.1 HNF.out.2.1.2.2.1 HNF.out.2.1.2.2.2 HLE.out.2.1 _⟩
        · obtain ⟨i0, hi, hz0, hz1, hz2⟩ := info_parts info_a
          have HI := Lib.hid hi
          have HI0 := Lib.hid hz0
          have HI1 := Lib.hid hz1
          have HI2 := Lib.hid hz2
          clear hi hz0 hz1 hz2
          rcases HB9 with ⟨h9, i9⟩ | ⟨h9, i9⟩
          all_goals
            simp only [h9, decide_true, decide_false] at HNX
            clear h9
            gi_wp2_with (first
              | (refine ⟨trivial, ?_⟩; gi_at_call 20; refine (CallsIn.inRound l (callsIn_wide.2 (HNX.out _))).mono ?_; rintro e w1 ⟨rfl, hb1⟩; have HG1 := Lib.hid (show W.grownBy w1 none from ⟨hb1.os, hb1.tape, hb1.output, hb1.size, fun k hk _ => hb1.block k hk⟩); have HN1 := Lib.hid (HN.out.turn HG1.out (fun r e => by cases e)); have o0 := HN1.out.o0.cell; have d0 := HG1.out.cell HC.out.1 (by simp); have d1 := HG1.out.cell HC.out.2 (by simp); clear hb1)
              | (refine ⟨trivial, ?_⟩; gi_at_call 21; refine (CallsIn.inRound l (callsIn_wide.2 (HBV.out _))).mono ?_; rintro e w2 ⟨rfl, hb2⟩; have HG2 := Lib.hid (show w1.grownBy w2 none from ⟨hb2.os, hb2.tape, hb2.output, hb2.size, fun k hk _ => hb2.block k hk⟩); have HN2 := Lib.hid (HN1.out.turn HG2.out (fun r e => by cases e)); have o2 := HN2.out.o0.cell; have g0 := HG2.out.cell d0 (by simp); have g1 := HG2.out.cell d1 (by simp); have HROW := Lib.hid (show OwnC 31 w2 w.heap.size (.slice ao len cap) len (onC (rul bb ll) S pre) by have h := HN2.out.row; rw [← HLN.out] at h; exact h); clear hb2)
              | (gi_at_builtin; refine wpListIn_append_own _ rfl (.tmp 39) (.tmp 41) 28 rfl w.heap.size 31 i0 (cv (0, 0)) 2 16 Try.underlying28 HI.out HI0.out HI1.out HI2.out rfl (by decide) _ len (cl (onC (rul bb ll) S pre)) rfl (HROW.out.alloc _) ⟨w2.heap.size, 0, none⟩ 1 1 (cc xc) rfl rfl (cells2 _ _ _) (cc_one xc) (by have := HL4.out; unfold maxLen; omega) (by have := HL4.out; omega) (by have := HN2.out.bel.size; simp; omega) ?_; intro v' w3 hown' hgrow _; obtain ⟨g', cap', rfl⟩ := ownsRow_succ hown'; obtain ⟨hv1, hv2, hr2, hk2, hb2⟩ := HN2.out.o0.appended (by decide) HROW.out HN2.out.bel.size HLE.out.2.2.1 hown' hgrow; have hc1 := hv1.cell; have hf1 := hv1.frozen; have HNA := Lib.hid (HN2.out.append (L' := onC (rul bb ll) S pre ++ [xc]) HNF.out.2.2 (fun e => (ni_ne_b HN2.out).2.2 e.symm) hgrow hv2 (by have h9 := hr2; rw [cl_snoc] at h9; rw [List.length_append, ← HLN.out]; exact h9) hb2); have HK2 := Lib.hid hk2; clear hv1 hv2 hr2 hk2 hb2))
            exact ⟨(((KeepsOthers.of_grownBy HG1.out (fun j o e => by cases e)).trans (KeepsOthers.of_grownBy HG2.out (fun j o e => by cases e))).trans HK2.out).from _, (((KeepsOthers.of_grownBy HG1.out (fun j o e => by cases e)).trans (KeepsOthers.of_grownBy HG2.out (fun j o e => by cases e))).trans HK2.out).walks, _, by rw [HSN.out]; exact HNA.out, by rw [HSN.out, List.length_append, ← HLN.out]; have := HL4.out; show len + 1 ≤ 4096; omega, by
              rw [HSN.out]
              intro y hy
              rcases List.mem_append.1 hy with hy | hy
              · exact HLEN.out.2 y hy
              · rw [List.mem_singleton] at hy
                rw [hy]
                exact HOK.out.symm⟩
  case done =>
    rintro Dq ys W hD hS ⟨v, hN, h2⟩ hK
    have o0 := hN.o0.cell
    have p4 := hN.e4.cell
    have q4 := hN.e4.frozen
    have p5 := hN.e5.cell
    have q5 := hN.e5.frozen
    have n1 := HNE.out.2.2
    have n2 : ¬ E5 = E4 := fun e => n1 e.symm
    obtain ⟨ao, cap, rfl, _⟩ := own_cls hN.row
    gi_wp2
    have hK2 := (((KeepsOthers.setCell W ⟨E4, 0, none⟩ (.slice ao (onC (rul bb ll) S ys).length cap)).trans (KeepsOthers.setCell _ ⟨E5, 0, none⟩ .nilIface)).same Dq _ hK rfl)
    refine ⟨by simp, .inl ⟨_, _, rfl, run_takeDeferred hK2, ?_⟩⟩
    have e4' := hN.e4.set (.slice ao (onC (rul bb ll) S ys).length cap)
    have e5' := hN.e5.other n2 (.slice ao (onC (rul bb ll) S ys).length cap)
    have r1 := hN.row.kept (grownBy_setCell' W E4 (.slice ao (onC (rul bb ll) S ys).length cap)) (.inr (fun e => (hN.e4.not_row (by decide) hN.row) e.symm))
    have b1 := hN.bel.setCell (p := ⟨E4, 0, none⟩) HLE.out.1 (.slice ao (onC (rul bb ll) S ys).length cap)
    generalize W.setCell ⟨E4, 0, none⟩ (.slice ao (onC (rul bb ll) S ys).length cap) = V1 at hK2 e4' e5' r1 b1 ⊢
    have e4'' := e4'.other n1 .nilIface
    have e5'' := e5'.set .nilIface
    have r2 := r1.kept (grownBy_setCell' V1 E5 .nilIface) (.inr (fun e => (e5'.not_row (by decide) r1) e.symm))
    have b2 := b1.setCell (p := ⟨E5, 0, none⟩) HLE.out.2.1 .nilIface
    generalize V1.setCell ⟨E5, 0, none⟩ .nilIface = V2 at hK2 e4'' e5'' r2 b2 ⊢
    have hg := grownBy_putObj' V2 Dq (.deferred none)
    have hgr : ∀ r, some Dq = some r → ∃ o : Obj, V2.heap[r]? = some o ∧ o.isCells = false := fun r e => by cases e; exact ⟨_, hK2, rfl⟩
    obtain ⟨hp, hfine⟩ := next_good hf hok hS h2
    refine ⟨_, res_next _ _ rfl rfl (cell_kept e4''.cell hg hgr) (cell_kept e5''.cell hg hgr), ?_⟩
    unfold NextR
    rw [if_pos hfine]
    exact ⟨_, _, rfl, ownsRow_putObj r2 _ hK2 rfl, hp, b2.trans (belowK_b (w := w) (Nat.le_refl _) V2 Dq _ _ (by have := HLE.out; omega) hK2 rfl rfl)⟩
  case stop =>
    rintro Dq c pre W hD hSp ⟨rfl, hF, v, L, hN⟩ hK
    gi_wp2
    refine ⟨by simp, .inl ⟨_, _, rfl, run_takeDeferred hK, ?_⟩⟩
    have hg := grownBy_putObj' W Dq (.deferred none)
    have hgr : ∀ r, some Dq = some r → ∃ o : Obj, W.heap[r]? = some o ∧ o.isCells = false := fun r e => by cases e; exact ⟨_, hK, rfl⟩
    refine ⟨_, res_next _ _ rfl rfl (cell_kept hN.e4.cell hg hgr) (cell_kept hN.e5.cell hg hgr), ?_⟩
    unfold NextR
    rw [if_neg (by rw [next_bad hf hSp hF]; decide)]
    exact ⟨rfl, hN.bel.trans (belowK_b (w := w) (Nat.le_refl _) W Dq _ _ (by have := HLE.out; omega) hK rfl rfl)⟩
theorem next_any (bb ll b nn : Nat) (D : DataW Unit) (S : List Cel) (w : World) (hm : mayR bb ll = true) (hown : OwnsC w b nn D) (hf : MpC (cf S) D) (hnd : S.Nodup) (hok : ∀ x ∈ S, okc x = true) :
    Calls Try.prog 12 #[Rv bb ll, .map (some b)] w (NextR w (rul bb ll) S) :=
  (callsIn_wide (n := 6)).1 (next_in bb ll b nn D S w hm hown hf hnd hok)
end Go.Proofs.Yticnhpddidaaeaa

/-
  What takes cells at work, with boxes beside it; the closure within each. Conditions: those that each lemma names.
-/
import Derived.Test.YtifkhmcdgmnipaaGreatDoorR27
namespace Go.Proofs.YtifkhmcdgmnipaaGreatDoor
open Go.RowKit Ti Qd Ce Cl Go.Maps Go.WideMaps

/-- what became of it since a world, with boxes beside -/
structure Tw (w0 : World) (F0 : Nat → Prop) (I : List Cel → World → (Nat → Prop) → Prop) (pre : List Cel) (bx : List (Nat × Obj)) (w : World) : Prop where
  ex : ∃ F, I pre w F ∧ Stp w0 F0 w F ∧ ∀ x ∈ bx, w0.heap.size ≤ x.1 ∧ ¬ F x.1 ∧ w.heap[x.1]? = some x.2
section
variable {N fid : Nat} {M : Int} {fi ca : Array Value} {I : List Cel → World → (Nat → Prop) → Prop} {w0 w w' : World} {F0 : Nat → Prop} {pre : List Cel} {bx : List (Nat × Obj)}
theorem Tw.start (h : I pre w F0) : Tw w F0 I pre [] w := ⟨⟨F0, h, Stp.refl _ _, fun x hx => by cases hx⟩⟩
theorem Tw.below (hk : Tk N M fid fi ca I) (h : Tw w0 F0 I pre bx w) (hb : Below w.heap.size w w') : Tw w0 F0 I pre bx w' := by
  obtain ⟨F, h1, h2, h3⟩ := h.ex
  exact ⟨⟨F, hk.below h1 hb, h2.trans (.of_below hb), fun x hx => ⟨(h3 x hx).1, (h3 x hx).2.1, row_keep (h3 x hx).2.2 hb (Nat.le_refl _)⟩⟩⟩
theorem Tw.alloc (hk : Tk N M fid fi ca I) (h : Tw w0 F0 I pre bx w) {g : Nat} (hg : g = w.heap.size) (o : Obj) : Tw w0 F0 I pre ((g, o) :: bx) (w.alloc o) := by
  subst hg
  obtain ⟨F, h1, h2, h3⟩ := (h.below hk (alX w o)).ex
  obtain ⟨F', k1, k2, _⟩ := h.ex
  obtain ⟨F, h1, h2, h3⟩ := h.ex
  refine ⟨⟨F, hk.below h1 (alX w o), h2.trans (.of_below (alX w o)), fun x hx => ?_⟩⟩
  rcases List.mem_cons.1 hx with rfl | hx
  · exact ⟨h2.size, fun hF => absurd (hk.lt _ _ _ h1 _ hF) (Nat.lt_irrefl _), heap_alloc_new w o⟩
  · exact ⟨(h3 x hx).1, (h3 x hx).2.1, row_keep (h3 x hx).2.2 (alX w o) (Nat.le_refl _)⟩
theorem Tw.box (h : Tw w0 F0 I pre bx w) {x : Nat × Obj} (hx : x ∈ bx) : w.heap[x.1]? = some x.2 := by
  obtain ⟨F, _, _, h3⟩ := h.ex
  exact (h3 x hx).2.2
theorem Tw.call (h : Tw w0 F0 I pre bx w) : ∃ F, I pre w F ∧ Stp w0 F0 w F ∧ (∀ x ∈ bx, w0.heap.size ≤ x.1 ∧ ¬ F x.1 ∧ w.heap[x.1]? = some x.2) ∧ ∀ {pre' w' F'}, I pre' w' F' → Stp w F w' F' → Tw w0 F0 I pre' bx w' := by
  obtain ⟨F, h1, h2, h3⟩ := h.ex
  refine ⟨F, h1, h2, h3, fun {pre' w' F'} k1 k2 => ⟨⟨F', k1, h2.trans k2, fun x hx => ⟨(h3 x hx).1, fun g => ?_, k2.row (h3 x hx).2.2 (h3 x hx).2.1⟩⟩⟩⟩
  rcases k2.own _ g with g | g
  · exact (h3 x hx).2.1 g
  · exact absurd (lt_of_block (h3 x hx).2.2) (by omega)
theorem Tw.end (h : Tw w0 F0 I pre bx w) : ∃ F', I pre w F' ∧ Stp w0 F0 w F' := by
  obtain ⟨F, h1, h2, _⟩ := h.ex
  exact ⟨F, h1, h2⟩
theorem Tw.st {B P : Nat} {L : List Sq} {room : Nat} {H : Nat → Prop} (h : Tw w0 F0 I pre bx w) (hs : St B w0 P L room H) (hd : ∀ b, H b → ¬ F0 b) : St B w P L room H := by
  obtain ⟨F, _, h2, _⟩ := h.ex
  exact hs.moved fun b hb => h2.block b (hs.lt b hb).2 (hd b hb)
theorem Tw.tab (h : Tw w0 F0 I pre bx w) (hT : TabZ w0) (hF : ¬ F0 2) : TabZ w := by
  obtain ⟨F, _, h2, _⟩ := h.ex
  exact (hT.stp hF h2).1
end
theorem Stp.add {w w' : World} {H H' : Nat → Prop} (h : Stp w H w' H') (E : Nat → Prop) : Stp w (fun b => H b ∨ E b) w' (fun b => H' b ∨ E b) :=
  ⟨h.os, h.tape, h.output, h.size, fun k hk hn => h.block k hk (fun g => hn (.inl g)), fun k hk => hk.elim (fun g => (h.own k g).elim (fun q => .inl (.inl q)) .inr) (fun g => .inl (.inr g))⟩
abbrev ca2 (a : Cel) : Obj := .cells #[.int .i64 a.1, .int .i64 a.2] 30
abbrev fb1 (v : Value) : Obj := .cells #[v] 56
/-- within each: cells of a tile, moved -/
def Ie (I : List Cel → World → (Nat → Prop) → Prop) (pre0 : List Cel) (g6 g7 : Nat) (a : Cel) (fv : Value) (dn : List Cel) (W : World) (F2 : Nat → Prop) : Prop :=
  ∃ F, I (pre0 ++ dn.map (sh a)) W F ∧ ¬ F g6 ∧ ¬ F g7 ∧ W.heap[g6]? = some (ca2 a) ∧ W.heap[g7]? = some (fb1 fv) ∧ F2 = fun b => F b ∨ b = g6 ∨ b = g7
theorem row_cl1 {w : World} {g : Nat} {v0 : Value} {t : TypeId} (h : w.heap[g]? = some (.cells #[v0] t (0, 0))) : w.cell? ⟨g, 0, none⟩ = some v0 ∧ w.frozen? ⟨g, 0, none⟩ = false := ⟨cell_of_row w g 0 _ _ _ h, frozen_of_row w g 0 _ _ h⟩
set_option maxRecDepth 100000 in
set_option maxHeartbeats 2000000 in
theorem each1_ok {N : Nat} {M : Int} {fid : Nat} {fi ca : Array Value} {I : List Cel → World → (Nat → Prop) → Prop} (hk : Tk N M fid fi ca I) (pre0 : List Cel) (g6 g7 : Nat) (a : Cel) (ha : (0 ≤ a.1 ∧ a.1 + 8 ≤ M) ∧ (0 ≤ a.2 ∧ a.2 + 8 ≤ M)) (hM : M ≤ 4611686018427387904) (dn : List Cel) (c : Cel) (w : World) (F2 : Nat → Prop) (hN : pre0.length + dn.length < N) (hc : SmC 8 c)
    (hI : Ie I pre0 g6 g7 a (.func (.func fid) fi ca) dn w F2) :
    Calls Tryz.prog 37 #[cv c, .pointer (some ⟨g7, 0, none⟩), .pointer (some ⟨g6, 0, none⟩)] w fun e w' => e = .returned (.tuple #[]) ∧ ∃ F', Ie I pre0 g6 g7 a (.func (.func fid) fi ca) (dn ++ [c]) w' F' ∧ Stp w F2 w' F' := by
  obtain ⟨F, hI1, n6, n7, h6, h7, rfl⟩ := hI
  unfold SmC at hc
  have HI := Lib.hid (hk.below hI1 (alX w (ca2 c)))
  have HF := Lib.hid (And.intro n6 (And.intro n7 (fun hF => absurd (hk.lt _ _ _ hI1 w.heap.size hF) (Nat.lt_irrefl _) : ¬ F w.heap.size)))
  have HR := Lib.hid (And.intro (row_keep h6 (alX w (ca2 c)) (Nat.le_refl _)) (And.intro (row_keep h7 (alX w (ca2 c)) (Nat.le_refl _)) (heap_alloc_new w (ca2 c))))
  have HL := Lib.hid (And.intro (lt_of_block h6) (lt_of_block h7))
  have HP := Lib.hid (fun W => plus_ok a c (by omega) (by omega) W)
  have HK := Lib.hid hk
  have HN := Lib.hid hN
  have HSC := Lib.hid (show SmC M (sh a c) from ⟨⟨by show 0 ≤ a.1 + c.1; omega, by show a.1 + c.1 < _; omega⟩, ⟨by show 0 ≤ a.2 + c.2; omega, by show a.2 + c.2 < _; omega⟩⟩)
  have HW := Lib.hid (alX w (ca2 c))
  have hcf := hk.enter
  clear hk hI1 n6 n7 h6 h7 hc hN ha hM
  obtain ⟨ax, ay⟩ := a
  obtain ⟨cx, cy⟩ := c
  unfold cv at *
  go_enter Tryz.func37, Tryz.ntmps37
  go_upto_region 1 with (fail)
  generalize World.alloc _ _ = W at HI HR HW ⊢
  have HB0 : Below W.heap.size W W.drew := (Below.refl _ _).drew
  have HB00 : Below W.heap.size W W := Below.refl _ _
  have HS := Lib.hid (fun (W' : World) (hb : Below W.heap.size W W') => And.intro (row_cl (row_keep HR.out.1 hb (Nat.le_refl _))) (And.intro (row_cl1 (row_keep HR.out.2.1 hb (Nat.le_refl _))) (row_cl (row_keep HR.out.2.2 hb (Nat.le_refl _)))))
  have HCL := Lib.hid (fun (W' : World) (hb : Below W.heap.size W W') => HK.out.call (pre0 ++ dn.map (sh (ax, ay))) (sh (ax, ay) (cx, cy)) W' F (by rw [List.length_append, List.length_map]; exact HN.out) HSC.out (HK.out.up _ _ _ _ HI.out hb.size (fun b hF => hb.block b (HK.out.lt _ _ _ HI.out b hF))))
  have HS2 := Lib.hid (fun (W1 W2 : World) (F' : Nat → Prop) (hb : Below W.heap.size W W1) (hs : Stp W1 F W2 F') => And.intro (row_cl (hs.row (row_keep HR.out.1 hb (Nat.le_refl _)) HF.out.1)) (And.intro (row_cl1 (hs.row (row_keep HR.out.2.1 hb (Nat.le_refl _)) HF.out.2.1)) (row_cl (hs.row (row_keep HR.out.2.2 hb (Nat.le_refl _)) HF.out.2.2))))
  go_region_held3 (fun w' => (w'.cell? ⟨g6, 0, none⟩ = some (.int .i64 ax) ∧ w'.cell? ⟨g6, 1, none⟩ = some (.int .i64 ay) ∧ w'.frozen? ⟨g6, 0, none⟩ = false ∧ w'.frozen? ⟨g6, 1, none⟩ = false) ∧ (w'.cell? ⟨g7, 0, none⟩ = some (.func (.func fid) fi ca) ∧ w'.frozen? ⟨g7, 0, none⟩ = false) ∧ (w'.cell? ⟨w.heap.size, 0, none⟩ = some (.int .i64 cx) ∧ w'.cell? ⟨w.heap.size, 1, none⟩ = some (.int .i64 cy) ∧ w'.frozen? ⟨w.heap.size, 0, none⟩ = false ∧ w'.frozen? ⟨w.heap.size, 1, none⟩ = false)) (first | with_reducible exact HS.out _ (by assumption) | with_reducible exact HS2.out _ _ _ (by assumption) (by assumption)) (first | (go_at_call 38; refine (HP.out _).mono ?_; rintro e w1 ⟨rfl, hb⟩; have hb1 := bstep (W0 := W) (by assumption) hb; clear hb) | (refine (HCL.out _ (by assumption)).mono ?_; rintro e w2 ⟨rfl, F', hI2, hs2⟩))
  rename_i hHeld
  clear hHeld
  go_end0
  have hb2 : Below w.heap.size w w1 := HW.out.trans (hb1.mono HW.out.size)
  have hs3 : Stp w F w2 F' := (Stp.of_below hb2).trans hs2
  have q6 : ¬ F' g6 := fun h => (hs3.own _ h).elim HF.out.1 (fun h => by have := HL.out.1; omega)
  have q7 : ¬ F' g7 := fun h => (hs3.own _ h).elim HF.out.2.1 (fun h => by have := HL.out.2; omega)
  refine ⟨rfl, _, ⟨F', ?_, q6, q7, hs2.row (row_keep HR.out.1 hb1 (Nat.le_refl _)) HF.out.1, hs2.row (row_keep HR.out.2.1 hb1 (Nat.le_refl _)) HF.out.2.1, rfl⟩, hs3.add _⟩
  rw [List.map_append, ← List.append_assoc]
  exact hI2
end Go.Proofs.YtifkhmcdgmnipaaGreatDoor

/-
  LISTS OF CELLS in memory: one that lies there, one of the call's own. Conditions: those that each lemma names.
-/

import Derived.Test.YticnhpddidaaeaaRd
import Derived.Test.YticnhpddidaaeaaCb
import Derived.Maps.AppendAt
import Derived.WalkKit
namespace Go.Proofs.Yticnhpddidaaeaa
open Go.RowKit Ru Ce

def cc (c : Cel) : List Value := [.int .i64 c.1, .int .i64 c.2]
def cv (c : Cel) : Value := .agg #[.int .i64 c.1, .int .i64 c.2]
/-- cells on end -/
def cl : List Cel → List Value
  | [] => []
  | c :: L => cc c ++ cl L
theorem cl_len : ∀ L : List Cel, (cl L).length = L.length * 2
  | [] => rfl
  | x :: L => by
    show (cc x ++ cl L).length = _
    rw [List.length_append, cl_len L, List.length_cons]
    show 2 + L.length * 2 = _
    omega
theorem cl_app : ∀ L M : List Cel, cl (L ++ M) = cl L ++ cl M
  | [], _ => rfl
  | x :: L, M => by
    show cc x ++ cl (L ++ M) = cc x ++ cl L ++ cl M
    rw [cl_app L M, List.append_assoc]
theorem cl_snoc (L : List Cel) (x : Cel) : cl L ++ cc x = cl (L ++ [x]) := by
  rw [cl_app]
  show cl L ++ cc x = cl L ++ (cc x ++ [])
  rw [List.append_nil]
theorem cc_one (x : Cel) : ∀ u ∈ cc x, u.oneCell' = true := by
  intro u hu
  simp [cc] at hu
  rcases hu with rfl | rfl <;> rfl
theorem cl_one : ∀ L : List Cel, ∀ u ∈ cl L, u.oneCell' = true
  | [], _, h => by cases h
  | x :: L, u, h => by
    rcases List.mem_append.1 h with h | h
    · exact cc_one x u h
    · exact cl_one L u h
theorem cl_at : ∀ (L : List Cel) (i : Nat) (h : i < L.length) (j : Nat), j < 2 → (cl L)[i * 2 + j]? = (cc L[i])[j]?
  | [], _, h, _, _ => absurd h (Nat.not_lt_zero _)
  | x :: L, 0, _, j, hj => by
    show (cc x ++ cl L)[0 * 2 + j]? = (cc x)[j]?
    rw [Nat.zero_mul, Nat.zero_add, List.getElem?_append_left hj]
  | x :: L, i + 1, h, j, hj => by
    have h2 : (cc x).length = 2 := rfl
    show (cc x ++ cl L)[(i + 1) * 2 + j]? = _
    rw [List.getElem?_append_right (by rw [h2]; omega), h2, show (i + 1) * 2 + j - 2 = i * 2 + j by omega]
    exact cl_at L i (by simpa using h) j hj
/-- cells that lie in memory -/
def Cls (w : World) (a : Option Addr) (L : List Cel) : Prop := ∀ i (h : i < L.length), ∃ b off, a = some ⟨b, off, none⟩ ∧ w.cell? ⟨b, off + i * 2, none⟩ = some (.int .i64 L[i].1) ∧ w.cell? ⟨b, off + i * 2 + 1, none⟩ = some (.int .i64 L[i].2)
theorem Cls.same {w w' : World} {a : Option Addr} {L : List Cel} (h : Cls w a L) (hb : ∀ b o, a = some ⟨b, o, none⟩ → w'.heap[b]? = w.heap[b]?) : Cls w' a L := fun i hi => by
  obtain ⟨b, off, ha, h0, h1⟩ := h i hi
  exact ⟨b, off, ha, (World.cell?_of_block (hb b off ha)).trans h0, (World.cell?_of_block (hb b off ha)).trans h1⟩
theorem Cls.below {w w' : World} {a : Option Addr} {L : List Cel} {n : Nat} (h : Cls w a L) (hb : Below n w w') (hn : w.heap.size ≤ n) : Cls w' a L := fun i hi => by
  obtain ⟨b, off, ha, h0, h1⟩ := h i hi
  have hlt : b < n := Nat.lt_of_lt_of_le (World.block_lt_of_cell? w _ h0) hn
  exact ⟨b, off, ha, (hb.cell (p := ⟨b, off + i * 2, none⟩) hlt).trans h0, (hb.cell (p := ⟨b, off + i * 2 + 1, none⟩) hlt).trans h1⟩
theorem Cls.lt {w : World} {b o : Nat} {L : List Cel} (h : Cls w (some ⟨b, o, none⟩) L) (h0 : 0 < L.length) : b < w.heap.size := by
  obtain ⟨b', off, ha, c0, _⟩ := h 0 h0
  obtain ⟨rfl, rfl⟩ : b = b' ∧ o = off := by simpa using ha
  exact World.block_lt_of_cell? w _ c0
theorem cls_nil (w : World) (a : Option Addr) : Cls w a [] := fun i hi => absurd hi (by simp)
theorem Cls.take {w : World} {a : Option Addr} {L : List Cel} (h : Cls w a L) (m : Nat) : Cls w a (L.take m) := fun i hi => by
  rw [List.length_take] at hi
  obtain ⟨b, off, ha, h0, h1⟩ := h i (by omega)
  exact ⟨b, off, ha, by rw [h0, List.getElem_take], by rw [h1, List.getElem_take]⟩
/-- numbers of 64 bits -/
def I6 (c : Cel) : Prop := (-9223372036854775808 ≤ c.1 ∧ c.1 ≤ 9223372036854775807) ∧ (-9223372036854775808 ≤ c.2 ∧ c.2 ≤ 9223372036854775807)
theorem i6_ok {c : Cel} (h : okc c = true) : I6 c := by
  have := (okc_iff c).1 h
  unfold I6
  omega
/-- a list of its own in new memory -/
abbrev OwnC (T : TypeId) (w : World) (B : Nat) (v : Value) (n : Nat) (L : List Cel) := w.ownsRow B T 2 v n (cl L)
theorem own_cls {T : TypeId} {w : World} {B n : Nat} {v : Value} {L : List Cel} (h : OwnC T w B v n L) : ∃ ao cap, v = .slice ao n cap ∧ Cls w ao L ∧ n ≤ cap ∧ cap ≤ 9223372036854775807 ∧ L.length = n ∧ (∀ b off, ao = some ⟨b, off, none⟩ → B ≤ b ∧ b < w.heap.size ∧ off = 0) ∧ (ao = none → n = 0) := by
  obtain ⟨hl, h⟩ := h
  have hn : L.length = n := by rw [cl_len] at hl; omega
  rcases h with ⟨rfl, h0⟩ | ⟨g, cap, cur, rfl, hB, hg, hnc, hm, hcs, ht⟩
  · obtain rfl : L = [] := List.eq_nil_of_length_eq_zero (by omega)
    exact ⟨none, 0, by rw [h0], cls_nil _ _, by omega, by omega, by omega, (fun b off e => by cases e), fun _ => h0⟩
  · unfold maxLen at hm
    refine ⟨_, cap, rfl, ?_, by omega, by omega, hn, (fun b off e => by injection e with e; injection e with e1 e2; exact ⟨by omega, by rw [← e1]; exact lt_of_block hg, e2.symm⟩), (fun e => by cases e)⟩
    intro i hi
    have key : ∀ j v, j < 2 → (cc L[i])[j]? = some v → w.cell? ⟨g, 0 + i * 2 + j, none⟩ = some v := fun j v hj hv => by
      rw [cell_of_row w _ _ _ _ _ hg, Nat.zero_add]
      have e := cl_at L i hi j hj
      rw [← ht, List.getElem?_take, if_pos (by omega), hv] at e
      simpa using e
    exact ⟨g, 0, rfl, key 0 _ (by omega) rfl, key 1 _ (by omega) rfl⟩
theorem own_keep {T : TypeId} {A C : World} {B n n₀ : Nat} {v : Value} {L : List Cel} (h : OwnC T A B v n L) (k : Below n₀ A C) (hk : A.heap.size ≤ n₀) : OwnC T C B v n L := by
  obtain ⟨e, h0 | ⟨g, cap, cur, hv, hb, hg, h2⟩⟩ := h
  · exact ⟨e, .inl h0⟩
  · exact ⟨e, .inr ⟨g, cap, cur, hv, hb, (k.block g (by have := lt_of_block hg; omega)).trans hg, h2⟩⟩
theorem cells2 (T : TypeId) (w : World) (x : Cel) : ∀ j u, (cc x)[j]? = some u → (w.alloc (.cells #[.int .i64 x.1, .int .i64 x.2] T)).cell? ((⟨w.heap.size, 0, none⟩ : Addr).add j) = some u := by
  intro j u hj
  rw [show (⟨w.heap.size, 0, none⟩ : Addr).add j = ⟨w.heap.size, j, none⟩ from by simp [Addr.add]; omega]
  rw [cell_of_row _ _ j _ _ _ (heap_alloc_new w _)]
  simpa [cc] using hj
set_option maxRecDepth 100000 in
theorem info_a : (Try.prog.info? 31).map (fun i => (i.zero, i.size, i.bytes)) = some (some (cv (0, 0)), 2, 16) := by kernel_rfl
/-- a list of cells in new memory -/
def NewC (T : TypeId) (w : World) (L : List Cel) (e : Ending) (w' : World) : Prop := ∃ v, e = .returned v ∧ OwnC T w' w.heap.size v L.length L ∧ Below w.heap.size w w'
theorem bdn {n : Nat} {w w' : World} (h : Below n w w') (q : Nat) : Below n w (w'.drewN q) := ⟨h.os, h.tape, h.output, h.size, h.block⟩
end Go.Proofs.Yticnhpddidaaeaa

/-
  A STORE OF SQUARES IN MEMORY: its struct, the row of its squares, the map of their numbers. Conditions: those that each lemma names.
-/
import Derived.BigRegion
import Derived.Deep.RegionHeld3
import Derived.Test.YtlejohclijjhnaaGreatDoorL11
namespace Go.Proofs.YtlejohclijjhnaaGreatDoor
open Go.RowKit Ti Qd Go.Maps Go.WideMaps

/-- squares on end -/
def sl : List Sq → List Value
  | [] => []
  | q :: L => qc q ++ sl L
theorem sl_len : ∀ L : List Sq, (sl L).length = L.length * 7
  | [] => rfl
  | x :: L => by
    show (qc x ++ sl L).length = _
    rw [List.length_append, sl_len L, List.length_cons]
    show 7 + L.length * 7 = _
    omega
theorem sl_app : ∀ L M : List Sq, sl (L ++ M) = sl L ++ sl M
  | [], _ => rfl
  | x :: L, M => by
    show qc x ++ sl (L ++ M) = qc x ++ sl L ++ sl M
    rw [sl_app L M, List.append_assoc]
theorem sl_snoc (L : List Sq) (x : Sq) : sl L ++ qc x = sl (L ++ [x]) := by
  rw [sl_app]
  show sl L ++ qc x = sl L ++ (qc x ++ [])
  rw [List.append_nil]
theorem qc_one (x : Sq) : ∀ u ∈ qc x, u.oneCell' = true := by
  intro u hu
  simp [qc] at hu
  rcases hu with rfl | rfl | rfl | rfl | rfl | rfl | rfl <;> rfl
theorem sl_at : ∀ (L : List Sq) (i : Nat) (h : i < L.length) (j : Nat), j < 7 → (sl L)[i * 7 + j]? = (qc L[i])[j]?
  | [], _, h, _, _ => absurd h (Nat.not_lt_zero _)
  | x :: L, 0, _, j, hj => by
    show (qc x ++ sl L)[0 * 7 + j]? = (qc x)[j]?
    rw [Nat.zero_mul, Nat.zero_add, List.getElem?_append_left hj]
  | x :: L, i + 1, h, j, hj => by
    have h2 : (qc x).length = 7 := rfl
    show (qc x ++ sl L)[(i + 1) * 7 + j]? = _
    rw [List.getElem?_append_right (by rw [h2]; omega), h2, show (i + 1) * 7 + j - 7 = i * 7 + j by omega]
    exact sl_at L i (by simpa using h) j hj
abbrev OwnS (w : World) (B : Nat) (v : Value) (n : Nat) (L : List Sq) := w.ownsRow B 95 7 v n (sl L)
/-- from a world and what is in it to another: what is none of these blocks is as it was -/
structure Stp (w : World) (H : Nat → Prop) (w' : World) (H' : Nat → Prop) : Prop where
  os : w'.os = w.os
  tape : w'.tape = w.tape
  output : w'.output = w.output
  size : w.heap.size ≤ w'.heap.size
  block : ∀ k, k < w.heap.size → ¬ H k → w'.heap[k]? = w.heap[k]?
  own : ∀ k, H' k → H k ∨ w.heap.size ≤ k
theorem Stp.of_below {w w' : World} {H : Nat → Prop} (h : Below w.heap.size w w') : Stp w H w' H := ⟨h.os, h.tape, h.output, h.size, fun k hk _ => h.block k hk, fun _ h => .inl h⟩
theorem Stp.refl (w : World) (H : Nat → Prop) : Stp w H w H := .of_below (Below.refl _ _)
theorem Stp.trans {a b c : World} {r s t : Nat → Prop} (h : Stp a r b s) (k : Stp b s c t) : Stp a r c t :=
  ⟨k.os.trans h.os, k.tape.trans h.tape, k.output.trans h.output, Nat.le_trans h.size k.size, fun i hi hn => (k.block i (Nat.lt_of_lt_of_le hi h.size) (fun hs => by rcases h.own i hs with e | e; exact hn e; omega)).trans (h.block i hi hn),
    fun i hi => by
      rcases k.own i hi with e | e
      · exact h.own i e
      · exact .inr (Nat.le_trans h.size e)⟩
theorem Stp.below {B : Nat} {w w' : World} {H H' : Nat → Prop} (h : Stp w H w' H') (hd : ∀ b, H b → B ≤ b) (hB : B ≤ w.heap.size) : Below B w w' :=
  ⟨h.os, h.tape, h.output, h.size, fun k hk => h.block k (by omega) (fun hs => by have := hd k hs; omega)⟩
theorem Stp.cell {w w' : World} {H H' : Nat → Prop} (h : Stp w H w' H') {g o : Nat} {v : Value} (hc : w.cell? ⟨g, o, none⟩ = some v) (hn : ¬ H g) : w'.cell? ⟨g, o, none⟩ = some v :=
  (World.cell?_of_block (h.block g (World.block_lt_of_cell? w _ hc) hn)).trans hc
theorem Stp.row {w w' : World} {H H' : Nat → Prop} (h : Stp w H w' H') {g : Nat} {o : Obj} (hc : w.heap[g]? = some o) (hn : ¬ H g) : w'.heap[g]? = some o :=
  (h.block g (lt_of_block hc) hn).trans hc
/-- a store's blocks -/
def Hs (P M : Nat) (sv : Value) (b : Nat) : Prop := b = P ∨ b = M ∨ sv.ownBlock = some b
structure Sto (B : Nat) (w : World) (P M : Nat) (sv : Value) (L : List Sq) (room : Nat) : Prop where
  c0 : w.cell? ⟨P, 0, none⟩ = some (.int .i64 room)
  c1 : w.cell? ⟨P, 1, none⟩ = some sv
  c2 : w.cell? ⟨P, 2, none⟩ = some (.map (some M))
  fz : ∀ i, w.frozen? ⟨P, i, none⟩ = false
  row : OwnS w B sv L.length L
  mp : ∃ D, OwnsQ w M L.length D ∧ MpQ L D
  bP : B ≤ P
  bM : B ≤ M
  PM : ¬ P = M
  rP : ¬ sv.ownBlock = some P
  rM : ¬ sv.ownBlock = some M
  inv : Inv L
  rm : L.length ≤ room
  r6 : room ≤ 65536
def St (B : Nat) (w : World) (P : Nat) (L : List Sq) (room : Nat) (H : Nat → Prop) : Prop := ∃ M sv, Sto B w P M sv L room ∧ H = Hs P M sv
theorem owns_same {w w' : World} {M n : Nat} {D : DataW Unit} (h : OwnsQ w M n D) (hb : w'.heap[M]? = w.heap[M]?) : OwnsQ w' M n D := by
  obtain ⟨es, clock, hm, r⟩ := h
  exact ⟨es, clock, hb.trans hm, r⟩
theorem own_of_block {w w' : World} {B : Nat} {v : Value} {n : Nat} {L : List Sq} (h : OwnS w B v n L) (hb : ∀ b, v.ownBlock = some b → w'.heap[b]? = w.heap[b]?) : OwnS w' B v n L := by
  obtain ⟨hl, h⟩ := h
  refine ⟨hl, ?_⟩
  rcases h with ⟨rfl, h0⟩ | ⟨g, cap, cur, rfl, h1, hg, rest⟩
  · exact .inl ⟨rfl, h0⟩
  · exact .inr ⟨g, cap, cur, rfl, h1, (hb g rfl).trans hg, rest⟩
theorem Sto.moved {B : Nat} {w w' : World} {P M : Nat} {sv : Value} {L : List Sq} {room : Nat} (h : Sto B w P M sv L room) (hb : ∀ b, Hs P M sv b → w'.heap[b]? = w.heap[b]?) : Sto B w' P M sv L room := by
  have e := hb P (.inl rfl)
  obtain ⟨D, h1, h2⟩ := h.mp
  exact ⟨(World.cell?_of_block e).trans h.c0, (World.cell?_of_block e).trans h.c1, (World.cell?_of_block e).trans h.c2, fun i => (World.frozen?_of_block e).trans (h.fz i), own_of_block h.row fun b hq => hb b (.inr (.inr hq)), ⟨D, owns_same h1 (hb M (.inr (.inl rfl))), h2⟩, h.bP, h.bM, h.PM, h.rP, h.rM, h.inv, h.rm, h.r6⟩
theorem Sto.lt {B : Nat} {w : World} {P M : Nat} {sv : Value} {L : List Sq} {room : Nat} (h : Sto B w P M sv L room) : ∀ b, Hs P M sv b → B ≤ b ∧ b < w.heap.size := by
  intro b hb
  rcases hb with rfl | rfl | hb
  · exact ⟨h.bP, World.block_lt_of_cell? w _ h.c0⟩
  · obtain ⟨D, h1, _⟩ := h.mp
    exact ⟨h.bM, h1.lt⟩
  · exact h.row.lt b hb
theorem St.lt {B : Nat} {w : World} {P : Nat} {L : List Sq} {room : Nat} {H : Nat → Prop} (h : St B w P L room H) : ∀ b, H b → B ≤ b ∧ b < w.heap.size := by
  obtain ⟨M, sv, hs, rfl⟩ := h
  exact hs.lt
theorem St.moved {B : Nat} {w w' : World} {P : Nat} {L : List Sq} {room : Nat} {H : Nat → Prop} (h : St B w P L room H) (hb : ∀ b, H b → w'.heap[b]? = w.heap[b]?) : St B w' P L room H := by
  obtain ⟨M, sv, hs, rfl⟩ := h
  exact ⟨M, sv, hs.moved hb, rfl⟩
theorem St.below {B n : Nat} {w w' : World} {P : Nat} {L : List Sq} {room : Nat} {H : Nat → Prop} (h : St B w P L room H) (hb : Below n w w') (hn : w.heap.size ≤ n) : St B w' P L room H := h.moved fun b hk => hb.block b (by have := (h.lt b hk).2; omega)
/-- a square in the row -/
def SqAt (w : World) (a : Option Addr) (i : Nat) (q : Sq) : Prop := ∃ b off, a = some ⟨b, off, none⟩ ∧ w.cell? ⟨b, off + i * 7, none⟩ = some (.int .i64 q.lev) ∧ w.cell? ⟨b, off + i * 7 + 1, none⟩ = some (.int .i64 q.cnt) ∧ w.cell? ⟨b, off + i * 7 + 2, none⟩ = some (.int .u64 (rg q.til)) ∧ w.cell? ⟨b, off + i * 7 + 3, none⟩ = some (.int .i64 q.k0) ∧ w.cell? ⟨b, off + i * 7 + 4, none⟩ = some (.int .i64 q.k1) ∧ w.cell? ⟨b, off + i * 7 + 5, none⟩ = some (.int .i64 q.k2) ∧ w.cell? ⟨b, off + i * 7 + 6, none⟩ = some (.int .i64 q.k3)
theorem own_sq {w : World} {B n : Nat} {v : Value} {L : List Sq} (h : OwnS w B v n L) : ∃ ao cap, v = .slice ao n cap ∧ n ≤ cap ∧ cap ≤ 9223372036854775807 ∧ L.length = n ∧ (∀ b off, ao = some ⟨b, off, none⟩ → B ≤ b ∧ b < w.heap.size ∧ off = 0 ∧ v.ownBlock = some b) ∧ ∀ i (h : i < L.length), SqAt w ao i L[i] := by
  obtain ⟨hl, h⟩ := h
  have hn : L.length = n := by rw [sl_len] at hl; omega
  rcases h with ⟨rfl, h0⟩ | ⟨g, cap, cur, rfl, hB, hg, hnc, hm, hcs, ht⟩
  · obtain rfl : L = [] := List.eq_nil_of_length_eq_zero (by omega)
    exact ⟨none, 0, by rw [h0], by omega, by omega, by omega, (fun b off e => by cases e), fun i hi => absurd hi (by simp)⟩
  · unfold maxLen at hm
    refine ⟨_, cap, rfl, by omega, by omega, hn, (fun b off e => by injection e with e; injection e with e1 e2; subst e1; subst e2; exact ⟨by omega, lt_of_block hg, rfl, rfl⟩), ?_⟩
    intro i hi
    have key : ∀ j v, j < 7 → (qc L[i])[j]? = some v → w.cell? ⟨g, 0 + i * 7 + j, none⟩ = some v := fun j v hj hv => by
      rw [cell_of_row w _ _ _ _ _ hg, Nat.zero_add]
      have e := sl_at L i hi j hj
      rw [← ht, List.getElem?_take, if_pos (by omega), hv] at e
      simpa using e
    exact ⟨g, 0, rfl, key 0 _ (by omega) rfl, key 1 _ (by omega) rfl, key 2 _ (by omega) rfl, key 3 _ (by omega) rfl, key 4 _ (by omega) rfl, key 5 _ (by omega) rfl, key 6 _ (by omega) rfl⟩
set_option maxRecDepth 100000 in
theorem info_q : (Tryz.prog.info? 95).map (fun i => (i.zero, i.size, i.bytes)) = some (some (qv dead), 7, 56) := by kernel_rfl
theorem cells7 (T : TypeId) (w : World) (x : Sq) : ∀ j u, (qc x)[j]? = some u → (w.alloc (.cells #[.int .i64 x.lev, .int .i64 x.cnt, .int .u64 (rg x.til), .int .i64 x.k0, .int .i64 x.k1, .int .i64 x.k2, .int .i64 x.k3] T)).cell? ((⟨w.heap.size, 0, none⟩ : Addr).add j) = some u := by
  intro j u hj
  rw [show (⟨w.heap.size, 0, none⟩ : Addr).add j = ⟨w.heap.size, j, none⟩ from by simp [Addr.add]; omega]
  rw [cell_of_row _ _ j _ _ _ (heap_alloc_new w _)]
  simpa [qc] using hj
end Go.Proofs.YtlejohclijjhnaaGreatDoor

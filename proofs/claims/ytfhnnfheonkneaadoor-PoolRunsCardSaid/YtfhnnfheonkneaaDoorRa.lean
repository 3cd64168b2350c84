/-
  THE REFERENCE's Write, where it writes. Conditions: the reference's disk lies in memory.
-/
import Derived.Laws.AppendOwnNone
import Derived.Test.YtfhnnfheonkneaaDoorQz
namespace Go.Proofs.YtfhnnfheonkneaaDoor
open Go.RowKit

structure RefWrote (w : World) (r : Ref) (i : Nat) (f : Nat → Int) (w' : World) (r' : Ref) : Prop where
  ok : RefOk w' r'
  n : r'.n = r.n
  N : r'.N = upd r.N i f
  S : r'.S = r.S
  pend : r'.pend = if i ∈ r.pend then r.pend else r.pend ++ [i]
  writes : r'.writes = r.writes + 1
  left : r'.left = if 0 < r.left then r.left - 1 else r.left
  far : ∀ s, Far r s → (∀ b, s.has b → b < w.heap.size) → Far r' s
  below : Below w.heap.size w w'
def RefWroteAt (w : World) (r : Ref) (i : Nat) (f : Nat → Int) (e : Ending) (w' : World) : Prop := ∃ r', e = .returned (.tuple #[r'.val, .int .i64 0]) ∧ RefWrote w r i f w' r'
theorem plc_in {xs : List Nat} {i : Nat} (h : i ∈ xs) : 0 ≤ plc (xs.map fun (i : Nat) => (i : Int)) (i : Int) := by
  unfold plc
  rw [if_pos (List.mem_map.2 ⟨i, h, rfl⟩)]
  omega
theorem plc_out {xs : List Nat} {i : Nat} (h : i ∉ xs) : plc (xs.map fun (i : Nat) => (i : Int)) (i : Int) < 0 := by
  unfold plc
  rw [if_neg (fun e => by
    obtain ⟨j, hj, e2⟩ := List.mem_map.1 e
    have : j = i := by omega
    exact h (this ▸ hj))]
  omega
theorem two_old (w : World) (cs : Array Value) (T : TypeId) (o : Obj) (j : Nat) : ((w.alloc (.cells cs T)).alloc o).cell? ⟨w.heap.size, j, none⟩ = cs[j]? :=
  cell_of_row _ _ _ _ _ _ (heap_alloc2_old _ _ _)
theorem two_new (w : World) (o : Obj) (ds : Array Value) (T : TypeId) (j : Nat) : ((w.alloc o).alloc (.cells ds T)).cell? ⟨w.heap.size + 1, j, none⟩ = ds[j]? :=
  cell_of_row _ _ _ _ _ _ (heap_alloc2_new _ _ _)
theorem two_free (w : World) (cs : Array Value) (T : TypeId) (o : Obj) (j : Nat) : ((w.alloc (.cells cs T)).alloc o).frozen? ⟨w.heap.size, j, none⟩ = false :=
  frozen_of_row _ _ _ _ _ (heap_alloc2_old _ _ _)
theorem two_free2 (w : World) (o : Obj) (ds : Array Value) (T : TypeId) (j : Nat) : ((w.alloc o).alloc (.cells ds T)).frozen? ⟨w.heap.size + 1, j, none⟩ = false :=
  frozen_of_row _ _ _ _ _ (heap_alloc2_new _ _ _)
/-- but for two blocks of the call's own all is as it was -/
structure Two (X R : Nat) (w w' : World) : Prop where
  os : w'.os = w.os
  tape : w'.tape = w.tape
  output : w'.output = w.output
  size : w.heap.size ≤ w'.heap.size
  block : ∀ k, k ≠ X → k ≠ R → w'.heap[k]? = w.heap[k]?
theorem Two.refl (X R : Nat) (w : World) : Two X R w w := ⟨rfl, rfl, rfl, Nat.le_refl _, fun _ _ _ => rfl⟩
theorem Two.set {X R : Nat} {w w' : World} (h : Two X R w w') (a : Addr) (ha : a.block = X ∨ a.block = R) (v : Value) : Two X R w (w'.setCell a v) :=
  ⟨h.os, h.tape, h.output, by simpa using h.size, fun k k1 k2 => (Below.heap_setCell _ _ _ _ (by rcases ha with e | e <;> omega)).trans (h.block k k1 k2)⟩
theorem Two.strs {X R b : Nat} {w w' : World} {xs : List ByteArray} (h : Two X R w w') (hs : Strs w (some ⟨b, 0, none⟩) xs) (h1 : b ≠ X) (h2 : b ≠ R) : Strs w' (some ⟨b, 0, none⟩) xs := by
  intro i hi
  obtain ⟨b', off, ha, hc⟩ := hs i hi
  obtain ⟨rfl, rfl⟩ : b = b' ∧ 0 = off := by simpa using ha
  exact ⟨b, 0, rfl, (cell_of_block (h.block b h1 h2)).trans hc⟩
theorem Two.ints {X R : Nat} {w w' : World} {a : Option Addr} {xs : List Int} (h : Two X R w w') (hs : Ints w a xs) (hn : ∀ b off, a = some ⟨b, off, none⟩ → 0 < xs.length → b ≠ X ∧ b ≠ R) : Ints w' a xs := by
  intro i hi
  obtain ⟨b, off, ha, hc⟩ := hs i hi
  have := hn b off ha (by omega)
  exact ⟨b, off, ha, (cell_of_block (h.block b this.1 this.2)).trans hc⟩
theorem held_facts {w w3 : World} {cs ds : Array Value} {T : TypeId} (hb : Below ((w.alloc (.cells cs T)).alloc (.cells ds T)).heap.size ((w.alloc (.cells cs T)).alloc (.cells ds T)) w3) (j : Nat) :
    w3.cell? ⟨w.heap.size, j, none⟩ = cs[j]? ∧ w3.frozen? ⟨w.heap.size, j, none⟩ = false ∧ w3.cell? ⟨w.heap.size + 1, j, none⟩ = ds[j]? ∧ w3.frozen? ⟨w.heap.size + 1, j, none⟩ = false := by
  have e1 : w.heap.size < ((w.alloc (.cells cs T)).alloc (.cells ds T)).heap.size := by simp; omega
  have e2 : w.heap.size + 1 < ((w.alloc (.cells cs T)).alloc (.cells ds T)).heap.size := by simp
  exact ⟨(hb.cell (p := ⟨w.heap.size, j, none⟩) e1).trans (two_old _ _ _ _ _), (hb.frozen (p := ⟨w.heap.size, j, none⟩) e1).trans (two_free _ _ _ _ _), (hb.cell (p := ⟨w.heap.size + 1, j, none⟩) e2).trans (two_new _ _ _ _ _), (hb.frozen (p := ⟨w.heap.size + 1, j, none⟩) e2).trans (two_free2 _ _ _ _ _)⟩
/-- a write into a sector that is pending, put together -/
theorem had_done {r : Ref} {i nb cap : Nat} {t : ByteArray} {w w3 wf : World} {left : Int} (h : RefOk w r) (_hi : i < r.n) (ht : t.size = 512) (hp : i ∈ r.pend) (hs : Strs w3 (some ⟨nb, 0, none⟩) ((txs r.n r.N).set i t)) (hnc : r.n ≤ cap) (hcp : cap ≤ 9223372036854775807) (hnb : w.heap.size + 2 ≤ nb) (hb : Below w.heap.size w w3) (h2 : Two w.heap.size (w.heap.size + 1) w3 wf) (hl : left = if 0 < r.left then r.left - 1 else r.left) :
    RefWrote w r i (txt t) wf { r with nb := nb, nc := cap, N := upd r.N i (txt t), writes := r.writes + 1, left := left } := by
  have hN : (txs r.n r.N).set i t = txs r.n (upd r.N i (txt t)) := by
    rw [← txs_set, row_txt ht (fun _ _ => rfl)]
  rw [hN] at hs
  have lt := h.lt
  have hpa : ∀ b off, r.pa = some ⟨b, off, none⟩ → 0 < (r.pend.map fun (i : Nat) => (i : Int)).length → b < w.heap.size := by
    intro b off ha h0
    obtain ⟨b', off', ha', hc⟩ := h.p 0 h0
    rw [ha] at ha'
    obtain ⟨rfl, rfl⟩ : b = b' ∧ off = off' := by simpa using ha'
    exact World.block_lt_of_cell? w _ hc
  have n1 : nb ≠ w.heap.size := by omega
  have n2 : nb ≠ w.heap.size + 1 := by omega
  have n3 : r.sb ≠ w.heap.size := by omega
  have n4 : r.sb ≠ w.heap.size + 1 := by omega
  refine ⟨⟨h2.strs hs n1 n2, h2.strs (h.S.below hb) n3 n4, ⟨hnc, hcp⟩, h.sc, h2.ints (h.p.below hb) (fun b off ha h0 => by have := hpa b off ha h0; omega), fun k j => ?_, h.bS, h.n1, h.len, h.nil⟩, rfl, rfl, rfl, ?_, rfl, hl, fun s hf hlt => ⟨fun e => by have := hlt _ e; change nb < w.heap.size at this; omega, hf.2.1, hf.2.2⟩, ⟨h2.os.trans hb.os, h2.tape.trans hb.tape, h2.output.trans hb.output, Nat.le_trans hb.size h2.size, fun k hk => (h2.block k (by omega) (by omega)).trans (hb.block k hk)⟩⟩
  · show 0 ≤ upd r.N i (txt t) k j ∧ upd r.N i (txt t) k j < 256
    unfold upd
    by_cases e : k = i
    · rw [if_pos e]; exact txt_bd t j
    · rw [if_neg e]; exact h.bN k j
  · rw [if_pos hp]
theorem place_src {w w3 : World} {r : Ref} {v : Value} (h : RefOk w r) (hb : Below w.heap.size w w3) : Ints (w3.setCell ⟨w.heap.size, 0, none⟩ v) r.pa (r.pend.map fun (i : Nat) => (i : Int)) := by
  intro i hi
  obtain ⟨b, off, ha, hc⟩ := h.p i hi
  have hlt : b < w.heap.size := World.block_lt_of_cell? w _ hc
  refine ⟨b, off, ha, ?_⟩
  rw [cell_of_block (Below.heap_setCell _ _ _ _ (by show b ≠ w.heap.size; omega)), hb.cell (p := ⟨b, off + i, none⟩) hlt]
  exact hc
set_option maxRecDepth 100000 in
set_option maxHeartbeats 2000000 in
theorem refwrite_had (r : Ref) (i : Nat) (t : ByteArray) (w : World) (h : RefOk w r) (hi : i < r.n) (ht : t.size = 512) (hl : r.left ≠ 0) (l1 : r.left ≤ 9223372036854775807) (l0 : -1 ≤ r.left) (w0 : 0 ≤ r.writes) (w1 : r.writes < 4611686018427387904) (hp : i ∈ r.pend) :
    Calls Tryd.prog 46 #[r.val, .int .i64 i, .string t] w (RefWroteAt w r i (txt t)) := by
  have h0 : (0 : Int) ≤ (i : Int) := by omega
  have h1 : (i : Int) < (r.n : Int) := by omega
  have h4 : (r.n : Int) ≤ 100 := by have := h.n1.2; omega
  have h5 : (r.left == 0) = false := by rw [beq_eq_false_iff_ne]; exact hl
  have hpl := plc_in hp
  have HH := Lib.hid h
  have HP := Lib.hid hp
  have HT := Lib.hid ht
  clear h hp hl
  by_cases hpos : 0 < r.left
  · unfold Ref.val
    go_enter Tryd.func46, Tryd.ntmps46
    go_wp2_with (first | (go_at_call 64; refine (with_any r.nb 0 r.n r.nc i (txs r.n r.N) t _ (HH.out.N.below (al2 w _ _)) (txs_len _ _) hi HH.out.nc.1 HH.out.nc.2 (by have := HH.out.n1.2; omega)).mono ?_; rintro e w3 ⟨ao, cap, rfl, hs, hnc, hcp, hfr, hb⟩; have kf := held_facts hb; have HBB := Lib.hid ((al2 w _ _).trans (hb.mono (al2 w _ _).size)); have x0 : w3.cell? ⟨w.heap.size, 0, none⟩ = some (.slice (some ⟨r.nb, 0, none⟩) r.n r.nc) := (kf 0).1; have x1 : w3.cell? ⟨w.heap.size, 1, none⟩ = some (.slice (some ⟨r.sb, 0, none⟩) r.n r.sc) := (kf 1).1; have x2 : w3.cell? ⟨w.heap.size, 2, none⟩ = some (.slice r.pa r.pend.length r.pc) := (kf 2).1; have x3 : w3.cell? ⟨w.heap.size, 3, none⟩ = some (.int .i64 (r.writes + 1)) := (kf 3).1; have x4 : w3.cell? ⟨w.heap.size, 4, none⟩ = some (.int .i64 (r.left - 1)) := (kf 4).1; have f1 := fun j => (kf j).2.1; have f2 := fun j => (kf j).2.2.2; have z0 : w3.cell? ⟨w.heap.size + 1, 0, none⟩ = some (.slice none 0 0) := (kf 0).2.2.1; have z1 : w3.cell? ⟨w.heap.size + 1, 1, none⟩ = some (.slice none 0 0) := (kf 1).2.2.1; have z2 : w3.cell? ⟨w.heap.size + 1, 2, none⟩ = some (.slice none 0 0) := (kf 2).2.2.1; have z3 : w3.cell? ⟨w.heap.size + 1, 3, none⟩ = some (.int .i64 0) := (kf 3).2.2.1; have z4 : w3.cell? ⟨w.heap.size + 1, 4, none⟩ = some (.int .i64 0) := (kf 4).2.2.1; have HS := Lib.hid hs; have HNC := Lib.hid (show r.n ≤ cap ∧ cap ≤ 9223372036854775807 from ⟨hnc, hcp⟩); have HFR := Lib.hid hfr; clear kf hs hnc hcp hfr hb) | (go_at_call 65; refine (place_any _ _ _ (r.pend.map fun (i : Nat) => (i : Int)) _ _ (place_src HH.out HBB.out) (by rw [List.length_map]) (by have := HH.out.len; omega)).mono ?_; rintro e w' ⟨rfl, rfl⟩))
    obtain ⟨nb, rfl⟩ : ∃ nb, ao = some ⟨nb, 0, none⟩ := by
      obtain ⟨b, off, ha, _⟩ := HS.out 0 (by rw [List.length_set, txs_len]; omega)
      obtain ⟨_, rfl⟩ := HFR.out b off ha
      exact ⟨b, ha⟩
    refine bodyPost_ret (v := .tuple #[.agg #[.slice (some ⟨nb, 0, none⟩) r.n cap, .slice (some ⟨r.sb, 0, none⟩) r.n r.sc, .slice r.pa r.pend.length r.pc, .int .i64 (r.writes + 1), .int .i64 (r.left - 1)], .int .i64 0]) (by simp [results, Tryd.results46, go_sem, z0, z1, z2, z3, z4]) rfl ?_
    have hnb : w.heap.size + 2 ≤ nb := by have := (HFR.out nb 0 rfl).1; simpa using this
    have h2 := ((((((Two.refl w.heap.size (w.heap.size + 1) w3).set ⟨w.heap.size, 0, none⟩ (.inl rfl) (.slice (some ⟨nb, 0, none⟩) r.n cap)).set ⟨w.heap.size + 1, 0, none⟩ (.inr rfl) (.slice (some ⟨nb, 0, none⟩) r.n cap)).set ⟨w.heap.size + 1, 1, none⟩ (.inr rfl) (.slice (some ⟨r.sb, 0, none⟩) r.n r.sc)).set ⟨w.heap.size + 1, 2, none⟩ (.inr rfl) (.slice r.pa r.pend.length r.pc)).set ⟨w.heap.size + 1, 3, none⟩ (.inr rfl) (.int .i64 (r.writes + 1))).set ⟨w.heap.size + 1, 4, none⟩ (.inr rfl) (.int .i64 (r.left - 1))
    exact ⟨_, rfl, had_done HH.out hi HT.out HP.out HS.out HNC.out.1 HNC.out.2 hnb HBB.out h2 (by rw [if_pos hpos])⟩
  · unfold Ref.val
    have hpos2 : ¬ 0 < r.left := hpos
    have HP2 := Lib.hid hpos2
    go_enter Tryd.func46, Tryd.ntmps46
    go_wp2_with (first | (go_at_call 64; refine (with_any r.nb 0 r.n r.nc i (txs r.n r.N) t _ (HH.out.N.below (al2 w _ _)) (txs_len _ _) hi HH.out.nc.1 HH.out.nc.2 (by have := HH.out.n1.2; omega)).mono ?_; rintro e w3 ⟨ao, cap, rfl, hs, hnc, hcp, hfr, hb⟩; have kf := held_facts hb; have HBB := Lib.hid ((al2 w _ _).trans (hb.mono (al2 w _ _).size)); have x0 : w3.cell? ⟨w.heap.size, 0, none⟩ = some (.slice (some ⟨r.nb, 0, none⟩) r.n r.nc) := (kf 0).1; have x1 : w3.cell? ⟨w.heap.size, 1, none⟩ = some (.slice (some ⟨r.sb, 0, none⟩) r.n r.sc) := (kf 1).1; have x2 : w3.cell? ⟨w.heap.size, 2, none⟩ = some (.slice r.pa r.pend.length r.pc) := (kf 2).1; have x3 : w3.cell? ⟨w.heap.size, 3, none⟩ = some (.int .i64 (r.writes + 1)) := (kf 3).1; have x4 : w3.cell? ⟨w.heap.size, 4, none⟩ = some (.int .i64 (r.left)) := (kf 4).1; have f1 := fun j => (kf j).2.1; have f2 := fun j => (kf j).2.2.2; have z0 : w3.cell? ⟨w.heap.size + 1, 0, none⟩ = some (.slice none 0 0) := (kf 0).2.2.1; have z1 : w3.cell? ⟨w.heap.size + 1, 1, none⟩ = some (.slice none 0 0) := (kf 1).2.2.1; have z2 : w3.cell? ⟨w.heap.size + 1, 2, none⟩ = some (.slice none 0 0) := (kf 2).2.2.1; have z3 : w3.cell? ⟨w.heap.size + 1, 3, none⟩ = some (.int .i64 0) := (kf 3).2.2.1; have z4 : w3.cell? ⟨w.heap.size + 1, 4, none⟩ = some (.int .i64 0) := (kf 4).2.2.1; have HS := Lib.hid hs; have HNC := Lib.hid (show r.n ≤ cap ∧ cap ≤ 9223372036854775807 from ⟨hnc, hcp⟩); have HFR := Lib.hid hfr; clear kf hs hnc hcp hfr hb) | (go_at_call 65; refine (place_any _ _ _ (r.pend.map fun (i : Nat) => (i : Int)) _ _ (place_src HH.out HBB.out) (by rw [List.length_map]) (by have := HH.out.len; omega)).mono ?_; rintro e w' ⟨rfl, rfl⟩))
    obtain ⟨nb, rfl⟩ : ∃ nb, ao = some ⟨nb, 0, none⟩ := by
      obtain ⟨b, off, ha, _⟩ := HS.out 0 (by rw [List.length_set, txs_len]; omega)
      obtain ⟨_, rfl⟩ := HFR.out b off ha
      exact ⟨b, ha⟩
    refine bodyPost_ret (v := .tuple #[.agg #[.slice (some ⟨nb, 0, none⟩) r.n cap, .slice (some ⟨r.sb, 0, none⟩) r.n r.sc, .slice r.pa r.pend.length r.pc, .int .i64 (r.writes + 1), .int .i64 (r.left)], .int .i64 0]) (by simp [results, Tryd.results46, go_sem, z0, z1, z2, z3, z4]) rfl ?_
    have hnb : w.heap.size + 2 ≤ nb := by have := (HFR.out nb 0 rfl).1; simpa using this
    have h2 := ((((((Two.refl w.heap.size (w.heap.size + 1) w3).set ⟨w.heap.size, 0, none⟩ (.inl rfl) (.slice (some ⟨nb, 0, none⟩) r.n cap)).set ⟨w.heap.size + 1, 0, none⟩ (.inr rfl) (.slice (some ⟨nb, 0, none⟩) r.n cap)).set ⟨w.heap.size + 1, 1, none⟩ (.inr rfl) (.slice (some ⟨r.sb, 0, none⟩) r.n r.sc)).set ⟨w.heap.size + 1, 2, none⟩ (.inr rfl) (.slice r.pa r.pend.length r.pc)).set ⟨w.heap.size + 1, 3, none⟩ (.inr rfl) (.int .i64 (r.writes + 1))).set ⟨w.heap.size + 1, 4, none⟩ (.inr rfl) (.int .i64 (r.left))
    exact ⟨_, rfl, had_done HH.out hi HT.out HP.out HS.out HNC.out.1 HNC.out.2 hnb HBB.out h2 (by rw [if_neg (by have := HP2.out; omega)])⟩
end Go.Proofs.YtfhnnfheonkneaaDoor

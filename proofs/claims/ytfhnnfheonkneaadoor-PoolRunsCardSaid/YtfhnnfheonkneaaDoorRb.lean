/-
  THE REFERENCE's Write, where the sector becomes pending. Conditions: the reference's disk lies in memory.
-/
import Derived.Test.YtfhnnfheonkneaaDoorRa
namespace Go.Proofs.YtfhnnfheonkneaaDoor
open Go.RowKit

theorem one_i (w : World) (y : Int) : ∀ j u, [Value.int .i64 y][j]? = some u → (w.alloc (.cells #[.int .i64 y] 3)).cell? ((⟨w.heap.size, 0, none⟩ : Addr).add j) = some u := by
  intro j u hj
  have hj0 : j < 1 := by simpa using (List.getElem?_eq_some_iff.1 hj).1
  obtain rfl : j = 0 := by omega
  rw [Addr.add_mid, cell_of_row _ _ _ _ _ _ (heap_alloc_new w _)]
  simpa using hj
theorem carry {X : Nat} {w3 wB : World} {v0 u0 : Value} (HB : Below (X + 2) (w3.setCell ⟨X, 0, none⟩ v0) wB) (x0 : w3.cell? ⟨X, 0, none⟩ = some u0) :
    wB.cell? ⟨X, 0, none⟩ = some v0 ∧ (∀ j, j ≠ 0 → wB.cell? ⟨X, j, none⟩ = w3.cell? ⟨X, j, none⟩) ∧ (∀ j, wB.cell? ⟨X + 1, j, none⟩ = w3.cell? ⟨X + 1, j, none⟩) ∧ (∀ j, wB.frozen? ⟨X, j, none⟩ = w3.frozen? ⟨X, j, none⟩) ∧ (∀ j, wB.frozen? ⟨X + 1, j, none⟩ = w3.frozen? ⟨X + 1, j, none⟩) := by
  have lt : ∀ j, (⟨X, j, none⟩ : Addr).block < X + 2 := fun j => by show X < X + 2; omega
  have lt1 : ∀ j, (⟨X + 1, j, none⟩ : Addr).block < X + 2 := fun j => by show X + 1 < X + 2; omega
  refine ⟨(HB.cell (lt 0)).trans (World.cell?_setCell_same _ _ _ x0), fun j hj => (HB.cell (lt j)).trans (World.cell?_setCell_other _ _ _ _ (by intro e; simp only [Addr.mk.injEq] at e; omega)), fun j => (HB.cell (lt1 j)).trans (World.cell?_setCell_other _ _ _ _ (by intro e; simp only [Addr.mk.injEq] at e; omega)), fun j => (HB.frozen (lt j)).trans (World.frozen?_setCell _ _ _ _), fun j => (HB.frozen (lt1 j)).trans (World.frozen?_setCell _ _ _ _)⟩
theorem il_one (xs : List Int) : ∀ u ∈ il xs, u.oneCell' = true := by
  intro u hu
  obtain ⟨x, _, rfl⟩ := List.mem_map.1 hu
  rfl
theorem ints_cells {w : World} {b off : Nat} {xs : List Int} (h : Ints w (some ⟨b, off, none⟩) xs) : ∀ j u, (il xs)[j]? = some u → w.cell? ((⟨b, off, none⟩ : Addr).add j) = some u := by
  intro j u hj
  have hj' : j < xs.length := by
    have := (List.getElem?_eq_some_iff.1 hj).1
    simpa [il] using this
  obtain ⟨b', off', ha, hc⟩ := h j hj'
  obtain ⟨rfl, rfl⟩ : b = b' ∧ off = off' := by simpa using ha
  rw [Addr.add_mid, hc]
  simpa [il, hj'] using hj
theorem il_snoc' (l : List Nat) (i : Nat) : ([] ++ il (l.map fun (i : Nat) => (i : Int))) ++ [.int .i64 (i : Int)] = il ((l ++ [i]).map fun (i : Nat) => (i : Int)) := by
  simp [il]
theorem il_nil' (i : Nat) : ([] : List Value) ++ [.int .i64 (i : Int)] = il (([] ++ [i]).map fun (i : Nat) => (i : Int)) := by
  simp [il]
theorem one_iS (w3 : World) (a : Addr) (v : Value) (y : Int) : ∀ j u, [Value.int .i64 y][j]? = some u → ((w3.setCell a v).alloc (.cells #[.int .i64 y] 3)).cell? ((⟨w3.heap.size, 0, none⟩ : Addr).add j) = some u := by
  intro j u hj
  have h := one_i (w3.setCell a v) y j u hj
  rwa [World.size_setCell] at h
theorem own_head {w : World} {B n : Nat} {v : Value} {xs : List Value} (h : w.ownsRow B 3 1 v n xs) (h0 : 0 < n) : ∃ g cap, v = .slice (some ⟨g, 0, none⟩) n cap ∧ B ≤ g := by
  rcases h.2 with ⟨_, e⟩ | ⟨g, cap, cur, e, hB, _⟩
  · omega
  · exact ⟨g, cap, e, hB⟩
/-- a write into a sector that was not pending, put together -/
theorem new_done {r : Ref} {i nb cap pc : Nat} {pa : Option Addr} {t : ByteArray} {w w3 wB wf : World} {v0 : Value} {left : Int} (h : RefOk w r) (ht : t.size = 512) (hp : i ∉ r.pend) (hpl : r.pend.length ≤ 99) (hs : Strs w3 (some ⟨nb, 0, none⟩) ((txs r.n r.N).set i t)) (hnc : r.n ≤ cap) (hcp : cap ≤ 9223372036854775807) (hnb : w.heap.size + 2 ≤ nb) (hnb3 : nb < w3.heap.size) (hb : Below w.heap.size w w3)
    (hB : Below w3.heap.size (w3.setCell ⟨w.heap.size, 0, none⟩ v0) wB) (hpi : Ints wB pa ((r.pend ++ [i]).map fun (i : Nat) => (i : Int))) (hpf : ∀ b off, pa = some ⟨b, off, none⟩ → w.heap.size + 2 ≤ b) (h2 : Two w.heap.size (w.heap.size + 1) wB wf) (hl : left = if 0 < r.left then r.left - 1 else r.left) :
    RefWrote w r i (txt t) wf { r with nb := nb, nc := cap, N := upd r.N i (txt t), pa := pa, pc := pc, pend := r.pend ++ [i], writes := r.writes + 1, left := left } := by
  have hN : (txs r.n r.N).set i t = txs r.n (upd r.N i (txt t)) := by
    rw [← txs_set, row_txt ht (fun _ _ => rfl)]
  rw [hN] at hs
  have lt := h.lt
  have n1 : nb ≠ w.heap.size := by omega
  have n2 : nb ≠ w.heap.size + 1 := by omega
  have n3 : r.sb ≠ w.heap.size := by omega
  have n4 : r.sb ≠ w.heap.size + 1 := by omega
  have h3 : Two w.heap.size (w.heap.size + 1) w3 (w3.setCell ⟨w.heap.size, 0, none⟩ v0) := Two.set (Two.refl _ _ _) ⟨w.heap.size, 0, none⟩ (.inl rfl) _
  have hb2 : Below (w3.setCell ⟨w.heap.size, 0, none⟩ v0).heap.size (w3.setCell ⟨w.heap.size, 0, none⟩ v0) wB := by simpa using hB
  refine ⟨⟨h2.strs ((h3.strs hs n1 n2).below hb2) n1 n2, h2.strs ((h3.strs (h.S.below hb) n3 n4).below hb2) n3 n4, ⟨hnc, hcp⟩, h.sc, h2.ints hpi (fun b off ha _ => by have := hpf b off ha; omega), fun k j => ?_, h.bS, h.n1, by show (r.pend ++ [i]).length ≤ 100; rw [List.length_append]; simp; omega, fun e => by have e2 : r.pend ++ [i] = [] := e; simp at e2⟩, rfl, rfl, rfl, ?_, rfl, hl, fun s hf hlt => ⟨fun e => by have := hlt _ e; change nb < w.heap.size at this; omega, hf.2.1, fun b off ha e => by have := hlt _ e; have := hpf b off ha; omega⟩, ⟨?_, ?_, ?_, ?_, fun k hk => ?_⟩⟩
  · show 0 ≤ upd r.N i (txt t) k j ∧ upd r.N i (txt t) k j < 256
    unfold upd
    by_cases e : k = i
    · rw [if_pos e]; exact txt_bd t j
    · rw [if_neg e]; exact h.bN k j
  · rw [if_neg hp]
  · exact h2.os.trans (hB.os.trans hb.os)
  · exact h2.tape.trans (hB.tape.trans hb.tape)
  · exact h2.output.trans (hB.output.trans hb.output)
  · have := hb.size; have := hB.size; have := h2.size; simp at *; omega
  · have := hb.size
    rw [h2.block k (by omega) (by omega), hB.block k (by omega), h3.block k (by omega) (by omega), hb.block k hk]
set_option maxRecDepth 100000 in
set_option maxHeartbeats 3000000 in
theorem refwrite_new1 (r : Ref) (i : Nat) (t : ByteArray) (w : World) (h : RefOk w r) (hi : i < r.n) (ht : t.size = 512) (hl : r.left ≠ 0) (l1 : r.left ≤ 9223372036854775807) (l0 : -1 ≤ r.left) (w0 : 0 ≤ r.writes) (w1 : r.writes < 4611686018427387904) (hp : i ∉ r.pend) (hpl9 : r.pend.length ≤ 99) (hpd : r.pend ≠ []) :
    Calls Tryd.prog 46 #[r.val, .int .i64 i, .string t] w (RefWroteAt w r i (txt t)) := by
  have h0 : (0 : Int) ≤ (i : Int) := by omega
  have h1 : (i : Int) < (r.n : Int) := by omega
  have h4 : (r.n : Int) ≤ 100 := by have := h.n1.2; omega
  have h5 : (r.left == 0) = false := by rw [beq_eq_false_iff_ne]; exact hl
  have hpl := plc_out hp
  obtain ⟨ie, hi9, hz0, hz1, hz2⟩ := info_parts info_i
  have HI := Lib.hid hi9
  have HZ0 := Lib.hid hz0
  have HZ1 := Lib.hid hz1
  have HZ2 := Lib.hid hz2
  have HH := Lib.hid h
  have HP := Lib.hid hp
  have HT := Lib.hid ht
  have HP9 := Lib.hid hpl9
  clear h hp hl hi9 hz0 hz1 hz2
  by_cases hpos : 0 < r.left
  · unfold Ref.val
    go_enter Tryd.func46, Tryd.ntmps46
    go_upto_region 13 with (first | (go_at_call 64; refine (with_any r.nb 0 r.n r.nc i (txs r.n r.N) t _ (HH.out.N.below (al2 w _ _)) (txs_len _ _) hi HH.out.nc.1 HH.out.nc.2 (by have := HH.out.n1.2; omega)).mono ?_; rintro e w3 ⟨ao, cap, rfl, hs, hnc, hcp, hfr, hb⟩; have kf := held_facts hb; have HBB := Lib.hid ((al2 w _ _).trans (hb.mono (al2 w _ _).size)); have HSZ := Lib.hid (show w.heap.size + 2 ≤ w3.heap.size by have := hb.size; simp at this; omega); have x0 : w3.cell? ⟨w.heap.size, 0, none⟩ = some (.slice (some ⟨r.nb, 0, none⟩) r.n r.nc) := (kf 0).1; have x1 : w3.cell? ⟨w.heap.size, 1, none⟩ = some (.slice (some ⟨r.sb, 0, none⟩) r.n r.sc) := (kf 1).1; have x2 : w3.cell? ⟨w.heap.size, 2, none⟩ = some (.slice r.pa r.pend.length r.pc) := (kf 2).1; have x3 : w3.cell? ⟨w.heap.size, 3, none⟩ = some (.int .i64 (r.writes + 1)) := (kf 3).1; have x4 : w3.cell? ⟨w.heap.size, 4, none⟩ = some (.int .i64 (r.left - 1)) := (kf 4).1; have f1 := fun j => (kf j).2.1; have f2 := fun j => (kf j).2.2.2; have z0 : w3.cell? ⟨w.heap.size + 1, 0, none⟩ = some (.slice none 0 0) := (kf 0).2.2.1; have z1 : w3.cell? ⟨w.heap.size + 1, 1, none⟩ = some (.slice none 0 0) := (kf 1).2.2.1; have z2 : w3.cell? ⟨w.heap.size + 1, 2, none⟩ = some (.slice none 0 0) := (kf 2).2.2.1; have z3 : w3.cell? ⟨w.heap.size + 1, 3, none⟩ = some (.int .i64 0) := (kf 3).2.2.1; have z4 : w3.cell? ⟨w.heap.size + 1, 4, none⟩ = some (.int .i64 0) := (kf 4).2.2.1; have HS := Lib.hid hs; have HNC := Lib.hid (show r.n ≤ cap ∧ cap ≤ 9223372036854775807 from ⟨hnc, hcp⟩); have HFR := Lib.hid hfr; clear kf hs hnc hcp hfr hb) | (go_at_call 65; refine (place_any _ _ _ (r.pend.map fun (i : Nat) => (i : Int)) _ _ (place_src HH.out HBB.out) (by rw [List.length_map]) (by have := HH.out.len; omega)).mono ?_; rintro e w' ⟨rfl, rfl⟩))
    obtain ⟨nb, rfl⟩ : ∃ nb, ao = some ⟨nb, 0, none⟩ := by
      obtain ⟨b, off, ha, _⟩ := HS.out 0 (by rw [List.length_set, txs_len]; omega)
      obtain ⟨_, rfl⟩ := HFR.out b off ha
      exact ⟨b, ha⟩
    have HNB := Lib.hid (show w.heap.size + 2 ≤ nb by have := (HFR.out nb 0 rfl).1; simpa using this)
    have HN3 := Lib.hid (show nb < w3.heap.size by obtain ⟨b, off, ha, hc⟩ := HS.out 0 (by rw [List.length_set, txs_len]; omega); obtain ⟨rfl, rfl⟩ : nb = b ∧ 0 = off := by simpa using ha
                                                   exact World.block_lt_of_cell? w3 _ hc)
    obtain ⟨pb, poff, hpa⟩ : ∃ pb poff, r.pa = some ⟨pb, poff, none⟩ := by
      have h0 : 0 < (r.pend.map fun (i : Nat) => (i : Int)).length := by rw [List.length_map]; exact List.length_pos_iff.2 hpd
      obtain ⟨b, off, ha, _⟩ := HH.out.p 0 h0
      exact ⟨b, off, ha⟩
    have PS := Lib.hid (place_src (v := .slice (some ⟨nb, 0, none⟩) r.n cap) HH.out HBB.out)
    rw [hpa] at x2 PS
    clear hpa
    go_wp2_with (first | (at_builtin; refine wpList_append_own _ rfl (.tmp 49) (.tmp 51) 33 rfl w3.heap.size 3 ie (.int .i64 0) 1 8 Tryd.underlying33 HI.out HZ0.out HZ1.out HZ2.out rfl (by decide) (.slice none 0 0) 0 [] rfl (World.ownsRow_nil _ _ _ _) ⟨pb, poff, none⟩ r.pend.length r.pc (il (r.pend.map fun (i : Nat) => (i : Int))) rfl (by simp [il]) (ints_cells PS.out) (il_one _) (by unfold maxLen; have := HP9.out; omega) (by have := HP9.out; omega) (by simp) ?_; intro vA wA hoA hgA _; have HOA := Lib.hid hoA; have HBA := Lib.hid (Below.grown (Below.refl w3.heap.size _) hgA (by simp) (by intro k hk; cases hk)); clear hoA hgA) | (at_builtin; refine wpList_append_own _ rfl (.tmp 52) (.tmp 54) 33 rfl w3.heap.size 3 ie (.int .i64 0) 1 8 Tryd.underlying33 HI.out HZ0.out HZ1.out HZ2.out rfl (by decide) vA (0 + r.pend.length) ([] ++ il (r.pend.map fun (i : Nat) => (i : Int))) rfl (HOA.out.alloc _) ⟨wA.heap.size, 0, none⟩ 1 1 [.int .i64 (i : Int)] rfl rfl (one_i wA _) (by intro u hu; simp at hu; subst hu; rfl) (by unfold maxLen; have := HP9.out; omega) (by have := HP9.out; omega) (by have := HBA.out.size; simp at this ⊢; omega) ?_; intro vB wB hoB hgB _; rw [il_snoc'] at hoB; obtain ⟨gB, capB, rfl, hgb⟩ := own_head hoB (by omega); obtain ⟨aoB, cB, hvB, hpi, _, _⟩ := own_ints hoB; have HBB2 := Lib.hid ((HBA.out.alloc (by have := HBA.out.size; simp at this ⊢; omega) (.cells #[.int .i64 (i : Int)] 3)).grown hgB (by have := HBA.out.size; simp at this ⊢; omega) (fun k hk => (HOA.out.lt k hk).1)); obtain ⟨y0, yj, yr, g1, g2⟩ := carry (X := w.heap.size) (HBB2.out.mono HSZ.out) x0; have y1 := (yj 1 (by omega)).trans x1; have y2 := (yj 2 (by omega)).trans x2; have y3 := (yj 3 (by omega)).trans x3; have y4 := (yj 4 (by omega)).trans x4; have u0 := (yr 0).trans z0; have u1 := (yr 1).trans z1; have u2 := (yr 2).trans z2; have u3 := (yr 3).trans z3; have u4 := (yr 4).trans z4; have g3 := fun j => (g1 j).trans (f1 j); have g4 := fun j => (g2 j).trans (f2 j); clear yj yr g1 g2))
    refine bodyPost_ret (v := .tuple #[.agg #[.slice (some ⟨nb, 0, none⟩) r.n cap, .slice (some ⟨r.sb, 0, none⟩) r.n r.sc, .slice (some ⟨gB, 0, none⟩) (r.pend.length + 1) capB, .int .i64 (r.writes + 1), .int .i64 (r.left - 1)], .int .i64 0]) (by simp [results, Tryd.results46, go_sem, u0, u1, u2, u3, u4]) rfl ?_
    have h2 := ((((((Two.refl w.heap.size (w.heap.size + 1) wB).set ⟨w.heap.size, 2, none⟩ (.inl rfl) (.slice (some ⟨gB, 0, none⟩) (r.pend.length + 1) capB)).set ⟨w.heap.size + 1, 0, none⟩ (.inr rfl) (.slice (some ⟨nb, 0, none⟩) r.n cap)).set ⟨w.heap.size + 1, 1, none⟩ (.inr rfl) (.slice (some ⟨r.sb, 0, none⟩) r.n r.sc)).set ⟨w.heap.size + 1, 2, none⟩ (.inr rfl) (.slice (some ⟨gB, 0, none⟩) (r.pend.length + 1) capB)).set ⟨w.heap.size + 1, 3, none⟩ (.inr rfl) (.int .i64 (r.writes + 1))).set ⟨w.heap.size + 1, 4, none⟩ (.inr rfl) (.int .i64 (r.left - 1))
    have e := new_done (left := r.left - 1) (pc := capB) HH.out HT.out HP.out HP9.out HS.out HNC.out.1 HNC.out.2 HNB.out HN3.out HBB.out HBB2.out hpi (by intro b off e; injection e with e; injection e with e1 _; have := HSZ.out; omega) h2 (by rw [if_pos hpos])
    exact ⟨_, by simp [Ref.val], e⟩
  · unfold Ref.val
    have HP2 := Lib.hid hpos
    go_enter Tryd.func46, Tryd.ntmps46
    go_upto_region 13 with (first | (go_at_call 64; refine (with_any r.nb 0 r.n r.nc i (txs r.n r.N) t _ (HH.out.N.below (al2 w _ _)) (txs_len _ _) hi HH.out.nc.1 HH.out.nc.2 (by have := HH.out.n1.2; omega)).mono ?_; rintro e w3 ⟨ao, cap, rfl, hs, hnc, hcp, hfr, hb⟩; have kf := held_facts hb; have HBB := Lib.hid ((al2 w _ _).trans (hb.mono (al2 w _ _).size)); have HSZ := Lib.hid (show w.heap.size + 2 ≤ w3.heap.size by have := hb.size; simp at this; omega); have x0 : w3.cell? ⟨w.heap.size, 0, none⟩ = some (.slice (some ⟨r.nb, 0, none⟩) r.n r.nc) := (kf 0).1; have x1 : w3.cell? ⟨w.heap.size, 1, none⟩ = some (.slice (some ⟨r.sb, 0, none⟩) r.n r.sc) := (kf 1).1; have x2 : w3.cell? ⟨w.heap.size, 2, none⟩ = some (.slice r.pa r.pend.length r.pc) := (kf 2).1; have x3 : w3.cell? ⟨w.heap.size, 3, none⟩ = some (.int .i64 (r.writes + 1)) := (kf 3).1; have x4 : w3.cell? ⟨w.heap.size, 4, none⟩ = some (.int .i64 (r.left)) := (kf 4).1; have f1 := fun j => (kf j).2.1; have f2 := fun j => (kf j).2.2.2; have z0 : w3.cell? ⟨w.heap.size + 1, 0, none⟩ = some (.slice none 0 0) := (kf 0).2.2.1; have z1 : w3.cell? ⟨w.heap.size + 1, 1, none⟩ = some (.slice none 0 0) := (kf 1).2.2.1; have z2 : w3.cell? ⟨w.heap.size + 1, 2, none⟩ = some (.slice none 0 0) := (kf 2).2.2.1; have z3 : w3.cell? ⟨w.heap.size + 1, 3, none⟩ = some (.int .i64 0) := (kf 3).2.2.1; have z4 : w3.cell? ⟨w.heap.size + 1, 4, none⟩ = some (.int .i64 0) := (kf 4).2.2.1; have HS := Lib.hid hs; have HNC := Lib.hid (show r.n ≤ cap ∧ cap ≤ 9223372036854775807 from ⟨hnc, hcp⟩); have HFR := Lib.hid hfr; clear kf hs hnc hcp hfr hb) | (go_at_call 65; refine (place_any _ _ _ (r.pend.map fun (i : Nat) => (i : Int)) _ _ (place_src HH.out HBB.out) (by rw [List.length_map]) (by have := HH.out.len; omega)).mono ?_; rintro e w' ⟨rfl, rfl⟩))
    obtain ⟨nb, rfl⟩ : ∃ nb, ao = some ⟨nb, 0, none⟩ := by
      obtain ⟨b, off, ha, _⟩ := HS.out 0 (by rw [List.length_set, txs_len]; omega)
      obtain ⟨_, rfl⟩ := HFR.out b off ha
      exact ⟨b, ha⟩
    have HNB := Lib.hid (show w.heap.size + 2 ≤ nb by have := (HFR.out nb 0 rfl).1; simpa using this)
    have HN3 := Lib.hid (show nb < w3.heap.size by obtain ⟨b, off, ha, hc⟩ := HS.out 0 (by rw [List.length_set, txs_len]; omega); obtain ⟨rfl, rfl⟩ : nb = b ∧ 0 = off := by simpa using ha
                                                   exact World.block_lt_of_cell? w3 _ hc)
    obtain ⟨pb, poff, hpa⟩ : ∃ pb poff, r.pa = some ⟨pb, poff, none⟩ := by
      have h0 : 0 < (r.pend.map fun (i : Nat) => (i : Int)).length := by rw [List.length_map]; exact List.length_pos_iff.2 hpd
      obtain ⟨b, off, ha, _⟩ := HH.out.p 0 h0
      exact ⟨b, off, ha⟩
    have PS := Lib.hid (place_src (v := .slice (some ⟨nb, 0, none⟩) r.n cap) HH.out HBB.out)
    rw [hpa] at x2 PS
    clear hpa
    go_wp2_with (first | (at_builtin; refine wpList_append_own _ rfl (.tmp 49) (.tmp 51) 33 rfl w3.heap.size 3 ie (.int .i64 0) 1 8 Tryd.underlying33 HI.out HZ0.out HZ1.out HZ2.out rfl (by decide) (.slice none 0 0) 0 [] rfl (World.ownsRow_nil _ _ _ _) ⟨pb, poff, none⟩ r.pend.length r.pc (il (r.pend.map fun (i : Nat) => (i : Int))) rfl (by simp [il]) (ints_cells PS.out) (il_one _) (by unfold maxLen; have := HP9.out; omega) (by have := HP9.out; omega) (by simp) ?_; intro vA wA hoA hgA _; have HOA := Lib.hid hoA; have HBA := Lib.hid (Below.grown (Below.refl w3.heap.size _) hgA (by simp) (by intro k hk; cases hk)); clear hoA hgA) | (at_builtin; refine wpList_append_own _ rfl (.tmp 52) (.tmp 54) 33 rfl w3.heap.size 3 ie (.int .i64 0) 1 8 Tryd.underlying33 HI.out HZ0.out HZ1.out HZ2.out rfl (by decide) vA (0 + r.pend.length) ([] ++ il (r.pend.map fun (i : Nat) => (i : Int))) rfl (HOA.out.alloc _) ⟨wA.heap.size, 0, none⟩ 1 1 [.int .i64 (i : Int)] rfl rfl (one_i wA _) (by intro u hu; simp at hu; subst hu; rfl) (by unfold maxLen; have := HP9.out; omega) (by have := HP9.out; omega) (by have := HBA.out.size; simp at this ⊢; omega) ?_; intro vB wB hoB hgB _; rw [il_snoc'] at hoB; obtain ⟨gB, capB, rfl, hgb⟩ := own_head hoB (by omega); obtain ⟨aoB, cB, hvB, hpi, _, _⟩ := own_ints hoB; have HBB2 := Lib.hid ((HBA.out.alloc (by have := HBA.out.size; simp at this ⊢; omega) (.cells #[.int .i64 (i : Int)] 3)).grown hgB (by have := HBA.out.size; simp at this ⊢; omega) (fun k hk => (HOA.out.lt k hk).1)); obtain ⟨y0, yj, yr, g1, g2⟩ := carry (X := w.heap.size) (HBB2.out.mono HSZ.out) x0; have y1 := (yj 1 (by omega)).trans x1; have y2 := (yj 2 (by omega)).trans x2; have y3 := (yj 3 (by omega)).trans x3; have y4 := (yj 4 (by omega)).trans x4; have u0 := (yr 0).trans z0; have u1 := (yr 1).trans z1; have u2 := (yr 2).trans z2; have u3 := (yr 3).trans z3; have u4 := (yr 4).trans z4; have g3 := fun j => (g1 j).trans (f1 j); have g4 := fun j => (g2 j).trans (f2 j); clear yj yr g1 g2))
    refine bodyPost_ret (v := .tuple #[.agg #[.slice (some ⟨nb, 0, none⟩) r.n cap, .slice (some ⟨r.sb, 0, none⟩) r.n r.sc, .slice (some ⟨gB, 0, none⟩) (r.pend.length + 1) capB, .int .i64 (r.writes + 1), .int .i64 (r.left)], .int .i64 0]) (by simp [results, Tryd.results46, go_sem, u0, u1, u2, u3, u4]) rfl ?_
    have h2 := ((((((Two.refl w.heap.size (w.heap.size + 1) wB).set ⟨w.heap.size, 2, none⟩ (.inl rfl) (.slice (some ⟨gB, 0, none⟩) (r.pend.length + 1) capB)).set ⟨w.heap.size + 1, 0, none⟩ (.inr rfl) (.slice (some ⟨nb, 0, none⟩) r.n cap)).set ⟨w.heap.size + 1, 1, none⟩ (.inr rfl) (.slice (some ⟨r.sb, 0, none⟩) r.n r.sc)).set ⟨w.heap.size + 1, 2, none⟩ (.inr rfl) (.slice (some ⟨gB, 0, none⟩) (r.pend.length + 1) capB)).set ⟨w.heap.size + 1, 3, none⟩ (.inr rfl) (.int .i64 (r.writes + 1))).set ⟨w.heap.size + 1, 4, none⟩ (.inr rfl) (.int .i64 (r.left))
    have e := new_done (left := r.left) (pc := capB) HH.out HT.out HP.out HP9.out HS.out HNC.out.1 HNC.out.2 HNB.out HN3.out HBB.out HBB2.out hpi (by intro b off e; injection e with e; injection e with e1 _; have := HSZ.out; omega) h2 (by rw [if_neg (by have := HP2.out; omega)])
    exact ⟨_, by simp [Ref.val], e⟩
end Go.Proofs.YtfhnnfheonkneaaDoor

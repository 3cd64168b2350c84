/-
  THE REFERENCE's Write, where a first sector becomes pending. Conditions: the reference's disk lies in memory.
  THE REFERENCE's Write, whole, AND ITS Flush. Conditions: the reference's disk lies in memory.
-/
import Derived.Test.YtfhnnfheonkneaaDoorRb
namespace Go.Proofs.YtfhnnfheonkneaaDoor
open Go.RowKit

set_option maxRecDepth 100000 in
set_option maxHeartbeats 3000000 in
theorem refwrite_new0 (r : Ref) (i : Nat) (t : ByteArray) (w : World) (h : RefOk w r) (hi : i < r.n) (ht : t.size = 512) (hl : r.left ≠ 0) (l1 : r.left ≤ 9223372036854775807) (l0 : -1 ≤ r.left) (w0 : 0 ≤ r.writes) (w1 : r.writes < 4611686018427387904) (hp : i ∉ r.pend) (hpl9 : r.pend.length ≤ 99) (hpd : r.pend = []) :
    Calls Tryd.prog 46 #[r.val, .int .i64 i, .string t] w (RefWroteAt w r i (txt t)) := by
  have h0 : (0 : Int) ≤ (i : Int) := by omega
  have h1 : (i : Int) < (r.n : Int) := by omega
  have h4 : (r.n : Int) ≤ 100 := by have := h.n1.2; omega
  have h5 : (r.left == 0) = false := by rw [beq_eq_false_iff_ne]; exact hl
  have hpl := plc_out hp
  obtain ⟨ie, hi9, hz0, hz1, hz2⟩ := info_parts info_i
  have HI := Lib.hid hi9
  have HZ0 := Lib.hid hz0
  have HZ1 := Lib.hid hz1
  have HZ2 := Lib.hid hz2
  have HH := Lib.hid h
  have HP := Lib.hid hp
  have HT := Lib.hid ht
  have HP9 := Lib.hid hpl9
  have HNI := Lib.hid (h.nil hpd)
  have HPD := Lib.hid hpd
  have HPN := Lib.hid (show r.pend ++ [i] = [] ++ [i] by rw [hpd])
  clear hpd
  clear h hp hl hi9 hz0 hz1 hz2
  by_cases hpos : 0 < r.left
  · unfold Ref.val
    go_enter Tryd.func46, Tryd.ntmps46
    go_upto_region 13 with (first | (go_at_call 64; refine (with_any r.nb 0 r.n r.nc i (txs r.n r.N) t _ (HH.out.N.below (al2 w _ _)) (txs_len _ _) hi HH.out.nc.1 HH.out.nc.2 (by have := HH.out.n1.2; omega)).mono ?_; rintro e w3 ⟨ao, cap, rfl, hs, hnc, hcp, hfr, hb⟩; have kf := held_facts hb; have HBB := Lib.hid ((al2 w _ _).trans (hb.mono (al2 w _ _).size)); have HSZ := Lib.hid (show w.heap.size + 2 ≤ w3.heap.size by have := hb.size; simp at this; omega); have x0 : w3.cell? ⟨w.heap.size, 0, none⟩ = some (.slice (some ⟨r.nb, 0, none⟩) r.n r.nc) := (kf 0).1; have x1 : w3.cell? ⟨w.heap.size, 1, none⟩ = some (.slice (some ⟨r.sb, 0, none⟩) r.n r.sc) := (kf 1).1; have x2 : w3.cell? ⟨w.heap.size, 2, none⟩ = some (.slice r.pa r.pend.length r.pc) := (kf 2).1; have x3 : w3.cell? ⟨w.heap.size, 3, none⟩ = some (.int .i64 (r.writes + 1)) := (kf 3).1; have x4 : w3.cell? ⟨w.heap.size, 4, none⟩ = some (.int .i64 (r.left - 1)) := (kf 4).1; have f1 := fun j => (kf j).2.1; have f2 := fun j => (kf j).2.2.2; have z0 : w3.cell? ⟨w.heap.size + 1, 0, none⟩ = some (.slice none 0 0) := (kf 0).2.2.1; have z1 : w3.cell? ⟨w.heap.size + 1, 1, none⟩ = some (.slice none 0 0) := (kf 1).2.2.1; have z2 : w3.cell? ⟨w.heap.size + 1, 2, none⟩ = some (.slice none 0 0) := (kf 2).2.2.1; have z3 : w3.cell? ⟨w.heap.size + 1, 3, none⟩ = some (.int .i64 0) := (kf 3).2.2.1; have z4 : w3.cell? ⟨w.heap.size + 1, 4, none⟩ = some (.int .i64 0) := (kf 4).2.2.1; have HS := Lib.hid hs; have HNC := Lib.hid (show r.n ≤ cap ∧ cap ≤ 9223372036854775807 from ⟨hnc, hcp⟩); have HFR := Lib.hid hfr; clear kf hs hnc hcp hfr hb) | (go_at_call 65; refine (place_any _ _ _ (r.pend.map fun (i : Nat) => (i : Int)) _ _ (place_src HH.out HBB.out) (by rw [List.length_map]) (by have := HH.out.len; omega)).mono ?_; rintro e w' ⟨rfl, rfl⟩))
    obtain ⟨nb, rfl⟩ : ∃ nb, ao = some ⟨nb, 0, none⟩ := by
      obtain ⟨b, off, ha, _⟩ := HS.out 0 (by rw [List.length_set, txs_len]; omega)
      obtain ⟨_, rfl⟩ := HFR.out b off ha
      exact ⟨b, ha⟩
    have HNB := Lib.hid (show w.heap.size + 2 ≤ nb by have := (HFR.out nb 0 rfl).1; simpa using this)
    have HN3 := Lib.hid (show nb < w3.heap.size by obtain ⟨b, off, ha, hc⟩ := HS.out 0 (by rw [List.length_set, txs_len]; omega); obtain ⟨rfl, rfl⟩ : nb = b ∧ 0 = off := by simpa using ha
                                                   exact World.block_lt_of_cell? w3 _ hc)
    rw [HNI.out.1, HNI.out.2, HPD.out] at x2
    change w3.cell? ⟨w.heap.size, 2, none⟩ = some (.slice none 0 0) at x2
    go_wp2_with (first | (at_builtin; refine wpList_append_own_none rfl (.tmp 49) (.tmp 51) 33 rfl w3.heap.size 3 ie 1 Tryd.underlying33 HI.out (.slice none 0 0) 0 [] rfl (World.ownsRow_nil _ _ _ _) rfl ?_) | (at_builtin; refine wpList_append_own _ rfl (.tmp 52) (.tmp 54) 33 rfl w3.heap.size 3 ie (.int .i64 0) 1 8 Tryd.underlying33 HI.out HZ0.out HZ1.out HZ2.out rfl (by decide) (.slice none 0 0) 0 [] rfl (World.ownsRow_nil _ _ _ _) ⟨w3.heap.size, 0, none⟩ 1 1 [.int .i64 (i : Int)] rfl rfl (one_iS w3 _ _ _) (by intro u hu; simp at hu; subst hu; rfl) (by unfold maxLen; omega) (by omega) (by simp) ?_; intro vB wB hoB hgB _; rw [il_nil'] at hoB; obtain ⟨gB, capB, rfl, hgb⟩ := own_head hoB (by omega); obtain ⟨aoB, cB, hvB, hpi, _, _⟩ := own_ints hoB; rw [← HPN.out] at hpi; have HBB2 := Lib.hid (((Below.refl w3.heap.size (w3.setCell ⟨w.heap.size, 0, none⟩ (.slice (some ⟨nb, 0, none⟩) r.n cap))).alloc (by simp) (.cells #[.int .i64 (i : Int)] 3)).grown hgB (by simp) (by intro k hk; cases hk)); obtain ⟨y0, yj, yr, g1, g2⟩ := carry (X := w.heap.size) (HBB2.out.mono HSZ.out) x0; have y1 := (yj 1 (by omega)).trans x1; have y2 := (yj 2 (by omega)).trans x2; have y3 := (yj 3 (by omega)).trans x3; have y4 := (yj 4 (by omega)).trans x4; have u0 := (yr 0).trans z0; have u1 := (yr 1).trans z1; have u2 := (yr 2).trans z2; have u3 := (yr 3).trans z3; have u4 := (yr 4).trans z4; have g3 := fun j => (g1 j).trans (f1 j); have g4 := fun j => (g2 j).trans (f2 j); clear yj yr g1 g2))
    refine bodyPost_ret (v := .tuple #[.agg #[.slice (some ⟨nb, 0, none⟩) r.n cap, .slice (some ⟨r.sb, 0, none⟩) r.n r.sc, .slice (some ⟨gB, 0, none⟩) (r.pend.length + 1) capB, .int .i64 (r.writes + 1), .int .i64 (r.left - 1)], .int .i64 0]) (by simp [results, Tryd.results46, go_sem, u0, u1, u2, u3, u4, HPD.out]) rfl ?_
    have h2 := ((((((Two.refl w.heap.size (w.heap.size + 1) wB).set ⟨w.heap.size, 2, none⟩ (.inl rfl) (.slice (some ⟨gB, 0, none⟩) (0 + 1) capB)).set ⟨w.heap.size + 1, 0, none⟩ (.inr rfl) (.slice (some ⟨nb, 0, none⟩) r.n cap)).set ⟨w.heap.size + 1, 1, none⟩ (.inr rfl) (.slice (some ⟨r.sb, 0, none⟩) r.n r.sc)).set ⟨w.heap.size + 1, 2, none⟩ (.inr rfl) (.slice (some ⟨gB, 0, none⟩) (0 + 1) capB)).set ⟨w.heap.size + 1, 3, none⟩ (.inr rfl) (.int .i64 (r.writes + 1))).set ⟨w.heap.size + 1, 4, none⟩ (.inr rfl) (.int .i64 (r.left - 1))
    have e := new_done (left := r.left - 1) (pc := capB) HH.out HT.out HP.out HP9.out HS.out HNC.out.1 HNC.out.2 HNB.out HN3.out HBB.out HBB2.out hpi (by intro b off e; injection e with e; injection e with e1 _; have := HSZ.out; omega) h2 (by rw [if_pos hpos])
    exact ⟨_, by simp [Ref.val], e⟩
  · unfold Ref.val
    have HP2 := Lib.hid hpos
    go_enter Tryd.func46, Tryd.ntmps46
    go_upto_region 13 with (first | (go_at_call 64; refine (with_any r.nb 0 r.n r.nc i (txs r.n r.N) t _ (HH.out.N.below (al2 w _ _)) (txs_len _ _) hi HH.out.nc.1 HH.out.nc.2 (by have := HH.out.n1.2; omega)).mono ?_; rintro e w3 ⟨ao, cap, rfl, hs, hnc, hcp, hfr, hb⟩; have kf := held_facts hb; have HBB := Lib.hid ((al2 w _ _).trans (hb.mono (al2 w _ _).size)); have HSZ := Lib.hid (show w.heap.size + 2 ≤ w3.heap.size by have := hb.size; simp at this; omega); have x0 : w3.cell? ⟨w.heap.size, 0, none⟩ = some (.slice (some ⟨r.nb, 0, none⟩) r.n r.nc) := (kf 0).1; have x1 : w3.cell? ⟨w.heap.size, 1, none⟩ = some (.slice (some ⟨r.sb, 0, none⟩) r.n r.sc) := (kf 1).1; have x2 : w3.cell? ⟨w.heap.size, 2, none⟩ = some (.slice r.pa r.pend.length r.pc) := (kf 2).1; have x3 : w3.cell? ⟨w.heap.size, 3, none⟩ = some (.int .i64 (r.writes + 1)) := (kf 3).1; have x4 : w3.cell? ⟨w.heap.size, 4, none⟩ = some (.int .i64 (r.left)) := (kf 4).1; have f1 := fun j => (kf j).2.1; have f2 := fun j => (kf j).2.2.2; have z0 : w3.cell? ⟨w.heap.size + 1, 0, none⟩ = some (.slice none 0 0) := (kf 0).2.2.1; have z1 : w3.cell? ⟨w.heap.size + 1, 1, none⟩ = some (.slice none 0 0) := (kf 1).2.2.1; have z2 : w3.cell? ⟨w.heap.size + 1, 2, none⟩ = some (.slice none 0 0) := (kf 2).2.2.1; have z3 : w3.cell? ⟨w.heap.size + 1, 3, none⟩ = some (.int .i64 0) := (kf 3).2.2.1; have z4 : w3.cell? ⟨w.heap.size + 1, 4, none⟩ = some (.int .i64 0) := (kf 4).2.2.1; have HS := Lib.hid hs; have HNC := Lib.hid (show r.n ≤ cap ∧ cap ≤ 9223372036854775807 from ⟨hnc, hcp⟩); have HFR := Lib.hid hfr; clear kf hs hnc hcp hfr hb) | (go_at_call 65; refine (place_any _ _ _ (r.pend.map fun (i : Nat) => (i : Int)) _ _ (place_src HH.out HBB.out) (by rw [List.length_map]) (by have := HH.out.len; omega)).mono ?_; rintro e w' ⟨rfl, rfl⟩))
    obtain ⟨nb, rfl⟩ : ∃ nb, ao = some ⟨nb, 0, none⟩ := by
      obtain ⟨b, off, ha, _⟩ := HS.out 0 (by rw [List.length_set, txs_len]; omega)
      obtain ⟨_, rfl⟩ := HFR.out b off ha
      exact ⟨b, ha⟩
    have HNB := Lib.hid (show w.heap.size + 2 ≤ nb by have := (HFR.out nb 0 rfl).1; simpa using this)
    have HN3 := Lib.hid (show nb < w3.heap.size by obtain ⟨b, off, ha, hc⟩ := HS.out 0 (by rw [List.length_set, txs_len]; omega); obtain ⟨rfl, rfl⟩ : nb = b ∧ 0 = off := by simpa using ha
                                                   exact World.block_lt_of_cell? w3 _ hc)
    rw [HNI.out.1, HNI.out.2, HPD.out] at x2
    change w3.cell? ⟨w.heap.size, 2, none⟩ = some (.slice none 0 0) at x2
    go_wp2_with (first | (at_builtin; refine wpList_append_own_none rfl (.tmp 49) (.tmp 51) 33 rfl w3.heap.size 3 ie 1 Tryd.underlying33 HI.out (.slice none 0 0) 0 [] rfl (World.ownsRow_nil _ _ _ _) rfl ?_) | (at_builtin; refine wpList_append_own _ rfl (.tmp 52) (.tmp 54) 33 rfl w3.heap.size 3 ie (.int .i64 0) 1 8 Tryd.underlying33 HI.out HZ0.out HZ1.out HZ2.out rfl (by decide) (.slice none 0 0) 0 [] rfl (World.ownsRow_nil _ _ _ _) ⟨w3.heap.size, 0, none⟩ 1 1 [.int .i64 (i : Int)] rfl rfl (one_iS w3 _ _ _) (by intro u hu; simp at hu; subst hu; rfl) (by unfold maxLen; omega) (by omega) (by simp) ?_; intro vB wB hoB hgB _; rw [il_nil'] at hoB; obtain ⟨gB, capB, rfl, hgb⟩ := own_head hoB (by omega); obtain ⟨aoB, cB, hvB, hpi, _, _⟩ := own_ints hoB; rw [← HPN.out] at hpi; have HBB2 := Lib.hid (((Below.refl w3.heap.size (w3.setCell ⟨w.heap.size, 0, none⟩ (.slice (some ⟨nb, 0, none⟩) r.n cap))).alloc (by simp) (.cells #[.int .i64 (i : Int)] 3)).grown hgB (by simp) (by intro k hk; cases hk)); obtain ⟨y0, yj, yr, g1, g2⟩ := carry (X := w.heap.size) (HBB2.out.mono HSZ.out) x0; have y1 := (yj 1 (by omega)).trans x1; have y2 := (yj 2 (by omega)).trans x2; have y3 := (yj 3 (by omega)).trans x3; have y4 := (yj 4 (by omega)).trans x4; have u0 := (yr 0).trans z0; have u1 := (yr 1).trans z1; have u2 := (yr 2).trans z2; have u3 := (yr 3).trans z3; have u4 := (yr 4).trans z4; have g3 := fun j => (g1 j).trans (f1 j); have g4 := fun j => (g2 j).trans (f2 j); clear yj yr g1 g2))
    refine bodyPost_ret (v := .tuple #[.agg #[.slice (some ⟨nb, 0, none⟩) r.n cap, .slice (some ⟨r.sb, 0, none⟩) r.n r.sc, .slice (some ⟨gB, 0, none⟩) (r.pend.length + 1) capB, .int .i64 (r.writes + 1), .int .i64 (r.left)], .int .i64 0]) (by simp [results, Tryd.results46, go_sem, u0, u1, u2, u3, u4, HPD.out]) rfl ?_
    have h2 := ((((((Two.refl w.heap.size (w.heap.size + 1) wB).set ⟨w.heap.size, 2, none⟩ (.inl rfl) (.slice (some ⟨gB, 0, none⟩) (0 + 1) capB)).set ⟨w.heap.size + 1, 0, none⟩ (.inr rfl) (.slice (some ⟨nb, 0, none⟩) r.n cap)).set ⟨w.heap.size + 1, 1, none⟩ (.inr rfl) (.slice (some ⟨r.sb, 0, none⟩) r.n r.sc)).set ⟨w.heap.size + 1, 2, none⟩ (.inr rfl) (.slice (some ⟨gB, 0, none⟩) (0 + 1) capB)).set ⟨w.heap.size + 1, 3, none⟩ (.inr rfl) (.int .i64 (r.writes + 1))).set ⟨w.heap.size + 1, 4, none⟩ (.inr rfl) (.int .i64 (r.left))
    have e := new_done (left := r.left) (pc := capB) HH.out HT.out HP.out HP9.out HS.out HNC.out.1 HNC.out.2 HNB.out HN3.out HBB.out HBB2.out hpi (by intro b off e; injection e with e; injection e with e1 _; have := HSZ.out; omega) h2 (by rw [if_neg (by have := HP2.out; omega)])
    exact ⟨_, by simp [Ref.val], e⟩
end Go.Proofs.YtfhnnfheonkneaaDoor
namespace Go.Proofs.YtfhnnfheonkneaaDoor
open Go.RowKit

theorem refwrite_any (r : Ref) (i : Nat) (t : ByteArray) (w : World) (h : RefOk w r) (hi : i < r.n) (ht : t.size = 512) (hl : r.left ≠ 0) (l1 : r.left ≤ 9223372036854775807) (l0 : -1 ≤ r.left) (w0 : 0 ≤ r.writes) (w1 : r.writes < 4611686018427387904) (hp : i ∉ r.pend → r.pend.length ≤ 99) :
    Calls Tryd.prog 46 #[r.val, .int .i64 i, .string t] w (RefWroteAt w r i (txt t)) := by
  by_cases e : i ∈ r.pend
  · exact refwrite_had r i t w h hi ht hl l1 l0 w0 w1 e
  · by_cases e2 : r.pend = []
    · exact refwrite_new0 r i t w h hi ht hl l1 l0 w0 w1 e (hp e) e2
    · exact refwrite_new1 r i t w h hi ht hl l1 l0 w0 w1 e (hp e) e2
def writeC (n : Nat) (left i : Int) (size : Nat) : Int := if i < 0 ∨ (n : Int) ≤ i then 4 else if size ≠ 512 then 2 else if left = 0 then 5 else 0
theorem writeC0 {n : Nat} {left i : Int} {size : Nat} (h : writeC n left i size = 0) : 0 ≤ i ∧ i < n ∧ size = 512 ∧ left ≠ 0 := by
  unfold writeC at h
  by_cases a : i < 0 ∨ (n : Int) ≤ i
  · rw [if_pos a] at h; omega
  rw [if_neg a] at h
  by_cases b : size ≠ 512
  · rw [if_pos b] at h; omega
  rw [if_neg b] at h
  by_cases c : left = 0
  · rw [if_pos c] at h; omega
  exact ⟨by omega, by omega, by omega, c⟩
structure RefGo (w : World) (r : Ref) (w' : World) (r' : Ref) : Prop where
  ok : RefOk w' r'
  far : ∀ s, Far r s → (∀ b, s.has b → b < w.heap.size) → Far r' s
  below : Below w.heap.size w w'
theorem RefGo.same {w w' : World} {r : Ref} (h : RefOk w r) (hb : Below w.heap.size w w') : RefGo w r w' r := ⟨h.below hb, fun _ h _ => h, hb⟩
def RefOut (w : World) (r : Ref) (c : Int) (P : Ref → Prop) (e : Ending) (w' : World) : Prop := ∃ r', e = .returned (.tuple #[r'.val, .int .i64 c]) ∧ RefGo w r w' r' ∧ P r'
/-- all but what both the texts are -/
structure RefNew (r r' : Ref) (N S : Nat → Nat → Int) (pend : List Nat) (writes left : Int) : Prop where
  n : r'.n = r.n
  N : r'.N = N
  S : r'.S = S
  pend : r'.pend = pend
  writes : r'.writes = writes
  left : r'.left = left
theorem refwrite_u (r : Ref) (i : Int) (t : ByteArray) (w : World) (h : RefOk w r) (l1 : r.left ≤ 9223372036854775807) (l0 : -1 ≤ r.left) (w0 : 0 ≤ r.writes) (w1 : r.writes < 4611686018427387904) (hp : r.pend.length ≤ 99) :
    Calls Tryd.prog 46 #[r.val, .int .i64 i, .string t] w (RefOut w r (writeC r.n r.left i t.size) (fun r' => (writeC r.n r.left i t.size ≠ 0 → r' = r) ∧ (writeC r.n r.left i t.size = 0 → RefNew r r' (upd r.N i.toNat (txt t)) r.S (if i.toNat ∈ r.pend then r.pend else r.pend ++ [i.toNat]) (r.writes + 1) (if 0 < r.left then r.left - 1 else r.left)))) := by
  by_cases a : i < 0 ∨ (r.n : Int) ≤ i
  · have e : writeC r.n r.left i t.size = 4 := by unfold writeC; rw [if_pos a]
    rw [e]
    exact (refwrite_range r i t w a h.n1.2).mono fun _ _ ⟨he, hw⟩ => ⟨r, he, .same h hw, fun _ => rfl, fun e => by omega⟩
  obtain ⟨i', rfl⟩ : ∃ k : Nat, i = k := ⟨i.toNat, by omega⟩
  by_cases b : t.size ≠ 512
  · have e : writeC r.n r.left i' t.size = 2 := by unfold writeC; rw [if_neg a, if_pos b]
    rw [e]
    exact (refwrite_long r i' t w (by omega) h.n1.2 b).mono fun _ _ ⟨he, hw⟩ => ⟨r, he, .same h hw, fun _ => rfl, fun e => by omega⟩
  have b : t.size = 512 := by omega
  by_cases d : r.left = 0
  · have e : writeC r.n r.left i' t.size = 5 := by unfold writeC; rw [if_neg a, if_neg (by omega), if_pos d]
    rw [e]
    exact (refwrite_full r i' t w (by omega) h.n1.2 b d).mono fun _ _ ⟨he, hw⟩ => ⟨r, he, .same h hw, fun _ => rfl, fun e => by omega⟩
  · have e : writeC r.n r.left i' t.size = 0 := by unfold writeC; rw [if_neg a, if_neg (by omega), if_neg d]
    rw [e]
    exact (refwrite_any r i' t w h (by omega) b d l1 l0 w0 w1 (fun _ => hp)).mono fun _ _ ⟨r', he, k⟩ => ⟨r', he, ⟨k.ok, k.far, k.below⟩, fun e => absurd rfl e, fun _ => by rw [Int.toNat_natCast]; exact ⟨k.n, k.N, k.S, k.pend, k.writes, k.left⟩⟩

def lone (X : Nat) : St := ⟨0, X, X, X, fun _ _ => 0, fun _ _ => 0, fun _ => none, .nilIface, [], 0, 0⟩
theorem lone_has {X b : Nat} (h : (lone X).has b) : b = X := by
  rcases h with e | e | e | e | ⟨i, e⟩
  · exact e
  · exact e
  · exact e
  · cases e
  · cases e
theorem lone_self (X : Nat) : (lone X).has X := .inl rfl
theorem Far.old {w : World} {r : Ref} (h : RefOk w r) (hn : r.pend = [] ∨ r.pend ≠ []) {X : Nat} (hX : w.heap.size ≤ X) : Far r (lone X) := by
  have lt := h.lt
  refine ⟨fun e => ?_, fun e => ?_, fun b off ha e => ?_⟩
  · have := lone_has e; omega
  · have := lone_has e; omega
  · have := lone_has e
    rcases hn with hp | hp
    · rw [(h.nil hp).1] at ha; cases ha
    · obtain ⟨b', off', ha', hc⟩ := h.p 0 (by rw [List.length_map]; exact List.length_pos_iff.2 hp)
      rw [ha] at ha'
      obtain ⟨rfl, rfl⟩ : b = b' ∧ off = off' := by simpa using ha'
      have := World.block_lt_of_cell? w _ hc
      change b < w.heap.size at this
      omega
theorem Far.off {r : Ref} {X : Nat} (h : Far r (lone X)) : r.nb ≠ X ∧ r.sb ≠ X ∧ ∀ b off, r.pa = some ⟨b, off, none⟩ → 0 < r.pend.length → b ≠ X :=
  ⟨fun e => h.1 (e ▸ lone_self X), fun e => h.2.1 (e ▸ lone_self X), fun b off ha _ e => h.2.2 b off ha (e ▸ lone_self X)⟩
theorem refflush_ex (r : Ref) (w : World) : Calls Tryd.prog 47 #[.agg #[.slice (some ⟨r.nb, 0, none⟩) r.n r.nc, .slice (some ⟨r.sb, 0, none⟩) r.n r.sc, .slice r.pa r.pend.length r.pc, .int .i64 r.writes, .int .i64 r.left]] w fun e w' => e = .returned (.agg #[.slice (some ⟨r.nb, 0, none⟩) r.n r.nc, .slice (some ⟨r.nb, 0, none⟩) r.n r.nc, .slice none 0 0, .int .i64 r.writes, .int .i64 r.left]) ∧ Below w.heap.size w w' := by
  have h := refflush_any (some ⟨r.nb, 0, none⟩) (some ⟨r.sb, 0, none⟩) r.n r.nc r.n r.sc r.pa r.pend.length r.pc r.writes r.left w
  unfold ragg at h
  exact h
end Go.Proofs.YtfhnnfheonkneaaDoor

/-
  THE REFERENCE's Rot, where a byte rots. Conditions: the reference's disk lies in memory.
-/
import Derived.Test.YtibopcbebcikbaaDoorTill
namespace Go.Proofs.YtibopcbebcikbaaDoor
open Go.RowKit

def RefRottedAt (w : World) (r : Ref) (i q : Nat) (y : Int) (e : Ending) (w' : World) : Prop := ∃ r', e = .returned (.tuple #[r'.val, .int .i64 0]) ∧ RefRotted w r i q y w' r'
theorem upd_bd {g : Nat → Nat → Int} {f : Nat → Int} (i : Nat) (hg : ∀ k j, 0 ≤ g k j ∧ g k j < 256) (hf : ∀ j, 0 ≤ f j ∧ f j < 256) (k j : Nat) : 0 ≤ upd g i f k j ∧ upd g i f k j < 256 := by
  unfold upd
  by_cases e : k = i
  · rw [if_pos e]; exact hf j
  · rw [if_neg e]; exact hg k j
/-- put together -/
theorem rot_done {r : Ref} {i q nb nc sb sc : Nat} {y : Int} {w w0 w3 wf : World} (h : RefOk w r) (hq : q < 512) (y0 : 0 ≤ y) (y1 : y < 256) (hz : w0.heap.size = w.heap.size + 2) (hb : Below w.heap.size w w0) (h3 : Below w0.heap.size w0 w3)
    (hN : Strs w3 (some ⟨nb, 0, none⟩) ((txs r.n r.N).set i (strOfNums (rowOf (turn (txt (strOfNums (rowOf (r.N i)))) q y))))) (hnc : r.n ≤ nc ∧ nc ≤ 9223372036854775807) (hnb : w0.heap.size ≤ nb)
    (hS : Strs w3 (some ⟨sb, 0, none⟩) ((txs r.n r.S).set i (strOfNums (rowOf (turn (txt (strOfNums (rowOf (r.S i)))) q y))))) (hsc : r.n ≤ sc ∧ sc ≤ 9223372036854775807) (hsb : w0.heap.size ≤ sb)
    (h2 : Two w.heap.size (w.heap.size + 1) w3 wf) :
    RefRotted w r i q y wf { r with nb := nb, nc := nc, sb := sb, sc := sc, N := upd r.N i (turn (r.N i) q y), S := upd r.S i (turn (r.S i) q y) } := by
  rw [turn_row (h.bN i) q hq, txs_set] at hN
  rw [turn_row (h.bS i) q hq, txs_set] at hS
  have hpa : ∀ b off, r.pa = some ⟨b, off, none⟩ → 0 < (r.pend.map fun (i : Nat) => (i : Int)).length → b < w.heap.size := by
    intro b off ha h0
    obtain ⟨b', off', ha', hc⟩ := h.p 0 h0
    rw [ha] at ha'
    obtain ⟨rfl, rfl⟩ : b = b' ∧ off = off' := by simpa using ha'
    exact World.block_lt_of_cell? w _ hc
  have hw : Below w.heap.size w w3 := hb.trans (h3.mono hb.size)
  have n1 : nb ≠ w.heap.size := by omega
  have n2 : nb ≠ w.heap.size + 1 := by omega
  have n3 : sb ≠ w.heap.size := by omega
  have n4 : sb ≠ w.heap.size + 1 := by omega
  refine ⟨⟨h2.strs hN n1 n2, h2.strs hS n3 n4, hnc, hsc, h2.ints (h.p.below hw) (fun b off ha h0 => by have := hpa b off ha h0; omega), upd_bd i h.bN (turn_bd (h.bN i) q y0 y1), upd_bd i h.bS (turn_bd (h.bS i) q y0 y1), h.n1, h.len, h.nil⟩, rfl, rfl, rfl, rfl, rfl, rfl, fun s hf hlt => ⟨fun e => by have := hlt _ e; change nb < w.heap.size at this; omega, fun e => by have := hlt _ e; change sb < w.heap.size at this; omega, hf.2.2⟩, ⟨h2.os.trans hw.os, h2.tape.trans hw.tape, h2.output.trans hw.output, Nat.le_trans hw.size h2.size, fun k hk => (h2.block k (by omega) (by omega)).trans (hw.block k hk)⟩⟩
/-- what the walk reads of the call's own block, in every later world -/
theorem own_facts {w w0 w3 : World} {v0 v1 v2 v3 v4 : Value} {T : TypeId} {ds : Array Value} {tN tS : ByteArray} {nb sb i : Nat} (e0 : w0 = (w.alloc (.cells #[v0, v1, v2, v3, v4] T)).alloc (.cells ds T)) (hb : Below w0.heap.size w0 w3) (cN : w.cell? ⟨nb, i, none⟩ = some (.string tN)) (cS : w.cell? ⟨sb, i, none⟩ = some (.string tS)) :
    w3.cell? ⟨w.heap.size, 0, none⟩ = some v0 ∧ w3.cell? ⟨w.heap.size, 1, none⟩ = some v1 ∧ w3.cell? ⟨w.heap.size, 2, none⟩ = some v2 ∧ w3.cell? ⟨w.heap.size, 3, none⟩ = some v3 ∧ w3.cell? ⟨w.heap.size, 4, none⟩ = some v4 ∧ w3.cell? ⟨nb, i, none⟩ = some (.string tN) ∧ w3.cell? ⟨sb, i, none⟩ = some (.string tS) ∧ (∀ j, w3.frozen? ⟨w.heap.size, j, none⟩ = false) ∧ (∀ j, w3.frozen? ⟨w.heap.size + 1, j, none⟩ = false) ∧ (∀ j, w3.cell? ⟨w.heap.size + 1, j, none⟩ = ds[j]?) := by
  subst e0
  have hk := held_facts hb
  have hw := (al2 w (.cells #[v0, v1, v2, v3, v4] T) (.cells ds T)).trans (hb.mono (al2 w _ _).size)
  exact ⟨(hk 0).1, (hk 1).1, (hk 2).1, (hk 3).1, (hk 4).1, (hw.cell (World.block_lt_of_cell? w _ cN)).trans cN, (hw.cell (World.block_lt_of_cell? w _ cS)).trans cS, fun j => (hk j).2.1, fun j => (hk j).2.2.2, fun j => (hk j).2.2.1⟩
theorem own_free {w w0 w3 : World} {cs ds : Array Value} {T : TypeId} (e0 : w0 = (w.alloc (.cells cs T)).alloc (.cells ds T)) (hb : Below w0.heap.size w0 w3) : ∀ j, w3.frozen? ⟨w.heap.size, j, none⟩ = false := by
  subst e0
  exact fun j => (held_facts hb j).2.1
theorem own_four {w w0 w3 : World} {v0 v1 v2 v3 v4 : Value} {T : TypeId} {ds : Array Value} {tN tS : ByteArray} {nb sb i : Nat} (e0 : w0 = (w.alloc (.cells #[v0, v1, v2, v3, v4] T)).alloc (.cells ds T)) (hb : Below w0.heap.size w0 w3) (cN : w.cell? ⟨nb, i, none⟩ = some (.string tN)) (cS : w.cell? ⟨sb, i, none⟩ = some (.string tS)) :
    w3.cell? ⟨w.heap.size, 0, none⟩ = some v0 ∧ w3.cell? ⟨w.heap.size, 1, none⟩ = some v1 ∧ w3.cell? ⟨nb, i, none⟩ = some (.string tN) ∧ w3.cell? ⟨sb, i, none⟩ = some (.string tS) :=
  have h := own_facts e0 hb cN cS
  ⟨h.1, h.2.1, h.2.2.2.2.2.1, h.2.2.2.2.2.2.1⟩
set_option maxRecDepth 100000 in
set_option maxHeartbeats 3000000 in
theorem refrot_any (r : Ref) (i q : Nat) (y : Int) (w : World) (h : RefOk w r) (hi : i < r.n) (hq : q < 512) (y0 : 0 ≤ y) (y1 : y < 256) :
    Calls Tryd.prog 26 #[r.val, .int .i64 i, .int .i64 q, .int .u8 y] w (RefRottedAt w r i q y) := by
  have h0 : (0 : Int) ≤ (i : Int) := by omega
  have h1 : (i : Int) < (r.n : Int) := by omega
  have h4 : (r.n : Int) ≤ 100 := by have := h.n1.2; omega
  have q0 : (0 : Int) ≤ (q : Int) := by omega
  have q1 : (q : Int) ≤ 511 := by omega
  obtain ⟨b, off, ha, cN⟩ := h.N i (by rw [txs_len]; exact hi)
  obtain ⟨rfl, rfl⟩ : r.nb = b ∧ 0 = off := by simpa using ha
  obtain ⟨b, off, ha2, cS⟩ := h.S i (by rw [txs_len]; exact hi)
  obtain ⟨rfl, rfl⟩ : r.sb = b ∧ 0 = off := by simpa using ha2
  rw [Nat.zero_add, txs_get] at cN cS
  obtain ⟨tN, eN⟩ : ∃ t, t = strOfNums (rowOf (r.N i)) := ⟨_, rfl⟩
  obtain ⟨tS, eS⟩ : ∃ t, t = strOfNums (rowOf (r.S i)) := ⟨_, rfl⟩
  rw [← eN] at cN
  rw [← eS] at cS
  have zN := Lib.hid (show tN.size = 512 by rw [eN, strOfNums_size, rowOf_len])
  have zS := Lib.hid (show tS.size = 512 by rw [eS, strOfNums_size, rowOf_len])
  have EN := Lib.hid eN
  have ES := Lib.hid eS
  have CN := Lib.hid cN
  have CS := Lib.hid cS
  have HH := Lib.hid h
  clear h ha ha2 eN eS cN cS
  unfold Ref.val
  go_enter Tryd.func26, Tryd.ntmps26
  go_wp2
  have HB0 := Lib.hid (al2 w (.cells #[.slice (some ⟨r.nb, 0, none⟩) r.n r.nc, .slice (some ⟨r.sb, 0, none⟩) r.n r.sc, .slice r.pa r.pend.length r.pc, .int .i64 r.writes, .int .i64 r.left] 32) (.cells #[.slice none 0 0, .slice none 0 0, .slice none 0 0, .int .i64 0, .int .i64 0] 32))
  obtain ⟨w0, e0⟩ : ∃ w0, w0 = (w.alloc (.cells #[.slice (some ⟨r.nb, 0, none⟩) r.n r.nc, .slice (some ⟨r.sb, 0, none⟩) r.n r.sc, .slice r.pa r.pend.length r.pc, .int .i64 r.writes, .int .i64 r.left] 32)).alloc (.cells #[.slice none 0 0, .slice none 0 0, .slice none 0 0, .int .i64 0, .int .i64 0] 32) := ⟨_, rfl⟩
  have HZ := Lib.hid (show w0.heap.size = w.heap.size + 2 by rw [e0]; simp)
  rw [← e0] at HB0 ⊢
  have E0 := Lib.hid e0
  clear e0
  have hb0 : Below w0.heap.size w0 w0.drew := (Below.refl _ _).drew
  obtain ⟨S, eS⟩ : ∃ S : Bool → World → Prop, S = fun b w' => (w'.cell? ⟨r.nb, i, none⟩ = some (.string tN) ∧ w'.cell? ⟨r.sb, i, none⟩ = some (.string tS)) ∧ (b = false → w'.cell? ⟨w.heap.size, 0, none⟩ = some (.slice (some ⟨r.nb, 0, none⟩) r.n r.nc) ∧ w'.cell? ⟨w.heap.size, 1, none⟩ = some (.slice (some ⟨r.sb, 0, none⟩) r.n r.sc)) := ⟨_, rfl⟩
  have hSb : ∀ w', Below w0.heap.size w0 w' → S false w' := by
    intro w' hb
    have k := own_four E0.out hb CN.out CS.out
    rw [eS]
    exact ⟨⟨k.2.2.1, k.2.2.2⟩, fun _ => ⟨k.1, k.2.1⟩⟩
  have hT : ∀ b w', S b w' → w'.cell? ⟨r.nb, i, none⟩ = some (.string tN) ∧ w'.cell? ⟨r.sb, i, none⟩ = some (.string tS) := by
    intro b w' h
    rw [eS] at h
    exact h.1
  have hF : ∀ w', S false w' → w'.cell? ⟨w.heap.size, 0, none⟩ = some (.slice (some ⟨r.nb, 0, none⟩) r.n r.nc) ∧ w'.cell? ⟨w.heap.size, 1, none⟩ = some (.slice (some ⟨r.sb, 0, none⟩) r.n r.sc) := by
    intro w' h
    rw [eS] at h
    exact h.2 rfl
  have hS0 : S false w0.drew := hSb _ hb0
  have hAft : ∀ w', (w'.cell? ⟨r.nb, i, none⟩ = some (.string tN) ∧ w'.cell? ⟨r.sb, i, none⟩ = some (.string tS)) → S true w' := by
    intro w' h
    rw [eS]
    exact ⟨h, fun e => by cases e⟩
  clear eS
  refine Till.region (s := 25) (S := S) (by kernel_rfl) ?_
  simp only [List.size_toArray, List.length_cons, List.length_nil]
  refine Till.move (i := 0) (d := 28) (v := ?_) rfl rfl (by kernel_rfl) (by kernel_rfl) (by kernel_rfl) (by kernel_rfl) (fun _ _ _ h => h) hS0 ?_ (by rfl) (by kernel_rfl) ?_
  rotate_left 1
  · intro w
    go_simp
    try with_reducible rfl
  dsimp only [Act.put]
  simp only [List.setIfInBounds_toArray, List.set_cons_zero, List.set_cons_succ]
  refine Till.load (i := 1) (d := 29) (v := ?_) rfl rfl (by kernel_rfl) (by kernel_rfl) (by kernel_rfl) (by kernel_rfl) (fun _ _ _ h => h) hS0 ?_ (by rfl) ?_
  rotate_left 1
  · intro w' hw
    have hx := (hF w' hw).1
    have hy := (hF w' hw).2
    clear hw
    go_simp
    try with_reducible rfl
  dsimp only [Act.put]
  simp only [List.setIfInBounds_toArray, List.set_cons_zero, List.set_cons_succ]
  refine Till.move (i := 2) (d := 30) (v := ?_) rfl rfl (by kernel_rfl) (by kernel_rfl) (by kernel_rfl) (by kernel_rfl) (fun _ _ _ h => h) hS0 ?_ (by rfl) (by kernel_rfl) ?_
  rotate_left 1
  · intro w
    go_simp
    try with_reducible rfl
  dsimp only [Act.put]
  simp only [List.setIfInBounds_toArray, List.set_cons_zero, List.set_cons_succ]
  refine Till.move (i := 3) (d := 31) (v := ?_) rfl rfl (by kernel_rfl) (by kernel_rfl) (by kernel_rfl) (by kernel_rfl) (fun _ _ _ h => h) hS0 ?_ (by rfl) (by kernel_rfl) ?_
  rotate_left 1
  · intro w
    go_simp
    try with_reducible rfl
  dsimp only [Act.put]
  simp only [List.setIfInBounds_toArray, List.set_cons_zero, List.set_cons_succ]
  refine Till.load (i := 4) (d := 32) (v := ?_) rfl rfl (by kernel_rfl) (by kernel_rfl) (by kernel_rfl) (by kernel_rfl) (fun _ _ _ h => h) hS0 ?_ (by rfl) ?_
  rotate_left 1
  · intro w' hw
    have hx := (hF w' hw).1
    have hy := (hF w' hw).2
    clear hw
    go_simp
    try with_reducible rfl
  dsimp only [Act.put]
  simp only [List.setIfInBounds_toArray, List.set_cons_zero, List.set_cons_succ]
  refine Till.move (i := 5) (d := 33) (v := ?_) rfl rfl (by kernel_rfl) (by kernel_rfl) (by kernel_rfl) (by kernel_rfl) (fun _ _ _ h => h) hS0 ?_ (by rfl) (by kernel_rfl) ?_
  rotate_left 1
  · intro w
    go_simp
    try with_reducible rfl
  dsimp only [Act.put]
  simp only [List.setIfInBounds_toArray, List.set_cons_zero, List.set_cons_succ]
  refine Till.move (i := 6) (d := 34) (v := ?_) rfl rfl (by kernel_rfl) (by kernel_rfl) (by kernel_rfl) (by kernel_rfl) (fun _ _ _ h => h) hS0 ?_ (by rfl) (by kernel_rfl) ?_
  rotate_left 1
  · intro w
    go_simp
    try with_reducible rfl
  dsimp only [Act.put]
  simp only [List.setIfInBounds_toArray, List.set_cons_zero, List.set_cons_succ]
  refine Till.read (i := 7) (d := 35) (v := ?_) hT rfl rfl (by kernel_rfl) (by kernel_rfl) (by kernel_rfl) (by kernel_rfl) (fun _ _ _ h => h) hS0 ?_ (by rfl) (by kernel_rfl) ?_
  rotate_left 1
  · intro w' hw
    obtain ⟨hx, hy⟩ := hw
    go_simp
    try with_reducible rfl
  dsimp only [Act.put]
  simp only [List.setIfInBounds_toArray, List.set_cons_zero, List.set_cons_succ]
  refine Till.move (i := 8) (d := 36) (v := ?_) rfl rfl (by kernel_rfl) (by kernel_rfl) (by kernel_rfl) (by kernel_rfl) (fun _ _ _ h => h) hS0 ?_ (by rfl) (by kernel_rfl) ?_
  rotate_left 1
  · intro w
    go_simp
    try with_reducible rfl
  dsimp only [Act.put]
  simp only [List.setIfInBounds_toArray, List.set_cons_zero, List.set_cons_succ]
  refine Till.move (i := 9) (d := 37) (v := ?_) rfl rfl (by kernel_rfl) (by kernel_rfl) (by kernel_rfl) (by kernel_rfl) (fun _ _ _ h => h) hS0 ?_ (by rfl) (by kernel_rfl) ?_
  rotate_left 1
  · intro w
    go_simp
    try with_reducible rfl
  dsimp only [Act.put]
  simp only [List.setIfInBounds_toArray, List.set_cons_zero, List.set_cons_succ]
  refine Till.move (i := 12) (d := 40) (v := ?_) rfl rfl (by kernel_rfl) (by kernel_rfl) (by kernel_rfl) (by kernel_rfl) (fun _ _ _ h => h) hS0 ?_ (by rfl) (by kernel_rfl) ?_
  rotate_left 1
  · intro w
    go_simp
    try with_reducible rfl
  dsimp only [Act.put]
  simp only [List.setIfInBounds_toArray, List.set_cons_zero, List.set_cons_succ]
  refine Till.load (i := 13) (d := 41) (v := ?_) rfl rfl (by kernel_rfl) (by kernel_rfl) (by kernel_rfl) (by kernel_rfl) (fun _ _ _ h => h) hS0 ?_ (by rfl) ?_
  rotate_left 1
  · intro w' hw
    have hx := (hF w' hw).1
    have hy := (hF w' hw).2
    clear hw
    go_simp
    try with_reducible rfl
  dsimp only [Act.put]
  simp only [List.setIfInBounds_toArray, List.set_cons_zero, List.set_cons_succ]
  refine Till.move (i := 14) (d := 42) (v := ?_) rfl rfl (by kernel_rfl) (by kernel_rfl) (by kernel_rfl) (by kernel_rfl) (fun _ _ _ h => h) hS0 ?_ (by rfl) (by kernel_rfl) ?_
  rotate_left 1
  · intro w
    go_simp
    try with_reducible rfl
  dsimp only [Act.put]
  simp only [List.setIfInBounds_toArray, List.set_cons_zero, List.set_cons_succ]
  refine Till.move (i := 15) (d := 43) (v := ?_) rfl rfl (by kernel_rfl) (by kernel_rfl) (by kernel_rfl) (by kernel_rfl) (fun _ _ _ h => h) hS0 ?_ (by rfl) (by kernel_rfl) ?_
  rotate_left 1
  · intro w
    go_simp
    try with_reducible rfl
  dsimp only [Act.put]
  simp only [List.setIfInBounds_toArray, List.set_cons_zero, List.set_cons_succ]
  refine Till.load (i := 16) (d := 44) (v := ?_) rfl rfl (by kernel_rfl) (by kernel_rfl) (by kernel_rfl) (by kernel_rfl) (fun _ _ _ h => h) hS0 ?_ (by rfl) ?_
  rotate_left 1
  · intro w' hw
    have hx := (hF w' hw).1
    have hy := (hF w' hw).2
    clear hw
    go_simp
    try with_reducible rfl
  dsimp only [Act.put]
  simp only [List.setIfInBounds_toArray, List.set_cons_zero, List.set_cons_succ]
  refine Till.move (i := 17) (d := 45) (v := ?_) rfl rfl (by kernel_rfl) (by kernel_rfl) (by kernel_rfl) (by kernel_rfl) (fun _ _ _ h => h) hS0 ?_ (by rfl) (by kernel_rfl) ?_
  rotate_left 1
  · intro w
    go_simp
    try with_reducible rfl
  dsimp only [Act.put]
  simp only [List.setIfInBounds_toArray, List.set_cons_zero, List.set_cons_succ]
  refine Till.move (i := 18) (d := 46) (v := ?_) rfl rfl (by kernel_rfl) (by kernel_rfl) (by kernel_rfl) (by kernel_rfl) (fun _ _ _ h => h) hS0 ?_ (by rfl) (by kernel_rfl) ?_
  rotate_left 1
  · intro w
    go_simp
    try with_reducible rfl
  dsimp only [Act.put]
  simp only [List.setIfInBounds_toArray, List.set_cons_zero, List.set_cons_succ]
  refine Till.read (i := 19) (d := 47) (v := ?_) hT rfl rfl (by kernel_rfl) (by kernel_rfl) (by kernel_rfl) (by kernel_rfl) (fun _ _ _ h => h) hS0 ?_ (by rfl) (by kernel_rfl) ?_
  rotate_left 1
  · intro w' hw
    obtain ⟨hx, hy⟩ := hw
    go_simp
    try with_reducible rfl
  dsimp only [Act.put]
  simp only [List.setIfInBounds_toArray, List.set_cons_zero, List.set_cons_succ]
  refine Till.move (i := 20) (d := 48) (v := ?_) rfl rfl (by kernel_rfl) (by kernel_rfl) (by kernel_rfl) (by kernel_rfl) (fun _ _ _ h => h) hS0 ?_ (by rfl) (by kernel_rfl) ?_
  rotate_left 1
  · intro w
    go_simp
    try with_reducible rfl
  dsimp only [Act.put]
  simp only [List.setIfInBounds_toArray, List.set_cons_zero, List.set_cons_succ]
  refine Till.move (i := 21) (d := 49) (v := ?_) rfl rfl (by kernel_rfl) (by kernel_rfl) (by kernel_rfl) (by kernel_rfl) (fun _ _ _ h => h) hS0 ?_ (by rfl) (by kernel_rfl) ?_
  rotate_left 1
  · intro w
    go_simp
    try with_reducible rfl
  dsimp only [Act.put]
  simp only [List.setIfInBounds_toArray, List.set_cons_zero, List.set_cons_succ]
  refine Till.only false (i := 10) rfl (by kernel_rfl) (by rfl) (by kernel_rfl) fun K hK => ?_
  go_simp
  refine (turned_from hb0 tN q y zN.out hq y0 y1).mono ?_
  rintro e wA ⟨rfl, _, hbA⟩
  refine hK.out _ _ (hSb _ hbA) ?_
  clear hK K
  refine Till.only false (i := 11) rfl (by kernel_rfl) (by rfl) (by kernel_rfl) fun K hK => ?_
  go_simp
  refine (with_from hbA r.nb r.n r.nc i (txs r.n r.N) _ (HH.out.N.below HB0.out) (txs_len _ _) hi HH.out.nc.1 HH.out.nc.2 (by have := HH.out.n1.2; omega)).mono ?_
  rintro e wB ⟨gN, kN, rfl, hsN, hkN, hgN, _, hbB⟩
  refine hK.out _ _ (hSb _ hbB) ?_
  clear hK K
  have SN := Lib.hid hsN
  have NC := Lib.hid hkN
  have GN := Lib.hid hgN
  clear hsN hkN hgN
  refine Till.move (i := 24) (d := 52) (v := ?_) rfl rfl (by kernel_rfl) (by kernel_rfl) (by kernel_rfl) (by kernel_rfl) (fun _ _ _ h => h) (hSb _ hbB) ?_ (by rfl) (by kernel_rfl) ?_
  rotate_left 1
  · intro w
    go_simp
    try with_reducible rfl
  dsimp only [Act.put]
  simp only [List.setIfInBounds_toArray, List.set_cons_zero, List.set_cons_succ]
  refine Till.only false (i := 22) rfl (by kernel_rfl) (by rfl) (by kernel_rfl) fun K hK => ?_
  go_simp
  refine (turned_from hbB tS q y zS.out hq y0 y1).mono ?_
  rintro e wC ⟨rfl, hsC, hbC⟩
  refine hK.out _ _ (hSb _ hbC) ?_
  clear hK K
  have SN2 := Lib.hid (SN.out.below hsC)
  clear hsC
  refine Till.only false (i := 23) rfl (by kernel_rfl) (by rfl) (by kernel_rfl) fun K hK => ?_
  go_simp
  refine (with_from hbC r.sb r.n r.sc i (txs r.n r.S) _ (HH.out.S.below HB0.out) (txs_len _ _) hi HH.out.sc.1 HH.out.sc.2 (by have := HH.out.n1.2; omega)).mono ?_
  rintro e wD ⟨gS, kS, rfl, hsS, hkS, hgS, hsD, hbD⟩
  refine hK.out _ _ (hSb _ hbD) ?_
  clear hK K
  have SN3 := Lib.hid (SN2.out.below hsD)
  have SS := Lib.hid hsS
  have SC := Lib.hid hkS
  have GS := Lib.hid hgS
  clear hsS hkS hgS hsD
  have hS3 := hSb _ hbD
  obtain ⟨x0, x1, x2, x3, x4, cN, cS, f1, f2, z0⟩ := own_facts E0.out hbD CN.out CS.out
  have HNX := Lib.hid (show w.heap.size ≠ r.nb by have := HH.out.lt; omega)
  have HSX := Lib.hid (show w.heap.size ≠ r.sb by have := HH.out.lt; omega)
  have hSa : S true (wD.setCell ⟨w.heap.size, 0, none⟩ (.slice (some ⟨gN, 0, none⟩) r.n kN)) := hAft _ ⟨(World.cell?_setCell_far _ _ _ _ HNX.out).trans cN, (World.cell?_setCell_far _ _ _ _ HSX.out).trans cS⟩
  have hSz : S true ((wD.setCell ⟨w.heap.size, 0, none⟩ (.slice (some ⟨gN, 0, none⟩) r.n kN)).setCell ⟨w.heap.size, 1, none⟩ (.slice (some ⟨gS, 0, none⟩) r.n kS)) := hAft _ ⟨(World.cell?_setCell_far _ _ _ _ HNX.out).trans ((World.cell?_setCell_far _ _ _ _ HNX.out).trans cN), (World.cell?_setCell_far _ _ _ _ HSX.out).trans ((World.cell?_setCell_far _ _ _ _ HSX.out).trans cS)⟩
  clear cN cS
  refine Till.only true (i := 25) rfl (by kernel_rfl) (by rfl) (by kernel_rfl) fun K hK => ?_
  go_simp
  refine hK.out _ _ hSa ?_
  clear hK K
  refine Till.move (i := 26) (d := 53) (v := ?_) rfl rfl (by kernel_rfl) (by kernel_rfl) (by kernel_rfl) (by kernel_rfl) (fun _ _ _ h => h) hSa ?_ (by rfl) (by kernel_rfl) ?_
  rotate_left 1
  · intro w
    go_simp
    try with_reducible rfl
  dsimp only [Act.put]
  simp only [List.setIfInBounds_toArray, List.set_cons_zero, List.set_cons_succ]
  refine Till.only true (i := 27) rfl (by kernel_rfl) (by rfl) (by kernel_rfl) fun K hK => ?_
  go_simp
  refine hK.out _ _ hSz ?_
  clear hK K
  refine Till.done (by kernel_rfl) ?_ _
  clear hSz hSa hS3 hAft hF hT hSb hS0
  have u0 : wD.cell? ⟨w.heap.size + 1, 0, none⟩ = some (.slice none 0 0) := z0 0
  have u1 : wD.cell? ⟨w.heap.size + 1, 1, none⟩ = some (.slice none 0 0) := z0 1
  have u2 : wD.cell? ⟨w.heap.size + 1, 2, none⟩ = some (.slice none 0 0) := z0 2
  have u3 : wD.cell? ⟨w.heap.size + 1, 3, none⟩ = some (.int .i64 0) := z0 3
  have u4 : wD.cell? ⟨w.heap.size + 1, 4, none⟩ = some (.int .i64 0) := z0 4
  clear z0
  go_wp2
  refine bodyPost_ret (v := .tuple #[.agg #[.slice (some ⟨gN, 0, none⟩) r.n kN, .slice (some ⟨gS, 0, none⟩) r.n kS, .slice r.pa r.pend.length r.pc, .int .i64 r.writes, .int .i64 r.left], .int .i64 0]) (by simp [results, Tryd.results26, go_sem, u0, u1, u2, u3, u4]) rfl ?_
  have h2 := (((((((Two.refl w.heap.size (w.heap.size + 1) wD).set ⟨w.heap.size, 0, none⟩ (.inl rfl) (.slice (some ⟨gN, 0, none⟩) r.n kN)).set ⟨w.heap.size, 1, none⟩ (.inl rfl) (.slice (some ⟨gS, 0, none⟩) r.n kS)).set ⟨w.heap.size + 1, 0, none⟩ (.inr rfl) (.slice (some ⟨gN, 0, none⟩) r.n kN)).set ⟨w.heap.size + 1, 1, none⟩ (.inr rfl) (.slice (some ⟨gS, 0, none⟩) r.n kS)).set ⟨w.heap.size + 1, 2, none⟩ (.inr rfl) (.slice r.pa r.pend.length r.pc)).set ⟨w.heap.size + 1, 3, none⟩ (.inr rfl) (.int .i64 r.writes)).set ⟨w.heap.size + 1, 4, none⟩ (.inr rfl) (.int .i64 r.left)
  have eN := EN.out
  have eS := ES.out
  subst eN eS
  exact ⟨_, rfl, rot_done HH.out hq y0 y1 HZ.out HB0.out hbD SN3.out NC.out GN.out SS.out SC.out GS.out h2⟩
end Go.Proofs.YtibopcbebcikbaaDoor

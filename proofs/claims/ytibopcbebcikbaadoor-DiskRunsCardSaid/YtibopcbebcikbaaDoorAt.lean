/-
  THE CALLS OF THE DISK AS THE STATEMENTS MEET THEM: a disk that was made in this call, and what its sectors are. Conditions: those that each lemma names.
-/
import Derived.Test.YtibopcbebcikbaaDoorWh
namespace Go.Proofs.YtibopcbebcikbaaDoor
open Go.RowKit

/-- a disk that was made since the world W, of which nothing else has turned; its struct lies in block p -/
structure At (W w : World) (p : Nat) (s : St) : Prop where
  d : DiskAt W.heap.size w s
  b : Below W.heap.size W w
  e : s.D = p
theorem At.le {W w : World} {p : Nat} {s : St} (h : At W w p s) : W.heap.size ≤ w.heap.size := h.b.size
theorem At.below {W w w' : World} {p : Nat} {s : St} (h : At W w p s) (hb : Below w.heap.size w w') : At W w' p s := ⟨h.d.below hb, h.b.trans (hb.mono h.le), h.e⟩
theorem At.step {W w w' : World} {p : Nat} {s s' : St} (h : At W w p s) (hd : DiskAt W.heap.size w' s') (hs : Step w s w' s') (he : s'.D = s.D) : At W w' p s' := ⟨hd, h.b.trans (hs.below h.d), he.trans h.e⟩
theorem At.drewN {W w : World} {p : Nat} {s : St} (h : At W w p s) (n : Nat) : At W (w.drewN n) p s := ⟨h.d.same (Nat.le_refl _) (fun _ _ => rfl), ⟨h.b.os, h.b.tape, h.b.output, h.b.size, h.b.block⟩, h.e⟩
theorem At.drew {W w : World} {p : Nat} {s : St} (h : At W w p s) : At W w.drew p s := ⟨h.d.drew, h.b.drew, h.e⟩

/-- a new disk of so many sectors -/
structure New (n : Nat) (s : St) : Prop where
  n : s.n = n
  sure : ∀ i j, s.sure i j = 0
  late : ∀ i, s.late i = none
  pend : s.pend = []
  writes : s.writes = 0
  left : s.left = -1
def NewAt (n : Nat) (w : World) (e : Ending) (w' : World) : Prop := ∃ p s, e = .returned (.tuple #[.pointer (some ⟨p, 0, none⟩), .nilIface]) ∧ At w w' p s ∧ New n s
set_option maxRecDepth 100000 in
theorem new_at (n : Nat) (x : Int) (w : World) (hx : x = n) (h1 : 1 ≤ n) (h2 : n ≤ 16384) : Calls Tryd.prog 7 #[.int .i64 x] w (NewAt n w) := by
  subst hx
  exact (new_any n w h1 h2).mono fun _ _ ⟨s, he, hf⟩ => ⟨s.D, s, he, ⟨hf.at', hf.below, rfl⟩, ⟨hf.n, hf.sure, hf.late, hf.pend, hf.writes, hf.left⟩⟩

def txt (t : ByteArray) : Nat → Int := fun j => (nums t).getD j 0
def WriteAt (W w : World) (p : Nat) (s : St) (i : Nat) (f : Nat → Int) (e : Ending) (w' : World) : Prop := e = .returned .nilIface ∧ ∃ s', At W w' p s' ∧ Wrote s i f s' ∧ Step w s w' s'
set_option maxRecDepth 100000 in
/-- a sector is written from a text that was just made bytes -/
theorem write_at {W : World} {p : Nat} (s : St) (i : Nat) (x : Int) (w : World) (t : ByteArray) (c : Nat) (ht : t.size = 512) (h : At W w p s) (hx : x = i) (hi : i < s.n) (hl : s.left ≠ 0) (w0 : 0 ≤ s.writes) (w1 : s.writes < 4611686018427387904) :
    Calls Tryd.prog 14 #[.pointer (some ⟨p, 0, none⟩), .int .i64 x, .slice (some ⟨w.heap.size, 0, none⟩) 512 c] (bw w t) (WriteAt W w p s i (txt t)) := by
  subst hx
  have h2 := h.below (bw_below w t)
  have e := h.e
  subst e
  exact (write_any s i (bw w t) w.heap.size 0 c (nums t) h2.d hi (bw_lies w t) (fun e => by have := (h.d.lt _ e).2; omega) (by rw [nums_len, ht]) hl w0 w1).mono fun _ _ ⟨he, s', hd, hs, hw⟩ => ⟨he, s', h2.step hd hs hw.D, hw, (Step.of_below (bw_below w t)).trans hs⟩
set_option maxRecDepth 100000 in
theorem conv_512 (t : ByteArray) (ht : t.size = 512) (w : World) : (convert 9 40 (.string t)).run Tryd.prog w = .ok (.slice (some ⟨w.heap.size, 0, none⟩) 512 (bc w t)) (bw w t) := by
  rw [conv_bytes t w, ht]
def ReadAt (W w : World) (p : Nat) (s : St) (i : Nat) (e : Ending) (w' : World) : Prop :=
  ∃ g cap, e = .returned (.tuple #[.slice (some ⟨g, 0, none⟩) 512 cap, .nilIface]) ∧ Lies w' (some ⟨g, 0, none⟩) (rowOf (s.cur i)) ∧ 512 ≤ cap ∧ ¬ s.has g ∧ At W w' p s ∧ Below w.heap.size w w'
set_option maxRecDepth 100000 in
theorem read_at {W : World} {p : Nat} (s : St) (i : Nat) (x : Int) (w : World) (h : At W w p s) (hx : x = i) (hi : i < s.n) :
    Calls Tryd.prog 12 #[.pointer (some ⟨p, 0, none⟩), .int .i64 x] w (ReadAt W w p s i) := by
  subst hx
  have e := h.e
  subst e
  exact (read_any s i w h.d hi).mono fun _ _ ⟨g, cap, he, hl, hc, hg, hb⟩ => ⟨g, cap, he, hl, hc, fun q => by have := (h.d.lt g q).2; omega, h.below hb, hb⟩
def St.flush (s : St) : St := (s.outs s.pend).settle
def FlushAt (W w : World) (p : Nat) (s : St) (e : Ending) (w' : World) : Prop := e = .returned .nilIface ∧ At W w' p s.flush ∧ Step w s w' s.flush
set_option maxRecDepth 100000 in
theorem flush_at {W : World} {p : Nat} (s : St) (w : World) (h : At W w p s) : Calls Tryd.prog 15 #[.pointer (some ⟨p, 0, none⟩)] w (FlushAt W w p s) := by
  have e := h.e
  subst e
  exact (flush_any s w h.d).mono fun _ _ ⟨he, hd, hs⟩ => ⟨he, h.step hd hs rfl, hs⟩
theorem rot_D (s : St) (i q : Nat) (y : Int) : (s.rot i q y).D = s.D := by unfold St.rot; cases s.late i <;> rfl
def TurnAt (W w : World) (p : Nat) (s : St) (i q : Nat) (y : Int) (e : Ending) (w' : World) : Prop := e = .returned .nilIface ∧ At W w' p (s.rot i q y) ∧ Step w s w' (s.rot i q y)
set_option maxRecDepth 100000 in
theorem rot_at {W : World} {p : Nat} (s : St) (i q : Nat) (x z y : Int) (w : World) (h : At W w p s) (hx : x = i) (hz : z = q) (hi : i < s.n) (hq : q < 512) (y0 : 0 ≤ y) (y1 : y < 256) :
    Calls Tryd.prog 17 #[.pointer (some ⟨p, 0, none⟩), .int .i64 x, .int .i64 z, .int .u8 y] w (TurnAt W w p s i q y) := by
  subst hx hz
  have e := h.e
  subst e
  exact (rot_any s i q y w h.d hi hq y0 y1).mono fun _ _ ⟨he, hd, hs⟩ => ⟨he, h.step hd hs (rot_D s i q y), hs⟩
def St.lose (s : St) : St := s.crash [] (-1) 0
def LostAt (W w : World) (p : Nat) (s : St) (e : Ending) (w' : World) : Prop := e = .returned .nilIface ∧ At W w' p s.lose ∧ Step w s w' s.lose
theorem fit_nil (m : Nat) : fitOk m [] (-1) := ⟨⟨by simp, by simp⟩, .inl rfl⟩
theorem torn_D (s : St) (t : Int) (q : Nat) : (s.torn t q).D = s.D := by unfold St.torn; by_cases e : t = -1; rw [if_pos e]; rw [if_neg e]; rfl
set_option maxRecDepth 100000 in
/-- a crash that keeps nothing -/
theorem crash_nil {W : World} {p : Nat} (s : St) (w : World) (h : At W w p s) : Calls Tryd.prog 16 #[.pointer (some ⟨p, 0, none⟩), .slice none 0 0, .int .i64 (-1), .int .i64 0] w (LostAt W w p s) := by
  have e := h.e
  subst e
  exact (crash_any s none 0 0 [] (-1) 0 w h.d (ints_nil _ _) rfl (by omega) (fun b off e => by cases e) (by omega) (fit_nil _)).mono fun _ _ ⟨he, hd, hs⟩ => ⟨he, h.step hd hs (torn_D _ _ _), hs⟩
set_option maxRecDepth 100000 in
theorem writes_at {W : World} {p : Nat} (s : St) (w : World) (h : At W w p s) : Calls Tryd.prog 20 #[.pointer (some ⟨p, 0, none⟩)] w fun e w' => e = .returned (.int .i64 s.writes) ∧ w = w' := by
  have e := h.e
  subst e
  exact writes_any s w h.d
def SectorAt (W w : World) (p : Nat) (s : St) (t : ByteArray) (e : Ending) (w' : World) : Prop := e = .returned (.string (sec t)) ∧ At W w' p s ∧ Below w.heap.size w w'
set_option maxRecDepth 100000 in
theorem sector_at {W : World} {p : Nat} (s : St) (t : ByteArray) (w : World) (h : At W w p s) (ht : t.size ≤ 9223372036854775807) : Calls Tryd.prog 22 #[.string t] w (SectorAt W w p s t) :=
  (sector_any t w ht).mono fun _ _ ⟨he, hb⟩ => ⟨he, h.below hb, hb⟩

/-! what the sectors are -/
theorem Wrote.cur {s s' : St} {i : Nat} {f : Nat → Int} (h : Wrote s i f s') (k j : Nat) : s'.cur k j = if k = i then f j else s.cur k j := by
  unfold St.cur
  by_cases e : k = i
  · subst e
    rw [if_pos rfl]
    cases hl : s'.late k with
    | none => exact absurd hl h.late
    | some b => exact h.now j
  · rw [if_neg e, h.lateo k e]
    cases s.late k with
    | none => simp only; rw [h.sure]
    | some b => simp only; rw [h.nowo k e]
theorem flush_cur {B : Nat} {s : St} (o : s.Ok B) (k j : Nat) (hj : j < 512) : s.flush.cur k j = s.cur k j := by
  show (if k ∈ s.pend ∧ j < 512 then s.now k j else s.sure k j) = s.cur k j
  unfold St.cur
  by_cases e : k ∈ s.pend
  · rw [if_pos ⟨e, hj⟩]
    cases hl : s.late k with
    | none => exact absurd hl ((o.mem k).1 e)
    | some b => rfl
  · rw [if_neg (fun q => e q.1)]
    cases hl : s.late k with
    | none => rfl
    | some b => exact absurd ((o.mem k).2 (by rw [hl]; simp)) e
theorem settle_cur (s : St) (k j : Nat) : s.settle.cur k j = s.sure k j := rfl
theorem flush_sure {B : Nat} {s : St} (o : s.Ok B) (k j : Nat) (hj : j < 512) : s.flush.sure k j = s.cur k j := flush_cur o k j hj
theorem crash_nil_cur (s : St) (k j : Nat) : s.lose.cur k j = s.sure k j := by
  show ((s.kept []).torn (-1) 0).sure k j = s.sure k j
  unfold St.torn
  rw [if_pos rfl, kept_nil]
theorem rot_cur (s : St) (i p : Nat) (y : Int) (k j : Nat) : (s.rot i p y).cur k j = if k = i then turn (s.cur i) p y j else s.cur k j := by
  by_cases e : k = i
  · subst e
    rw [if_pos rfl]
    cases hl : s.late k with
    | none =>
      have e1 : s.rot k p y = s.rotS k p y := by unfold St.rot; rw [hl]
      have e2 : s.cur k = s.sure k := by funext q; unfold St.cur; rw [hl]
      rw [e1, e2]
      unfold St.cur
      rw [show (s.rotS k p y).late k = none from hl]
      show upd s.sure k _ k j = _
      simp [upd]
    | some b =>
      have e1 : s.rot k p y = (s.rotS k p y).rotN k p y := by unfold St.rot; rw [hl]
      have e2 : s.cur k = s.now k := by funext q; unfold St.cur; rw [hl]
      rw [e1, e2]
      unfold St.cur
      rw [show ((s.rotS k p y).rotN k p y).late k = some b from hl]
      show upd s.now k _ k j = _
      simp [upd]
      rfl
  · rw [if_neg e]
    have hs : (s.rot i p y).sure k j = s.sure k j := by
      unfold St.rot
      cases s.late i <;> simp [St.rotS, St.rotN, upd, e]
    have hn : (s.rot i p y).now k j = s.now k j := by
      unfold St.rot
      cases s.late i <;> simp [St.rotS, St.rotN, upd, e]
    have hl : (s.rot i p y).late = s.late := by
      unfold St.rot
      cases s.late i <;> rfl
    unfold St.cur
    rw [hl]
    cases s.late k <;> assumption
theorem rot_sure (s : St) (i p : Nat) (y : Int) (k j : Nat) : (s.rot i p y).sure k j = if k = i then turn (s.sure i) p y j else s.sure k j := by
  unfold St.rot
  cases s.late i <;> by_cases e : k = i <;> simp [St.rotS, St.rotN, upd, e]
structure RotKeeps (s s' : St) : Prop where
  n : s'.n = s.n
  D : s'.D = s.D
  late : s'.late = s.late
  pend : s'.pend = s.pend
  writes : s'.writes = s.writes
  left : s'.left = s.left
theorem rot_keeps (s : St) (i p : Nat) (y : Int) : RotKeeps s (s.rot i p y) := by
  unfold St.rot
  cases s.late i <;> exact ⟨rfl, rfl, rfl, rfl, rfl, rfl⟩
/-- of all those bytes the text -/
theorem row_txt {t : ByteArray} (h : t.size = 512) {f : Nat → Int} (hf : ∀ j, j < 512 → f j = txt t j) : strOfNums (rowOf f) = t := by
  rw [rowOf_congr hf]
  unfold txt
  rw [rowOf_self (by rw [nums_len, h]), str_nums]
theorem txt_bd (t : ByteArray) (j : Nat) : 0 ≤ txt t j ∧ txt t j < 256 := getD_byte (nums_byte t) j

/-! the same, with all that has become of the disk since a world w0 -/
structure Now (W : World) (p : Nat) (w0 : World) (r : St) (w : World) (s : St) : Prop where
  a : At W w p s
  s : Step w0 r w s
theorem Now.first {W : World} {p : Nat} {w : World} {s : St} (h : At W w p s) : Now W p w s w s := ⟨h, Step.refl _ _⟩
theorem Now.drew {W : World} {p : Nat} {w0 w : World} {r s : St} (h : Now W p w0 r w s) : Now W p w0 r w.drew s := ⟨h.a.drew, h.s.drew⟩
theorem Now.below {W : World} {p : Nat} {w0 w w' : World} {r s : St} (h : Now W p w0 r w s) (hb : Below w.heap.size w w') : Now W p w0 r w' s := ⟨h.a.below hb, h.s.trans (Step.of_below hb)⟩
theorem Now.lies {W : World} {p : Nat} {w0 w : World} {r s : St} (h : Now W p w0 r w s) {g : Nat} {xs : List Int} (hl : Lies w0 (some ⟨g, 0, none⟩) xs) (hn : ¬ r.has g) : Lies w (some ⟨g, 0, none⟩) xs := by
  intro i hi
  obtain ⟨b, off, ha, hc, hq⟩ := hl i hi
  obtain ⟨rfl, rfl⟩ : g = b ∧ 0 = off := by simpa using ha
  exact ⟨g, 0, rfl, (cell_of_block (h.s.block g (World.block_lt_of_cell? w0 _ hc) hn)).trans hc, hq⟩
set_option maxRecDepth 100000 in
theorem sector_now {W : World} {p : Nat} {w0 w : World} {r s : St} (h : Now W p w0 r w s) (t : ByteArray) (ht : t.size ≤ 9223372036854775807) : Calls Tryd.prog 22 #[.string t] w fun e w' => e = .returned (.string (sec t)) ∧ Now W p w0 r w' s :=
  (sector_any t w ht).mono fun _ _ ⟨he, hb⟩ => ⟨he, h.below hb⟩
set_option maxRecDepth 100000 in
theorem rot_now {W : World} {p : Nat} {w0 w : World} {r s : St} (h : Now W p w0 r w s) (i q : Nat) (x z y : Int) (hx : x = i) (hz : z = q) (hi : i < s.n) (hq : q < 512) (y0 : 0 ≤ y) (y1 : y < 256) :
    Calls Tryd.prog 17 #[.pointer (some ⟨p, 0, none⟩), .int .i64 x, .int .i64 z, .int .u8 y] w fun e w' => e = .returned .nilIface ∧ Now W p w0 r w' (s.rot i q y) :=
  (rot_at s i q x z y w h.a hx hz hi hq y0 y1).mono fun _ _ ⟨he, ha, hs⟩ => ⟨he, ha, h.s.trans hs⟩
set_option maxRecDepth 100000 in
theorem lose_now {W : World} {p : Nat} {w0 w : World} {r s : St} (h : Now W p w0 r w s) : Calls Tryd.prog 16 #[.pointer (some ⟨p, 0, none⟩), .slice none 0 0, .int .i64 (-1), .int .i64 0] w fun e w' => e = .returned .nilIface ∧ Now W p w0 r w' s.lose :=
  (crash_nil s w h.a).mono fun _ _ ⟨he, ha, hs⟩ => ⟨he, ha, h.s.trans hs⟩
theorem Now.cell {W : World} {p : Nat} {w0 w : World} {r s : St} (h : Now W p w0 r w s) {g o : Nat} {v : Value} (hc : w0.cell? ⟨g, o, none⟩ = some v) (hn : ¬ r.has g) : w.cell? ⟨g, o, none⟩ = some v :=
  (cell_of_block (h.s.block g (World.block_lt_of_cell? w0 _ hc) hn)).trans hc
theorem xor8_back (a b : Int) (a0 : 0 ≤ a) (a1 : a < 256) (b0 : 0 ≤ b) (b1 : b < 256) : bits .xor .u8 (bits .xor .u8 a b) b = a := by
  obtain ⟨A, rfl⟩ := Int.eq_ofNat_of_zero_le a0
  obtain ⟨B, rfl⟩ := Int.eq_ofNat_of_zero_le b0
  have hA : A < 2 ^ 8 := by omega
  have hB : B < 2 ^ 8 := by omega
  have hlt : A ^^^ B < 2 ^ 8 := Nat.xor_lt_two_pow hA hB
  rw [u8_xor_nat A B (by omega) (by omega), u8_xor_nat (A ^^^ B) B (by omega) (by omega), Nat.xor_assoc, Nat.xor_self, Nat.xor_zero]
theorem turn_turn {f : Nat → Int} (hf : ∀ j, 0 ≤ f j ∧ f j < 256) (q : Nat) {y : Int} (y0 : 0 ≤ y) (y1 : y < 256) (j : Nat) : turn (turn f q y) q y j = f j := by
  unfold turn
  by_cases e : j = q
  · rw [if_pos e, if_pos rfl, e, xor8_back _ _ (hf q).1 (hf q).2 y0 y1]
  · rw [if_neg e, if_neg e]
theorem turn_congr {f g : Nat → Int} (q : Nat) (y : Int) (hq : f q = g q) (j : Nat) (hj : f j = g j) : turn f q y j = turn g q y j := by
  unfold turn
  by_cases e : j = q
  · rw [if_pos e, if_pos e, hq]
  · rw [if_neg e, if_neg e, hj]
theorem sure_from {W w w' : World} {p : Nat} {s : St} (h : At W w p s) (hb : Below w.heap.size w w') : Below W.heap.size W w' := (h.below hb).b
end Go.Proofs.YtibopcbebcikbaaDoor

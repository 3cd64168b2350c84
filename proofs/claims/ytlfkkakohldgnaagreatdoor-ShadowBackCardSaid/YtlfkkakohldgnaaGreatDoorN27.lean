/-
  THE WALKS of page.Room, page.fits and what page.Check asks: each returns what the plain mathematics says, and the world stays. Conditions: the records lie in memory.
  THE WALK of page.lay: a number is written all over a piece of a block, its highest byte first. Conditions: the block is known whole.
-/
import Derived.Test.YtlfkkakohldgnaaGreatDoorN25
import Derived.Test.YtlfkkakohldgnaaGreatDoorN26
namespace Go.Proofs.YtlfkkakohldgnaaGreatDoor.Sm
open Go.RowKit Crc

theorem ret_int {k : IntKind} {a b : Int} (h : a = b) : Ending.returned (.int k a) = .returned (.int k b) := by rw [h]
theorem ret_bool {a b : Bool} (h : a = b) : Ending.returned (.bool a) = .returned (.bool b) := by rw [h]
set_option maxRecDepth 100000 in
theorem room_any (s : Int) (w : World) (hs : s ≤ 9223372036854775807) :
    Calls Tryz.prog 114 #[.int .i64 s] w fun e w' => e = .returned (.int .i64 (room s)) ∧ w = w' := by
  by_cases h : s < 1
  · rw [room_small h]
    go_enter Tryz.func114, Tryz.ntmps114
    go_wp2
    go_ret
    exact ⟨rfl, rfl⟩
  · rw [room_big (by omega)]
    have h1 : 1 ≤ s := by omega
    have e0 : 0 ≤ 492 / s := Int.ediv_nonneg (by omega) (by omega)
    go_enter Tryz.func114, Tryz.ntmps114
    go_wp2
    all_goals go_ret
    all_goals exact ⟨ret_int (by omega), rfl⟩
set_option maxRecDepth 100000 in
theorem fits_any (s n : Int) (w : World) (hs : s ≤ 9223372036854775807) :
    Calls Tryz.prog 93 #[.int .i64 s, .int .i64 n] w fun e w' => e = .returned (.bool (fitsB s n)) ∧ w = w' := by
  by_cases h : 0 < room s
  · rw [fits_yes h]
    go_enter Tryz.func93, Tryz.ntmps93
    go_wp2_with (go_at_call 114; refine (room_any s _ hs).mono ?_; rintro e w' ⟨rfl, rfl⟩)
    go_ret
    exact ⟨rfl, rfl⟩
  · rw [fits_no0 h]
    go_enter Tryz.func93, Tryz.ntmps93
    go_wp2_with (go_at_call 114; refine (room_any s _ hs).mono ?_; rintro e w' ⟨rfl, rfl⟩)
    go_ret
    exact ⟨rfl, rfl⟩
set_option maxRecDepth 100000 in
/-- the closure of page.Check: is a record not of the size? -/
theorem clo_any (ra : Option Addr) (rc B : Nat) (r : List Int) (s : Int) (w : World) (hc : w.cell? ⟨B, 3, none⟩ = some (.int .i64 s)) :
    Calls Tryz.prog 92 #[.slice ra r.length rc, .pointer (some ⟨B, 0, none⟩)] w fun e w' => e = .returned (.bool (badB s r)) ∧ w = w' := by
  go_enter Tryz.func92, Tryz.ntmps92
  go_wp2
  go_ret
  exact ⟨rfl, rfl⟩
/-- a slice of slices of bytes that lies in memory -/
def Recs (w : World) (a : Option Addr) (rs : List (List Int)) : Prop :=
  ∀ i (h : i < rs.length), ∃ b off ra rc, a = some ⟨b, off, none⟩ ∧ w.cell? ⟨b, off + i, none⟩ = some (.slice ra rs[i].length rc) ∧ Lies w ra rs[i] ∧ rs[i].length ≤ rc ∧ rc ≤ 9223372036854775807
theorem Recs.below {w w' : World} {a : Option Addr} {rs : List (List Int)} (h : Recs w a rs) (hb : Below w.heap.size w w') : Recs w' a rs := by
  intro i hi
  obtain ⟨b, off, ra, rc, ha, hc, hl, h1, h2⟩ := h i hi
  exact ⟨b, off, ra, rc, ha, by rw [hb.cell (World.block_lt_of_cell? w _ hc)]; exact hc, hl.below hb, h1, h2⟩
theorem Recs.byte {w : World} {a : Option Addr} {rs : List (List Int)} (h : Recs w a rs) : ∀ r ∈ rs, Byte r := by
  intro r hr
  obtain ⟨i, hi, rfl⟩ := List.getElem_of_mem hr
  obtain ⟨_, _, _, _, _, _, hl, _⟩ := h i hi
  exact hl.byte
/-- where the first record is that is not of the size, or -1 -/
def FirstBad (s : Int) (rs : List (List Int)) (w : World) (e : Ending) (w' : World) : Prop :=
  ∃ k : Int, e = .returned (.int .i64 k) ∧ decide (0 ≤ k) = rs.any (badB s) ∧ w = w'
theorem any_take {α : Type} (f : α → Bool) (l : List α) (k : Nat) (h : k < l.length) (h0 : (l.take k).any f = false) (h1 : f l[k] = false) : (l.take (k + 1)).any f = false := by
  rw [List.take_succ_eq_append_getElem h, List.any_append, h0]
  simp [h1]
theorem any_at {α : Type} (f : α → Bool) (l : List α) (k : Nat) (h : k < l.length) (h1 : f l[k] = true) : l.any f = true := List.any_eq_true.2 ⟨_, List.getElem_mem h, h1⟩
set_option maxRecDepth 100000 in
theorem idx_any (a : Option Addr) (c B n : Nat) (rs : List (List Int)) (s : Int) (w : World) (hn : rs.length = n) (hm : n ≤ 9223372036854775807) (hr : Recs w a rs) (hc : w.cell? ⟨B, 3, none⟩ = some (.int .i64 s)) :
    Calls Tryz.prog 115 #[.slice a n c, .func (.func 92) #[] #[.pointer (some ⟨B, 0, none⟩)]] w (FirstBad s rs w) := by
  have HR := Lib.hid hr
  have HC := Lib.hid hc
  have HN := Lib.hid hn
  clear hr hc hn
  go_enter Tryz.func115, Tryz.ntmps115
  go_wp2
  go_loop [8, 5] (fun i _ => ∃ k : Nat, k ≤ n ∧ i = .int .i64 k ∧ Hid ((rs.take k).any (badB s) = false)) (fun i _ => n - (intOf i).toNat)
  case atStart => exact ⟨0, by omega, rfl, Lib.hid (by simp)⟩
  case round =>
    obtain ⟨k, hk, rfl, HA⟩ := hrel
    by_cases hlt : k < n
    · have hlt' : k < rs.length := by rw [HN.out]; exact hlt
      obtain ⟨b, off, ra, rc, rfl, hcell, _⟩ := HR.out k hlt'
      generalize hr : rs[k] = r at hcell
      have HRK := Lib.hid hr
      clear hr
      cases hb : badB s r
      · have HB := Lib.hid hb
        clear hb
        go_wp2_with (go_at_call 92; refine (clo_any _ _ B r s _ HC.out).mono ?_; rintro e w' ⟨rfl, rfl⟩; have hb := HB.out)
        go_round
        case rel => exact ⟨k + 1, by omega, by go_num, Lib.hid (any_take _ _ _ hlt' HA.out (by rw [HRK.out]; exact HB.out))⟩
        case measure => simp [intOf]; omega
      · have HB := Lib.hid hb
        clear hb
        go_wp2_with (go_at_call 92; refine (clo_any _ _ B r s _ HC.out).mono ?_; rintro e w' ⟨rfl, rfl⟩; have hb := HB.out)
        go_ret
        exact ⟨k, rfl, by rw [any_at (badB s) rs k hlt' (by rw [HRK.out]; exact HB.out)]; exact decide_eq_true (by omega), rfl⟩
    · obtain rfl : k = n := by omega
      go_wp2
      go_ret
      exact ⟨-1, rfl, by have := HA.out; rw [List.take_of_length_le (by rw [HN.out]; exact Nat.le_refl _)] at this; rw [this]; rfl, rfl⟩
set_option maxRecDepth 100000 in
theorem has_any (a : Option Addr) (c B n : Nat) (rs : List (List Int)) (s : Int) (w : World) (hn : rs.length = n) (hm : n ≤ 9223372036854775807) (hr : Recs w a rs) (hc : w.cell? ⟨B, 3, none⟩ = some (.int .i64 s)) :
    Calls Tryz.prog 94 #[.slice a n c, .func (.func 92) #[] #[.pointer (some ⟨B, 0, none⟩)]] w fun e w' => e = .returned (.bool (rs.any (badB s))) ∧ w = w' := by
  have HC := Lib.hid hc
  have HR := Lib.hid hr
  have HN := Lib.hid hn
  clear hr hn hc
  go_enter Tryz.func94, Tryz.ntmps94
  go_wp2_with (go_at_call 115; refine (idx_any _ _ _ _ rs s _ HN.out hm HR.out HC.out).mono ?_; rintro e w' ⟨k, rfl, hk, rfl⟩; have HK := Lib.hid hk; clear hk)
  go_ret
  exact ⟨ret_bool (by rw [← HK.out]), rfl⟩
theorem may_eq (ki nu ep si : Int) (rs : List (List Int)) (n : Nat) (hn : rs.length = n) : (Pg.mkPg ki nu ep si rs).may = (fitsB si n && !(rs.any (badB si))) := by rw [← hn]; rfl
/-- what page.Check answers -/
def chk (b : Bool) : Value := if b then .nilIface else .iface 78 (.int .i64 1)
set_option maxRecDepth 100000 in
theorem check_any (ki nu ep si : Int) (a : Option Addr) (n c : Nat) (rs : List (List Int)) (w : World) (hn : rs.length = n) (hm : n ≤ 9223372036854775807) (hs : si ≤ 9223372036854775807) (hr : Recs w a rs) :
    Calls Tryz.prog 50 #[.agg #[.int .u8 ki, .int .u32 nu, .int .u64 ep, .int .i64 si, .slice a n c]] w fun e w' => e = .returned (chk (Pg.mkPg ki nu ep si rs).may) ∧ Below w.heap.size w w' := by
  rw [may_eq ki nu ep si rs n hn]
  have HN := Lib.hid hn
  have HR := Lib.hid (hr.below ((Below.refl w.heap.size w).alloc (Nat.le_refl _) (.cells #[.int .u8 ki, .int .u32 nu, .int .u64 ep, .int .i64 si, .slice a n c] 47)))
  have hmf : ∀ (fn : Fn) (first cap : Array Value) (w : World), (Instr.makeFunc fn first cap).run Tryz.prog w = .ok (.func fn first cap) w := fun _ _ _ _ => rfl
  clear hn hr
  cases hf : fitsB si n <;> cases hy : rs.any (badB si)
  all_goals
    go_enter Tryz.func50, Tryz.ntmps50
    go_wp2_with (first | (go_at_call 93; refine (fits_any si n _ hs).mono ?_; rintro e w' ⟨rfl, rfl⟩) | (go_at_call 94; refine (has_any _ _ w.heap.size n rs si _ HN.out hm HR.out (by simp)).mono ?_; rintro e w' ⟨rfl, rfl⟩))
    go_ret
    exact ⟨rfl, (Below.refl _ _).alloc (Nat.le_refl _) _⟩
theorem check_ok (ki nu ep si : Int) (a : Option Addr) (n c : Nat) (rs : List (List Int)) (w : World) (hn : rs.length = n) (hm : n ≤ 9223372036854775807) (hs : si ≤ 9223372036854775807) (hr : Recs w a rs) (h : (Pg.mkPg ki nu ep si rs).may = true) :
    Calls Tryz.prog 50 #[.agg #[.int .u8 ki, .int .u32 nu, .int .u64 ep, .int .i64 si, .slice a n c]] w fun e w' => e = .returned .nilIface ∧ Below w.heap.size w w' :=
  (check_any ki nu ep si a n c rs w hn hm hs hr).mono fun e w' ⟨he, hb⟩ => ⟨by rw [he, h]; rfl, hb⟩
theorem check_bad (ki nu ep si : Int) (a : Option Addr) (n c : Nat) (rs : List (List Int)) (w : World) (hn : rs.length = n) (hm : n ≤ 9223372036854775807) (hs : si ≤ 9223372036854775807) (hr : Recs w a rs) (h : (Pg.mkPg ki nu ep si rs).may = false) :
    Calls Tryz.prog 50 #[.agg #[.int .u8 ki, .int .u32 nu, .int .u64 ep, .int .i64 si, .slice a n c]] w fun e w' => e = .returned (.iface 78 (.int .i64 1)) ∧ Below w.heap.size w w' :=
  (check_any ki nu ep si a n c rs w hn hm hs hr).mono fun e w' ⟨he, hb⟩ => ⟨by rw [he, h]; rfl, hb⟩
end Go.Proofs.YtlfkkakohldgnaaGreatDoor.Sm
namespace Go.Proofs.YtlfkkakohldgnaaGreatDoor.Sm
open Go.RowKit Crc

/-- a block of bytes that is known whole -/
def Blk (w : World) (B : Nat) (xs : List Int) : Prop := w.heap[B]? = some (.cells (bl xs).toArray 5 (0, 0))
theorem Blk.cell {w : World} {B : Nat} {xs : List Int} (h : Blk w B xs) (i : Nat) (hi : i < xs.length) : w.cell? ⟨B, i, none⟩ = some (.int .u8 xs[i]) := by
  rw [cell_of_row w B i _ _ _ h]
  simp [bl, hi]
theorem Blk.free {w : World} {B : Nat} {xs : List Int} (h : Blk w B xs) (i : Nat) : w.frozen? ⟨B, i, none⟩ = false := frozen_of_row w B i _ _ h
theorem Blk.lt {w : World} {B : Nat} {xs : List Int} (h : Blk w B xs) : B < w.heap.size := lt_of_block h
theorem Blk.put {w : World} {B : Nat} {xs : List Int} (h : Blk w B xs) (i : Nat) (x : Int) : Blk (w.setCell ⟨B, i, none⟩ (.int .u8 x)) B (xs.set i x) := by
  unfold Blk
  rw [heap_setCell_same w B i _ _ _ h]
  congr 2
  apply Array.ext'
  simp [bl, List.map_set]
theorem Blk.lies {w : World} {B : Nat} {xs : List Int} (h : Blk w B xs) (hb : Byte xs) : Lies w (some ⟨B, 0, none⟩) xs := lies_block h hb
theorem Blk.below {w w' : World} {B : Nat} {xs : List Int} (h : Blk w B xs) (hb : Below w.heap.size w w') : Blk w' B xs := (hb.block B h.lt).trans h
/-- w' is w but for writes into the block B -/
structure Only (B : Nat) (w w' : World) : Prop where
  os : w'.os = w.os
  tape : w'.tape = w.tape
  output : w'.output = w.output
  size : w'.heap.size = w.heap.size
  block : ∀ k, k ≠ B → w'.heap[k]? = w.heap[k]?
theorem Only.refl (B : Nat) (w : World) : Only B w w := ⟨rfl, rfl, rfl, rfl, fun _ _ => rfl⟩
theorem Only.drew {B : Nat} {w w' : World} (h : Only B w w') : Only B w w'.drew := ⟨h.os, h.tape, h.output, h.size, h.block⟩
theorem Only.set {B : Nat} {w w' : World} (h : Only B w w') (i : Nat) (v : Value) : Only B w (w'.setCell ⟨B, i, none⟩ v) := by
  have hb := (Below.refl 0 w').setCell (p := ⟨B, i, none⟩) (Nat.zero_le _) v
  exact ⟨hb.os.trans h.os, hb.tape.trans h.tape, hb.output.trans h.output, by rw [World.size_setCell]; exact h.size, fun k hk => (heap_setCell_other w' _ k v hk).trans (h.block k hk)⟩
theorem Only.below {B b : Nat} {W w w' : World} (h : Only B w w') (hB : b ≤ B) (hb : Below b W w) : Below b W w' :=
  ⟨h.os.trans hb.os, h.tape.trans hb.tape, h.output.trans hb.output, by rw [h.size]; exact hb.size, fun k hk => (h.block k (by omega)).trans (hb.block k hk)⟩
theorem cell_of_block {w w' : World} {b o : Nat} (h : w'.heap[b]? = w.heap[b]?) : w'.cell? ⟨b, o, none⟩ = w.cell? ⟨b, o, none⟩ := by
  simp only [World.cell?, h]
theorem Only.cell {B : Nat} {w w' : World} (h : Only B w w') {b o : Nat} {v : Value} (hc : w.cell? ⟨b, o, none⟩ = some v) (hn : b ≠ B) : w'.cell? ⟨b, o, none⟩ = some v := by
  rw [cell_of_block (h.block b hn)]; exact hc

/-! ### a number's bytes from the other end -/
theorem be_front (k : Nat) (n : Int) : be (k + 1) n = (n / 256 ^ k % 256) :: be k n := by
  induction k generalizing n with
  | zero => simp [be]
  | succ k ih =>
    have e : be (k + 1 + 1) n = be (k + 1) (n / 256) ++ [n % 256] := rfl
    rw [e, ih]
    have e2 : n / 256 / 256 ^ k = n / 256 ^ (k + 1) := by
      rw [Int.ediv_ediv_of_nonneg (by decide), Int.pow_succ, Int.mul_comm]
    rw [e2]
    rfl
/-- what lay has written behind so many rounds: at the end of the piece -/
def laid (xs : List Int) (off m : Nat) (n : Int) (k : Nat) : List Int := xs.take (off + m - k) ++ (be k n ++ xs.drop (off + m))
theorem laid_zero (xs : List Int) (off m : Nat) (n : Int) : laid xs off m n 0 = xs := by simp [laid, be]
theorem laid_len (xs : List Int) (off m : Nat) (n : Int) (k : Nat) (h : off + m ≤ xs.length) (hk : k ≤ m) : (laid xs off m n k).length = xs.length := by
  simp [laid, be_len]; omega
theorem laid_next (xs : List Int) (off m : Nat) (n : Int) (k : Nat) (h : off + m ≤ xs.length) (hk : k < m) : (laid xs off m n k).set (off + (m - 1 - k)) (n / 256 ^ k % 256) = laid xs off m n (k + 1) := by
  unfold laid
  have e : off + m - k = (off + (m - 1 - k)) + 1 := by omega
  have e2 : off + m - (k + 1) = off + (m - 1 - k) := by omega
  rw [e, e2, be_front, List.take_succ_eq_append_getElem (by omega), List.append_assoc, List.set_append_right _ _ (by simp; omega)]
  have e3 : off + (m - 1 - k) - (xs.take (off + (m - 1 - k))).length = 0 := by simp; omega
  rw [e3]
  rfl
theorem pow256 (k : Nat) : (2 : Int) ^ (8 * k) = 256 ^ k := by rw [Int.pow_mul]; rfl
set_option maxRecDepth 100000 in
theorem lay_any (B off m c : Nat) (xs : List Int) (n : Int) (w : World) (h : Blk w B xs) (hm : off + m ≤ xs.length) (hm8 : m ≤ 8) :
    Calls Tryz.prog 116 #[.slice (some ⟨B, off, none⟩) m c, .int .u64 n] w fun e w' => e = .returned (.tuple #[]) ∧ Blk w' B (laid xs off m n m) ∧ Only B w w' := by
  have HB := Lib.hid h
  clear h
  go_enter Tryz.func116, Tryz.ntmps116
  go_wp2
  go_loopw [7, 4] (fun i _ wr => ∃ k : Nat, k ≤ m ∧ i = .int .i64 k ∧ Hid (Blk wr B (laid xs off m n k)) ∧ Hid (Only B w wr)) (fun i _ _ => m - (intOf i).toNat)
  case atStart => exact ⟨0, by omega, rfl, Lib.hid (by rw [laid_zero]; exact HB.out), Lib.hid (Only.refl _ _)⟩
  case round =>
    obtain ⟨k, hk, rfl, HW, HO⟩ := hrel
    by_cases hlt : k < m
    · have hl := laid_len xs off m n k hm hk
      obtain ⟨x, hc⟩ : ∃ x, wr.cell? ⟨B, off + (m - 1 - k), none⟩ = some (.int .u8 x) := ⟨_, HW.out.cell (off + (m - 1 - k)) (by rw [hl]; omega)⟩
      have hf := HW.out.free (off + (m - 1 - k))
      have i0 : (0 : Int) ≤ (m : Int) - 1 - k := by omega
      have i1 : ((m : Int) - 1 - k).toNat = m - 1 - k := by omega
      have i2 : (m : Int) - 1 - k < m := by omega
      have HN := Lib.hid (laid_next xs off m n k hm hlt)
      have HP := Lib.hid (pow256 k)
      clear hl
      go_wp2
      go_roundw
      case rel => exact ⟨k + 1, by omega, by go_num, Lib.hid (by rw [← HN.out, ← HP.out]; exact HW.out.put _ _), Lib.hid (HO.out.set _ _)⟩
      case measure => simp [intOf]; omega
    · obtain rfl : k = m := by omega
      go_wp2
      go_end0
      exact ⟨rfl, HW.out, HO.out⟩
end Go.Proofs.YtlfkkakohldgnaaGreatDoor.Sm

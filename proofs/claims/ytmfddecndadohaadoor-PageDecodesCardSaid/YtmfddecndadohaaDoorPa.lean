/-
  THE WALKS of page.Room, page.fits and what page.Check asks: each returns what the plain mathematics says, and the world stays. Conditions: the records lie in memory.
-/
import Derived.Test.YtmfddecndadohaaDoorPg
import Derived.Test.YtmfddecndadohaaDoorErr
namespace Go.Proofs.YtmfddecndadohaaDoor
open Go.RowKit Crc

theorem ret_int {k : IntKind} {a b : Int} (h : a = b) : Ending.returned (.int k a) = .returned (.int k b) := by rw [h]
theorem ret_bool {a b : Bool} (h : a = b) : Ending.returned (.bool a) = .returned (.bool b) := by rw [h]
set_option maxRecDepth 100000 in
theorem room_any (s : Int) (w : World) (hs : s ≤ 9223372036854775807) :
    Calls Tryd.prog 12 #[.int .i64 s] w fun e w' => e = .returned (.int .i64 (room s)) ∧ w = w' := by
  by_cases h : s < 1
  · rw [room_small h]
    go_enter Tryd.func12, Tryd.ntmps12
    go_wp2
    go_ret
    exact ⟨rfl, rfl⟩
  · rw [room_big (by omega)]
    have h1 : 1 ≤ s := by omega
    have e0 : 0 ≤ 492 / s := Int.ediv_nonneg (by omega) (by omega)
    go_enter Tryd.func12, Tryd.ntmps12
    go_wp2
    all_goals go_ret
    all_goals exact ⟨ret_int (by omega), rfl⟩
set_option maxRecDepth 100000 in
theorem fits_any (s n : Int) (w : World) (hs : s ≤ 9223372036854775807) :
    Calls Tryd.prog 25 #[.int .i64 s, .int .i64 n] w fun e w' => e = .returned (.bool (fitsB s n)) ∧ w = w' := by
  by_cases h : 0 < room s
  · rw [fits_yes h]
    go_enter Tryd.func25, Tryd.ntmps25
    go_wp2_with (go_at_call 12; refine (room_any s _ hs).mono ?_; rintro e w' ⟨rfl, rfl⟩)
    go_ret
    exact ⟨rfl, rfl⟩
  · rw [fits_no0 h]
    go_enter Tryd.func25, Tryd.ntmps25
    go_wp2_with (go_at_call 12; refine (room_any s _ hs).mono ?_; rintro e w' ⟨rfl, rfl⟩)
    go_ret
    exact ⟨rfl, rfl⟩
set_option maxRecDepth 100000 in
/-- the closure of page.Check: is a record not of the size? -/
theorem clo_any (ra : Option Addr) (rc B : Nat) (r : List Int) (s : Int) (w : World) (hc : w.cell? ⟨B, 3, none⟩ = some (.int .i64 s)) :
    Calls Tryd.prog 24 #[.slice ra r.length rc, .pointer (some ⟨B, 0, none⟩)] w fun e w' => e = .returned (.bool (badB s r)) ∧ w = w' := by
  go_enter Tryd.func24, Tryd.ntmps24
  go_wp2
  go_ret
  exact ⟨rfl, rfl⟩
/-- a slice of slices of bytes that lies in memory -/
def Recs (w : World) (a : Option Addr) (rs : List (List Int)) : Prop :=
  ∀ i (h : i < rs.length), ∃ b off ra rc, a = some ⟨b, off, none⟩ ∧ w.cell? ⟨b, off + i, none⟩ = some (.slice ra rs[i].length rc) ∧ Lies w ra rs[i] ∧ rs[i].length ≤ rc ∧ rc ≤ 9223372036854775807
theorem Recs.below {w w' : World} {a : Option Addr} {rs : List (List Int)} (h : Recs w a rs) (hb : Below w.heap.size w w') : Recs w' a rs := by
  intro i hi
  obtain ⟨b, off, ra, rc, ha, hc, hl, h1, h2⟩ := h i hi
  exact ⟨b, off, ra, rc, ha, by rw [hb.cell (World.block_lt_of_cell? w _ hc)]; exact hc, hl.below hb, h1, h2⟩
theorem Recs.byte {w : World} {a : Option Addr} {rs : List (List Int)} (h : Recs w a rs) : ∀ r ∈ rs, Byte r := by
  intro r hr
  obtain ⟨i, hi, rfl⟩ := List.getElem_of_mem hr
  obtain ⟨_, _, _, _, _, _, hl, _⟩ := h i hi
  exact hl.byte
/-- where the first record is that is not of the size, or -1 -/
def FirstBad (s : Int) (rs : List (List Int)) (w : World) (e : Ending) (w' : World) : Prop :=
  ∃ k : Int, e = .returned (.int .i64 k) ∧ decide (0 ≤ k) = rs.any (badB s) ∧ w = w'
theorem any_take {α : Type} (f : α → Bool) (l : List α) (k : Nat) (h : k < l.length) (h0 : (l.take k).any f = false) (h1 : f l[k] = false) : (l.take (k + 1)).any f = false := by
  rw [List.take_succ_eq_append_getElem h, List.any_append, h0]
  simp [h1]
theorem any_at {α : Type} (f : α → Bool) (l : List α) (k : Nat) (h : k < l.length) (h1 : f l[k] = true) : l.any f = true := List.any_eq_true.2 ⟨_, List.getElem_mem h, h1⟩
set_option maxRecDepth 100000 in
theorem idx_any (a : Option Addr) (c B n : Nat) (rs : List (List Int)) (s : Int) (w : World) (hn : rs.length = n) (hm : n ≤ 9223372036854775807) (hr : Recs w a rs) (hc : w.cell? ⟨B, 3, none⟩ = some (.int .i64 s)) :
    Calls Tryd.prog 40 #[.slice a n c, .func (.func 24) #[] #[.pointer (some ⟨B, 0, none⟩)]] w (FirstBad s rs w) := by
  have HR := Lib.hid hr
  have HC := Lib.hid hc
  have HN := Lib.hid hn
  clear hr hc hn
  go_enter Tryd.func40, Tryd.ntmps40
  go_wp2
  go_loop [8, 5] (fun i _ => ∃ k : Nat, k ≤ n ∧ i = .int .i64 k ∧ Hid ((rs.take k).any (badB s) = false)) (fun i _ => n - (intOf i).toNat)
  case atStart => exact ⟨0, by omega, rfl, Lib.hid (by simp)⟩
  case round =>
    obtain ⟨k, hk, rfl, HA⟩ := hrel
    by_cases hlt : k < n
    · have hlt' : k < rs.length := by rw [HN.out]; exact hlt
      obtain ⟨b, off, ra, rc, rfl, hcell, _⟩ := HR.out k hlt'
      generalize hr : rs[k] = r at hcell
      have HRK := Lib.hid hr
      clear hr
      cases hb : badB s r
      · have HB := Lib.hid hb
        clear hb
        go_wp2_with (go_at_call 24; refine (clo_any _ _ B r s _ HC.out).mono ?_; rintro e w' ⟨rfl, rfl⟩; have hb := HB.out)
        go_round
        case rel => exact ⟨k + 1, by omega, by go_num, Lib.hid (any_take _ _ _ hlt' HA.out (by rw [HRK.out]; exact HB.out))⟩
        case measure => simp [intOf]; omega
      · have HB := Lib.hid hb
        clear hb
        go_wp2_with (go_at_call 24; refine (clo_any _ _ B r s _ HC.out).mono ?_; rintro e w' ⟨rfl, rfl⟩; have hb := HB.out)
        go_ret
        exact ⟨k, rfl, by rw [any_at (badB s) rs k hlt' (by rw [HRK.out]; exact HB.out)]; exact decide_eq_true (by omega), rfl⟩
    · obtain rfl : k = n := by omega
      go_wp2
      go_ret
      exact ⟨-1, rfl, by have := HA.out; rw [List.take_of_length_le (by rw [HN.out]; exact Nat.le_refl _)] at this; rw [this]; rfl, rfl⟩
set_option maxRecDepth 100000 in
theorem has_any (a : Option Addr) (c B n : Nat) (rs : List (List Int)) (s : Int) (w : World) (hn : rs.length = n) (hm : n ≤ 9223372036854775807) (hr : Recs w a rs) (hc : w.cell? ⟨B, 3, none⟩ = some (.int .i64 s)) :
    Calls Tryd.prog 26 #[.slice a n c, .func (.func 24) #[] #[.pointer (some ⟨B, 0, none⟩)]] w fun e w' => e = .returned (.bool (rs.any (badB s))) ∧ w = w' := by
  have HC := Lib.hid hc
  have HR := Lib.hid hr
  have HN := Lib.hid hn
  clear hr hn hc
  go_enter Tryd.func26, Tryd.ntmps26
  go_wp2_with (go_at_call 40; refine (idx_any _ _ _ _ rs s _ HN.out hm HR.out HC.out).mono ?_; rintro e w' ⟨k, rfl, hk, rfl⟩; have HK := Lib.hid hk; clear hk)
  go_ret
  exact ⟨ret_bool (by rw [← HK.out]), rfl⟩
theorem may_eq (ki nu ep si : Int) (rs : List (List Int)) (n : Nat) (hn : rs.length = n) : (Pg.mkPg ki nu ep si rs).may = (fitsB si n && !(rs.any (badB si))) := by rw [← hn]; rfl
/-- what page.Check answers -/
def chk (b : Bool) : Value := if b then .nilIface else .iface 52 (.int .i64 1)
set_option maxRecDepth 100000 in
theorem check_any (ki nu ep si : Int) (a : Option Addr) (n c : Nat) (rs : List (List Int)) (w : World) (hn : rs.length = n) (hm : n ≤ 9223372036854775807) (hs : si ≤ 9223372036854775807) (hr : Recs w a rs) :
    Calls Tryd.prog 17 #[.agg #[.int .u8 ki, .int .u32 nu, .int .u64 ep, .int .i64 si, .slice a n c]] w fun e w' => e = .returned (chk (Pg.mkPg ki nu ep si rs).may) ∧ Below w.heap.size w w' := by
  rw [may_eq ki nu ep si rs n hn]
  have HN := Lib.hid hn
  have HR := Lib.hid (hr.below ((Below.refl w.heap.size w).alloc (Nat.le_refl _) (.cells #[.int .u8 ki, .int .u32 nu, .int .u64 ep, .int .i64 si, .slice a n c] 29)))
  have hmf : ∀ (fn : Fn) (first cap : Array Value) (w : World), (Instr.makeFunc fn first cap).run Tryd.prog w = .ok (.func fn first cap) w := fun _ _ _ _ => rfl
  clear hn hr
  cases hf : fitsB si n <;> cases hy : rs.any (badB si)
  all_goals
    go_enter Tryd.func17, Tryd.ntmps17
    go_wp2_with (first | (go_at_call 25; refine (fits_any si n _ hs).mono ?_; rintro e w' ⟨rfl, rfl⟩) | (go_at_call 26; refine (has_any _ _ w.heap.size n rs si _ HN.out hm HR.out (by simp)).mono ?_; rintro e w' ⟨rfl, rfl⟩))
    go_ret
    exact ⟨rfl, (Below.refl _ _).alloc (Nat.le_refl _) _⟩
theorem check_ok (ki nu ep si : Int) (a : Option Addr) (n c : Nat) (rs : List (List Int)) (w : World) (hn : rs.length = n) (hm : n ≤ 9223372036854775807) (hs : si ≤ 9223372036854775807) (hr : Recs w a rs) (h : (Pg.mkPg ki nu ep si rs).may = true) :
    Calls Tryd.prog 17 #[.agg #[.int .u8 ki, .int .u32 nu, .int .u64 ep, .int .i64 si, .slice a n c]] w fun e w' => e = .returned .nilIface ∧ Below w.heap.size w w' :=
  (check_any ki nu ep si a n c rs w hn hm hs hr).mono fun e w' ⟨he, hb⟩ => ⟨by rw [he, h]; rfl, hb⟩
theorem check_bad (ki nu ep si : Int) (a : Option Addr) (n c : Nat) (rs : List (List Int)) (w : World) (hn : rs.length = n) (hm : n ≤ 9223372036854775807) (hs : si ≤ 9223372036854775807) (hr : Recs w a rs) (h : (Pg.mkPg ki nu ep si rs).may = false) :
    Calls Tryd.prog 17 #[.agg #[.int .u8 ki, .int .u32 nu, .int .u64 ep, .int .i64 si, .slice a n c]] w fun e w' => e = .returned (.iface 52 (.int .i64 1)) ∧ Below w.heap.size w w' :=
  (check_any ki nu ep si a n c rs w hn hm hs hr).mono fun e w' ⟨he, hb⟩ => ⟨by rw [he, h]; rfl, hb⟩
end Go.Proofs.YtmfddecndadohaaDoor

/-
  THE CALLS THAT ONLY THE DOOR's STATEMENTS MAKE: Size, Limit, a crash that can't be, the statements' own ints; and all calls of a nil disk. Conditions: those that each lemma names.
-/
import Derived.Test.YtibopcbebcikbaaDoorSu
import Derived.Test.YtibopcbebcikbaaDoorErr
namespace Go.Proofs.YtibopcbebcikbaaDoor
open Go.RowKit

set_option maxRecDepth 100000 in
theorem ints_any (a b : Option Addr) (n c d : Nat) (xs : List Int) (w : World) (ha : Ints w a xs) (hb : Ints w b xs) (hn : xs.length = n) (hm : n ≤ 9223372036854775807) :
    Calls Tryd.prog 23 #[.slice a n c, .slice b n d] w fun e w' => e = .returned (.bool true) ∧ Below w.heap.size w w' := by
  have HA := Lib.hid ha
  have HB := Lib.hid hb
  have HN := Lib.hid hn
  clear ha hb hn
  go_enter Tryd.func23, Tryd.ntmps23
  go_wp2
  go_loopw [5] (fun i wr => ∃ k : Nat, k ≤ n ∧ i = .int .i64 k ∧ Below w.heap.size w wr) (fun i _ => n - (intOf i).toNat)
  case atStart => exact ⟨0, by omega, rfl, Below.refl _ _⟩
  case round =>
    obtain ⟨k, hk, rfl, hbl⟩ := hrel
    have HBL := Lib.hid hbl
    clear hbl
    by_cases hlt : k < n
    · have hkl : k < xs.length := by rw [HN.out]; exact hlt
      obtain ⟨g, off, rfl, hc⟩ := HA.out k hkl
      obtain ⟨g2, off2, rfl, hc2⟩ := HB.out k hkl
      have c1 := (HBL.out.cell (p := ⟨g, off + k, none⟩) (World.block_lt_of_cell? w _ hc)).trans hc
      have c2 := (HBL.out.cell (p := ⟨g2, off2 + k, none⟩) (World.block_lt_of_cell? w _ hc2)).trans hc2
      have i0 : (0 : Int) ≤ (k : Int) := by omega
      have i1 : (k : Int) < (n : Int) := by omega
      clear hc hc2
      generalize xs[k] = x at c1 c2
      go_wp2
      go_quiet (fail)
      go_wp2
      go_roundw
      case rel => exact ⟨k + 1, by omega, by go_num, ⟨HBL.out.os, HBL.out.tape, HBL.out.output, HBL.out.size, HBL.out.block⟩⟩
      case measure => simp [intOf]; omega
    · obtain rfl : k = n := by omega
      go_wp2
      go_ret
      exact ⟨rfl, HBL.out⟩

set_option maxRecDepth 100000 in
theorem size_at {W : World} {p : Nat} (s : St) (w : World) (h : At W w p s) : Calls Tryd.prog 19 #[.pointer (some ⟨p, 0, none⟩)] w fun e w' => e = .returned (.int .i64 (s.n : Int)) ∧ w = w' := by
  have e := h.e
  subst e
  have c0 := h.d.d0
  have n1 := h.d.ok.n1
  clear h
  go_enter Tryd.func19, Tryd.ntmps19
  go_wp2
  go_ret
  exact ⟨rfl, rfl⟩
def St.limit (s : St) (x : Int) : St := { s with left := x }
set_option maxRecDepth 100000 in
theorem limit_at {W : World} {p : Nat} (s : St) (x : Int) (w : World) (h : At W w p s) (h0 : -9223372036854775808 ≤ x) (h1 : x ≤ 9223372036854775807) : Calls Tryd.prog 18 #[.pointer (some ⟨p, 0, none⟩), .int .i64 x] w fun e w' => e = .returned .nilIface ∧ At W w' p (s.limit x) ∧ Step w s w' (s.limit x) := by
  have e := h.e
  subst e
  have c4 := h.d.d4
  have f4 := h.d.fD 4
  have HH := Lib.hid h
  clear h
  go_enter Tryd.func18, Tryd.ntmps18
  go_wp2
  go_ret
  have hs : Step w s (w.setCell ⟨s.D, 4, none⟩ (.int .i64 x)) (s.limit x) := Step.setD 4 _ (fun k hk => .inl hk)
  exact ⟨rfl, HH.out.step (HH.out.d.setLeft x h0 h1) hs rfl, hs⟩
theorem pending_at {W : World} {p : Nat} (s : St) (w : World) (h : At W w p s) : Calls Tryd.prog 21 #[.pointer (some ⟨p, 0, none⟩)] w fun e w' => ∃ ao cap, e = .returned (.slice ao s.pend.length cap) ∧ Ints w' ao s.ints ∧ At W w' p s ∧ Below w.heap.size w w' := by
  have e := h.e
  subst e
  exact (pending_any s w h.d).mono fun _ _ ⟨ao, cap, he, hi, _, hb⟩ => ⟨ao, cap, he, hi, h.below hb, hb⟩
theorem crash_D (s : St) (ks : List Int) (t : Int) (q : Nat) : (s.crash ks t q).D = s.D := torn_D _ _ _
/-- a crash that can be -/
theorem crash_at {W : World} {p : Nat} (s : St) (a : Option Addr) (n c : Nat) (ks : List Int) (t x : Int) (part : Nat) (w : World) (h : At W w p s) (hk : Ints w a ks) (hn : ks.length = n) (hm : n ≤ 9223372036854775807) (hkb : ∀ b off, a = some ⟨b, off, none⟩ → ¬ s.has b) (hx : x = part) (hp : part ≤ 512) (hf : fitOk s.pend.length ks t) :
    Calls Tryd.prog 16 #[.pointer (some ⟨p, 0, none⟩), .slice a n c, .int .i64 t, .int .i64 x] w fun e w' => e = .returned .nilIface ∧ At W w' p (s.crash ks t part) ∧ Step w s w' (s.crash ks t part) := by
  have e := h.e
  subst e hx
  exact (crash_any s a n c ks t part w h.d hk hn hm hkb hp hf).mono fun _ _ ⟨he, hd, hs⟩ => ⟨he, h.step hd hs (crash_D s ks t part), hs⟩
/-- a crash that can't be -/
theorem crash_err {W : World} {p : Nat} (s : St) (a : Option Addr) (n c : Nat) (ks : List Int) (t x : Int) (w : World) (h : At W w p s) (hk : Ints w a ks) (hn : ks.length = n) (hm : n ≤ 9223372036854775807) (hf : ¬ (fitOk s.pend.length ks t ∧ 0 ≤ x ∧ x ≤ 512)) :
    Calls Tryd.prog 16 #[.pointer (some ⟨p, 0, none⟩), .slice a n c, .int .i64 t, .int .i64 x] w fun e w' => e = .returned (.iface 56 (.int .i64 1)) ∧ At W w' p s ∧ Below w.heap.size w w' := by
  have e := h.e
  subst e
  by_cases hx : x < 0 ∨ 512 < x
  · exact (crash_part s (.slice a n c) t x w hx).mono fun _ _ ⟨he, hb⟩ => ⟨he, h.below hb, hb⟩
  · obtain ⟨q, rfl⟩ : ∃ q : Nat, x = q := ⟨x.toNat, by omega⟩
    exact (crash_no s a n c ks t q w h.d hk hn hm (by omega) (fun e => hf ⟨e, by omega, by omega⟩)).mono fun _ _ ⟨he, hb⟩ => ⟨he, h.below hb, hb⟩

/-! a nil disk -/
set_option maxRecDepth 100000 in
theorem nil_read (i : Value) (w : World) : Calls Tryd.prog 12 #[.pointer none, i] w fun e w' => e = .returned (.tuple #[.slice none 0 0, .iface 56 (.int .i64 1)]) ∧ w = w' := by
  go_enter Tryd.func12, Tryd.ntmps12
  go_wp2
  go_ret2
  exact ⟨rfl, rfl⟩
set_option maxRecDepth 100000 in
theorem nil_write (i b : Value) (w : World) : Calls Tryd.prog 14 #[.pointer none, i, b] w fun e w' => e = .returned (.iface 56 (.int .i64 1)) ∧ w = w' := by
  go_enter Tryd.func14, Tryd.ntmps14
  go_wp2
  go_ret
  exact ⟨rfl, rfl⟩
set_option maxRecDepth 100000 in
theorem nil_flush (w : World) : Calls Tryd.prog 15 #[.pointer none] w fun e w' => e = .returned (.iface 56 (.int .i64 1)) ∧ w = w' := by
  go_enter Tryd.func15, Tryd.ntmps15
  go_wp2
  go_ret
  exact ⟨rfl, rfl⟩
set_option maxRecDepth 100000 in
theorem nil_crash (k t x : Value) (w : World) : Calls Tryd.prog 16 #[.pointer none, k, t, x] w fun e w' => e = .returned (.iface 56 (.int .i64 1)) ∧ w = w' := by
  go_enter Tryd.func16, Tryd.ntmps16
  go_wp2
  go_ret
  exact ⟨rfl, rfl⟩
set_option maxRecDepth 100000 in
theorem nil_rot (i q y : Value) (w : World) : Calls Tryd.prog 17 #[.pointer none, i, q, y] w fun e w' => e = .returned (.iface 56 (.int .i64 1)) ∧ w = w' := by
  go_enter Tryd.func17, Tryd.ntmps17
  go_wp2
  go_ret
  exact ⟨rfl, rfl⟩
set_option maxRecDepth 100000 in
theorem nil_limit (x : Value) (w : World) : Calls Tryd.prog 18 #[.pointer none, x] w fun e w' => e = .returned (.iface 56 (.int .i64 1)) ∧ w = w' := by
  go_enter Tryd.func18, Tryd.ntmps18
  go_wp2
  go_ret
  exact ⟨rfl, rfl⟩
set_option maxRecDepth 100000 in
theorem nil_size (w : World) : Calls Tryd.prog 19 #[.pointer none] w fun e w' => e = .returned (.int .i64 0) ∧ w = w' := by
  go_enter Tryd.func19, Tryd.ntmps19
  go_wp2
  go_ret
  exact ⟨rfl, rfl⟩
set_option maxRecDepth 100000 in
theorem nil_writes (w : World) : Calls Tryd.prog 20 #[.pointer none] w fun e w' => e = .returned (.int .i64 0) ∧ w = w' := by
  go_enter Tryd.func20, Tryd.ntmps20
  go_wp2
  go_ret
  exact ⟨rfl, rfl⟩
set_option maxRecDepth 100000 in
theorem nil_pending (w : World) : Calls Tryd.prog 21 #[.pointer none] w fun e w' => e = .returned (.slice none 0 0) ∧ w = w' := by
  go_enter Tryd.func21, Tryd.ntmps21
  go_wp2
  go_ret
  exact ⟨rfl, rfl⟩
end Go.Proofs.YtibopcbebcikbaaDoor

/-
  THE CALLS THAT ONLY THE DOOR's STATEMENTS MAKE: Size, Limit, a crash that can't be, the statements' own ints; and all calls of a nil disk. Conditions: those that each lemma names.
-/
import Derived.Test.YtibopcbebcikbaaDoorSu
import Derived.Test.YtibopcbebcikbaaDoorErr
namespace Go.Proofs.YtibopcbebcikbaaDoor
open Go.RowKit

set_option maxRecDepth 100000 in
theorem ints_any (a b : Option Addr) (n c d : Nat) (xs : List Int) (w : World) (ha : Ints w a xs) (hb : Ints w b xs) (hn : xs.length = n) (hm : n ≤ 9223372036854775807) :
    Calls Tryd.prog 23 #[.slice a n c, .slice b n d] w fun e w' => e = .returned (.bool true) ∧ Below w.heap.size w w' := by
  have HA := Lib.hid ha
  have HB := Lib.hid hb
  have HN := Lib.hid hn
  clear ha hb hn
  go_enter Tryd.func23, Tryd.ntmps23
  go_wp2
  go_loopw [5] (fun i wr => ∃ k : Nat, k ≤ n ∧ i = .int .i64 k ∧ Below w.heap.size w wr) (fun i _ => n - (intOf i).toNat)
  case atStart => exact ⟨0, by omega, rfl, Below.refl _ _⟩
  case round =>
    obtain ⟨k, hk, rfl, hbl⟩ := hrel
    have HBL := Lib.hid hbl
    clear hbl
    by_cases hlt : k < n
    · have hkl : k < xs.length := by rw [HN.out]; exact hlt
      obtain ⟨g, off, rfl, hc⟩ := HA.out k hkl
      obtain ⟨g2, off2, rfl, hc2⟩ := HB.out k hkl
      have c1 := (HBL.out.cell (p := ⟨g, off + k, none⟩) (World.block_lt_of_cell? w _ hc)).trans hc
      have c2 := (HBL.out.cell (p := ⟨g2, off2 + k, none⟩) (World.block_lt_of_cell? w _ hc2)).trans hc2
      have i0 : (0 : Int) ≤ (k : Int) := by omega
      have i1 : (k : Int) < (n : Int) := by omega
      clear hc hc2
      generalize xs[k] = x at c1 c2
      go_wp2
      go_quiet (fail)
      go_wp2
      go_roundw
      case rel => exact ⟨k + 1, by omega, by go_num, ⟨HBL.out.os, HBL.out.tape, HBL.out.output, HBL.out.size, HBL.out.block⟩⟩
      case measure => simp [intOf]; omega
    · obtain rfl : k = n := by omega
      go_wp2
      go_ret
      exact ⟨rfl, HBL.out⟩

set_option maxRecDepth 100000 in
theorem size_at {W : World} {p : Nat} (s : St) (w : World) (h : At W w p s) : Calls Tryd.prog 19 #[.pointer (some ⟨p, 0, none⟩)] w fun e w' => e = .returned (.int .i64 (s.n : Int)) ∧ w = w' := by
  have e := h.e
  subst e
  have c0 := h.d.d0
  have n1 := h.d.ok.n1
  clear h
  go_enter Tryd.func19, Tryd.ntmps19
  go_wp2
  go_ret
  exact ⟨rfl, rfl⟩
def St.limit (s : St) (x : Int) : St := { s with left := x }
set_option maxRecDepth 100000 in
theorem limit_at {W : World} {p : Nat} (s : St) (x : Int) (w : World) (h : At W w p s) (h0 : -9223372036854775808 ≤ x) (h1 : x ≤ 9223372036854775807) : Calls Tryd.prog 18 #[.pointer (some ⟨p, 0, none⟩), .int .i64 x] w fun e w' => e = .returned .nilIface ∧ At W w' p (s.limit x) ∧ Step w s w' (s.limit x) := by
  have e := h.e
  subst e
  have c4 := h.d.d4
  have f4 := h.d.fD 4
  have HH := Lib.hid h
  clear h
  go_enter Tryd.func18, Tryd.ntmps18
  go_wp2
  go_ret
  have hs : Step w s (w.setCell ⟨s.D, 4, none⟩ (.int .i64 x)) (s.limit x) := Step.setD 4 _ (fun k hk => .inl hk)
  exact ⟨rfl, HH.out.step (HH.out.d.setLeft x h0 h1) hs rfl, hs⟩
theorem pending_at {W : World} {p : Nat} (s : St) (w : World) (h : At W w p s) : Calls Tryd.prog 21 #[.pointer (some ⟨p, 0, none⟩)] w fun e w' => ∃ ao cap, e = .returned (.slice ao s.pend.length cap) ∧ Ints w' ao s.ints ∧ At W w' p s ∧ Below w.heap.size w w' := by
  have e := h.e
  subst e
  exact (pending_any s w h.d).mono fun _ _ ⟨ao, cap, he, hi, _, hb⟩ => ⟨ao, cap, he, hi, h.below hb, hb⟩
theorem crash_D (s : St) (ks : List Int) (t : Int) (q : Nat) : (s.crash ks t q).D = s.D := torn_D _ _ _
/-- a crash that can be -/
theorem crash_at {W : World} {p : Nat} (s : St) (a : Option Addr) (n c : Nat) (ks : List Int) (t x : Int) (part : Nat) (w : World) (h : At W w p s) (hk : Ints w a ks) (hn : ks.length = n) (hm : n ≤ 9223372036854775807) (hkb : ∀ b off, a = some ⟨b, off, none⟩ → ¬ s.has b) (hx : x = part) (hp : part ≤ 512) (hf : fitOk s.pend.length ks t) :
    Calls Tryd.prog 16 #[.pointer (some ⟨p, 0, none⟩), .slice a n c, .int .i64 t, .int .i64 x] w fun e w' => e = .returned .nilIface ∧ At W w' p (s.crash ks t part) ∧ Step w s w' (s.crash ks t part) := by
  have e := h.e
  subst e hx
  exact (crash_any s a n c ks t part w h.d hk hn hm hkb hp hf).mono fun _ _ ⟨he, hd, hs⟩ => ⟨he, h.step hd hs (crash_D s ks t part), hs⟩
/-- a crash that can't be -/
theorem crash_err {W : World} {p : Nat} (s : St) (a : Option Addr) (n c : Nat) (ks : List Int) (t x : Int) (w : World) (h : At W w p s) (hk : Ints w a ks) (hn : ks.length = n) (hm : n ≤ 9223372036854775807) (hf : ¬ (fitOk s.pend.length ks t ∧ 0 ≤ x ∧ x ≤ 512)) :
    Calls Tryd.prog 16 #[.pointer (some ⟨p, 0, none⟩), .slice a n c, .int .i64 t, .int .i64 x] w fun e w' => e = .returned (.iface 56 (.int .i64 1)) ∧ At W w' p s ∧ Below w.heap.size w w' := by
  have e := h.e
  subst e
  by_cases hx : x < 0 ∨ 512 < x
  · exact (crash_part s (.slice a n c) t x w hx).mono fun _ _ ⟨he, hb⟩ => ⟨he, h.below hb, hb⟩
  · obtain ⟨q, rfl⟩ : ∃ q : Nat, x = q := ⟨x.toNat, by omega⟩
    exact (crash_no s a n c ks t q w h.d hk hn hm (by omega) (fun e => hf ⟨e, by omega, by omega⟩)).mono fun _ _ ⟨he, hb⟩ => ⟨he, h.below hb, hb⟩

/-- int(uint(a) % m) -/
theorem red_bd (a m : Int) (hm : 0 < m) (hm2 : m ≤ 9223372036854775807) : 0 ≤ wrap64 ((IntKind.u64.wrap a).tmod m) ∧ wrap64 ((IntKind.u64.wrap a).tmod m) < m := by
  have h0 := wrap_u64_nonneg a
  rw [Int.tmod_eq_emod_of_nonneg h0]
  have h1 := Int.emod_nonneg (IntKind.u64.wrap a) (show m ≠ 0 by omega)
  have h2 := Int.emod_lt_of_pos (IntKind.u64.wrap a) hm
  rw [IntWalk.wrap64_in _ ⟨by omega, by omega⟩]
  exact ⟨h1, h2⟩
theorem red_nat (a m : Int) (hm : 0 < m) (hm2 : m ≤ 9223372036854775807) : ∃ k : Nat, wrap64 ((IntKind.u64.wrap a).tmod m) = k ∧ (k : Int) < m := by
  have := red_bd a m hm hm2
  exact ⟨(wrap64 ((IntKind.u64.wrap a).tmod m)).toNat, by omega, by omega⟩
/-- a write where no more may be done -/
theorem full_at {W : World} {p : Nat} (s : St) (i : Nat) (x : Int) (w : World) (a : Option Addr) (c : Nat) (h : At W w p s) (hx : x = i) (hi : i < s.n) (hl : s.left = 0) :
    Calls Tryd.prog 14 #[.pointer (some ⟨p, 0, none⟩), .int .i64 x, .slice a 512 c] w fun e w' => e = .returned (.iface 56 (.int .i64 5)) ∧ w = w' := by
  have e := h.e
  subst e hx
  exact write_full s i w a c h.d hi hl
theorem crash_n (s : St) (ks : List Int) (t : Int) (q : Nat) : (s.crash ks t q).n = s.n := by
  show ((s.kept ks).torn t q).n = s.n
  unfold St.torn
  by_cases e : t = -1
  · rw [if_pos e]; rfl
  · rw [if_neg e]; rfl
theorem crash_writes (s : St) (ks : List Int) (t : Int) (q : Nat) : (s.crash ks t q).writes = s.writes := by
  show ((s.kept ks).torn t q).writes = s.writes
  unfold St.torn
  by_cases e : t = -1
  · rw [if_pos e]; rfl
  · rw [if_neg e]; rfl
theorem flush_pend (s : St) : s.flush.pend = [] := rfl
theorem flush_late (s : St) (i : Nat) : s.flush.late i = none := rfl

theorem DiskAt.mono {B B' : Nat} {w : World} {s : St} (h : DiskAt B w s) (hB : B' ≤ B) : DiskAt B' w s := by
  have o := h.ok
  refine ⟨⟨o.n1, Nat.le_trans hB o.bD, Nat.le_trans hB o.bS, Nat.le_trans hB o.bL, o.DS, o.DL, o.SL, fun i b hi => ⟨Nat.le_trans hB (o.lt i b hi).1, (o.lt i b hi).2⟩, o.inj, o.pD, o.pS, o.pL, o.nd, o.mem, o.lim, o.l0, o.l1, o.us, o.un⟩, h.d0, h.d1, h.d2, h.d3, h.d4, h.dS, h.dL, h.fD, h.cS, h.fS, h.cL, h.fL, ⟨h.p.1, ?_⟩, h.cT, h.fT⟩
  rcases h.p.2 with hn | ⟨g, cap, cur, hv, hg, hh, r⟩
  · exact .inl hn
  · exact .inr ⟨g, cap, cur, hv, Nat.le_trans hB hg, hh, r⟩
theorem At.base {W w0 w : World} {p : Nat} {s : St} (h : At w0 w p s) (hb : Below W.heap.size W w0) : At W w p s := ⟨h.d.mono hb.size, hb.trans (h.b.mono hb.size), h.e⟩
/-! errors -/
theorem num_at {W w : World} {p : Nat} {s : St} (h : At W w p s) (hl : Laid W) (k : Int) : Calls Tryd.prog 13 #[.iface 56 (.int .i64 k)] w fun e w' => e = .returned (.int .i64 k) ∧ At W w' p s :=
  (num_err k w (hl.below h.b)).mono fun _ _ ⟨he, hb⟩ => ⟨he, h.below hb⟩
theorem num_from {W w : World} (hb : Below W.heap.size W w) (hl : Laid W) (k : Int) : Calls Tryd.prog 13 #[.iface 56 (.int .i64 k)] w fun e w' => e = .returned (.int .i64 k) ∧ Below W.heap.size W w' :=
  (num_err k w (hl.below hb)).mono fun _ _ ⟨he, hb2⟩ => ⟨he, hb.trans (hb2.mono hb.size)⟩
theorem read_err {W w : World} {p : Nat} {s : St} (h : At W w p s) (i : Int) (hi : i < 0 ∨ (s.n : Int) ≤ i) : Calls Tryd.prog 12 #[.pointer (some ⟨p, 0, none⟩), .int .i64 i] w fun e w' => e = .returned (.tuple #[.slice none 0 0, .iface 56 (.int .i64 4)]) ∧ w = w' := by
  have e := h.e
  subst e
  exact read_no s i w h.d hi
theorem write_err {W w : World} {p : Nat} {s : St} (h : At W w p s) (i : Int) (v : Value) (hi : i < 0 ∨ (s.n : Int) ≤ i) : Calls Tryd.prog 14 #[.pointer (some ⟨p, 0, none⟩), .int .i64 i, v] w fun e w' => e = .returned (.iface 56 (.int .i64 4)) ∧ w = w' := by
  have e := h.e
  subst e
  exact write_range s i w v h.d hi
theorem long_err {W w : World} {p : Nat} {s : St} (h : At W w p s) (i : Nat) (x : Int) (a : Option Addr) (n c : Nat) (hx : x = i) (hi : i < s.n) (hn : n ≠ 512) : Calls Tryd.prog 14 #[.pointer (some ⟨p, 0, none⟩), .int .i64 x, .slice a n c] w fun e w' => e = .returned (.iface 56 (.int .i64 2)) ∧ w = w' := by
  have e := h.e
  subst e hx
  exact write_long s i w a n c h.d hi hn
theorem rot_err {W w : World} {p : Nat} {s : St} (h : At W w p s) (i q y : Int) (hi : i < 0 ∨ (s.n : Int) ≤ i ∨ q < 0 ∨ 512 ≤ q) : Calls Tryd.prog 17 #[.pointer (some ⟨p, 0, none⟩), .int .i64 i, .int .i64 q, .int .u8 y] w fun e w' => e = .returned (.iface 56 (.int .i64 4)) ∧ w = w' := by
  have e := h.e
  subst e
  exact rot_range s i q y w h.d hi
theorem sure_at {W w : World} {p : Nat} {s : St} (h : At W w p s) : Calls Tryd.prog 9 #[] w fun e w' => e = .returned (.bool true) ∧ At W w' p s :=
  (sure_any w).mono fun _ _ ⟨he, hb⟩ => ⟨he, h.below hb⟩
theorem make_b (n : Nat) (x : Int) (hx : x = n) (hn : n ≤ 1000) (w : World) : (Instr.makeSlice 40 (.int .i64 x) (.int .i64 x)).run Tryd.prog w = .ok (.slice (some ⟨w.heap.size, 0, none⟩) n n) (w.alloc (.cells (Array.replicate n (.int .u8 0)) 5)) := by
  subst hx
  rw [run_make_row' (P := Tryd.prog) 40 5 (.int .u8 0) 1 Tryd.underlying40 info_b rfl .i64 .i64 n (by omega) (by omega) w, made_eq]
theorem alB (w : World) (o : Obj) : Below w.heap.size w (w.alloc o) := (Below.refl _ _).alloc (Nat.le_refl _) _

/-! a nil disk -/
set_option maxRecDepth 100000 in
theorem nil_read (i : Value) (w : World) : Calls Tryd.prog 12 #[.pointer none, i] w fun e w' => e = .returned (.tuple #[.slice none 0 0, .iface 56 (.int .i64 1)]) ∧ w = w' := by
  go_enter Tryd.func12, Tryd.ntmps12
  go_wp2
  go_ret2
  exact ⟨rfl, rfl⟩
set_option maxRecDepth 100000 in
theorem nil_write (i b : Value) (w : World) : Calls Tryd.prog 14 #[.pointer none, i, b] w fun e w' => e = .returned (.iface 56 (.int .i64 1)) ∧ w = w' := by
  go_enter Tryd.func14, Tryd.ntmps14
  go_wp2
  go_ret
  exact ⟨rfl, rfl⟩
set_option maxRecDepth 100000 in
theorem nil_flush (w : World) : Calls Tryd.prog 15 #[.pointer none] w fun e w' => e = .returned (.iface 56 (.int .i64 1)) ∧ w = w' := by
  go_enter Tryd.func15, Tryd.ntmps15
  go_wp2
  go_ret
  exact ⟨rfl, rfl⟩
set_option maxRecDepth 100000 in
theorem nil_crash (k t x : Value) (w : World) : Calls Tryd.prog 16 #[.pointer none, k, t, x] w fun e w' => e = .returned (.iface 56 (.int .i64 1)) ∧ w = w' := by
  go_enter Tryd.func16, Tryd.ntmps16
  go_wp2
  go_ret
  exact ⟨rfl, rfl⟩
set_option maxRecDepth 100000 in
theorem nil_rot (i q y : Value) (w : World) : Calls Tryd.prog 17 #[.pointer none, i, q, y] w fun e w' => e = .returned (.iface 56 (.int .i64 1)) ∧ w = w' := by
  go_enter Tryd.func17, Tryd.ntmps17
  go_wp2
  go_ret
  exact ⟨rfl, rfl⟩
set_option maxRecDepth 100000 in
theorem nil_limit (x : Value) (w : World) : Calls Tryd.prog 18 #[.pointer none, x] w fun e w' => e = .returned (.iface 56 (.int .i64 1)) ∧ w = w' := by
  go_enter Tryd.func18, Tryd.ntmps18
  go_wp2
  go_ret
  exact ⟨rfl, rfl⟩
set_option maxRecDepth 100000 in
theorem nil_size (w : World) : Calls Tryd.prog 19 #[.pointer none] w fun e w' => e = .returned (.int .i64 0) ∧ w = w' := by
  go_enter Tryd.func19, Tryd.ntmps19
  go_wp2
  go_ret
  exact ⟨rfl, rfl⟩
set_option maxRecDepth 100000 in
theorem nil_writes (w : World) : Calls Tryd.prog 20 #[.pointer none] w fun e w' => e = .returned (.int .i64 0) ∧ w = w' := by
  go_enter Tryd.func20, Tryd.ntmps20
  go_wp2
  go_ret
  exact ⟨rfl, rfl⟩
set_option maxRecDepth 100000 in
theorem nil_pending (w : World) : Calls Tryd.prog 21 #[.pointer none] w fun e w' => e = .returned (.slice none 0 0) ∧ w = w' := by
  go_enter Tryd.func21, Tryd.ntmps21
  go_wp2
  go_ret
  exact ⟨rfl, rfl⟩
end Go.Proofs.YtibopcbebcikbaaDoor

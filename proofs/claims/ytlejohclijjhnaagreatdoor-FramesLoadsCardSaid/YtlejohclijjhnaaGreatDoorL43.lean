/-
  WHAT A MACHINE ANSWERS TO WHAT CAN'T BE. Conditions: those that each lemma names.
  TWO MACHINES over one store, the one at work, the other at rest. Conditions: those that each lemma names.
-/
import Derived.Test.YtlejohclijjhnaaGreatDoorL38
import Derived.Test.YtlejohclijjhnaaGreatDoorL41
namespace Go.Proofs.YtlejohclijjhnaaGreatDoor.Fm
open Go.RowKit Ti Qd Go.Maps Go.WideMaps Ru

set_option maxRecDepth 100000 in
theorem run_nil (n : Int) (w : World) : Calls Tryz.prog 8 #[.pointer none, .int .i64 n] w fun e w' => e = .returned (.tuple #[.int .i64 0, .iface 63 (.int .i64 1)]) ∧ w = w' := by
  go_enter Tryz.func8, Tryz.ntmps8
  go_wp2
  go_ret2
  exact ⟨rfl, rfl⟩
set_option maxRecDepth 100000 in
theorem begin_nil (id j : Int) (w : World) : Calls Tryz.prog 7 #[.pointer none, .int .i64 id, .int .i64 j] w fun e w' => e = .returned (.iface 63 (.int .i64 1)) ∧ w = w' := by
  go_enter Tryz.func7, Tryz.ntmps7
  go_wp2
  go_ret
  exact ⟨rfl, rfl⟩
set_option maxRecDepth 100000 in
theorem out_nil (w : World) : Calls Tryz.prog 17 #[.pointer none] w fun e w' => e = .returned (.tuple #[.int .i64 0, .bool false]) ∧ w = w' := by
  go_enter Tryz.func17, Tryz.ntmps17
  go_wp2
  go_ret2
  exact ⟨rfl, rfl⟩
set_option maxRecDepth 100000 in
theorem frames_nil (w : World) : Calls Tryz.prog 9 #[.pointer none] w fun e w' => e = .returned (.slice none 0 0) ∧ w = w' := by
  go_enter Tryz.func9, Tryz.ntmps9
  go_wp2
  go_ret
  exact ⟨rfl, rfl⟩
set_option maxRecDepth 100000 in
theorem load_nil (ao : Option Addr) (n c : Nat) (w : World) : Calls Tryz.prog 13 #[.pointer none, .slice ao n c] w fun e w' => e = .returned (.iface 63 (.int .i64 1)) ∧ w = w' := by
  go_enter Tryz.func13, Tryz.ntmps13
  go_wp2
  go_ret
  exact ⟨rfl, rfl⟩
set_option maxRecDepth 100000 in
theorem mnew_nil (b l : Int) (w : World) : Calls Tryz.prog 10 #[.pointer none, .agg #[.int .u16 b, .int .u16 l]] w fun e w' => e = .returned (.tuple #[.pointer none, .iface 63 (.int .i64 1)]) ∧ Below w.heap.size w w' := by
  go_enter Tryz.func10, Tryz.ntmps10
  go_wp2
  go_ret2
  exact ⟨rfl, alX w _⟩
set_option maxRecDepth 100000 in
theorem mnew_bad (P b l : Nat) (hb : b < 65536) (hl : l < 65536) (hm : mayR b l = false) (w : World) : Calls Tryz.prog 10 #[.pointer (some ⟨P, 0, none⟩), Rv b l] w fun e w' => e = .returned (.tuple #[.pointer none, .iface 63 (.int .i64 11)]) ∧ Below w.heap.size w w' := by
  have HC := Lib.hid (fun w => check_bad b l hb hl hm w)
  unfold Rv at HC ⊢
  have HB := Lib.hid (alX w (.cells #[.int .u16 b, .int .u16 l] 44))
  obtain ⟨c0, c1⟩ := two_cells (heap_alloc_new w (.cells #[.int .u16 b, .int .u16 l] 44))
  clear hb hl hm
  go_enter Tryz.func10, Tryz.ntmps10
  go_wp2_with fail
  refine (HC.out _).mono ?_
  rintro e w1 ⟨rfl, hb⟩
  have HB1 := Lib.hid (HB.out.trans (hb.mono HB.out.size))
  clear hb
  go_wp2
  go_ret2
  exact ⟨rfl, HB1.out⟩
set_option maxRecDepth 100000 in
theorem begin_none {B P room b l G M : Nat} {s : MS} {w : World} {H : Nat → Prop} (h : Mc B P room b l G M s w H) (hu : s.U = []) (id j : Int) (ho : ¬ Ok s.L id) :
    Calls Tryz.prog 7 #[.pointer (some ⟨G, 0, none⟩), .int .i64 id, .int .i64 j] w fun e w' => e = .returned (.iface 63 (.int .i64 8)) ∧ Below w.heap.size w w' := by
  obtain ⟨ao, cp, c3, _, _⟩ := h.under
  rw [hu] at c3
  have c3 : w.cell? ⟨G, 3, none⟩ = some (.slice ao 0 cp) := c3
  have c0 := h.cells.1
  obtain ⟨Hs, k1, _⟩ := h.store
  have HL := Lib.hid (level_none k1 id ho)
  clear h hu ho k1
  go_enter Tryz.func7, Tryz.ntmps7
  go_wp2_with fail
  refine HL.out.mono ?_
  rintro e w1 ⟨rfl, hb⟩
  have HB := Lib.hid hb
  clear hb
  go_wp2
  go_ret
  exact ⟨rfl, HB.out⟩
set_option maxRecDepth 100000 in
theorem begin_bad {B P room b l G M : Nat} {s : MS} {w : World} {H : Nat → Prop} (h : Mc B P room b l G M s w H) (hu : s.U = []) (id j : Int) (n : Nat) (hn : n ≤ 37) (hl : Lv s.L n id) (hg : goB ((n : Int) + 3) j = false) :
    Calls Tryz.prog 7 #[.pointer (some ⟨G, 0, none⟩), .int .i64 id, .int .i64 j] w fun e w' => e = .returned (.iface 63 (.int .i64 1)) ∧ Below w.heap.size w w' := by
  obtain ⟨ao, cp, c3, _, _⟩ := h.under
  rw [hu] at c3
  have c3 : w.cell? ⟨G, 3, none⟩ = some (.slice ao 0 cp) := c3
  have c0 := h.cells.1
  obtain ⟨Hs, k1, _⟩ := h.store
  have hlev : (at' s.L id).lev = (n : Int) + 3 := by have := hl.2; omega
  have HL := Lib.hid (level_is k1 id hl.1 _ hlev)
  have HG := Lib.hid (fun w => goesOn_f ((n : Int) + 3) j (by omega) (by omega) w)
  rw [hg] at HG
  clear h hu hl k1 hlev hg
  generalize (n : Int) + 3 = lev at *
  go_enter Tryz.func7, Tryz.ntmps7
  go_wp2_with fail
  refine HL.out.mono ?_
  rintro e w1 ⟨rfl, hb⟩
  have HB := Lib.hid hb
  clear hb c3 c0
  go_wp2_with fail
  refine (HG.out _).mono ?_
  rintro e w2 ⟨rfl, rfl⟩
  go_wp2
  go_ret
  exact ⟨rfl, HB.out⟩
set_option maxRecDepth 100000 in
theorem begin_on {B P room b l G M : Nat} {s : MS} {w : World} {H : Nat → Prop} (h : Mc B P room b l G M s w H) (hu : s.U ≠ []) (id j : Int) :
    Calls Tryz.prog 7 #[.pointer (some ⟨G, 0, none⟩), .int .i64 id, .int .i64 j] w fun e w' => e = .returned (.iface 63 (.int .i64 14)) ∧ w = w' := by
  obtain ⟨ao, cp, c3, _, _⟩ := h.under
  have hlu : ¬ s.U.length = 0 := fun e => hu (List.eq_nil_of_length_eq_zero e)
  generalize s.U.length = un at *
  have hz : 0 < un := by omega
  clear h hu hlu
  go_enter Tryz.func7, Tryz.ntmps7
  go_wp2
  go_ret
  exact ⟨rfl, rfl⟩
set_option maxRecDepth 100000 in
theorem load_on {B P room b l G M : Nat} {s : MS} {w : World} {H : Nat → Prop} (h : Mc B P room b l G M s w H) (hu : s.U ≠ []) (al : Option Addr) (n c : Nat) :
    Calls Tryz.prog 13 #[.pointer (some ⟨G, 0, none⟩), .slice al n c] w fun e w' => e = .returned (.iface 63 (.int .i64 14)) ∧ w = w' := by
  obtain ⟨ao, cp, c3, _, _⟩ := h.under
  have hlu : ¬ s.U.length = 0 := fun e => hu (List.eq_nil_of_length_eq_zero e)
  generalize s.U.length = un at *
  have hz : 0 < un := by omega
  clear h hu hlu
  go_enter Tryz.func13, Tryz.ntmps13
  go_wp2
  go_ret
  exact ⟨rfl, rfl⟩
set_option maxRecDepth 100000 in
theorem run_none {B P room b l G M : Nat} {s : MS} {w : World} {H : Nat → Prop} (h : Mc B P room b l G M s w H) (hu : s.U = []) (n : Int) :
    Calls Tryz.prog 8 #[.pointer (some ⟨G, 0, none⟩), .int .i64 n] w fun e w' => e = .returned (.tuple #[.int .i64 0, .iface 63 (.int .i64 14)]) ∧ w = w' := by
  obtain ⟨ao, cp, c3, _, _⟩ := h.under
  rw [hu] at c3
  have c3 : w.cell? ⟨G, 3, none⟩ = some (.slice ao 0 cp) := c3
  clear h hu
  go_enter Tryz.func8, Tryz.ntmps8
  go_wp2
  go_ret2
  exact ⟨rfl, rfl⟩
set_option maxRecDepth 100000 in
theorem stand_nil (G : Nat) (w : World) : Calls Tryz.prog 28 #[.pointer (some ⟨G, 0, none⟩), .slice none 0 0] w fun e w' => e = .returned (.bool false) ∧ w = w' := by
  go_enter Tryz.func28, Tryz.ntmps28
  go_wp2
  go_ret
  exact ⟨rfl, rfl⟩
set_option maxRecDepth 100000 in
theorem load_empty {B P room b l G M : Nat} {s : MS} {w : World} {H : Nat → Prop} (h : Mc B P room b l G M s w H) (hu : s.U = []) :
    Calls Tryz.prog 13 #[.pointer (some ⟨G, 0, none⟩), .slice none 0 0] w fun e w' => e = .returned (.iface 63 (.int .i64 3)) ∧ w = w' := by
  obtain ⟨ao, cp, c3, _, _⟩ := h.under
  rw [hu] at c3
  have c3 : w.cell? ⟨G, 3, none⟩ = some (.slice ao 0 cp) := c3
  clear h hu
  go_enter Tryz.func13, Tryz.ntmps13
  go_wp2_with fail
  refine (stand_nil _ _).mono ?_
  rintro e wx ⟨rfl, rfl⟩
  go_wp2
  go_ret
  exact ⟨rfl, rfl⟩
end Go.Proofs.YtlejohclijjhnaaGreatDoor.Fm
namespace Go.Proofs.YtlejohclijjhnaaGreatDoor.Fm
open Go.RowKit Ti Qd Go.Maps Go.WideMaps Ru

def M2 (B P room b l G M : Nat) (s : MS) (G' M' : Nat) (t : MS) (w : World) (H : Nat → Prop) : Prop :=
  ∃ H1, Mc B P room b l G M s w H1 ∧ ∃ uv us gr, Mach B w P b l G' M' uv us gr t.K t.out ∧ us.map Prod.fst = t.U.reverse ∧ (∀ x ∈ ownL G' M' uv us gr, ¬ H1 x) ∧ H = fun y => y ∈ ownL G' M' uv us gr ∨ H1 y
theorem m2_fpt (B P room b l G M : Nat) (s : MS) (G' M' : Nat) (t : MS) : Fpt B (M2 B P room b l G M s G' M' t) where
  lt := by
    rintro w H ⟨H1, h1, uv, us, gr, h2, h3, h4, rfl⟩ y (hy | hy)
    · exact h2.lt hy
    · exact (mc_fpt B P room b l G M s).lt h1 y hy
  mv := by
    rintro w w' H ⟨H1, h1, uv, us, gr, h2, h3, h4, rfl⟩ hb
    exact ⟨H1, (mc_fpt B P room b l G M s).mv h1 fun y hy => hb y (.inr hy), uv, us, gr, h2.moved fun y hy => hb y (.inl hy), h3, h4, rfl⟩
section
variable {B P room b l G M : Nat} {s : MS} {G' M' : Nat} {t : MS} {w w0 w' : World} {H H0 : Nat → Prop} {bx : List (Nat × Obj)}
/-- the calls of the one at work, and the store's -/
theorem M2.mc (h : M2 B P room b l G M s G' M' t w H) : ∃ H1, Mc B P room b l G M s w H1 ∧ (∀ y, H1 y → H y) ∧ ∀ (s' : MS) (w' : World), Goz (Mc B P room b l G M s') w H1 w' → Goz (M2 B P room b l G M s' G' M' t) w H w' := by
  obtain ⟨H1, h1, uv, us, gr, h2, h3, h4, rfl⟩ := h
  refine ⟨H1, h1, fun y hy => .inr hy, fun s' w' ⟨H', k1, k2⟩ => ⟨_, ⟨H', k1, uv, us, gr, h2.moved fun y hy => k2.block y (h2.lt hy).2 (h4 y hy), h3, fun y hy e => ?_, rfl⟩, ⟨k2.os, k2.tape, k2.output, k2.size, fun y hy hn => k2.block y hy fun e => hn (.inr e), fun y hy => ?_⟩⟩⟩
  · rcases k2.own y e with q | q
    · exact h4 y hy q
    · have := (h2.lt hy).2; omega
  · rcases hy with hy | hy
    · exact .inl (.inl hy)
    · rcases k2.own y hy with q | q
      · exact .inl (.inr q)
      · exact .inr q
theorem M2.swap (h : M2 B P room b l G M s G' M' t w H) : ∃ H1, M2 B P room b l G' M' ⟨s.L, t.K, t.U, t.out⟩ G M s w H1 ∧ ∀ y, H1 y → H y := by
  obtain ⟨H1, ⟨uv1, us1, gr1, Hs, k1, k2, k3, k4, rfl⟩, uv, us, gr, h2, h3, h4, rfl⟩ := h
  refine ⟨_, ⟨_, ⟨uv, us, gr, Hs, k1, h2, h3, fun y hy e => h4 y hy (.inr e), rfl⟩, uv1, us1, gr1, k2, k3, fun y hy e => ?_, rfl⟩, fun y hy => ?_⟩
  · rcases e with e | e
    · exact h4 y e (.inl hy)
    · exact k4 y hy e
  · rcases hy with hy | hy | hy
    · exact .inr (.inl hy)
    · exact .inl hy
    · exact .inr (.inr hy)
theorem Bs.swap (h : Bs (M2 B P room b l G M s G' M' t) w0 H0 bx w) : Bs (M2 B P room b l G' M' ⟨s.L, t.K, t.U, t.out⟩ G M s) w0 H0 bx w := h.into fun _ hm => hm.swap
theorem Bs.call2 (h : Bs (M2 B P room b l G M s G' M' t) w0 H0 bx w) : ∃ H1, Mc B P room b l G M s w H1 ∧ ∀ (s' : MS) (w' : World), Goz (Mc B P room b l G M s') w H1 w' → Bs (M2 B P room b l G M s' G' M' t) w0 H0 bx w' := by
  obtain ⟨H, h1, _, h3⟩ := h.call
  obtain ⟨H1, k1, _, k3⟩ := h1.mc
  exact ⟨H1, k1, fun s' w' hg => h3 _ _ (k3 s' w' hg)⟩
theorem Bs.one (h : Bs (M2 B P room b l G M s G' M' t) w0 H0 bx w) : Bs (Mc B P room b l G M s) w0 H0 bx w := h.into fun H hm => by
  obtain ⟨H1, h1, h2, _⟩ := hm.mc
  exact ⟨H1, h1, h2⟩
/-- another machine, newly made -/
theorem Bs.with2 (h : Bs (Mc B P room b l G M s) w0 H0 bx w) (hb : Below w.heap.size w w') (g1 : w.heap.size ≤ G') (g2 : w.heap.size ≤ M') (hk : Mach B w' P b l G' M' nilS [] none K0 0) (L : List Sq) : Bs (M2 B P room b l G M s G' M' ⟨L, K0, [], 0⟩) w0 H0 bx w' := by
  obtain ⟨⟨H, h1, h2, h3⟩, h4⟩ := h
  have lt := fun y hy => ((mc_fpt B P room b l G M s).lt h1 y hy).2
  have own : ∀ y, y ∈ ownL G' M' nilS [] none → w.heap.size ≤ y := fun y hy => by
    simp [ownL, ownV, ownU, grL, Value.ownBlock] at hy
    omega
  refine ⟨⟨_, ⟨H, (mc_fpt B P room b l G M s).mv h1 fun y hy => hb.block y (lt y hy), nilS, [], none, hk, rfl, fun y hy e => ?_, rfl⟩, ?_, fun y hy => ⟨(h3 y hy).1, fun e => ?_, (hb.block _ (lt_of_block (h3 y hy).2.2)).trans (h3 y hy).2.2⟩⟩, h4⟩
  · have := lt _ e
    have := own y hy
    omega
  · have s1 := h2.size
    refine h2.trans ⟨hb.os, hb.tape, hb.output, hb.size, fun k hk _ => hb.block k hk, fun k hk => ?_⟩
    rcases hk with hk | hk
    · exact .inr (own k hk)
    · exact .inl hk
  · rcases e with e | e
    · have := own _ e
      have := lt_of_block (h3 y hy).2.2
      omega
    · exact (h3 y hy).2.1 e
end
theorem SOk.small {b l : Nat} {s : MS} (h : SOk b l s) : (∀ g ∈ s.U, g.got.length ≤ 1000) ∧ s.U.length ≤ 1000 := by
  have hst := h.stk
  have hi : Inv s.L := h.kn.inv
  generalize s.U = U at hst
  constructor
  · induction U with
    | nil => intro g hg; cases hg
    | cons f r ih =>
      intro g hg
      rcases List.mem_cons.1 hg with rfl | hg
      · obtain ⟨n, hf⟩ := Stk.top hst
        exact (fok_small hf).2.2
      · exact ih (Stk.rest hst) g hg
  · match U with
    | [] => exact Nat.zero_le _
    | f :: r =>
      obtain ⟨n, hf⟩ := Stk.top hst
      have := stk_len hi r f n hst hf
      show r.length + 1 ≤ 1000
      omega
theorem SOk.wide {b l : Nat} {s : MS} (h : SOk b l s) {M : List Sq} (hM : Inv M) (e : s.L <+: M) : SOk b l (s.wide M) := ⟨GOk.ext h.kn hM e, Stk.ext h.kn.inv e h.stk⟩
theorem run_cnt {b l k n : Nat} {s s' : MS} (h : runF b l k s = (k, s')) (hn : k ≤ n) : k ≤ (runF b l n s).1 := by
  obtain ⟨d, rfl⟩ : ∃ d, n = k + d := ⟨n - k, by omega⟩
  rw [runF_add, h]
  exact Nat.le_add_right _ _
theorem run_neg {B P room b l G M : Nat} {s : MS} {w : World} {H : Nat → Prop} (h : Mc B P room b l G M s w H) (hB : B ≤ w.heap.size) (hok : SOk b l s) (hu : s.U ≠ []) (hm : mayR b l = true) (h6 : room ≤ 65536) (hr : s.L.length ≤ room) (n : Int) (hn : n ≤ 0) :
    Calls Tryz.prog 8 #[.pointer (some ⟨G, 0, none⟩), .int .i64 n] w fun e w' => e = .returned (.tuple #[.int .i64 0, .nilIface]) ∧ Goz (Mc B P room b l G M s) w H w' := by
  have e : runF b l n.toNat s = (0, s) := by rw [show n.toNat = 0 by omega]; simp [runF]
  have := run_f h hB hok hu hm h6 n (by omega) (by rw [e]; exact hr)
  rw [e] at this
  exact this
theorem run_one {B P room b l G M : Nat} {s : MS} {w : World} {H : Nat → Prop} (h : Mc B P room b l G M s w H) (hB : B ≤ w.heap.size) (hok : SOk b l s) (hu : s.U ≠ []) (hm : mayR b l = true) (h6 : room ≤ 65536) (hr : (stepF b l s).L.length ≤ room) :
    Calls Tryz.prog 8 #[.pointer (some ⟨G, 0, none⟩), .int .i64 1] w fun e w' => e = .returned (.tuple #[.int .i64 1, .nilIface]) ∧ Goz (Mc B P room b l G M (stepF b l s)) w H w' := by
  have e : runF b l ((1 : Int)).toNat s = (1, stepF b l s) := by
    rw [show ((1 : Int)).toNat = 0 + 1 from rfl, runF_succ b l 0 hu]
    simp [runF]
  have := run_f h hB hok hu hm h6 1 (by decide) (by rw [e]; exact hr)
  rw [e] at this
  exact this
/-- what comes of a square, run to its end -/
structure Whole (r l : Nat) (L : List Sq) (id : Int) (j p : Nat) (T : Nat × MS) : Prop where
  ok0 : SOk r l ⟨L, K0, [nf id j], 0⟩
  eq : ∀ n, 4759 ≤ n → runF r l n ⟨L, K0, [nf id j], 0⟩ = T
  u : T.2.U = []
  ok : SOk r l T.2
  ext : L <+: T.2.L
  len : T.2.L.length ≤ 10000
  cnt : T.1 ≤ 4759
  pos : 0 < T.1
  kn : T.2.K id j = some T.2.out
  lv : Lv T.2.L p T.2.out
  win : ∀ n pl ox oy, Wn T.2.L (n + 1) id pl ox oy → Wn T.2.L n T.2.out (gens r l pl (2 ^ j)) (ox + (2 ^ (n + 2) : Nat)) (oy + (2 ^ (n + 2) : Nat))
  z : (T.2.out != 0) = true
theorem whole_ok (r l : Nat) {L : List Sq} (hi : Inv L) {p : Nat} {id : Int} (hl : Lv L (p + 1) id) (hp : p ≤ 3) {j : Nat} (hj : j ≤ p + 2) (hlen : L.length ≤ 300) : ∃ T, Whole r l L id j p T := by
  obtain ⟨s0, p0, b0⟩ := start_ok (b := r) (l := l) (K := K0) (gok_new r l hi) (n := p) hl (by omega) (j := (j : Int)) (by omega) (by omega) 0
  have hT := TT_le p hp
  obtain ⟨m, hm⟩ : ∃ m : Nat, m = 4759 := ⟨_, rfl⟩
  have ro := run_ok m s0
  have e := run_end s0 (n := m) (by rw [p0]; omega)
  have hpos := ro.pos (by simp) (by omega)
  have heq : ∀ n, 4759 ≤ n → runF r l n ⟨L, K0, [⟨id, (j : Int), 0, []⟩], 0⟩ = runF r l m ⟨L, K0, [⟨id, (j : Int), 0, []⟩], 0⟩ := fun n hn => by
    obtain ⟨d, rfl⟩ : ∃ d, n = m + d := ⟨n - m, by omega⟩
    rw [runF_add]
    generalize runF r l m ⟨L, K0, [⟨id, (j : Int), 0, []⟩], 0⟩ = R at e ⊢
    rw [runF_nil r l d e]
    rfl
  generalize runF r l m ⟨L, K0, [⟨id, (j : Int), 0, []⟩], 0⟩ = R at ro e hpos heq
  have hb := bas_end (ro.bas _ _ b0) e
  obtain ⟨q1, q2⟩ := ro.ok.kn.kn _ _ _ hb
  have hw := (q2 p _ _ _ ((Wn.self hl).ext hi ro.ext)).2
  have hc := ro.cnt
  have hln : R.2.L.length ≤ L.length + 2 * R.1 := ro.len
  have hz : Ok R.2.L R.2.out := hw.1.1
  refine ⟨R, s0, heq, e, ro.ok, ro.ext, by omega, by omega, hpos, hb, hw.1, fun n pl ox oy hv => ?_, ?_⟩
  · have h2 := (q2 n pl ox oy hv).2
    rw [show ((j : Int)).toNat = j from Int.toNat_natCast j] at h2
    exact h2
  · unfold Ok at hz
    rw [bne_iff_ne]
    intro h
    rw [h] at hz
    omega
end Go.Proofs.YtlejohclijjhnaaGreatDoor.Fm

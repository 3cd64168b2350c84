/-
  RLE: a writer in memory; endLine, put.
-/
import Derived.Test.YtangbokcdgganaaGreatDoorLh
import Derived.Lib.AppendStr
import Derived.Great.BuildSlice
namespace Go.Proofs.YtangbokcdgganaaGreatDoor
open Go.RowKit Ru Ce
open Go.Lib (strCells strCells_length)

theorem wp_appW {P : Program} {o : Oper} {a : Act} {w : World} {K : Act → World → Prop} {Q : Exit → Act → World → Prop} (s x : Operand) (t tn : TypeId)
    (ho : o.op = .call { callee := .builtin .append, args := #[s, x], argTypes := #[t, tn] }) (v u : Value) (hs : a.eval s = v) (hx : a.eval x = u) {v' : Value} {w' : World} (hr : (Builtin.append_ #[t, tn] o.type #[v, u]).run P w = .ok v' w') (h : K (a.put o.dst v') w') :
    Oper.wp P o a w K Q := by
  unfold Oper.wp execOp
  simp only [ho, resolve, invoke, builtin, Sem.run_bind, Sem.run_pure, Result.andThen_ok, List.map_toArray, List.map_cons, List.map_nil, hs, hx, hr]
  exact h
theorem wpList_appI {P : Program} {ops : Array Oper} {rest : List Oper} {o : Oper} {a : Act} {w : World} {Q : Exit → Act → World → Prop} (hgd : o.guard = none) (s x : Operand) (t tn : TypeId)
    (ho : o.op = .call { callee := .builtin .append, args := #[s, x], argTypes := #[t, tn] }) (v u : Value) (hs : a.eval s = v) (hx : a.eval x = u) {v' : Value} {w' : World} (hr : (Builtin.append_ #[t, tn] o.type #[v, u]).run P w = .ok v' w')
    (h : wpList P ops Q rest (a.put o.dst v') w') : wpList P ops Q (o :: rest) a w :=
  wpList_plain hgd fun _ hK => wp_appW s x t tn ho v u hs hx hr (hK _ _ h)
namespace Rl
theorem info_u8 : (Tryz.prog.info? 5).map (fun i => (i.zero, i.size, i.bytes)) = some (some (.int .u8 0), 1, 1) := by kernel_rfl
def bv (l : List UInt8) : List Value := l.map fun b => Value.int .u8 b.toNat
theorem bv_len (l : List UInt8) : (bv l).length = l.length := by simp [bv]
theorem bv_app (a b : List UInt8) : bv (a ++ b) = bv a ++ bv b := by simp [bv]
theorem bv_str (s : ByteArray) : strCells s = bv (bl s) := rfl
abbrev OwnB (w : World) (B : Nat) (v : Value) (l : List UInt8) : Prop := w.ownsRow B 5 1 v l.length (bv l)
theorem ownb_same {w w' : World} {B : Nat} {v : Value} {l : List UInt8} (h : OwnB w B v l) (hb : ∀ b, v.ownBlock = some b → w'.heap[b]? = w.heap[b]?) : OwnB w' B v l := by
  refine ⟨h.1, ?_⟩
  rcases h.2 with h2 | ⟨g, cap, cur, rfl, h3, h4, h5⟩
  · exact .inl h2
  · exact .inr ⟨g, cap, cur, rfl, h3, (hb g rfl).trans h4, h5⟩
theorem ownb_lt {w : World} {B : Nat} {v : Value} {l : List UInt8} (h : OwnB w B v l) {b : Nat} (hb : v.ownBlock = some b) : B ≤ b ∧ b < w.heap.size := by
  rcases h.2 with ⟨rfl, _⟩ | ⟨g, cap, cur, rfl, h3, h4, h5⟩
  · cases hb
  · obtain rfl : g = b := Option.some.inj hb
    exact ⟨h3, lt_of_block h4⟩
theorem ownb_val {w : World} {B : Nat} {v : Value} {l : List UInt8} (h : OwnB w B v l) : ∃ ao cap, v = .slice ao l.length cap := by
  rcases h.2 with ⟨rfl, h0⟩ | ⟨g, cap, cur, rfl, _⟩
  · exact ⟨none, 0, by rw [h0]⟩
  · exact ⟨_, _, rfl⟩
theorem ownb_ne {w : World} {B g : Nat} {v : Value} {l : List UInt8} {cs : Array Value} {f : Nat × Nat} (h : OwnB w B v l) (hg : w.heap[g]? = some (.cells cs 50 f)) : ¬ v.ownBlock = some g := fun e => by
  rcases h.2 with ⟨rfl, _⟩ | ⟨b, cap, cur, rfl, _, h4, _⟩
  · cases e
  · obtain rfl : b = g := Option.some.inj e
    rw [hg] at h4
    injection h4 with h4
    injection h4 with _ h4 _
    exact absurd h4 (by decide)
structure Wt (B : Nat) (w : World) (g : Nat) (tx : List UInt8) (ln : Nat) (v : Value) : Prop where
  blk : w.heap[g]? = some (.cells #[v, .int .i64 ln] 50 (0, 0))
  own : OwnB w B v tx
  le : B ≤ g
theorem Wt.ne {B : Nat} {w : World} {g : Nat} {tx : List UInt8} {ln : Nat} {v : Value} (h : Wt B w g tx ln v) : ¬ v.ownBlock = some g := ownb_ne h.own h.blk
theorem Wt.other {B : Nat} {w w' : World} {g : Nat} {tx : List UInt8} {ln : Nat} {v : Value} (h : Wt B w g tx ln v) (hb : Below w.heap.size w w') : Wt B w' g tx ln v :=
  ⟨(hb.block g (lt_of_block h.blk)).trans h.blk, ownb_same h.own (fun b hv => hb.block b (ownb_lt h.own hv).2), h.le⟩
theorem row2 {w : World} {g : Nat} {v0 v1 : Value} {t : TypeId} (h : w.heap[g]? = some (.cells #[v0, v1] t (0, 0))) :
    (w.cell? ⟨g, 0, none⟩ = some v0 ∧ w.cell? ⟨g, 1, none⟩ = some v1) ∧ w.frozen? ⟨g, 0, none⟩ = false ∧ w.frozen? ⟨g, 1, none⟩ = false :=
  ⟨⟨cell_of_row _ _ 0 _ _ _ h, cell_of_row _ _ 1 _ _ _ h⟩, frozen_of_row w g 0 _ _ h, frozen_of_row w g 1 _ _ h⟩
theorem set2_0 {w : World} {g : Nat} {a0 a1 : Value} {t : TypeId} (h : w.heap[g]? = some (.cells #[a0, a1] t (0, 0))) (v : Value) : (w.setCell ⟨g, 0, none⟩ v).heap[g]? = some (.cells #[v, a1] t (0, 0)) :=
  heap_setCell_same w g 0 _ _ v h
theorem set2_1 {w : World} {g : Nat} {a0 a1 : Value} {t : TypeId} (h : w.heap[g]? = some (.cells #[a0, a1] t (0, 0))) (v : Value) : (w.setCell ⟨g, 1, none⟩ v).heap[g]? = some (.cells #[a0, v] t (0, 0)) :=
  heap_setCell_same w g 1 _ _ v h
/-- what else was there and is no row of bytes stays -/
def Fr8 (g : Nat) (w w' : World) : Prop := w.heap.size ≤ w'.heap.size ∧ ∀ k cs t f, k ≠ g → t ≠ 5 → w.heap[k]? = some (.cells cs t f) → w'.heap[k]? = some (.cells cs t f)
theorem Fr8.trans {g : Nat} {w w1 w2 : World} (h : Fr8 g w w1) (k : Fr8 g w1 w2) : Fr8 g w w2 := ⟨Nat.le_trans h.1 k.1, fun i cs t f hi ht hc => k.2 i cs t f hi ht (h.2 i cs t f hi ht hc)⟩
theorem Fr8.below {g : Nat} {w w1 : World} (h : Below w.heap.size w w1) : Fr8 g w w1 := ⟨h.size, fun i _ _ _ _ _ hc => (h.block i (lt_of_block hc)).trans hc⟩
theorem Fr8.refl (g : Nat) (w : World) : Fr8 g w w := Fr8.below (Below.refl _ _)
theorem Fr8.set {g : Nat} {w : World} (o : Nat) (v : Value) : Fr8 g w (w.setCell ⟨g, o, none⟩ v) := ⟨by simp, fun i _ _ _ hi _ hc => (heap_setCell_other w ⟨g, o, none⟩ i v hi).trans hc⟩
/-- behind an append, the slice stored -/
theorem Wt.put {B : Nat} {w W w' : World} {g : Nat} {tx : List UInt8} {ln : Nat} {v v' : Value} (h : Wt B w g tx ln v) (hW : Below w.heap.size w W) {s : List UInt8} (h2 : w'.ownsRow B 5 1 v' (tx.length + s.length) (bv tx ++ bv s)) (h3 : W.grownBy w' v.ownBlock) :
    w'.cell? ⟨g, 0, none⟩ = some v ∧ w'.frozen? ⟨g, 0, none⟩ = false ∧ Wt B (w'.setCell ⟨g, 0, none⟩ v') g (tx ++ s) ln v' ∧ Below B w (w'.setCell ⟨g, 0, none⟩ v') ∧ Fr8 g w (w'.setCell ⟨g, 0, none⟩ v') := by
  have hfr : Fr8 g w w' := ⟨Nat.le_trans hW.size h3.size, fun k cs t f _ ht hc => (h3.block k (Nat.lt_of_lt_of_le (lt_of_block hc) hW.size) (fun e => by
    rcases h.own.2 with ⟨rfl, _⟩ | ⟨b, cap, cur, rfl, _, h4, _⟩
    · cases e
    · obtain rfl : b = k := Option.some.inj e.symm
      rw [hc] at h4
      injection h4 with h4
      injection h4 with _ h4 _
      exact ht h4)).trans ((hW.block k (lt_of_block hc)).trans hc)⟩
  have hlg := lt_of_block h.blk
  have hgw : w'.heap[g]? = some (.cells #[v, .int .i64 ln] 50 (0, 0)) := (h3.block g (Nat.lt_of_lt_of_le hlg hW.size) (fun e => h.ne e.symm)).trans ((hW.block g hlg).trans h.blk)
  rw [← bv_app, ← List.length_append] at h2
  have hne : ¬ v'.ownBlock = some g := ownb_ne h2 hgw
  refine ⟨cell_of_row _ _ 0 _ _ _ hgw, frozen_of_row _ _ 0 _ _ hgw, ⟨set2_0 hgw v', ownb_same h2 (fun b hv => heap_setCell_other w' ⟨g, 0, none⟩ b v' (fun e => hne (by rw [hv, e]))), h.le⟩, ?_, hfr.trans (Fr8.set 0 v')⟩
  refine Below.setCell (p := ⟨g, 0, none⟩) ?_ h.le v'
  refine ⟨h3.os.trans hW.os, h3.tape.trans hW.tape, h3.output.trans hW.output, Nat.le_trans hW.size h3.size, fun k hk => ?_⟩
  have hkw : k < w.heap.size := Nat.lt_of_lt_of_le hk (Nat.le_trans h.le (Nat.le_of_lt hlg))
  refine (h3.block k (Nat.lt_of_lt_of_le hkw hW.size) (fun e => ?_)).trans (hW.block k hkw)
  have := (ownb_lt h.own e.symm).1
  omega
/-- a writer, whatever its slice -/
def WtE (B : Nat) (w : World) (g : Nat) (p : List UInt8 × Nat) : Prop := ∃ v, Wt B w g p.1 p.2 v
def WtR (B g : Nat) (w : World) (p : List UInt8 × Nat) (e : Ending) (w' : World) : Prop := e = .returned (.tuple #[]) ∧ Below B w w' ∧ WtE B w' g p ∧ Fr8 g w w'
def endT (p : List UInt8 × Nat) : List UInt8 × Nat := (p.1 ++ [10], p.1.length + 1)
def putT (p : List UInt8 × Nat) (s : List UInt8) : List UInt8 × Nat := if 70 < p.1.length - p.2 + s.length then ((endT p).1 ++ s, (endT p).2) else (p.1 ++ s, p.2)
theorem cells1 (w : World) (c : Value) : ∀ j u, [c][j]? = some u → (w.alloc (.cells #[c] 5)).cell? ((⟨w.heap.size, 0, none⟩ : Addr).add j) = some u := fun j u h => by
  match j, h with
  | 0, h =>
    simp only [List.getElem?_cons_zero, Option.some.injEq] at h
    subst h
    exact cell_of_row _ _ 0 _ _ _ (heap_alloc_new w _)
  | j + 1, h => simp at h
set_option maxRecDepth 100000 in
set_option maxHeartbeats 1000000 in
theorem endLine_any (B g : Nat) (p : List UInt8 × Nat) (w : World) (h : WtE B w g p) (hl : p.1.length ≤ 1000000) (hB : B ≤ w.heap.size) :
    Calls Tryz.prog 17 #[.pointer (some ⟨g, 0, none⟩)] w (WtR B g w (endT p)) := by
  obtain ⟨tx, ln⟩ := p
  obtain ⟨v, h⟩ := h
  have hl : tx.length ≤ 1000000 := hl
  have h : Wt B w g tx ln v := h
  show Calls Tryz.prog 17 #[.pointer (some ⟨g, 0, none⟩)] w (WtR B g w (tx ++ [10], tx.length + 1))
  have hA := alX w (.cells #[.int .u8 10] 5)
  have h1 := h.other hA
  obtain ⟨i, hi, hz0, hz1, hz2⟩ := info_parts info_u8
  obtain ⟨v', w', hrun, hown, hgr, _⟩ := run_append_own (P := Tryz.prog) (w.alloc (.cells #[.int .u8 10] 5)) B 41 41 5 i (.int .u8 0) 1 1 Tryz.underlying41 hi hz0 hz1 hz2 rfl (by decide) v tx.length (bv tx) h1.own ⟨w.heap.size, 0, none⟩ 1 1 [.int .u8 10] rfl (cells1 w _) (by intro u hu; simp at hu; subst hu; rfl) (by unfold maxLen; omega) (by omega) (by simp; omega)
  obtain ⟨q0, f0, hp, hb, hfr⟩ := h.put hA (s := [10]) hown hgr
  have h5 := set2_1 hp.blk (.int .i64 ((tx.length : Int) + 1))
  obtain ⟨ao, cap, rfl⟩ := ownb_val h.own
  obtain ⟨ao2, cap2, hv2⟩ := ownb_val hp.own
  rw [List.length_append, show [(10 : UInt8)].length = 1 from rfl] at hv2
  subst hv2
  have HE := Lib.hid (show WtE B ((w'.setCell ⟨g, 0, none⟩ (.slice ao2 (tx.length + 1) cap2)).setCell ⟨g, 1, none⟩ (.int .i64 ((tx.length : Int) + 1))) g (tx ++ [10], tx.length + 1) from ⟨_, h5, ownb_same hp.own (fun b hv => heap_setCell_other _ ⟨g, 1, none⟩ b _ (fun e => hp.ne (by rw [hv, e]))), hp.le⟩)
  have HB := Lib.hid (hb.setCell (p := ⟨g, 1, none⟩) hp.le (.int .i64 ((tx.length : Int) + 1)))
  have HF := Lib.hid (hfr.trans (Fr8.set 1 (.int .i64 ((tx.length : Int) + 1))))
  obtain ⟨⟨c0, c1⟩, e0, e1⟩ := row2 h.blk
  have c0' := cell_al (.cells #[.int .u8 10] 5) c0
  obtain ⟨⟨d0, d1⟩, k0, k1⟩ := row2 hp.blk
  have hrun' : (Builtin.append_ #[41, 41] 41 #[.slice ao tx.length cap, .slice (some ⟨w.heap.size, 0, none⟩) 1 1]).run Tryz.prog (w.alloc (.cells #[.int .u8 10] 5)) = .ok (.slice ao2 (tx.length + 1) cap2) w' := hrun
  clear hA h1 hi hz0 hz1 hz2 hown hgr hp hb hfr h5 hrun h
  generalize hn : tx.length = n at *
  have n0 : (0 : Int) ≤ (n : Int) := by omega
  go_enter Tryz.func17, Tryz.ntmps17
  go_wp2_with (at_builtin; refine wpList_appI rfl (.tmp 6) (.tmp 7) 41 41 rfl (.slice ao n cap) (.slice (some ⟨w.heap.size, 0, none⟩) 1 1) (by simp [Act.eval]) (by simp [Act.eval]) hrun' ?_)
  go_end0
  exact ⟨rfl, HB.out, HE.out, HF.out⟩
set_option maxRecDepth 100000 in
set_option maxHeartbeats 1000000 in
/-- behind the line's end, if there was one -/
theorem putS_any (B g : Nat) (tx : List UInt8) (ln : Nat) (s : ByteArray) (w : World) (v : Value) (h : Wt B w g tx ln v) (n : Nat) (hn : tx.length = n) (hl : n ≤ 1000000) (hs : s.size ≤ 1000) (hB : B ≤ w.heap.size) :
    ∃ v' w', (∃ ao cap, v' = .slice ao (n + s.size) cap) ∧ (Builtin.append_ #[41, 9] 41 #[v, .string s]).run Tryz.prog w = .ok v' w' ∧
      w'.cell? ⟨g, 0, none⟩ = some v ∧ w'.frozen? ⟨g, 0, none⟩ = false ∧ WtE B (w'.setCell ⟨g, 0, none⟩ v') g (tx ++ bl s, ln) ∧ Below B w (w'.setCell ⟨g, 0, none⟩ v') ∧ Fr8 g w (w'.setCell ⟨g, 0, none⟩ v') := by
  obtain ⟨i, hi, hz0, hz1, hz2⟩ := info_parts info_u8
  obtain ⟨v', w', hrun, hown, hgr, _⟩ := Lib.run_append_own_string (P := Tryz.prog) w B 41 9 41 5 i Tryz.underlying41 Tryz.underlying9 hi hz0 hz1 hz2 v tx.length (bv tx) h.own s (by unfold maxLen; omega) (by omega) hB
  rw [bv_str, ← bl_size] at hown
  obtain ⟨q0, f0, hp, hb, hfr⟩ := h.put (Below.refl _ _) hown hgr
  have e2 := ownb_val hp.own
  rw [List.length_append, bl_size, hn] at e2
  exact ⟨v', w', e2, hrun, q0, f0, ⟨v', hp⟩, hb, hfr⟩
theorem putT_yes {p : List UInt8 × Nat} {s : List UInt8} (h : 70 < p.1.length - p.2 + s.length) : putT p s = ((endT p).1 ++ s, (endT p).2) := if_pos h
theorem putT_no {p : List UInt8 × Nat} {s : List UInt8} (h : ¬ 70 < p.1.length - p.2 + s.length) : putT p s = (p.1 ++ s, p.2) := if_neg h
set_option maxRecDepth 100000 in
set_option maxHeartbeats 2000000 in
theorem put_any (B g : Nat) (p : List UInt8 × Nat) (s : ByteArray) (w : World) (h : WtE B w g p) (hp : p.2 ≤ p.1.length) (hl : p.1.length + s.size ≤ 999000) (hs : s.size ≤ 1000) (hB : B ≤ w.heap.size) :
    Calls Tryz.prog 16 #[.pointer (some ⟨g, 0, none⟩), .string s] w (WtR B g w (putT p (bl s))) := by
  have HBB := Lib.hid hB
  obtain ⟨tx, ln⟩ := p
  have hp : ln ≤ tx.length := hp
  have hl : tx.length + s.size ≤ 999000 := hl
  have H := Lib.hid h
  obtain ⟨v, hv⟩ := h
  have hv : Wt B w g tx ln v := hv
  obtain ⟨ao, cap, rfl⟩ := ownb_val hv.own
  obtain ⟨⟨c0, c1⟩, f0, f1⟩ := row2 hv.blk
  have n0 : (0 : Int) ≤ (tx.length : Int) := by omega
  have nl : (tx.length : Int) + (s.size : Int) ≤ 999000 := by omega
  have np : (ln : Int) ≤ (tx.length : Int) := by omega
  have ns : (s.size : Int) ≤ 1000 := by omega
  have c0d : w.drew.cell? ⟨g, 0, none⟩ = some (.slice ao tx.length cap) := c0
  have c1d : w.drew.cell? ⟨g, 1, none⟩ = some (.int .i64 ln) := c1
  have HD : Hid (WtE B w.drew g (tx, ln)) := Lib.hid ⟨_, hv.other (bdr w)⟩
  by_cases hq : 70 < tx.length - ln + s.size
  · rw [putT_yes (show 70 < (tx, ln).1.length - (tx, ln).2 + (bl s).length by rw [bl_size]; exact hq)]
    have hq' : (70 : Int) < (tx.length : Int) - (ln : Int) + (s.size : Int) := by omega
    have HE := Lib.hid (fun (W : World) (hb : B ≤ W.heap.size) (hW : WtE B W g (tx, ln)) => endLine_any B g (tx, ln) W hW (by show tx.length ≤ 1000000; omega) hb)
    have HP := Lib.hid (fun (W : World) (v : Value) (hb : B ≤ W.heap.size) (hW : Wt B W g (tx ++ [10]) (tx.length + 1) v) => putS_any B g (tx ++ [10]) (tx.length + 1) s W v hW (tx.length + 1) (by rw [List.length_append]; rfl) (by omega) hs hb)
    clear hv hq hp hl hs
    go_enter Tryz.func16, Tryz.ntmps16
    go_upto_region 0 with (fail)
    go_region
    go_upto_region 2 with (go_at_call 17; refine (HE.out w.drew HBB.out HD.out).mono ?_; rintro e w1 ⟨rfl, hb1, he1, hf1⟩)
    have hBw : B ≤ w1.heap.size := Nat.le_trans HBB.out hb1.size
    obtain ⟨v, hv⟩ := he1
    have hv : Wt B w1 g (tx ++ [10]) (tx.length + 1) v := hv
    obtain ⟨ao1, cap1, hvv⟩ := ownb_val hv.own
    rw [List.length_append, show [(10 : UInt8)].length = 1 from rfl] at hvv
    subst hvv
    obtain ⟨v', w', ⟨ao2, cap2, rfl⟩, hrun, q0, g0, hE, hB2, hF2⟩ := HP.out w1 _ hBw hv
    obtain ⟨⟨d0, d1⟩, k0, k1⟩ := row2 hv.blk
    have HX := Lib.hid (show Below B w _ from (show Below B w w1 from ⟨hb1.os, hb1.tape, hb1.output, hb1.size, hb1.block⟩).trans hB2)
    have HEE := Lib.hid hE
    have HF := Lib.hid ((Fr8.below (g := g) (bdr w)).trans (hf1.trans hF2))
    clear hv hE hB2 hb1 hBw hf1 hF2
    go_wp2_with (at_builtin; refine wpList_appI rfl (.tmp 24) (.tmp 25) 41 9 rfl (.slice ao1 (tx.length + 1) cap1) (.string s) (by simp [Act.eval]) (by simp [Act.eval]) hrun ?_)
    go_end0
    exact ⟨rfl, HX.out, HEE.out, HF.out⟩
  · rw [putT_no (show ¬ 70 < (tx, ln).1.length - (tx, ln).2 + (bl s).length by rw [bl_size]; exact hq)]
    have hq' : (tx.length : Int) - (ln : Int) + (s.size : Int) ≤ 70 := by omega
    obtain ⟨v', w', ⟨ao2, cap2, rfl⟩, hrun, q0, g0, hE, hB2, hF2⟩ := putS_any B g tx ln s w.drew _ (hv.other (bdr w)) tx.length rfl (by omega) hs HBB.out
    have HX := Lib.hid (show Below B w _ from ⟨hB2.os, hB2.tape, hB2.output, hB2.size, hB2.block⟩)
    have HEE := Lib.hid hE
    have HF := Lib.hid ((Fr8.below (g := g) (bdr w)).trans hF2)
    clear hv hq hp hl hs hE hB2 hF2
    go_enter Tryz.func16, Tryz.ntmps16
    go_upto_region 0 with (fail)
    go_region
    go_wp2_with (at_builtin; refine wpList_appI rfl (.tmp 24) (.tmp 25) 41 9 rfl (.slice ao tx.length cap) (.string s) (by simp [Act.eval]) (by simp [Act.eval]) hrun ?_)
    go_end0
    exact ⟨rfl, HX.out, HEE.out, HF.out⟩
end Rl
end Go.Proofs.YtangbokcdgganaaGreatDoor

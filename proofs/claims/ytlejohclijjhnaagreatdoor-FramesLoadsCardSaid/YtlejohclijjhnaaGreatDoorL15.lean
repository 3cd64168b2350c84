/-
  THE WALK of joined: four of one level, of a level that may be joined or not; the first of four that is not there; no store. Conditions: the store lies in memory.
-/
import Derived.Test.YtlejohclijjhnaaGreatDoorL14
namespace Go.Proofs.YtlejohclijjhnaaGreatDoor
open Go.RowKit Ti Qd Go.Maps Go.WideMaps

theorem number_any {B : Nat} {w : World} {P : Nat} {L : List Sq} {room : Nat} {H : Nat → Prop} (h : St B w P L room H) (q : Sq) (hq : Bd L q) (hg : Gd L (L.length + 1) q) (hr : (put L q).length ≤ room) :
    Calls Tryz.prog 57 #[.pointer (some ⟨P, 0, none⟩), qv q] w fun e w' => e = .returned (.tuple #[.int .i64 (nr L q), .nilIface]) ∧ Goes B w P room H (put L q) w' := by
  by_cases hm : q ∈ L
  · have h6 : L.length ≤ 65536 := by
      obtain ⟨M, sv, hs, _⟩ := h
      have := hs.rm
      have := hs.r6
      omega
    rw [nr_in hm]
    exact (number_in h q (hq.i7 h6) hm).mono fun e w' ⟨h1, h2⟩ => ⟨h1, .same h h2⟩
  · have e : put L q = L ++ [q] := if_neg hm
    rw [e] at hr ⊢
    rw [nr_new hm]
    exact number_new h q hq hg hm (by simp at hr; omega)
/-- so many of four are laid -/
def f4 (a b c d : Sq) : Nat → Array Value
  | 0 => #[.int .i64 0, .int .i64 0, .int .u64 0, .int .i64 0, .int .i64 0, .int .i64 0, .int .i64 0, .int .i64 0, .int .i64 0, .int .u64 0, .int .i64 0, .int .i64 0, .int .i64 0, .int .i64 0, .int .i64 0, .int .i64 0, .int .u64 0, .int .i64 0, .int .i64 0, .int .i64 0, .int .i64 0, .int .i64 0, .int .i64 0, .int .u64 0, .int .i64 0, .int .i64 0, .int .i64 0, .int .i64 0]
  | 1 => #[.int .i64 a.lev, .int .i64 a.cnt, .int .u64 (rg a.til), .int .i64 a.k0, .int .i64 a.k1, .int .i64 a.k2, .int .i64 a.k3, .int .i64 0, .int .i64 0, .int .u64 0, .int .i64 0, .int .i64 0, .int .i64 0, .int .i64 0, .int .i64 0, .int .i64 0, .int .u64 0, .int .i64 0, .int .i64 0, .int .i64 0, .int .i64 0, .int .i64 0, .int .i64 0, .int .u64 0, .int .i64 0, .int .i64 0, .int .i64 0, .int .i64 0]
  | 2 => #[.int .i64 a.lev, .int .i64 a.cnt, .int .u64 (rg a.til), .int .i64 a.k0, .int .i64 a.k1, .int .i64 a.k2, .int .i64 a.k3, .int .i64 b.lev, .int .i64 b.cnt, .int .u64 (rg b.til), .int .i64 b.k0, .int .i64 b.k1, .int .i64 b.k2, .int .i64 b.k3, .int .i64 0, .int .i64 0, .int .u64 0, .int .i64 0, .int .i64 0, .int .i64 0, .int .i64 0, .int .i64 0, .int .i64 0, .int .u64 0, .int .i64 0, .int .i64 0, .int .i64 0, .int .i64 0]
  | 3 => #[.int .i64 a.lev, .int .i64 a.cnt, .int .u64 (rg a.til), .int .i64 a.k0, .int .i64 a.k1, .int .i64 a.k2, .int .i64 a.k3, .int .i64 b.lev, .int .i64 b.cnt, .int .u64 (rg b.til), .int .i64 b.k0, .int .i64 b.k1, .int .i64 b.k2, .int .i64 b.k3, .int .i64 c.lev, .int .i64 c.cnt, .int .u64 (rg c.til), .int .i64 c.k0, .int .i64 c.k1, .int .i64 c.k2, .int .i64 c.k3, .int .i64 0, .int .i64 0, .int .u64 0, .int .i64 0, .int .i64 0, .int .i64 0, .int .i64 0]
  | _ => #[.int .i64 a.lev, .int .i64 a.cnt, .int .u64 (rg a.til), .int .i64 a.k0, .int .i64 a.k1, .int .i64 a.k2, .int .i64 a.k3, .int .i64 b.lev, .int .i64 b.cnt, .int .u64 (rg b.til), .int .i64 b.k0, .int .i64 b.k1, .int .i64 b.k2, .int .i64 b.k3, .int .i64 c.lev, .int .i64 c.cnt, .int .u64 (rg c.til), .int .i64 c.k0, .int .i64 c.k1, .int .i64 c.k2, .int .i64 c.k3, .int .i64 d.lev, .int .i64 d.cnt, .int .u64 (rg d.til), .int .i64 d.k0, .int .i64 d.k1, .int .i64 d.k2, .int .i64 d.k3]
structure JR (w : World) (ka kb kc kd : Int) (a b c d : Sq) (wr : World) (k : Nat) : Prop where
  bel : Below w.heap.size w wr
  h0 : wr.heap[w.heap.size]? = some (.cells #[.int .i64 ka, .int .i64 kb, .int .i64 kc, .int .i64 kd] 93 (0, 0))
  h1 : wr.heap[w.heap.size + 1]? = some (.cells #[.int .i64 0, .int .i64 0, .int .u64 0, .int .i64 0, .int .i64 0, .int .i64 0, .int .i64 0] 95 (0, 0))
  h2 : wr.heap[w.heap.size + 1 + 1]? = some (.cells (f4 a b c d k) 163 (0, 0))
theorem new_at {w : World} {o : Obj} {n : Nat} (h : w.heap.size = n) : (w.alloc o).heap[n]? = some o := h ▸ heap_alloc_new w o
theorem jr_start (w : World) (ka kb kc kd : Int) (a b c d : Sq) : JR w ka kb kc kd a b c d (((w.alloc (.cells #[.int .i64 ka, .int .i64 kb, .int .i64 kc, .int .i64 kd] 93)).alloc zq).alloc (.cells #[.int .i64 0, .int .i64 0, .int .u64 0, .int .i64 0, .int .i64 0, .int .i64 0, .int .i64 0, .int .i64 0, .int .i64 0, .int .u64 0, .int .i64 0, .int .i64 0, .int .i64 0, .int .i64 0, .int .i64 0, .int .i64 0, .int .u64 0, .int .i64 0, .int .i64 0, .int .i64 0, .int .i64 0, .int .i64 0, .int .i64 0, .int .u64 0, .int .i64 0, .int .i64 0, .int .i64 0, .int .i64 0] 163)) 0 := by
  refine ⟨((alX _ _).trans ((alX _ _).mono (by simp))).trans ((alX _ _).mono (by simp; omega)), ?_, ?_, ?_⟩
  · exact (heap_alloc_old _ _ (by simp; omega)).trans ((heap_alloc_old _ _ (by simp)).trans (heap_alloc_new w _))
  · exact (heap_alloc_old _ _ (by simp)).trans (new_at (by simp))
  · exact new_at (by simp)
theorem JR.below {w wr w1 : World} {ka kb kc kd : Int} {a b c d : Sq} {k : Nat} (h : JR w ka kb kc kd a b c d wr k) (hb : Below wr.heap.size wr w1) : JR w ka kb kc kd a b c d w1 k :=
  ⟨h.bel.trans (hb.mono h.bel.size), (hb.block _ (lt_of_block h.h0)).trans h.h0, (hb.block _ (lt_of_block h.h1)).trans h.h1, (hb.block _ (lt_of_block h.h2)).trans h.h2⟩
set_option maxRecDepth 100000 in
theorem idx4_0 (a b c d : Int) (w : World) : (Instr.index 93 (.agg #[.int .i64 a, .int .i64 b, .int .i64 c, .int .i64 d]) (.int .i64 0)).run Tryz.prog w = .ok (.int .i64 a) w := by kernel_rfl
set_option maxRecDepth 100000 in
theorem idx4_1 (a b c d : Int) (w : World) : (Instr.index 93 (.agg #[.int .i64 a, .int .i64 b, .int .i64 c, .int .i64 d]) (.int .i64 1)).run Tryz.prog w = .ok (.int .i64 b) w := by kernel_rfl
set_option maxRecDepth 100000 in
theorem idx4_2 (a b c d : Int) (w : World) : (Instr.index 93 (.agg #[.int .i64 a, .int .i64 b, .int .i64 c, .int .i64 d]) (.int .i64 2)).run Tryz.prog w = .ok (.int .i64 c) w := by kernel_rfl
set_option maxRecDepth 100000 in
theorem idx4_3 (a b c d : Int) (w : World) : (Instr.index 93 (.agg #[.int .i64 a, .int .i64 b, .int .i64 c, .int .i64 d]) (.int .i64 3)).run Tryz.prog w = .ok (.int .i64 d) w := by kernel_rfl
set_option maxRecDepth 100000 in
theorem idx28_0 (a b c d : Sq) (w : World) : (Instr.index 163 (.agg (f4 a b c d 4)) (.int .i64 0)).run Tryz.prog w = .ok (.agg #[.int .i64 a.lev, .int .i64 a.cnt, .int .u64 (rg a.til), .int .i64 a.k0, .int .i64 a.k1, .int .i64 a.k2, .int .i64 a.k3]) w := by kernel_rfl
set_option maxRecDepth 100000 in
theorem idx28_1 (a b c d : Sq) (w : World) : (Instr.index 163 (.agg (f4 a b c d 4)) (.int .i64 1)).run Tryz.prog w = .ok (.agg #[.int .i64 b.lev, .int .i64 b.cnt, .int .u64 (rg b.til), .int .i64 b.k0, .int .i64 b.k1, .int .i64 b.k2, .int .i64 b.k3]) w := by kernel_rfl
set_option maxRecDepth 100000 in
theorem idx28_2 (a b c d : Sq) (w : World) : (Instr.index 163 (.agg (f4 a b c d 4)) (.int .i64 2)).run Tryz.prog w = .ok (.agg #[.int .i64 c.lev, .int .i64 c.cnt, .int .u64 (rg c.til), .int .i64 c.k0, .int .i64 c.k1, .int .i64 c.k2, .int .i64 c.k3]) w := by kernel_rfl
set_option maxRecDepth 100000 in
theorem idx28_3 (a b c d : Sq) (w : World) : (Instr.index 163 (.agg (f4 a b c d 4)) (.int .i64 3)).run Tryz.prog w = .ok (.agg #[.int .i64 d.lev, .int .i64 d.cnt, .int .u64 (rg d.til), .int .i64 d.k0, .int .i64 d.k1, .int .i64 d.k2, .int .i64 d.k3]) w := by kernel_rfl
/-- the square 0 of four laid -/
theorem JR.lay0 {w wr : World} {ka kb kc kd : Int} {a b c d : Sq} (h : JR w ka kb kc kd a b c d wr 0) : JR w ka kb kc kd a b c d ((((((((((((((wr).setCell ⟨w.heap.size + 1 + 1, 0, none⟩ (.int .i64 a.lev))).setCell ⟨w.heap.size + 1 + 1, 1, none⟩ (.int .i64 a.cnt))).setCell ⟨w.heap.size + 1 + 1, 2, none⟩ (.int .u64 (rg a.til)))).setCell ⟨w.heap.size + 1 + 1, 3, none⟩ (.int .i64 a.k0))).setCell ⟨w.heap.size + 1 + 1, 4, none⟩ (.int .i64 a.k1))).setCell ⟨w.heap.size + 1 + 1, 5, none⟩ (.int .i64 a.k2))).setCell ⟨w.heap.size + 1 + 1, 6, none⟩ (.int .i64 a.k3)) 1 := by
  have hne : ∀ k, k ≠ w.heap.size + 1 + 1 → ((((((((((((((wr).setCell ⟨w.heap.size + 1 + 1, 0, none⟩ (.int .i64 a.lev))).setCell ⟨w.heap.size + 1 + 1, 1, none⟩ (.int .i64 a.cnt))).setCell ⟨w.heap.size + 1 + 1, 2, none⟩ (.int .u64 (rg a.til)))).setCell ⟨w.heap.size + 1 + 1, 3, none⟩ (.int .i64 a.k0))).setCell ⟨w.heap.size + 1 + 1, 4, none⟩ (.int .i64 a.k1))).setCell ⟨w.heap.size + 1 + 1, 5, none⟩ (.int .i64 a.k2))).setCell ⟨w.heap.size + 1 + 1, 6, none⟩ (.int .i64 a.k3)).heap[k]? = wr.heap[k]? := fun k hk => by
    rw [heap_setCell_other _ _ k _ hk, heap_setCell_other _ _ k _ hk, heap_setCell_other _ _ k _ hk, heap_setCell_other _ _ k _ hk, heap_setCell_other _ _ k _ hk, heap_setCell_other _ _ k _ hk, heap_setCell_other _ _ k _ hk]
  refine ⟨?_, (hne _ (by omega)).trans h.h0, (hne _ (by omega)).trans h.h1, ?_⟩
  · exact (((((((h.bel.setCell (p := ⟨w.heap.size + 1 + 1, 0, none⟩) (by show w.heap.size ≤ w.heap.size + 1 + 1; omega) _).setCell (p := ⟨w.heap.size + 1 + 1, 1, none⟩) (by show w.heap.size ≤ w.heap.size + 1 + 1; omega) _).setCell (p := ⟨w.heap.size + 1 + 1, 2, none⟩) (by show w.heap.size ≤ w.heap.size + 1 + 1; omega) _).setCell (p := ⟨w.heap.size + 1 + 1, 3, none⟩) (by show w.heap.size ≤ w.heap.size + 1 + 1; omega) _).setCell (p := ⟨w.heap.size + 1 + 1, 4, none⟩) (by show w.heap.size ≤ w.heap.size + 1 + 1; omega) _).setCell (p := ⟨w.heap.size + 1 + 1, 5, none⟩) (by show w.heap.size ≤ w.heap.size + 1 + 1; omega) _).setCell (p := ⟨w.heap.size + 1 + 1, 6, none⟩) (by show w.heap.size ≤ w.heap.size + 1 + 1; omega) _)
  · have h0 := heap_setCell_same wr (w.heap.size + 1 + 1) 0 _ _ (.int .i64 a.lev) h.h2
    have h1 := heap_setCell_same _ (w.heap.size + 1 + 1) 1 _ _ (.int .i64 a.cnt) h0
    have h2 := heap_setCell_same _ (w.heap.size + 1 + 1) 2 _ _ (.int .u64 (rg a.til)) h1
    have h3 := heap_setCell_same _ (w.heap.size + 1 + 1) 3 _ _ (.int .i64 a.k0) h2
    have h4 := heap_setCell_same _ (w.heap.size + 1 + 1) 4 _ _ (.int .i64 a.k1) h3
    have h5 := heap_setCell_same _ (w.heap.size + 1 + 1) 5 _ _ (.int .i64 a.k2) h4
    have h6 := heap_setCell_same _ (w.heap.size + 1 + 1) 6 _ _ (.int .i64 a.k3) h5
    rw [h6]
    simp [f4]
/-- the square 1 of four laid -/
theorem JR.lay1 {w wr : World} {ka kb kc kd : Int} {a b c d : Sq} (h : JR w ka kb kc kd a b c d wr 1) : JR w ka kb kc kd a b c d ((((((((((((((wr).setCell ⟨w.heap.size + 1 + 1, 7, none⟩ (.int .i64 b.lev))).setCell ⟨w.heap.size + 1 + 1, 8, none⟩ (.int .i64 b.cnt))).setCell ⟨w.heap.size + 1 + 1, 9, none⟩ (.int .u64 (rg b.til)))).setCell ⟨w.heap.size + 1 + 1, 10, none⟩ (.int .i64 b.k0))).setCell ⟨w.heap.size + 1 + 1, 11, none⟩ (.int .i64 b.k1))).setCell ⟨w.heap.size + 1 + 1, 12, none⟩ (.int .i64 b.k2))).setCell ⟨w.heap.size + 1 + 1, 13, none⟩ (.int .i64 b.k3)) 2 := by
  have hne : ∀ k, k ≠ w.heap.size + 1 + 1 → ((((((((((((((wr).setCell ⟨w.heap.size + 1 + 1, 7, none⟩ (.int .i64 b.lev))).setCell ⟨w.heap.size + 1 + 1, 8, none⟩ (.int .i64 b.cnt))).setCell ⟨w.heap.size + 1 + 1, 9, none⟩ (.int .u64 (rg b.til)))).setCell ⟨w.heap.size + 1 + 1, 10, none⟩ (.int .i64 b.k0))).setCell ⟨w.heap.size + 1 + 1, 11, none⟩ (.int .i64 b.k1))).setCell ⟨w.heap.size + 1 + 1, 12, none⟩ (.int .i64 b.k2))).setCell ⟨w.heap.size + 1 + 1, 13, none⟩ (.int .i64 b.k3)).heap[k]? = wr.heap[k]? := fun k hk => by
    rw [heap_setCell_other _ _ k _ hk, heap_setCell_other _ _ k _ hk, heap_setCell_other _ _ k _ hk, heap_setCell_other _ _ k _ hk, heap_setCell_other _ _ k _ hk, heap_setCell_other _ _ k _ hk, heap_setCell_other _ _ k _ hk]
  refine ⟨?_, (hne _ (by omega)).trans h.h0, (hne _ (by omega)).trans h.h1, ?_⟩
  · exact (((((((h.bel.setCell (p := ⟨w.heap.size + 1 + 1, 7, none⟩) (by show w.heap.size ≤ w.heap.size + 1 + 1; omega) _).setCell (p := ⟨w.heap.size + 1 + 1, 8, none⟩) (by show w.heap.size ≤ w.heap.size + 1 + 1; omega) _).setCell (p := ⟨w.heap.size + 1 + 1, 9, none⟩) (by show w.heap.size ≤ w.heap.size + 1 + 1; omega) _).setCell (p := ⟨w.heap.size + 1 + 1, 10, none⟩) (by show w.heap.size ≤ w.heap.size + 1 + 1; omega) _).setCell (p := ⟨w.heap.size + 1 + 1, 11, none⟩) (by show w.heap.size ≤ w.heap.size + 1 + 1; omega) _).setCell (p := ⟨w.heap.size + 1 + 1, 12, none⟩) (by show w.heap.size ≤ w.heap.size + 1 + 1; omega) _).setCell (p := ⟨w.heap.size + 1 + 1, 13, none⟩) (by show w.heap.size ≤ w.heap.size + 1 + 1; omega) _)
  · have h0 := heap_setCell_same wr (w.heap.size + 1 + 1) 7 _ _ (.int .i64 b.lev) h.h2
    have h1 := heap_setCell_same _ (w.heap.size + 1 + 1) 8 _ _ (.int .i64 b.cnt) h0
    have h2 := heap_setCell_same _ (w.heap.size + 1 + 1) 9 _ _ (.int .u64 (rg b.til)) h1
    have h3 := heap_setCell_same _ (w.heap.size + 1 + 1) 10 _ _ (.int .i64 b.k0) h2
    have h4 := heap_setCell_same _ (w.heap.size + 1 + 1) 11 _ _ (.int .i64 b.k1) h3
    have h5 := heap_setCell_same _ (w.heap.size + 1 + 1) 12 _ _ (.int .i64 b.k2) h4
    have h6 := heap_setCell_same _ (w.heap.size + 1 + 1) 13 _ _ (.int .i64 b.k3) h5
    rw [h6]
    simp [f4]
/-- the square 2 of four laid -/
theorem JR.lay2 {w wr : World} {ka kb kc kd : Int} {a b c d : Sq} (h : JR w ka kb kc kd a b c d wr 2) : JR w ka kb kc kd a b c d ((((((((((((((wr).setCell ⟨w.heap.size + 1 + 1, 14, none⟩ (.int .i64 c.lev))).setCell ⟨w.heap.size + 1 + 1, 15, none⟩ (.int .i64 c.cnt))).setCell ⟨w.heap.size + 1 + 1, 16, none⟩ (.int .u64 (rg c.til)))).setCell ⟨w.heap.size + 1 + 1, 17, none⟩ (.int .i64 c.k0))).setCell ⟨w.heap.size + 1 + 1, 18, none⟩ (.int .i64 c.k1))).setCell ⟨w.heap.size + 1 + 1, 19, none⟩ (.int .i64 c.k2))).setCell ⟨w.heap.size + 1 + 1, 20, none⟩ (.int .i64 c.k3)) 3 := by
  have hne : ∀ k, k ≠ w.heap.size + 1 + 1 → ((((((((((((((wr).setCell ⟨w.heap.size + 1 + 1, 14, none⟩ (.int .i64 c.lev))).setCell ⟨w.heap.size + 1 + 1, 15, none⟩ (.int .i64 c.cnt))).setCell ⟨w.heap.size + 1 + 1, 16, none⟩ (.int .u64 (rg c.til)))).setCell ⟨w.heap.size + 1 + 1, 17, none⟩ (.int .i64 c.k0))).setCell ⟨w.heap.size + 1 + 1, 18, none⟩ (.int .i64 c.k1))).setCell ⟨w.heap.size + 1 + 1, 19, none⟩ (.int .i64 c.k2))).setCell ⟨w.heap.size + 1 + 1, 20, none⟩ (.int .i64 c.k3)).heap[k]? = wr.heap[k]? := fun k hk => by
    rw [heap_setCell_other _ _ k _ hk, heap_setCell_other _ _ k _ hk, heap_setCell_other _ _ k _ hk, heap_setCell_other _ _ k _ hk, heap_setCell_other _ _ k _ hk, heap_setCell_other _ _ k _ hk, heap_setCell_other _ _ k _ hk]
  refine ⟨?_, (hne _ (by omega)).trans h.h0, (hne _ (by omega)).trans h.h1, ?_⟩
  · exact (((((((h.bel.setCell (p := ⟨w.heap.size + 1 + 1, 14, none⟩) (by show w.heap.size ≤ w.heap.size + 1 + 1; omega) _).setCell (p := ⟨w.heap.size + 1 + 1, 15, none⟩) (by show w.heap.size ≤ w.heap.size + 1 + 1; omega) _).setCell (p := ⟨w.heap.size + 1 + 1, 16, none⟩) (by show w.heap.size ≤ w.heap.size + 1 + 1; omega) _).setCell (p := ⟨w.heap.size + 1 + 1, 17, none⟩) (by show w.heap.size ≤ w.heap.size + 1 + 1; omega) _).setCell (p := ⟨w.heap.size + 1 + 1, 18, none⟩) (by show w.heap.size ≤ w.heap.size + 1 + 1; omega) _).setCell (p := ⟨w.heap.size + 1 + 1, 19, none⟩) (by show w.heap.size ≤ w.heap.size + 1 + 1; omega) _).setCell (p := ⟨w.heap.size + 1 + 1, 20, none⟩) (by show w.heap.size ≤ w.heap.size + 1 + 1; omega) _)
  · have h0 := heap_setCell_same wr (w.heap.size + 1 + 1) 14 _ _ (.int .i64 c.lev) h.h2
    have h1 := heap_setCell_same _ (w.heap.size + 1 + 1) 15 _ _ (.int .i64 c.cnt) h0
    have h2 := heap_setCell_same _ (w.heap.size + 1 + 1) 16 _ _ (.int .u64 (rg c.til)) h1
    have h3 := heap_setCell_same _ (w.heap.size + 1 + 1) 17 _ _ (.int .i64 c.k0) h2
    have h4 := heap_setCell_same _ (w.heap.size + 1 + 1) 18 _ _ (.int .i64 c.k1) h3
    have h5 := heap_setCell_same _ (w.heap.size + 1 + 1) 19 _ _ (.int .i64 c.k2) h4
    have h6 := heap_setCell_same _ (w.heap.size + 1 + 1) 20 _ _ (.int .i64 c.k3) h5
    rw [h6]
    simp [f4]
/-- the square 3 of four laid -/
theorem JR.lay3 {w wr : World} {ka kb kc kd : Int} {a b c d : Sq} (h : JR w ka kb kc kd a b c d wr 3) : JR w ka kb kc kd a b c d ((((((((((((((wr).setCell ⟨w.heap.size + 1 + 1, 21, none⟩ (.int .i64 d.lev))).setCell ⟨w.heap.size + 1 + 1, 22, none⟩ (.int .i64 d.cnt))).setCell ⟨w.heap.size + 1 + 1, 23, none⟩ (.int .u64 (rg d.til)))).setCell ⟨w.heap.size + 1 + 1, 24, none⟩ (.int .i64 d.k0))).setCell ⟨w.heap.size + 1 + 1, 25, none⟩ (.int .i64 d.k1))).setCell ⟨w.heap.size + 1 + 1, 26, none⟩ (.int .i64 d.k2))).setCell ⟨w.heap.size + 1 + 1, 27, none⟩ (.int .i64 d.k3)) 4 := by
  have hne : ∀ k, k ≠ w.heap.size + 1 + 1 → ((((((((((((((wr).setCell ⟨w.heap.size + 1 + 1, 21, none⟩ (.int .i64 d.lev))).setCell ⟨w.heap.size + 1 + 1, 22, none⟩ (.int .i64 d.cnt))).setCell ⟨w.heap.size + 1 + 1, 23, none⟩ (.int .u64 (rg d.til)))).setCell ⟨w.heap.size + 1 + 1, 24, none⟩ (.int .i64 d.k0))).setCell ⟨w.heap.size + 1 + 1, 25, none⟩ (.int .i64 d.k1))).setCell ⟨w.heap.size + 1 + 1, 26, none⟩ (.int .i64 d.k2))).setCell ⟨w.heap.size + 1 + 1, 27, none⟩ (.int .i64 d.k3)).heap[k]? = wr.heap[k]? := fun k hk => by
    rw [heap_setCell_other _ _ k _ hk, heap_setCell_other _ _ k _ hk, heap_setCell_other _ _ k _ hk, heap_setCell_other _ _ k _ hk, heap_setCell_other _ _ k _ hk, heap_setCell_other _ _ k _ hk, heap_setCell_other _ _ k _ hk]
  refine ⟨?_, (hne _ (by omega)).trans h.h0, (hne _ (by omega)).trans h.h1, ?_⟩
  · exact (((((((h.bel.setCell (p := ⟨w.heap.size + 1 + 1, 21, none⟩) (by show w.heap.size ≤ w.heap.size + 1 + 1; omega) _).setCell (p := ⟨w.heap.size + 1 + 1, 22, none⟩) (by show w.heap.size ≤ w.heap.size + 1 + 1; omega) _).setCell (p := ⟨w.heap.size + 1 + 1, 23, none⟩) (by show w.heap.size ≤ w.heap.size + 1 + 1; omega) _).setCell (p := ⟨w.heap.size + 1 + 1, 24, none⟩) (by show w.heap.size ≤ w.heap.size + 1 + 1; omega) _).setCell (p := ⟨w.heap.size + 1 + 1, 25, none⟩) (by show w.heap.size ≤ w.heap.size + 1 + 1; omega) _).setCell (p := ⟨w.heap.size + 1 + 1, 26, none⟩) (by show w.heap.size ≤ w.heap.size + 1 + 1; omega) _).setCell (p := ⟨w.heap.size + 1 + 1, 27, none⟩) (by show w.heap.size ≤ w.heap.size + 1 + 1; omega) _)
  · have h0 := heap_setCell_same wr (w.heap.size + 1 + 1) 21 _ _ (.int .i64 d.lev) h.h2
    have h1 := heap_setCell_same _ (w.heap.size + 1 + 1) 22 _ _ (.int .i64 d.cnt) h0
    have h2 := heap_setCell_same _ (w.heap.size + 1 + 1) 23 _ _ (.int .u64 (rg d.til)) h1
    have h3 := heap_setCell_same _ (w.heap.size + 1 + 1) 24 _ _ (.int .i64 d.k0) h2
    have h4 := heap_setCell_same _ (w.heap.size + 1 + 1) 25 _ _ (.int .i64 d.k1) h3
    have h5 := heap_setCell_same _ (w.heap.size + 1 + 1) 26 _ _ (.int .i64 d.k2) h4
    have h6 := heap_setCell_same _ (w.heap.size + 1 + 1) 27 _ _ (.int .i64 d.k3) h5
    rw [h6]
    simp [f4]
set_option maxRecDepth 100000 in
theorem cells28 {w : World} {g : Nat} {cs : Array Value} {T : TypeId} (h : w.heap[g]? = some (.cells cs T (0, 0))) (i : Nat) {v : Value} (hv : cs.toList[i]? = some v) : w.cell? ⟨g, i, none⟩ = some v := by
  rw [cell_of_row w g _ _ _ _ h]
  simpa using hv
theorem square_is {B : Nat} {w : World} {P : Nat} {L : List Sq} {room : Nat} {H : Nat → Prop} (h : St B w P L room H) (id : Int) (ho : Ok L id) {q : Sq} (e : at' L id = q) :
    Calls Tryz.prog 31 #[.pointer (some ⟨P, 0, none⟩), .int .i64 id] w fun e w' => e = .returned (.tuple #[qv q, .nilIface]) ∧ Below w.heap.size w w' := by
  subst e
  exact square_ok h id ho
theorem row4 {w : World} {g : Nat} {v0 v1 v2 v3 : Value} {t : TypeId} (h : w.heap[g]? = some (.cells #[v0, v1, v2, v3] t (0, 0))) :
    w.cell? ⟨g, 0, none⟩ = some v0 ∧ w.cell? ⟨g, 1, none⟩ = some v1 ∧ w.cell? ⟨g, 2, none⟩ = some v2 ∧ w.cell? ⟨g, 3, none⟩ = some v3 := by
  refine ⟨?_, ?_, ?_, ?_⟩ <;> (rw [cell_of_row w g _ _ _ _ h]; rfl)
/-- four squares of one level, by value -/
structure Fq (L : List Sq) (ka kb kc kd : Int) (a b c d : Sq) : Prop where
  ea : at' L ka = a
  eb : at' L kb = b
  ec : at' L kc = c
  ed : at' L kd = d
  lb : b.lev = a.lev
  lc : c.lev = a.lev
  ld : d.lev = a.lev
  l0 : 3 ≤ a.lev
  l1 : a.lev ≤ 40
  ca : 0 ≤ a.cnt ∧ a.cnt ≤ 4611686018427387904
  cb : 0 ≤ b.cnt ∧ b.cnt ≤ 4611686018427387904
  cc : 0 ≤ c.cnt ∧ c.cnt ≤ 4611686018427387904
  cd : 0 ≤ d.cnt ∧ d.cnt ≤ 4611686018427387904
/-- what is counted of so many -/
def cs4 (a b c d : Int) : Nat → Int
  | 0 => 0
  | 1 => sat 0 a
  | 2 => sat (sat 0 a) b
  | 3 => sat (sat (sat 0 a) b) c
  | _ => sat (sat (sat (sat 0 a) b) c) d
theorem cs4_lo {a b c d : Int} (ha : 0 ≤ a) (hb : 0 ≤ b) (hc : 0 ≤ c) (hd : 0 ≤ d) : ∀ k, 0 ≤ cs4 a b c d k ∧ cs4 a b c d k ≤ 4611686018427387904
  | 0 => ⟨Int.le_refl _, by show (0 : Int) ≤ 4611686018427387904; decide⟩
  | 1 => sat_lo (by decide) ha (by decide)
  | 2 => by
    have h1 := sat_lo (a := 0) (b := a) (by omega) ha (by omega)
    exact sat_lo h1.1 hb h1.2
  | 3 => by
    have h1 := sat_lo (a := 0) (b := a) (by omega) ha (by omega)
    have h2 := sat_lo h1.1 hb h1.2
    exact sat_lo h2.1 hc h2.2
  | n + 4 => cnt4_lo ha hb hc hd
structure J2 (w : World) (g : Nat) (ka kb kc kd : Int) (a b c d : Sq) (wr : World) (k : Nat) : Prop where
  j : JR w ka kb kc kd a b c d wr 4
  q : wr.heap[g]? = some (.cells #[.int .i64 (a.lev + 1), .int .i64 (cs4 a.cnt b.cnt c.cnt d.cnt k), .int .u64 0, .int .i64 ka, .int .i64 kb, .int .i64 kc, .int .i64 kd] 95 (0, 0))
  g3 : w.heap.size + 3 ≤ g
theorem J2.below {w wr w1 : World} {g : Nat} {ka kb kc kd : Int} {a b c d : Sq} {k : Nat} (h : J2 w g ka kb kc kd a b c d wr k) (hb : Below wr.heap.size wr w1) : J2 w g ka kb kc kd a b c d w1 k :=
  ⟨h.j.below hb, (hb.block _ (lt_of_block h.q)).trans h.q, h.g3⟩
theorem J2.add {w wr : World} {g : Nat} {ka kb kc kd : Int} {a b c d : Sq} {k : Nat} (h : J2 w g ka kb kc kd a b c d wr k) {x : Int} (hx : x = cs4 a.cnt b.cnt c.cnt d.cnt (k + 1)) : J2 w g ka kb kc kd a b c d (wr.setCell ⟨g, 1, none⟩ (.int .i64 x)) (k + 1) := by
  subst hx
  have g3 := h.g3
  have hne : ∀ k, k ≠ g → (wr.setCell ⟨g, 1, none⟩ (.int .i64 (cs4 a.cnt b.cnt c.cnt d.cnt (k + 1)))).heap[k]? = wr.heap[k]? := fun k hk => heap_setCell_other _ _ k _ hk
  refine ⟨⟨h.j.bel.setCell (p := ⟨g, 1, none⟩) (by show w.heap.size ≤ g; omega) _, ?_, ?_, ?_⟩, heap_setCell_same wr g 1 _ _ _ h.q, g3⟩
  · exact (heap_setCell_other wr ⟨g, 1, none⟩ _ _ (by show w.heap.size ≠ g; omega)).trans h.j.h0
  · exact (heap_setCell_other wr ⟨g, 1, none⟩ _ _ (by show w.heap.size + 1 ≠ g; omega)).trans h.j.h1
  · exact (heap_setCell_other wr ⟨g, 1, none⟩ _ _ (by show w.heap.size + 1 + 1 ≠ g; omega)).trans h.j.h2
set_option maxRecDepth 100000 in
theorem info_28 {a b c d : Sq} : (Tryz.prog.info? 163).map (·.size) = some (f4 a b c d 4).size := by kernel_rfl
theorem sat_if (x c : Int) : (x + if 4611686018427387904 - x < c then 4611686018427387904 - x else c) = sat x c := by unfold sat; split <;> omega
end Go.Proofs.YtlejohclijjhnaaGreatDoor

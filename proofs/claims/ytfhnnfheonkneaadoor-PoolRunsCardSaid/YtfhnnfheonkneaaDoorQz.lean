/-
  THE REFERENCE's DISK IN MEMORY, AND ITS New. Conditions: those that each lemma names.
  THE REFERENCE's New. Conditions: the number is small.
  THE REFERENCE's Write. Conditions: the reference's disk lies in memory.
-/
import Derived.Test.YtfhnnfheonkneaaDoorQy
namespace Go.Proofs.YtfhnnfheonkneaaDoor
open Go.RowKit

/-- the texts of so many sectors -/
def txs (n : Nat) (g : Nat → Nat → Int) : List ByteArray := (List.range n).map fun i => strOfNums (rowOf (g i))
theorem txs_len (n : Nat) (g : Nat → Nat → Int) : (txs n g).length = n := by simp [txs]
theorem txs_get (n : Nat) (g : Nat → Nat → Int) (i : Nat) (h : i < (txs n g).length) : (txs n g)[i] = strOfNums (rowOf (g i)) := by simp [txs]
theorem txs_set (n : Nat) (g : Nat → Nat → Int) (i : Nat) (f : Nat → Int) : (txs n g).set i (strOfNums (rowOf f)) = txs n (upd g i f) := by
  apply List.ext_getElem (by simp [txs])
  intro j h1 h2
  rw [txs_get _ _ _ h2, List.getElem_set]
  by_cases e : i = j
  · rw [if_pos e]
    unfold upd
    congr 2
    funext x
    rw [if_pos e.symm]
  · rw [if_neg e, txs_get]
    unfold upd
    congr 2
    funext x
    rw [if_neg (fun q => e q.symm)]
/-- the reference's disk -/
structure Ref where
  n : Nat
  nb : Nat
  nc : Nat
  sb : Nat
  sc : Nat
  pa : Option Addr
  pc : Nat
  N : Nat → Nat → Int
  S : Nat → Nat → Int
  pend : List Nat
  writes : Int
  left : Int
def Ref.val (r : Ref) : Value := .agg #[.slice (some ⟨r.nb, 0, none⟩) r.n r.nc, .slice (some ⟨r.sb, 0, none⟩) r.n r.sc, .slice r.pa r.pend.length r.pc, .int .i64 r.writes, .int .i64 r.left]
structure RefOk (w : World) (r : Ref) : Prop where
  N : Strs w (some ⟨r.nb, 0, none⟩) (txs r.n r.N)
  S : Strs w (some ⟨r.sb, 0, none⟩) (txs r.n r.S)
  nc : r.n ≤ r.nc ∧ r.nc ≤ 9223372036854775807
  sc : r.n ≤ r.sc ∧ r.sc ≤ 9223372036854775807
  p : Ints w r.pa (r.pend.map fun (i : Nat) => (i : Int))
  bN : ∀ i j, 0 ≤ r.N i j ∧ r.N i j < 256
  bS : ∀ i j, 0 ≤ r.S i j ∧ r.S i j < 256
  n1 : 1 ≤ r.n ∧ r.n ≤ 100
  len : r.pend.length ≤ 100
  nil : r.pend = [] → r.pa = none ∧ r.pc = 0
theorem RefOk.below {w w' : World} {r : Ref} (h : RefOk w r) (hb : Below w.heap.size w w') : RefOk w' r :=
  ⟨h.N.below hb, h.S.below hb, h.nc, h.sc, h.p.below hb, h.bN, h.bS, h.n1, h.len, h.nil⟩
/-- no block of the reference's is one of the disk's -/
def Far (r : Ref) (s : St) : Prop := ¬ s.has r.nb ∧ ¬ s.has r.sb ∧ ∀ b off, r.pa = some ⟨b, off, none⟩ → ¬ s.has b
theorem Strs.step {w w' : World} {s s' : St} {b : Nat} {xs : List ByteArray} (h : Strs w (some ⟨b, 0, none⟩) xs) (hs : Step w s w' s') (hn : ¬ s.has b) : Strs w' (some ⟨b, 0, none⟩) xs := by
  intro i hi
  obtain ⟨b', off, ha, hc⟩ := h i hi
  obtain ⟨rfl, rfl⟩ : b = b' ∧ 0 = off := by simpa using ha
  exact ⟨b, 0, rfl, (cell_of_block (hs.block b (World.block_lt_of_cell? w _ hc) hn)).trans hc⟩
theorem RefOk.step {w w' : World} {r : Ref} {s s' : St} (h : RefOk w r) (hf : Far r s) (hs : Step w s w' s') : RefOk w' r := by
  refine ⟨h.N.step hs hf.1, h.S.step hs hf.2.1, h.nc, h.sc, ?_, h.bN, h.bS, h.n1, h.len, h.nil⟩
  intro i hi
  obtain ⟨b, off, ha, hc⟩ := h.p i hi
  exact ⟨b, off, ha, (cell_of_block (hs.block b (World.block_lt_of_cell? w _ hc) (hf.2.2 b off ha))).trans hc⟩
theorem RefOk.lt {w : World} {r : Ref} (h : RefOk w r) : r.nb < w.heap.size ∧ r.sb < w.heap.size := by
  have h1 := h.n1.1
  obtain ⟨b, off, ha, hc⟩ := h.N 0 (by rw [txs_len]; omega)
  obtain ⟨rfl, rfl⟩ : r.nb = b ∧ 0 = off := by simpa using ha
  obtain ⟨b2, off2, ha2, hc2⟩ := h.S 0 (by rw [txs_len]; omega)
  obtain ⟨rfl, rfl⟩ : r.sb = b2 ∧ 0 = off2 := by simpa using ha2
  exact ⟨World.block_lt_of_cell? w _ hc, World.block_lt_of_cell? w _ hc2⟩
theorem Far.step {w w' : World} {r : Ref} {s s' : St} (hf : Far r s) (h : RefOk w r) (hs : Step w s w' s') : Far r s' := by
  refine ⟨fun e => ?_, fun e => ?_, fun b off ha e => ?_⟩
  · rcases hs.own _ e with q | q
    · exact hf.1 q
    · have := h.lt.1; omega
  · rcases hs.own _ e with q | q
    · exact hf.2.1 q
    · have := h.lt.2; omega
  · rcases hs.own _ e with q | q
    · exact hf.2.2 b off ha q
    · by_cases hp : r.pend = []
      · rw [(h.nil hp).1] at ha; cases ha
      · have h0 : 0 < (r.pend.map fun (i : Nat) => (i : Int)).length := by
          rw [List.length_map]
          exact List.length_pos_iff.2 hp
        obtain ⟨b', off', ha', hc⟩ := h.p 0 h0
        rw [ha] at ha'
        obtain ⟨rfl, rfl⟩ : b = b' ∧ off = off' := by simpa using ha'
        have := World.block_lt_of_cell? w _ hc
        change b < w.heap.size at this
        omega
end Go.Proofs.YtfhnnfheonkneaaDoor
namespace Go.Proofs.YtfhnnfheonkneaaDoor
open Go.RowKit

theorem make_b (n : Nat) (x : Int) (hx : x = n) (hn : n ≤ 1000) (w : World) : (Instr.makeSlice 60 (.int .i64 x) (.int .i64 x)).run Tryd.prog w = .ok (.slice (some ⟨w.heap.size, 0, none⟩) n n) (w.alloc (.cells (Array.replicate n (.int .u8 0)) 5)) := by
  subst hx
  rw [run_make_row' (P := Tryd.prog) 60 5 (.int .u8 0) 1 Tryd.underlying60 info_b rfl .i64 .i64 n (by omega) (by omega) w, made_eq]
def txt (t : ByteArray) : Nat → Int := fun j => (nums t).getD j 0
theorem row_txt {t : ByteArray} (h : t.size = 512) {f : Nat → Int} (hf : ∀ j, j < 512 → f j = txt t j) : strOfNums (rowOf f) = t := by
  rw [rowOf_congr hf]
  unfold txt
  rw [rowOf_self (by rw [nums_len, h]), str_nums]
theorem txt_bd (t : ByteArray) (j : Nat) : 0 ≤ txt t j ∧ txt t j < 256 := getD_byte (nums_byte t) j
def zrow : ByteArray := strOfNums (rowOf (fun _ => 0))
theorem zrow_eq : rowOf (fun _ => 0) = List.replicate 512 0 := by
  apply List.ext_getElem (by rw [rowOf_len, List.length_replicate])
  intro i h1 h2
  rw [rowOf_get, List.getElem_replicate]
theorem txs_zero (n : Nat) : txs n (fun _ _ => 0) = List.replicate n zrow := by
  apply List.ext_getElem (by simp [txs])
  intro i h1 h2
  rw [txs_get]
  simp [zrow]
theorem sl_snoc (k : Nat) (z : ByteArray) : sl (List.replicate k z) ++ [.string z] = sl (List.replicate (k + 1) z) := by
  rw [List.replicate_succ']
  simp [sl]
/-- a new disk of the reference's -/
structure RefFresh (w : World) (n : Nat) (w' : World) (r : Ref) : Prop where
  ok : RefOk w' r
  n : r.n = n
  N : r.N = fun _ _ => 0
  S : r.S = fun _ _ => 0
  pend : r.pend = []
  writes : r.writes = 0
  left : r.left = -1
  nb : w.heap.size ≤ r.nb
  sb : w.heap.size ≤ r.sb
  below : Below w.heap.size w w'
def RefNewAt (n : Nat) (w : World) (e : Ending) (w' : World) : Prop := ∃ r, e = .returned r.val ∧ RefFresh w n w' r
set_option maxRecDepth 100000 in
set_option maxHeartbeats 1000000 in
theorem refnew_any (n : Nat) (w : World) (h1 : 1 ≤ n) (h2 : n ≤ 100) :
    Calls Tryd.prog 7 #[.int .i64 n] w (RefNewAt n w) := by
  obtain ⟨ie, hi, hz0, hz1, hz2⟩ := info_parts info_str
  have HI := Lib.hid hi
  have HZ0 := Lib.hid hz0
  have HZ1 := Lib.hid hz1
  have HZ2 := Lib.hid hz2
  have m5 := make_b 512 512 rfl (by omega)
  have hcv : ∀ W : World, (convert 60 9 (.slice (some ⟨W.heap.size, 0, none⟩) 512 512)).run Tryd.prog (W.alloc (.cells (Array.replicate 512 (.int .u8 0)) 5)) = .ok (.string zrow) (W.alloc (.cells (Array.replicate 512 (.int .u8 0)) 5)) := fun W => by
    have := conv_lies (c := 512) (n := 512) (lies_zeros W 512) (by rw [List.length_replicate])
    rw [this]
    unfold zrow
    rw [zrow_eq]
  have hcv1 := hcv (w.alloc (.cells #[.slice none 0 0, .slice none 0 0, .slice none 0 0, .int .i64 0, .int .i64 0] 35))
  rw [show (w.alloc (.cells #[.slice none 0 0, .slice none 0 0, .slice none 0 0, .int .i64 0, .int .i64 0] 35)).heap.size = w.heap.size + 1 by simp] at hcv1
  have hn1 : (n : Int) ≤ 100 := by omega
  clear hi hz0 hz1 hz2 hcv
  go_enter Tryd.func7, Tryd.ntmps7
  go_wp2
  have HB0 := Lib.hid (show Below w.heap.size w ((w.alloc (.cells #[.slice none 0 0, .slice none 0 0, .slice none 0 0, .int .i64 0, .int .i64 0] 35)).alloc (.cells (Array.replicate 512 (.int .u8 0)) 5)) from ((Below.refl _ _).alloc (Nat.le_refl _) _).alloc (by simp) _)
  have hR : ((w.alloc (.cells #[.slice none 0 0, .slice none 0 0, .slice none 0 0, .int .i64 0, .int .i64 0] 35)).alloc (.cells (Array.replicate 512 (.int .u8 0)) 5)).heap[w.heap.size]? = some (.cells #[.slice none 0 0, .slice none 0 0, .slice none 0 0, .int .i64 0, .int .i64 0] 35 (0, 0)) := heap_alloc2_old _ _ _
  have HS0 := Lib.hid (show ((w.alloc (.cells #[.slice none 0 0, .slice none 0 0, .slice none 0 0, .int .i64 0, .int .i64 0] 35)).alloc (.cells (Array.replicate 512 (.int .u8 0)) 5)).heap.size = w.heap.size + 2 by simp)
  clear hcv1 m5
  generalize (w.alloc (.cells #[.slice none 0 0, .slice none 0 0, .slice none 0 0, .int .i64 0, .int .i64 0] 35)).alloc (.cells (Array.replicate 512 (.int .u8 0)) 5) = w0 at HB0 hR HS0 ⊢
  have HR := Lib.hid hR
  clear hR
  go_loopw [4, 5] (fun v x wr => ∃ k : Nat, k ≤ n ∧ x = .int .i64 k ∧ wr.ownsRow w0.heap.size 9 1 v k (sl (List.replicate k zrow)) ∧ Below w0.heap.size w0 wr) (fun _ x _ => n - (intOf x).toNat)
  case atStart => exact ⟨0, by omega, rfl, World.ownsRow_nil _ _ _ _, Below.refl _ _⟩
  case round =>
    obtain ⟨k, hk, rfl, hown, hbl⟩ := hrel
    have HO := Lib.hid hown
    have HBL := Lib.hid hbl
    clear hown hbl
    by_cases hlt : k < n
    · have hlt' : (k : Int) < (n : Int) := by omega
      go_wp2_with (at_builtin; refine wpList_append_own _ rfl (.tmp 13) (.tmp 15) 32 rfl w0.heap.size 9 ie (.string ⟨#[]⟩) 1 16 Tryd.underlying32 HI.out HZ0.out HZ1.out HZ2.out rfl (by decide) _ k (sl (List.replicate k zrow)) rfl (HO.out.alloc _) ⟨wr.heap.size, 0, none⟩ 1 1 [.string zrow] rfl rfl (one_str wr zrow) (by intro u hu; simp at hu; subst hu; rfl) (by unfold maxLen; omega) (by omega) (by have := HBL.out.size; simp; omega) ?_; intro v2 w2 hown2 hg2 _)
      have HO2 := Lib.hid hown2
      have HB2 : Hid (Below w0.heap.size w0 w2) := Lib.hid ((HBL.out.alloc HBL.out.size _).grown hg2 (by have := HBL.out.size; simp; omega) (fun q hq => (HO.out.lt q hq).1))
      clear hown2 hg2
      go_wp2
      go_roundw
      case rel => exact ⟨k + 1, by omega, by go_num, by rw [← sl_snoc]; exact HO2.out, HB2.out⟩
      case measure => simp [intOf]; omega
    · obtain rfl : k = n := by omega
      obtain ⟨ao, cap, hv, hs, hnc, _, hfr⟩ := own_strs HO.out
      have hcp := own_cap HO.out ao k cap hv
      subst hv
      have hR1 : wr.heap[w.heap.size]? = some (.cells #[.slice none 0 0, .slice none 0 0, .slice none 0 0, .int .i64 0, .int .i64 0] 35 (0, 0)) := (HBL.out.block _ (by have := HS0.out; omega)).trans HR.out
      obtain ⟨nb, rfl⟩ : ∃ nb, ao = some ⟨nb, 0, none⟩ := by
        rcases HO.out.2 with ⟨_, e⟩ | ⟨g, c2, cur, e, _⟩
        · omega
        · injection e with e1
          exact ⟨g, e1⟩
      have c0 := cell_of_row wr w.heap.size 0 _ _ _ hR1
      have c1 := cell_of_row wr w.heap.size 1 _ _ _ hR1
      have c2 := cell_of_row wr w.heap.size 2 _ _ _ hR1
      have c3 := cell_of_row wr w.heap.size 3 _ _ _ hR1
      have c4 := cell_of_row wr w.heap.size 4 _ _ _ hR1
      change wr.cell? _ = some (.slice none 0 0) at c0 c1 c2
      change wr.cell? _ = some (.int .i64 0) at c3 c4
      have ff := fun i => frozen_of_row wr w.heap.size i _ _ hR1
      have HS := Lib.hid hs
      have HFR := Lib.hid (hfr nb 0 rfl).1
      have HCP := Lib.hid hcp
      have HNC := Lib.hid hnc
      clear hs hR1 hcp hnc hfr
      go_wp2
      refine bodyPost_ret (v := .agg #[.slice (some ⟨nb, 0, none⟩) k cap, .slice (some ⟨nb, 0, none⟩) k cap, .slice none 0 0, .int .i64 0, .int .i64 (-1)]) (by simp [results, Tryd.results7, go_sem, c0, c1, c2, c3, c4]) rfl ?_
      have hne : nb ≠ w.heap.size := by have := HFR.out; have := HS0.out; omega
      have hst : Strs ((((((wr.setCell ⟨w.heap.size, 0, none⟩ (.slice (some ⟨nb, 0, none⟩) k cap)).setCell ⟨w.heap.size, 1, none⟩ (.slice (some ⟨nb, 0, none⟩) k cap)).setCell ⟨w.heap.size, 2, none⟩ (.slice none 0 0)).setCell ⟨w.heap.size, 3, none⟩ (.int .i64 0)).setCell ⟨w.heap.size, 4, none⟩ (.int .i64 (-1)))) (some ⟨nb, 0, none⟩) (txs k (fun _ _ => 0)) := by
        rw [txs_zero]
        intro i hi
        obtain ⟨b', off', ha, hc⟩ := HS.out i hi
        obtain ⟨rfl, rfl⟩ : nb = b' ∧ 0 = off' := by simpa using ha
        refine ⟨nb, 0, rfl, ?_⟩
        rw [cell_of_block (Below.heap_setCell _ _ _ _ hne), cell_of_block (Below.heap_setCell _ _ _ _ hne), cell_of_block (Below.heap_setCell _ _ _ _ hne), cell_of_block (Below.heap_setCell _ _ _ _ hne), cell_of_block (Below.heap_setCell _ _ _ _ hne)]
        exact hc
      refine ⟨⟨k, nb, cap, nb, cap, none, 0, fun _ _ => 0, fun _ _ => 0, [], 0, -1⟩, rfl, ⟨⟨hst, hst, ⟨HNC.out, HCP.out⟩, ⟨HNC.out, HCP.out⟩, ints_nil _ _, fun _ _ => ⟨Int.le_refl _, (by decide : (0 : Int) < 256)⟩, fun _ _ => ⟨Int.le_refl _, (by decide : (0 : Int) < 256)⟩, ⟨h1, h2⟩, by show 0 ≤ 100; omega, fun _ => ⟨rfl, rfl⟩⟩, rfl, rfl, rfl, rfl, rfl, rfl, by show w.heap.size ≤ nb; have := HFR.out; have := HS0.out; omega, by show w.heap.size ≤ nb; have := HFR.out; have := HS0.out; omega, ?_⟩⟩
      have hbb := HB0.out.trans (HBL.out.mono (by have := HS0.out; omega))
      exact ((((hbb.setCell (Nat.le_refl _) _).setCell (Nat.le_refl _) _).setCell (Nat.le_refl _) _).setCell (Nat.le_refl _) _).setCell (Nat.le_refl _) _
end Go.Proofs.YtfhnnfheonkneaaDoor
namespace Go.Proofs.YtfhnnfheonkneaaDoor
open Go.RowKit

theorem al2 (w : World) (a b : Obj) : Below w.heap.size w ((w.alloc a).alloc b) := ((Below.refl _ _).alloc (Nat.le_refl _) _).alloc (by simp) _
/-- the reference's errors: it stays as it was -/
def RefErr (w : World) (r : Ref) (k : Int) (e : Ending) (w' : World) : Prop := e = .returned (.tuple #[r.val, .int .i64 k]) ∧ Below w.heap.size w w'
set_option maxRecDepth 100000 in
theorem refwrite_range (r : Ref) (i : Int) (t : ByteArray) (w : World) (hi : i < 0 ∨ (r.n : Int) ≤ i) (hn : r.n ≤ 100) :
    Calls Tryd.prog 46 #[r.val, .int .i64 i, .string t] w (RefErr w r 4) := by
  unfold Ref.val
  by_cases h0 : i < 0
  · go_enter Tryd.func46, Tryd.ntmps46
    go_wp2
    refine bodyPost_ret (v := .tuple #[r.val, .int .i64 4]) (by simp [results, Tryd.results46, go_sem, Ref.val]) rfl ⟨rfl, ?_⟩
    exact al2 _ _ _
  · have h1 : (r.n : Int) ≤ i := by omega
    have h2 : 0 ≤ i := by omega
    have h3 : (r.n : Int) ≤ 100 := by omega
    clear hi h0
    go_enter Tryd.func46, Tryd.ntmps46
    go_wp2
    refine bodyPost_ret (v := .tuple #[r.val, .int .i64 4]) (by simp [results, Tryd.results46, go_sem, Ref.val]) rfl ⟨rfl, ?_⟩
    exact al2 _ _ _
set_option maxRecDepth 100000 in
theorem refwrite_long (r : Ref) (i : Nat) (t : ByteArray) (w : World) (hi : i < r.n) (hn : r.n ≤ 100) (ht : t.size ≠ 512) :
    Calls Tryd.prog 46 #[r.val, .int .i64 i, .string t] w (RefErr w r 2) := by
  have h0 : (0 : Int) ≤ (i : Int) := by omega
  have h1 : (i : Int) < (r.n : Int) := by omega
  have h2 : ((t.size : Int) != 512) = true := by simp; omega
  have h3 : ((t.size : Int) == 512) = false := by rw [beq_eq_false_iff_ne]; omega
  have h4 : (r.n : Int) ≤ 100 := by omega
  unfold Ref.val
  go_enter Tryd.func46, Tryd.ntmps46
  go_wp2
  refine bodyPost_ret (v := .tuple #[r.val, .int .i64 2]) (by simp [results, Tryd.results46, go_sem, Ref.val]) rfl ⟨rfl, ?_⟩
  exact al2 _ _ _
set_option maxRecDepth 100000 in
theorem refwrite_full (r : Ref) (i : Nat) (t : ByteArray) (w : World) (hi : i < r.n) (hn : r.n ≤ 100) (ht : t.size = 512) (hl : r.left = 0) :
    Calls Tryd.prog 46 #[r.val, .int .i64 i, .string t] w (RefErr w r 5) := by
  have h0 : (0 : Int) ≤ (i : Int) := by omega
  have h1 : (i : Int) < (r.n : Int) := by omega
  have h4 : (r.n : Int) ≤ 100 := by omega
  have h5 : (r.left == 0) = true := by rw [hl]; rfl
  unfold Ref.val
  go_enter Tryd.func46, Tryd.ntmps46
  go_wp2
  refine bodyPost_ret (v := .tuple #[r.val, .int .i64 5]) (by simp [results, Tryd.results46, go_sem, Ref.val, hl]) rfl ⟨rfl, ?_⟩
  exact al2 _ _ _
end Go.Proofs.YtfhnnfheonkneaaDoor

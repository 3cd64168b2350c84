/-
  THE REFERENCE's New. Conditions: the number is small.
-/
import Derived.Test.YtibopcbebcikbaaDoorRd
namespace Go.Proofs.YtibopcbebcikbaaDoor
open Go.RowKit

def zrow : ByteArray := strOfNums (rowOf (fun _ => 0))
theorem zrow_eq : rowOf (fun _ => 0) = List.replicate 512 0 := by
  apply List.ext_getElem (by rw [rowOf_len, List.length_replicate])
  intro i h1 h2
  rw [rowOf_get, List.getElem_replicate]
theorem txs_zero (n : Nat) : txs n (fun _ _ => 0) = List.replicate n zrow := by
  apply List.ext_getElem (by simp [txs])
  intro i h1 h2
  rw [txs_get]
  simp [zrow]
theorem sl_snoc (k : Nat) (z : ByteArray) : sl (List.replicate k z) ++ [.string z] = sl (List.replicate (k + 1) z) := by
  rw [List.replicate_succ']
  simp [sl]
/-- a new disk of the reference's -/
structure RefFresh (w : World) (n : Nat) (w' : World) (r : Ref) : Prop where
  ok : RefOk w' r
  n : r.n = n
  N : r.N = fun _ _ => 0
  S : r.S = fun _ _ => 0
  pend : r.pend = []
  writes : r.writes = 0
  left : r.left = -1
  nb : w.heap.size ≤ r.nb
  sb : w.heap.size ≤ r.sb
  below : Below w.heap.size w w'
def RefNewAt (n : Nat) (w : World) (e : Ending) (w' : World) : Prop := ∃ r, e = .returned r.val ∧ RefFresh w n w' r
set_option maxRecDepth 100000 in
set_option maxHeartbeats 1000000 in
theorem refnew_any (n : Nat) (w : World) (h1 : 1 ≤ n) (h2 : n ≤ 100) :
    Calls Tryd.prog 8 #[.int .i64 n] w (RefNewAt n w) := by
  obtain ⟨ie, hi, hz0, hz1, hz2⟩ := info_parts info_str
  have HI := Lib.hid hi
  have HZ0 := Lib.hid hz0
  have HZ1 := Lib.hid hz1
  have HZ2 := Lib.hid hz2
  have m5 := make_b 512 512 rfl (by omega)
  have hcv : ∀ W : World, (convert 40 9 (.slice (some ⟨W.heap.size, 0, none⟩) 512 512)).run Tryd.prog (W.alloc (.cells (Array.replicate 512 (.int .u8 0)) 5)) = .ok (.string zrow) (W.alloc (.cells (Array.replicate 512 (.int .u8 0)) 5)) := fun W => by
    have := conv_lies (c := 512) (n := 512) (lies_zeros W 512) (by rw [List.length_replicate])
    rw [this]
    unfold zrow
    rw [zrow_eq]
  have hcv1 := hcv (w.alloc (.cells #[.slice none 0 0, .slice none 0 0, .slice none 0 0, .int .i64 0, .int .i64 0] 32))
  rw [show (w.alloc (.cells #[.slice none 0 0, .slice none 0 0, .slice none 0 0, .int .i64 0, .int .i64 0] 32)).heap.size = w.heap.size + 1 by simp] at hcv1
  have hn1 : (n : Int) ≤ 100 := by omega
  clear hi hz0 hz1 hz2 hcv
  go_enter Tryd.func8, Tryd.ntmps8
  go_wp2
  have HB0 := Lib.hid (show Below w.heap.size w ((w.alloc (.cells #[.slice none 0 0, .slice none 0 0, .slice none 0 0, .int .i64 0, .int .i64 0] 32)).alloc (.cells (Array.replicate 512 (.int .u8 0)) 5)) from ((Below.refl _ _).alloc (Nat.le_refl _) _).alloc (by simp) _)
  have hR : ((w.alloc (.cells #[.slice none 0 0, .slice none 0 0, .slice none 0 0, .int .i64 0, .int .i64 0] 32)).alloc (.cells (Array.replicate 512 (.int .u8 0)) 5)).heap[w.heap.size]? = some (.cells #[.slice none 0 0, .slice none 0 0, .slice none 0 0, .int .i64 0, .int .i64 0] 32 (0, 0)) := heap_alloc2_old _ _ _
  have HS0 := Lib.hid (show ((w.alloc (.cells #[.slice none 0 0, .slice none 0 0, .slice none 0 0, .int .i64 0, .int .i64 0] 32)).alloc (.cells (Array.replicate 512 (.int .u8 0)) 5)).heap.size = w.heap.size + 2 by simp)
  clear hcv1 m5
  generalize (w.alloc (.cells #[.slice none 0 0, .slice none 0 0, .slice none 0 0, .int .i64 0, .int .i64 0] 32)).alloc (.cells (Array.replicate 512 (.int .u8 0)) 5) = w0 at HB0 hR HS0 ⊢
  have HR := Lib.hid hR
  clear hR
  go_loopw [4, 5] (fun v x wr => ∃ k : Nat, k ≤ n ∧ x = .int .i64 k ∧ wr.ownsRow w0.heap.size 9 1 v k (sl (List.replicate k zrow)) ∧ Below w0.heap.size w0 wr) (fun _ x _ => n - (intOf x).toNat)
  case atStart => exact ⟨0, by omega, rfl, World.ownsRow_nil _ _ _ _, Below.refl _ _⟩
  case round =>
    obtain ⟨k, hk, rfl, hown, hbl⟩ := hrel
    have HO := Lib.hid hown
    have HBL := Lib.hid hbl
    clear hown hbl
    by_cases hlt : k < n
    · have hlt' : (k : Int) < (n : Int) := by omega
      go_wp2_with (at_builtin; refine wpList_append_own _ rfl (.tmp 13) (.tmp 15) 29 rfl w0.heap.size 9 ie (.string ⟨#[]⟩) 1 16 Tryd.underlying29 HI.out HZ0.out HZ1.out HZ2.out rfl (by decide) _ k (sl (List.replicate k zrow)) rfl (HO.out.alloc _) ⟨wr.heap.size, 0, none⟩ 1 1 [.string zrow] rfl rfl (one_str wr zrow) (by intro u hu; simp at hu; subst hu; rfl) (by unfold maxLen; omega) (by omega) (by have := HBL.out.size; simp; omega) ?_; intro v2 w2 hown2 hg2 _)
      have HO2 := Lib.hid hown2
      have HB2 : Hid (Below w0.heap.size w0 w2) := Lib.hid ((HBL.out.alloc HBL.out.size _).grown hg2 (by have := HBL.out.size; simp; omega) (fun q hq => (HO.out.lt q hq).1))
      clear hown2 hg2
      go_wp2
      go_roundw
      case rel => exact ⟨k + 1, by omega, by go_num, by rw [← sl_snoc]; exact HO2.out, HB2.out⟩
      case measure => simp [intOf]; omega
    · obtain rfl : k = n := by omega
      obtain ⟨ao, cap, hv, hs, hnc, _, hfr⟩ := own_strs HO.out
      have hcp := own_cap HO.out ao k cap hv
      subst hv
      have hR1 : wr.heap[w.heap.size]? = some (.cells #[.slice none 0 0, .slice none 0 0, .slice none 0 0, .int .i64 0, .int .i64 0] 32 (0, 0)) := (HBL.out.block _ (by have := HS0.out; omega)).trans HR.out
      obtain ⟨nb, rfl⟩ : ∃ nb, ao = some ⟨nb, 0, none⟩ := by
        rcases HO.out.2 with ⟨_, e⟩ | ⟨g, c2, cur, e, _⟩
        · omega
        · injection e with e1
          exact ⟨g, e1⟩
      have c0 := cell_of_row wr w.heap.size 0 _ _ _ hR1
      have c1 := cell_of_row wr w.heap.size 1 _ _ _ hR1
      have c2 := cell_of_row wr w.heap.size 2 _ _ _ hR1
      have c3 := cell_of_row wr w.heap.size 3 _ _ _ hR1
      have c4 := cell_of_row wr w.heap.size 4 _ _ _ hR1
      change wr.cell? _ = some (.slice none 0 0) at c0 c1 c2
      change wr.cell? _ = some (.int .i64 0) at c3 c4
      have ff := fun i => frozen_of_row wr w.heap.size i _ _ hR1
      have HS := Lib.hid hs
      have HFR := Lib.hid (hfr nb 0 rfl).1
      have HCP := Lib.hid hcp
      have HNC := Lib.hid hnc
      clear hs hR1 hcp hnc hfr
      go_wp2
      refine bodyPost_ret (v := .agg #[.slice (some ⟨nb, 0, none⟩) k cap, .slice (some ⟨nb, 0, none⟩) k cap, .slice none 0 0, .int .i64 0, .int .i64 (-1)]) (by simp [results, Tryd.results8, go_sem, c0, c1, c2, c3, c4]) rfl ?_
      have hne : nb ≠ w.heap.size := by have := HFR.out; have := HS0.out; omega
      have hst : Strs ((((((wr.setCell ⟨w.heap.size, 0, none⟩ (.slice (some ⟨nb, 0, none⟩) k cap)).setCell ⟨w.heap.size, 1, none⟩ (.slice (some ⟨nb, 0, none⟩) k cap)).setCell ⟨w.heap.size, 2, none⟩ (.slice none 0 0)).setCell ⟨w.heap.size, 3, none⟩ (.int .i64 0)).setCell ⟨w.heap.size, 4, none⟩ (.int .i64 (-1)))) (some ⟨nb, 0, none⟩) (txs k (fun _ _ => 0)) := by
        rw [txs_zero]
        intro i hi
        obtain ⟨b', off', ha, hc⟩ := HS.out i hi
        obtain ⟨rfl, rfl⟩ : nb = b' ∧ 0 = off' := by simpa using ha
        refine ⟨nb, 0, rfl, ?_⟩
        rw [cell_of_block (Below.heap_setCell _ _ _ _ hne), cell_of_block (Below.heap_setCell _ _ _ _ hne), cell_of_block (Below.heap_setCell _ _ _ _ hne), cell_of_block (Below.heap_setCell _ _ _ _ hne), cell_of_block (Below.heap_setCell _ _ _ _ hne)]
        exact hc
      refine ⟨⟨k, nb, cap, nb, cap, none, 0, fun _ _ => 0, fun _ _ => 0, [], 0, -1⟩, rfl, ⟨⟨hst, hst, ⟨HNC.out, HCP.out⟩, ⟨HNC.out, HCP.out⟩, ints_nil _ _, fun _ _ => ⟨Int.le_refl _, (by decide : (0 : Int) < 256)⟩, fun _ _ => ⟨Int.le_refl _, (by decide : (0 : Int) < 256)⟩, ⟨h1, h2⟩, by show 0 ≤ 100; omega, fun _ => ⟨rfl, rfl⟩⟩, rfl, rfl, rfl, rfl, rfl, rfl, by show w.heap.size ≤ nb; have := HFR.out; have := HS0.out; omega, by show w.heap.size ≤ nb; have := HFR.out; have := HS0.out; omega, ?_⟩⟩
      have hbb := HB0.out.trans (HBL.out.mono (by have := HS0.out; omega))
      exact ((((hbb.setCell (Nat.le_refl _) _).setCell (Nat.le_refl _) _).setCell (Nat.le_refl _) _).setCell (Nat.le_refl _) _).setCell (Nat.le_refl _) _
end Go.Proofs.YtibopcbebcikbaaDoor

/-
  THE WALK of disk.New. Conditions: none but the number's range.
-/
import Derived.Test.YtkmedlbokneegaaDoorWb
import Derived.RegionTactic
import Derived.ChangeAlike
namespace Go.Proofs.YtkmedlbokneegaaDoor
open Go.RowKit

/-- a disk that was made in this call -/
structure Fresh (n : Nat) (w w' : World) (s : St) : Prop where
  at' : DiskAt w.heap.size w' s
  n : s.n = n
  sure : ∀ i j, s.sure i j = 0
  late : ∀ i, s.late i = none
  pend : s.pend = []
  writes : s.writes = 0
  left : s.left = -1
  below : Below w.heap.size w w'
def Made (n : Nat) (w : World) (e : Ending) (w' : World) : Prop :=
  ∃ s, e = .returned (.tuple #[.pointer (some ⟨s.D, 0, none⟩), .nilIface]) ∧ Fresh n w w' s

set_option maxRecDepth 100000 in
theorem info_s : (Tryd.prog.info? 103).map (fun i => (i.zero, i.size, i.bytes)) = some (some (.agg (Array.replicate 512 (.int .u8 0))), 512, 512) := by kernel_rfl
set_option maxRecDepth 100000 in
theorem info_p : (Tryd.prog.info? 101).map (fun i => (i.zero, i.size, i.bytes)) = some (some (.pointer none), 1, 8) := by kernel_rfl
set_option maxRecDepth 100000 in
theorem make_s (n : Nat) (hn : n ≤ 16384) (w : World) : (Instr.makeSlice 61 (.int .i64 (n : Int)) (.int .i64 (n : Int))).run Tryd.prog w = .ok (.slice (some ⟨w.heap.size, 0, none⟩) n n) (w.alloc (.cells (Array.replicate (n * 512) (.int .u8 0)) 103)) := by
  obtain ⟨i, hi, hzz⟩ := Option.map_eq_some_iff.1 info_s
  simp only [Prod.mk.injEq] at hzz
  obtain ⟨hz, hs, hb⟩ := hzz
  have hr := run_make (P := Tryd.prog) w 61 103 i _ Tryd.underlying61 hi hz .i64 .i64 (n : Int) (n : Int) (by omega) (Int.le_refl _) (by rw [hb]; omega) (by omega)
  rw [hs] at hr
  simp only [Int.toNat_natCast] at hr
  rw [hr]
  congr 3
  show madeCells (Array.replicate 512 (Value.int .u8 0)) (n * 512) = _
  apply Array.ext
  · simp [madeCells]
  · intro i h1 h2
    simp [madeCells]
    rw [getElem!_pos _ _ (by simp; omega)]
    simp
set_option maxRecDepth 100000 in
theorem make_p (n : Nat) (hn : n ≤ 16384) (w : World) : (Instr.makeSlice 62 (.int .i64 (n : Int)) (.int .i64 (n : Int))).run Tryd.prog w = .ok (.slice (some ⟨w.heap.size, 0, none⟩) n n) (w.alloc (.cells (Array.replicate n (.pointer none)) 101)) := by
  rw [run_make_row' (P := Tryd.prog) 62 101 (.pointer none) 8 Tryd.underlying62 info_p rfl .i64 .i64 n (by omega) (by omega) w, made_eq]

set_option maxRecDepth 100000 in
theorem new_no (n : Int) (w : World) (hn : n < 1 ∨ 16384 < n) :
    Calls Tryd.prog 7 #[.int .i64 n] w fun e w' => e = .returned (.tuple #[.pointer none, .iface 60 (.int .i64 1)]) ∧ w = w' := by
  rcases hn with h | h
  · go_enter Tryd.func7, Tryd.ntmps7
    go_wp2
    go_ret2
    exact ⟨rfl, rfl⟩
  · have h1 : ¬ n < 1 := by omega
    go_enter Tryd.func7, Tryd.ntmps7
    go_wp2
    go_ret2
    exact ⟨rfl, rfl⟩
/-- the three blocks of a new disk, in whatever order the first two were made -/
theorem fresh_of (n : Nat) (hn : n ≤ 16384) (w w' : World) (S L : Nat) (hS : w.heap.size ≤ S) (hL : w.heap.size ≤ L) (hSL : S ≠ L) (hSD : S < w.heap.size + 2) (hLD : L < w.heap.size + 2) (hsz : w'.heap.size = w.heap.size + 3) (hb : Below w.heap.size w w')
    (cS : w'.heap[S]? = some (.cells (Array.replicate (n * 512) (.int .u8 0)) 103 (0, 0)))
    (cL : w'.heap[L]? = some (.cells (Array.replicate n (.pointer none)) 101 (0, 0)))
    (cD : w'.heap[w.heap.size + 2]? = some (.cells #[.slice (some ⟨S, 0, none⟩) n n, .slice (some ⟨L, 0, none⟩) n n, .slice none 0 0, .int .i64 0, .int .i64 (-1)] 69 (0, 0))) :
    Fresh n w w' ⟨n, w.heap.size + 2, S, L, fun _ _ => 0, fun _ _ => 0, fun _ => none, .slice none 0 0, [], 0, -1⟩ := by
  refine ⟨⟨⟨hn, by show w.heap.size ≤ w.heap.size + 2; omega, hS, hL, by show w.heap.size + 2 ≠ S; omega, by show w.heap.size + 2 ≠ L; omega, hSL, ?_, ?_, ?_, ?_, ?_, ?_, ?_, ?_, ?_, ?_, ?_, ?_⟩, ?_, ?_, ?_, ?_, ?_, ?_, ?_, ?_, ?_, ?_, ?_, ?_, ?_, ?_, ?_⟩, rfl, fun _ _ => rfl, fun _ => rfl, rfl, rfl, rfl, hb⟩
  · intro i b h; cases h
  · intro i j b h; cases h
  · simp [Value.ownBlock]
  · simp [Value.ownBlock]
  · simp [Value.ownBlock]
  · exact List.nodup_nil
  · intro i; simp
  · intro i h; exact absurd rfl h
  · show (-9223372036854775808 : Int) ≤ -1; omega
  · show (-1 : Int) ≤ 9223372036854775807; omega
  · intro i j; exact ⟨Int.le_refl _, (by decide : (0 : Int) < 256)⟩
  · intro i j; exact ⟨Int.le_refl _, (by decide : (0 : Int) < 256)⟩
  · exact cell_of_row _ _ _ _ _ _ cD
  · exact cell_of_row _ _ _ _ _ _ cD
  · exact cell_of_row _ _ _ _ _ _ cD
  · exact cell_of_row _ _ _ _ _ _ cD
  · exact cell_of_row _ _ _ _ _ _ cD
  · show S < w'.heap.size; omega
  · show L < w'.heap.size; omega
  · intro i; exact frozen_of_row _ _ _ _ _ cD
  · intro i j hi hj
    have hi' : i < n := hi
    show w'.cell? ⟨S, i * 512 + j, none⟩ = _
    rw [cell_of_row _ _ _ _ _ _ cS, Array.getElem?_eq_getElem (by rw [Array.size_replicate]; omega)]
    simp
  · intro i; exact frozen_of_row _ _ _ _ _ cS
  · intro i hi
    have hi' : i < n := hi
    show w'.cell? ⟨L, i, none⟩ = _
    rw [cell_of_row _ _ _ _ _ _ cL, Array.getElem?_eq_getElem (by rw [Array.size_replicate]; omega)]
    simp [ptr]
  · intro i; exact frozen_of_row _ _ _ _ _ cL
  · exact World.ownsRow_nil _ _ _ _
  · intro i b h; cases h
  · intro i b h; cases h
theorem al3 (w : World) (A B C : Obj) : (((w.alloc A).alloc B).alloc C).heap[w.heap.size]? = some A ∧ (((w.alloc A).alloc B).alloc C).heap[w.heap.size + 1]? = some B ∧ (((w.alloc A).alloc B).alloc C).heap[w.heap.size + 2]? = some C ∧ (((w.alloc A).alloc B).alloc C).heap.size = w.heap.size + 3 ∧ Below w.heap.size w (((w.alloc A).alloc B).alloc C) := by
  refine ⟨?_, ?_, ?_, ?_, ?_⟩
  · rw [Below.heap_alloc _ _ _ (by simp; omega), heap_alloc2_old]
  · rw [Below.heap_alloc _ _ _ (by simp), heap_alloc2_new]
  · have := heap_alloc_new ((w.alloc A).alloc B) C
    simpa using this
  · simp
  · exact (((Below.refl _ _).alloc (Nat.le_refl _) _).alloc (by simp) _).alloc (by simp; omega) _
set_option maxRecDepth 100000 in
theorem new_any (n : Nat) (w : World) (h1 : 1 ≤ n) (h2 : n ≤ 16384) :
    Calls Tryd.prog 7 #[.int .i64 n] w (Made n w) := by
  have m1 := make_s n h2
  have m2 := make_p n h2
  have a1 : ¬ (n : Int) < 1 := by omega
  have a2 : ¬ (16384 : Int) < (n : Int) := by omega
  go_enter Tryd.func7, Tryd.ntmps7
  go_wp2
  go_region
  all_goals go_wp2
  all_goals go_ret2
  · have A := al3 w (.cells (Array.replicate (n * 512) (.int .u8 0)) 103) (.cells (Array.replicate n (.pointer none)) 101) (.cells #[.slice (some ⟨w.heap.size, 0, none⟩) n n, .slice (some ⟨w.heap.size + 1, 0, none⟩) n n, .slice none 0 0, .int .i64 0, .int .i64 (-1)] 69)
    exact ⟨_, rfl, fresh_of n h2 w _ w.heap.size (w.heap.size + 1) (by omega) (by omega) (by omega) (by omega) (by omega) A.2.2.2.1 A.2.2.2.2.drew A.1 A.2.1 A.2.2.1⟩
  · have A := al3 w (.cells (Array.replicate n (.pointer none)) 101) (.cells (Array.replicate (n * 512) (.int .u8 0)) 103) (.cells #[.slice (some ⟨w.heap.size + 1, 0, none⟩) n n, .slice (some ⟨w.heap.size, 0, none⟩) n n, .slice none 0 0, .int .i64 0, .int .i64 (-1)] 69)
    exact ⟨_, rfl, fresh_of n h2 w _ (w.heap.size + 1) w.heap.size (by omega) (by omega) (by omega) (by omega) (by omega) A.2.2.2.1 A.2.2.2.2.drew A.2.1 A.1 A.2.2.1⟩
end Go.Proofs.YtkmedlbokneegaaDoor

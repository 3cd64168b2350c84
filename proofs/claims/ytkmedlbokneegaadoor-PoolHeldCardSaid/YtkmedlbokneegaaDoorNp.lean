/-
  THE WALK of the pool's New. Conditions: the number of frames is one that can be.
-/
import Derived.Test.YtkmedlbokneegaaDoorNw
namespace Go.Proofs.YtkmedlbokneegaaDoor
open Go.RowKit Go.Maps

set_option maxRecDepth 100000 in
theorem newp_no (d : Value) (m : Int) (w : World) (hd : d = .pointer none ∨ ((∃ D, d = .pointer (some ⟨D, 0, none⟩)) ∧ (m < 1 ∨ 1024 < m))) :
    Calls Tryd.prog 8 #[d, .int .i64 m] w fun e w' => e = .returned (.tuple #[.pointer none, .iface 60 (.int .i64 1)]) ∧ w = w' := by
  rcases hd with rfl | ⟨⟨D, rfl⟩, h | h⟩
  · go_enter Tryd.func8, Tryd.ntmps8
    go_wp2
    go_ret2
    exact ⟨rfl, rfl⟩
  · go_enter Tryd.func8, Tryd.ntmps8
    go_wp2
    go_ret2
    exact ⟨rfl, rfl⟩
  · have h2 : ¬ m < 1 := by omega
    go_enter Tryd.func8, Tryd.ntmps8
    go_wp2
    go_ret2
    exact ⟨rfl, rfl⟩
def Px.fresh (d : Dk) (m : Nat) : Px := ⟨d, m, 0, fun _ => Fr.new (-1), 0, 0⟩
theorem fresh_ok {d : Dk} {m N : Nat} (h1 : 1 ≤ m) (h2 : m ≤ 1024) (hn : d.n ≤ 16384) (w0 : 0 ≤ d.writes) (wN : d.writes ≤ N) : (Px.fresh d m).Ok N :=
  ⟨h1, h2, Nat.zero_le _, h1, hn, fun k hk => absurd hk (Nat.not_lt_zero _), fun j k hj => absurd hj (Nat.not_lt_zero _), fun _ _ => rfl, fun _ => .inr ⟨rfl, rfl⟩, fun _ => Nat.zero_le _, w0, wN, Int.le_refl _, by show (0 : Int) ≤ N; omega⟩
def NewPAt (B N : Nat) (w : World) (s : St) (d : Dk) (m : Nat) (e : Ending) (w' : World) : Prop :=
  ∃ μ, e = .returned (.tuple #[.pointer (some ⟨μ.P, 0, none⟩), .nilIface]) ∧ PoolAt B N w' μ ∧ μ.s = s ∧ μ.X = Px.fresh d m ∧ Below w.heap.size w w' ∧ ∀ b, μ.all b → s.has b ∨ w.heap.size ≤ b
theorem made_pool {B N : Nat} {w w1 w' : World} {s : St} {d : Dk} {m G : Nat} {P M : Nat} (hd : DiskAt B w s) (ht : Tie s d) (h1 : 1 ≤ m) (h2 : m ≤ 1024) (w0 : 0 ≤ d.writes) (wN : d.writes ≤ N)
    (hG : w1.heap[G]? = some (.cells (rw5 m m).toArray 73 (0, 0))) (hGl : w.heap.size ≤ G) (hb1 : Below w.heap.size w w1) (hM : M = w1.heap.size) (hP : P = w1.heap.size + 1)
    (hw : w' = (w1.alloc (.map #[] 0)).alloc (.cells #[.pointer (some ⟨s.D, 0, none⟩), .slice (some ⟨G, 0, none⟩) m m, .map (some M), .int .i64 0, .int .i64 0] 76)) :
    NewPAt B N w s d m (.returned (.tuple #[.pointer (some ⟨P, 0, none⟩), .nilIface])) w' := by
  have hGlt : G < w1.heap.size := (Array.getElem?_eq_some_iff.1 hG).1
  have hb2 : Below w.heap.size w w' := by
    rw [hw]
    exact (hb1.alloc hb1.size _).alloc (by have := hb1.size; simp; omega) _
  have eG : w'.heap[G]? = w1.heap[G]? := by
    rw [hw, Below.heap_alloc _ _ _ (by simp; omega), Below.heap_alloc _ _ _ hGlt]
  have eP : w'.heap[P]? = some (.cells #[.pointer (some ⟨s.D, 0, none⟩), .slice (some ⟨G, 0, none⟩) m m, .map (some M), .int .i64 0, .int .i64 0] 76 (0, 0)) := by
    rw [hw, hP]
    have := heap_alloc_new (w1.alloc (.map #[] 0)) (.cells #[.pointer (some ⟨s.D, 0, none⟩), .slice (some ⟨G, 0, none⟩) m m, .map (some M), .int .i64 0, .int .i64 0] 76)
    simpa using this
  have hB : B ≤ w.heap.size := Nat.le_trans hd.ok.bD (Nat.le_of_lt (hd.lt _ (.inl rfl)).2)
  have hsl : ∀ b, s.has b → b < w.heap.size := fun b hb => (hd.lt b hb).2
  have hs1 := hb1.size
  refine ⟨⟨P, G, M, s, Px.fresh d m, fun _ => none, fun _ => 0, .map []⟩, rfl, ⟨⟨hd.below hb2, ht, ⟨by show B ≤ P; omega, by show B ≤ G; omega, by show B ≤ M; omega, by show P ≠ G; omega, by show P ≠ M; omega, by show G ≠ M; omega, fun q => ?_, fun q => ?_, fun q => ?_⟩, ⟨cell_of_row _ _ _ _ _ _ eP, cell_of_row _ _ _ _ _ _ eP, cell_of_row _ _ _ _ _ _ eP, cell_of_row _ _ _ _ _ _ eP, cell_of_row _ _ _ _ _ _ eP, fun i => frozen_of_row _ _ _ _ _ eP⟩, ⟨fun k hk j hj => ?_, fun i => frozen_of_row _ _ _ _ _ (eG.trans hG), ?_⟩, ⟨fun k _ i hi => absurd hi (by simp [Px.fresh, Fr.new, nums]), fun k _ b off e => (by cases e), fun k _ => Nat.le_refl _⟩, fresh_ok h1 h2 (by rw [ht.n]; exact hd.ok.n1) w0 wN⟩, (by rw [hw, hM]; exact (World.ownsMap_made w1 _ _ _).alloc _), ⟨tidy_empty, fun i => ⟨fun q => (by simp [Maps.has] at q), fun ⟨k, hk, _⟩ => absurd hk (Nat.not_lt_zero _)⟩, fun k hk => absurd hk (Nat.not_lt_zero _), rfl⟩⟩, rfl, rfl, hb2, fun b hb => ?_⟩
  · have : P < w.heap.size := hsl _ q
    omega
  · have : G < w.heap.size := hsl _ q
    omega
  · have : M < w.heap.size := hsl _ q
    omega
  · show w'.cell? ⟨G, k * 5 + j, none⟩ = some (fv (Fr.new (-1)) none 0 j)
    have hk' : k < m := hk
    rw [cell_of_row _ _ _ _ _ _ (eG.trans hG)]
    have := rw5_get m m (k * 5 + j) (by omega)
    rw [decide_eq_true (by omega), show (k * 5 + j) % 5 = j by omega] at this
    show (rw5 m m).toArray[k * 5 + j]? = some (fz true j)
    simpa using this
  · show G < w'.heap.size
    have := hb2.size
    rw [hw]; simp; omega
  · rcases hb with (q | q | q | q) | ⟨k, off, _, e⟩
    · right; rw [q]; show w.heap.size ≤ P; omega
    · right; rw [q]; exact hGl
    · right; rw [q]; show w.heap.size ≤ M; omega
    · exact .inl q
    · cases e
set_option maxRecDepth 100000 in
set_option maxHeartbeats 1000000 in
theorem newp_any {B N : Nat} (s : St) (d : Dk) (m : Nat) (w : World) (hd : DiskAt B w s) (ht : Tie s d) (h1 : 1 ≤ m) (h2 : m ≤ 1024) (w0 : 0 ≤ d.writes) (wN : d.writes ≤ N) :
    Calls Tryd.prog 8 #[.pointer (some ⟨s.D, 0, none⟩), .int .i64 (m : Int)] w (NewPAt B N w s d m) := by
  have m0 : ¬ (m : Int) < 1 := by omega
  have m1 : ¬ (1024 : Int) < (m : Int) := by omega
  have hmm := @run_makeMap Tryd.prog
  have HD := Lib.hid hd
  have HT := Lib.hid ht
  have HW0 := Lib.hid w0
  have HWN := Lib.hid wN
  have HB0 := Lib.hid ((Below.refl w.heap.size w).alloc (Nat.le_refl _) (.cells #[.int .i64 (-1), .slice none 0 0, .bool false, .bool false, .int .i64 0] 73))
  have HR := Lib.hid (repeat_any w.heap.size 1 m (w.alloc (.cells #[.int .i64 (-1), .slice none 0 0, .bool false, .bool false, .int .i64 0] 73)) h1 h2 (fun j v e => by
    have hj : j < 5 := by have := (List.getElem?_eq_some_iff.1 e).1; rw [rw5_len] at this; omega
    rw [Addr.add_mid, Nat.zero_add, cell_of_row _ _ _ _ _ _ (heap_alloc_new _ _)]
    rw [rw5_get _ _ _ (by omega)] at e
    match j, hj with
    | 0, _ => exact e
    | 1, _ => exact e
    | 2, _ => exact e
    | 3, _ => exact e
    | 4, _ => exact e) (by simp))
  clear hd ht w0 wN
  go_enter Tryd.func8, Tryd.ntmps8
  go_wp2_with (go_at_call 25; refine HR.out.mono ?_; rintro e w1 ⟨G, rfl, hG, hGl, hb⟩; have HG := Lib.hid hG; have HGL := Lib.hid hGl; have HB := Lib.hid hb; clear hG hGl hb)
  go_ret2
  have hb1 : Below w.heap.size w w1 := HB0.out.trans (HB.out.mono (by simp))
  refine made_pool HD.out HT.out h1 h2 HW0.out HWN.out HG.out (by have := HGL.out; simp at this; omega) hb1 rfl rfl ?_
  rfl
end Go.Proofs.YtkmedlbokneegaaDoor

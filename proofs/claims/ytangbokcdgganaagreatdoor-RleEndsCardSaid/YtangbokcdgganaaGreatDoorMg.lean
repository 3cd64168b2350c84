/-
  RLE: measure.
-/
import Derived.Test.YtangbokcdgganaaGreatDoorMe
namespace Go.Proofs.YtangbokcdgganaaGreatDoor
open Go.RowKit Ru Ce

namespace Rl
def dims : List Cel → Cel × Int × Int
  | [] => ((0, 0), 0, 0)
  | p :: t => (t.foldl lo2 p, (t.foldl hi2 p).1 - (t.foldl lo2 p).1 + 1, (t.foldl hi2 p).2 - (t.foldl lo2 p).2 + 1)
theorem lo_bnd (M : Int) : ∀ (L : List Cel) (p : Cel), (∀ c ∈ L, M ≤ c.1 ∧ M ≤ c.2) → M ≤ p.1 ∧ M ≤ p.2 → (M ≤ (L.foldl lo2 p).1 ∧ M ≤ (L.foldl lo2 p).2) ∧ ((L.foldl lo2 p).1 ≤ p.1 ∧ (L.foldl lo2 p).2 ≤ p.2) ∧ ∀ c ∈ L, (L.foldl lo2 p).1 ≤ c.1 ∧ (L.foldl lo2 p).2 ≤ c.2
  | [], p, _, hp => ⟨hp, ⟨Int.le_refl _, Int.le_refl _⟩, fun c hc => by cases hc⟩
  | d :: r, p, h, hp => by
    have hd := h d (by simp)
    have ih := lo_bnd M r (lo2 p d) (fun c hc => h c (by simp [hc])) (by unfold lo2; simp only; omega)
    refine ⟨ih.1, ?_, fun c hc => ?_⟩
    · have := ih.2.1
      unfold lo2 at this; simp only at this
      show (r.foldl lo2 (lo2 p d)).1 ≤ p.1 ∧ (r.foldl lo2 (lo2 p d)).2 ≤ p.2
      unfold lo2; unfold lo2 at ih; simp only at *
      omega
    · show (r.foldl lo2 (lo2 p d)).1 ≤ c.1 ∧ (r.foldl lo2 (lo2 p d)).2 ≤ c.2
      rcases List.mem_cons.1 hc with rfl | hc
      · have := ih.2.1
        have e1 : (lo2 p c).1 ≤ c.1 := by unfold lo2; simp only; omega
        have e2 : (lo2 p c).2 ≤ c.2 := by unfold lo2; simp only; omega
        omega
      · exact ih.2.2 c hc
theorem hi_bnd (M : Int) : ∀ (L : List Cel) (p : Cel), (∀ c ∈ L, c.1 ≤ M ∧ c.2 ≤ M) → p.1 ≤ M ∧ p.2 ≤ M → ((L.foldl hi2 p).1 ≤ M ∧ (L.foldl hi2 p).2 ≤ M) ∧ (p.1 ≤ (L.foldl hi2 p).1 ∧ p.2 ≤ (L.foldl hi2 p).2) ∧ ∀ c ∈ L, c.1 ≤ (L.foldl hi2 p).1 ∧ c.2 ≤ (L.foldl hi2 p).2
  | [], p, _, hp => ⟨hp, ⟨Int.le_refl _, Int.le_refl _⟩, fun c hc => by cases hc⟩
  | d :: r, p, h, hp => by
    have hd := h d (by simp)
    have ih := hi_bnd M r (hi2 p d) (fun c hc => h c (by simp [hc])) (by unfold hi2; simp only; omega)
    refine ⟨ih.1, ?_, fun c hc => ?_⟩
    · have := ih.2.1
      show p.1 ≤ (r.foldl hi2 (hi2 p d)).1 ∧ p.2 ≤ (r.foldl hi2 (hi2 p d)).2
      have e1 : p.1 ≤ (hi2 p d).1 := by unfold hi2; simp only; omega
      have e2 : p.2 ≤ (hi2 p d).2 := by unfold hi2; simp only; omega
      omega
    · show c.1 ≤ (r.foldl hi2 (hi2 p d)).1 ∧ c.2 ≤ (r.foldl hi2 (hi2 p d)).2
      rcases List.mem_cons.1 hc with rfl | hc
      · have := ih.2.1
        have e1 : c.1 ≤ (hi2 p c).1 := by unfold hi2; simp only; omega
        have e2 : c.2 ≤ (hi2 p c).2 := by unfold hi2; simp only; omega
        omega
      · exact ih.2.2 c hc
theorem box_zero (a : Option Addr) (c : Nat) (w : World) : Calls Tryz.prog 30 #[.slice a 0 c] w fun e w' => e = .returned (.tuple #[cv (0, 0), cv (0, 0), .bool false]) ∧ Below w.heap.size w w' := by
  have h1 := heap_alloc_new w (.cells #[.int .i64 0, .int .i64 0] 25)
  have h2 := heap_alloc_new (w.alloc (.cells #[.int .i64 0, .int .i64 0] 25)) (.cells #[.int .i64 0, .int .i64 0] 25)
  have h3 := (Below.heap_alloc (w.alloc (.cells #[.int .i64 0, .int .i64 0] 25)) (.cells #[.int .i64 0, .int .i64 0] 25) w.heap.size (lt_of_block h1)).trans h1
  have HH := Lib.hid (And.intro h2 h3)
  unfold cv
  clear h1 h2 h3
  go_enter Tryz.func30, Tryz.ntmps30
  go_wp2
  exact bodyPost_ret (results_ccb Tryz.results30 _ _ w.heap.size (w.heap.size + 1) 25 25 #[.int .i64 0, .int .i64 0] #[.int .i64 0, .int .i64 0] (0, 0) (0, 0) _ rfl rfl HH.out.2 (by have := HH.out.1; simpa using this) Tryz.underlying25 rfl (by kernel_rfl) (by kernel_rfl)) rfl ⟨rfl, (alX _ _).trans ((alX _ _).mono (by simp))⟩
/-- what stands behind Box: the two blocks, step by step -/
theorem meas_w (w w2 : World) (l1 l2 h1 h2 : Int) (hb : Below (w.alloc (.cells #[.int .i64 0, .int .i64 0] 25)).heap.size (w.alloc (.cells #[.int .i64 0, .int .i64 0] 25)) w2) :
    Below w.heap.size w w2 ∧
    (w2.alloc (.cells #[.int .i64 0, .int .i64 0] 25)).heap[w.heap.size]? = some (.cells #[.int .i64 0, .int .i64 0] 25 (0, 0)) ∧
    (w2.alloc (.cells #[.int .i64 0, .int .i64 0] 25)).heap[w2.heap.size]? = some (.cells #[.int .i64 0, .int .i64 0] 25 (0, 0)) ∧
    (((w2.alloc (.cells #[.int .i64 0, .int .i64 0] 25)).setCell ⟨w.heap.size, 0, none⟩ (.int .i64 l1)).setCell ⟨w.heap.size, 1, none⟩ (.int .i64 l2)).heap[w.heap.size]? = some (.cells #[.int .i64 l1, .int .i64 l2] 25 (0, 0)) ∧
    (((w2.alloc (.cells #[.int .i64 0, .int .i64 0] 25)).setCell ⟨w.heap.size, 0, none⟩ (.int .i64 l1)).setCell ⟨w.heap.size, 1, none⟩ (.int .i64 l2)).heap[w2.heap.size]? = some (.cells #[.int .i64 0, .int .i64 0] 25 (0, 0)) ∧
    (((((w2.alloc (.cells #[.int .i64 0, .int .i64 0] 25)).setCell ⟨w.heap.size, 0, none⟩ (.int .i64 l1)).setCell ⟨w.heap.size, 1, none⟩ (.int .i64 l2)).setCell ⟨w2.heap.size, 0, none⟩ (.int .i64 h1)).setCell ⟨w2.heap.size, 1, none⟩ (.int .i64 h2)).heap[w.heap.size]? = some (.cells #[.int .i64 l1, .int .i64 l2] 25 (0, 0)) ∧
    (((((w2.alloc (.cells #[.int .i64 0, .int .i64 0] 25)).setCell ⟨w.heap.size, 0, none⟩ (.int .i64 l1)).setCell ⟨w.heap.size, 1, none⟩ (.int .i64 l2)).setCell ⟨w2.heap.size, 0, none⟩ (.int .i64 h1)).setCell ⟨w2.heap.size, 1, none⟩ (.int .i64 h2)).heap[w2.heap.size]? = some (.cells #[.int .i64 h1, .int .i64 h2] 25 (0, 0)) ∧
    Below w.heap.size w (((((w2.alloc (.cells #[.int .i64 0, .int .i64 0] 25)).setCell ⟨w.heap.size, 0, none⟩ (.int .i64 l1)).setCell ⟨w.heap.size, 1, none⟩ (.int .i64 l2)).setCell ⟨w2.heap.size, 0, none⟩ (.int .i64 h1)).setCell ⟨w2.heap.size, 1, none⟩ (.int .i64 h2)) ∧ w2.heap.size ≠ w.heap.size := by
  have hB2 : Below w.heap.size w w2 := (alX w _).trans (hb.mono (by simp))
  have h2' := (hb.block w.heap.size (by simp)).trans (heap_alloc_new w (.cells #[.int .i64 0, .int .i64 0] 25))
  have hlt := lt_of_block h2'
  have hne : w2.heap.size ≠ w.heap.size := by omega
  have h5 := (heap_alloc_old w2 (.cells #[.int .i64 0, .int .i64 0] 25) hlt).trans h2'
  have h6 := heap_alloc_new w2 (.cells #[.int .i64 0, .int .i64 0] 25)
  have x5 := two_set (x := .int .i64 l1) (y := .int .i64 l2) h5
  have x6 := (two_other (w := w2.alloc (.cells #[.int .i64 0, .int .i64 0] 25)) (x := .int .i64 l1) (y := .int .i64 l2) hne).trans h6
  have y6 := two_set (x := .int .i64 h1) (y := .int .i64 h2) x6
  have y5 := (two_other (w := ((w2.alloc (.cells #[.int .i64 0, .int .i64 0] 25)).setCell ⟨w.heap.size, 0, none⟩ (.int .i64 l1)).setCell ⟨w.heap.size, 1, none⟩ (.int .i64 l2)) (x := .int .i64 h1) (y := .int .i64 h2) (fun e => hne e.symm)).trans x5
  exact ⟨hB2, h5, h6, x5, x6, y5, y6, two_below (two_below (hB2.alloc hB2.size _) (Nat.le_refl _)) (by omega), hne⟩
set_option maxRecDepth 100000 in
set_option maxHeartbeats 2000000 in
theorem measure_any (a : Option Addr) (n c : Nat) (L : List Cel) (w : World) (ha : Cls w a L) (hn : L.length = n) (hn4 : n ≤ 4096) (hok : ∀ x ∈ L, okc x = true) :
    Calls Tryz.prog 13 #[.slice a n c] w fun e w' => e = .returned (.tuple #[cv (dims L).1, .int .i64 (dims L).2.1, .int .i64 (dims L).2.2]) ∧ Below w.heap.size w w' := by
  cases L with
  | nil =>
    obtain rfl : n = 0 := hn.symm
    have HB := Lib.hid (fun W => box_zero a c W)
    clear ha hok
    unfold cv at *
    go_enter Tryz.func13, Tryz.ntmps13
    go_wp2_with (go_at_call 30; refine (HB.out _).mono ?_; rintro e w2 ⟨rfl, hb2⟩; obtain ⟨hB2, h5, h6, x5, x6, y5, y6, hBY, hne⟩ := meas_w w w2 0 0 0 0 hb2; have H2 := Lib.hid (And.intro y5 (And.intro y6 (And.intro hBY hne))); obtain ⟨⟨c0, c1⟩, f0, f1⟩ := row2 h5; obtain ⟨⟨d0, d1⟩, g0, g1⟩ := row2 h6; obtain ⟨⟨c2, c3⟩, f2, f3⟩ := row2 x5; obtain ⟨⟨d2, d3⟩, g2, g3⟩ := row2 x6; obtain ⟨⟨c4, c5⟩, f4, f5⟩ := row2 y5; obtain ⟨⟨d4, d5⟩, g4, g5⟩ := row2 y6; clear hb2 hB2 h5 h6 x5 x6 y5 y6 hBY hne)
    refine bodyPost_ret (v := .tuple #[cv (0, 0), .int .i64 0, .int .i64 0]) (by simp [results, Tryz.results13, go_sem, cv, *]) rfl ⟨rfl, ?_⟩
    exact two_below H2.out.2.2.1 (Nat.le_refl _)
  | cons p t =>
    obtain ⟨b, o, rfl, _, _⟩ := ha 0 (by simp)
    have HB := Lib.hid (fun (W : World) (hW : Cls W (some ⟨b, o, none⟩) (p :: t)) => box_some b o n c t p W hW hn (by omega))
    have hk : ∀ x ∈ p :: t, (-274877906944 ≤ x.1 ∧ -274877906944 ≤ x.2) ∧ (x.1 ≤ 274877906944 ∧ x.2 ≤ 274877906944) := fun x hx => by have := (okc_iff x).1 (hok x hx); omega
    have hlo := (lo_bnd (-274877906944) t p (fun x hx => (hk x (by simp [hx])).1) (hk p (by simp)).1)
    have hhi := (hi_bnd 274877906944 t p (fun x hx => (hk x (by simp [hx])).2) (hk p (by simp)).2)
    have hpp := hk p (by simp)
    show Calls Tryz.prog 13 #[.slice (some ⟨b, o, none⟩) n c] w fun e w' => e = .returned (.tuple #[cv (t.foldl lo2 p), .int .i64 ((t.foldl hi2 p).1 - (t.foldl lo2 p).1 + 1), .int .i64 ((t.foldl hi2 p).2 - (t.foldl lo2 p).2 + 1)]) ∧ Below w.heap.size w w'
    generalize t.foldl lo2 p = lo at *
    generalize t.foldl hi2 p = hi at *
    obtain ⟨l1, l2⟩ := lo
    obtain ⟨u1, u2⟩ := hi
    obtain ⟨⟨a1, a2⟩, ⟨a3, a4⟩, _⟩ := hlo
    obtain ⟨⟨a5, a6⟩, ⟨a7, a8⟩, _⟩ := hhi
    simp only at a1 a2 a3 a4 a5 a6 a7 a8
    have r1 : l1 ≤ u1 := by omega
    have r2 : l2 ≤ u2 := by omega
    have HAC := Lib.hid (ha.below (alX w (.cells #[.int .i64 0, .int .i64 0] 25)) (Nat.le_refl _))
    have HBX := Lib.hid (HB.out _ HAC.out)
    clear ha hok hk hpp a3 a4 a7 a8 HB HAC
    unfold cv at *
    go_enter Tryz.func13, Tryz.ntmps13
    go_upto_region 4 with (go_at_call 30; refine HBX.out.mono ?_; rintro e w2 ⟨rfl, hb2⟩; obtain ⟨hB2, h5, h6, x5, x6, y5, y6, hBY, hne⟩ := meas_w w w2 l1 l2 u1 u2 hb2; have H2 := Lib.hid (And.intro y5 (And.intro y6 (And.intro hBY hne))); obtain ⟨⟨c0, c1⟩, f0, f1⟩ := row2 h5; obtain ⟨⟨d0, d1⟩, g0, g1⟩ := row2 h6; obtain ⟨⟨c2, c3⟩, f2, f3⟩ := row2 x5; obtain ⟨⟨d2, d3⟩, g2, g3⟩ := row2 x6; obtain ⟨⟨c4, c5⟩, f4, f5⟩ := row2 y5; obtain ⟨⟨d4, d5⟩, g4, g5⟩ := row2 y6; clear hb2 hB2 h5 h6 x5 x6 y5 y6 hBY hne)
    clear c0 c1 c2 c3 d0 d1 d2 d3 f0 f1 f2 f3 g0 g1 g2 g3
    have HNE := Lib.hid H2.out.2.2.2
    generalize ((((w2.alloc (.cells #[.int .i64 0, .int .i64 0] 25)).setCell ⟨w.heap.size, 0, none⟩ (.int .i64 l1)).setCell ⟨w.heap.size, 1, none⟩ (.int .i64 l2)).setCell ⟨w2.heap.size, 0, none⟩ (.int .i64 u1)).setCell ⟨w2.heap.size, 1, none⟩ (.int .i64 u2) = X at *
    have z5 := two_set (x := .int .i64 l1) (y := .int .i64 l2) H2.out.1
    have z6 := (two_other (x := .int .i64 l1) (y := .int .i64 l2) HNE.out).trans H2.out.2.1
    have hA : ∀ V : World, V.heap[w.heap.size]? = some (.cells #[.int .i64 l1, .int .i64 l2] 25 (0, 0)) → V.heap[w2.heap.size]? = some (.cells #[.int .i64 u1, .int .i64 u2] 25 (0, 0)) → (V.cell? ⟨w.heap.size, 0, none⟩ = some (.int .i64 l1) ∧ V.cell? ⟨w.heap.size, 1, none⟩ = some (.int .i64 l2)) ∧ V.cell? ⟨w2.heap.size, 0, none⟩ = some (.int .i64 u1) ∧ V.cell? ⟨w2.heap.size, 1, none⟩ = some (.int .i64 u2) := fun V a b => ⟨(row2 a).1, (row2 b).1⟩
    have KA := Lib.hid (hA X.drew H2.out.1 H2.out.2.1)
    have KB := Lib.hid (hA ((X.drew.setCell ⟨w.heap.size, 0, none⟩ (.int .i64 l1)).setCell ⟨w.heap.size, 1, none⟩ (.int .i64 l2)) z5 z6)
    have HZ := Lib.hid z5
    have HBZ := Lib.hid (two_below (x := .int .i64 l1) (y := .int .i64 l2) H2.out.2.2.1.drew (Nat.le_refl _))
    clear z5 z6 hA
    go_region_held3 (fun V => (V.cell? ⟨w.heap.size, 0, none⟩ = some (.int .i64 l1) ∧ V.cell? ⟨w.heap.size, 1, none⟩ = some (.int .i64 l2)) ∧ V.cell? ⟨w2.heap.size, 0, none⟩ = some (.int .i64 u1) ∧ V.cell? ⟨w2.heap.size, 1, none⟩ = some (.int .i64 u2)) (first | exact KA.out | exact KB.out) (fail)
    all_goals
      have w1 : IntKind.i64.wrap (IntKind.i64.wrap (u1 - l1) + 1) = u1 - l1 + 1 := by rw [IntWalk.i64_in (u1 - l1) (by omega), IntWalk.i64_in _ (by omega)]
      have w2 : IntKind.i64.wrap (IntKind.i64.wrap (u2 - l2) + 1) = u2 - l2 + 1 := by rw [IntWalk.i64_in (u2 - l2) (by omega), IntWalk.i64_in _ (by omega)]
      rw [w1, w2]
      go_wp2
      obtain ⟨⟨q0, q1⟩, _, _⟩ := row2 HZ.out
      refine bodyPost_ret (v := .tuple #[cv (l1, l2), .int .i64 (u1 - l1 + 1), .int .i64 (u2 - l2 + 1)]) ?_ rfl ⟨rfl, ?_⟩
      · simp [results, Tryz.results13, go_sem, cv, q0, q1]
      · exact HBZ.out
end Rl
end Go.Proofs.YtangbokcdgganaaGreatDoor

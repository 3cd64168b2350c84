/-
  THE WALKS of sum.one, noughts.behind, noughts.twice, sum.Noughts: what noughts do to a register. No conditions.
-/
import Derived.Test.YtefdmocfoopghaaWalkA
import Derived.Laws.Rows
import Derived.Laws.Tables
import Derived.Deep.QuietTactic
import Derived.BigQuiet
import Derived.OneCell
import Derived.Deep.MidRow
import Derived.Deep.RegionHeld3
import Derived.WalkSmall
namespace Go.Proofs.Ytefdmocfoopghaa
open Go.RowKit Crc

/-- a whole array of 32 registers -/
def vl (m : Nat → BitVec 32) : List Value := (List.range 32).map fun i => Value.int .u32 (rg (m i))
abbrev vec (m : Nat → BitVec 32) : Array Value := (vl m).toArray
theorem vl_len (m : Nat → BitVec 32) : (vl m).length = 32 := by simp [vl]
theorem vec_size (m : Nat → BitVec 32) : (vec m).size = 32 := by simp [vl]
theorem vec_get (m : Nat → BitVec 32) (i : Nat) (h : i < 32) : (vec m)[i]? = some (.int .u32 (rg (m i))) := by simp [vl, h]
theorem vec_set (m : Nat → BitVec 32) (i : Nat) (x : BitVec 32) : (vec m).setIfInBounds i (.int .u32 (rg x)) = vec (fun j => if j = i then x else m j) := by
  apply Array.ext
  · simp [vl_len]
  · intro j h1 h2
    rw [Array.getElem_setIfInBounds (by simpa using h1)]
    by_cases h : i = j
    · subst h; simp [vl]
    · have h' : ¬ j = i := fun e => h e.symm
      simp [vl, h, h']
theorem vec_one (m : Nat → BitVec 32) : (vec m).all (·.oneCell') = true := by
  simp [vl, Value.oneCell']
def HasVec (w : World) (b : Nat) (m : Nat → BitVec 32) : Prop := w.heap[b]? = some (.cells (vec m) 43 (0, 0))
theorem HasVec.cell {w : World} {b : Nat} {m : Nat → BitVec 32} (h : HasVec w b m) (i : Nat) (hi : i < 32) : w.cell? ⟨b, i, none⟩ = some (.int .u32 (rg (m i))) := by
  rw [cell_of_row w b i _ _ _ h, vec_get m i hi]

theorem HasVec.free {w : World} {b : Nat} {m : Nat → BitVec 32} (h : HasVec w b m) (i : Nat) : w.frozen? ⟨b, i, none⟩ = false := frozen_of_row w b i _ _ h
theorem HasVec.drewN {w : World} {b : Nat} {m : Nat → BitVec 32} (h : HasVec w b m) (n : Nat) : HasVec (w.drewN n) b m := h
theorem HasVec.put {w : World} {b : Nat} {m : Nat → BitVec 32} (h : HasVec w b m) (i : Nat) (x : BitVec 32) : HasVec (w.setCell ⟨b, i, none⟩ (.int .u32 (rg x))) b (fun j => if j = i then x else m j) := by
  unfold HasVec
  rw [heap_setCell_same w b i _ _ _ h, vec_set]
theorem HasVec.keep {w : World} {b : Nat} {m : Nat → BitVec 32} (h : HasVec w b m) {g : Nat} (i : Nat) (x : Value) (hne : b ≠ g) : HasVec (w.setCell ⟨g, i, none⟩ x) b m := by
  unfold HasVec
  rw [heap_setCell_other w _ b x hne]
  exact h
theorem HasVec.below {w w' : World} {B b : Nat} {m : Nat → BitVec 32} (h : HasVec w b m) (hb : Below B w w') (hlt : b < B) : HasVec w' b m := by
  unfold HasVec
  rw [hb.block b hlt]
  exact h
theorem HasVec.lt {w : World} {b : Nat} {m : Nat → BitVec 32} (h : HasVec w b m) : b < w.heap.size := lt_of_block h
theorem bh_next (m : Nat → BitVec 32) (r : BitVec 32) (k : Nat) : bits .xor .u32 (rg (bh m r k)) (bits .and .u32 (rg r / 2 ^ k) 1 * rg (m k) % 4294967296) = rg (bh m r (k + 1)) := by
  rw [shr_rg, and_one, mul_rg, xor_rg]
  rfl

theorem step_vec {m f : Nat → BitVec 32} {k : Nat} {x : BitVec 32} (h : ∀ j, j < k → m j = f j) (hx : x = f k) : ∀ j, j < k + 1 → (fun j => if j = k then x else m j) j = f j := by
  intro j hj
  show (if j = k then x else m j) = f j
  by_cases e : j = k
  · rw [if_pos e, e, hx]
  · rw [if_neg e, h j (by omega)]

theorem behind_any (m : Nat → BitVec 32) (r : BitVec 32) (w : World) :
    Calls Try.prog 18 #[.agg (vec m), .int .u32 (rg r)] w fun e w' => e = .returned (.int .u32 (rg (bh m r 32))) ∧ Below w.heap.size w w' := by
  have hr := rg_bd r
  go_enter Try.func18, Try.ntmps18
  go_wp2
  go_loopw [5, 7] (fun t i wr => ∃ k : Nat, k ≤ 32 ∧ i = .int .i64 k ∧ t = .int .u32 (rg (bh m r k)) ∧ HasVec wr w.heap.size m ∧ Below w.heap.size w wr) (fun _ i _ => 32 - (intOf i).toNat)
  case atStart => exact ⟨0, by omega, rfl, rfl, heap_alloc_new _ _, (Below.refl _ _).alloc (Nat.le_refl _) _⟩
  case round =>
    obtain ⟨k, hk, rfl, rfl, hv, hb⟩ := hrel
    have HV := Lib.hid hv
    have HB := Lib.hid hb
    clear hv hb
    have hb := rg_bd (bh m r k)
    have hx := rg_bd (m k)
    by_cases hlt : k < 32
    · have hc := HV.out.cell k hlt
      have hki : (k : Int) < 32 := by omega
      go_wp2
      go_quiet (fail)
      go_wp2
      go_roundw
      case rel => exact ⟨k + 1, by omega, by go_num, by rw [bh_next], HV.out.drewN nq, below_drewN HB.out nq⟩
      case measure => simp [intOf]; omega
    · obtain rfl : k = 32 := by omega
      go_wp2
      go_ret
      exact ⟨rfl, HB.out⟩

/-- noughts as an array: what each bit becomes -/
def zer : Array Value := #[.int .u32 0, .int .u32 0, .int .u32 0, .int .u32 0, .int .u32 0, .int .u32 0, .int .u32 0, .int .u32 0, .int .u32 0, .int .u32 0, .int .u32 0, .int .u32 0, .int .u32 0, .int .u32 0, .int .u32 0, .int .u32 0, .int .u32 0, .int .u32 0, .int .u32 0, .int .u32 0, .int .u32 0, .int .u32 0, .int .u32 0, .int .u32 0, .int .u32 0, .int .u32 0, .int .u32 0, .int .u32 0, .int .u32 0, .int .u32 0, .int .u32 0, .int .u32 0]
theorem zer_eq : zer = vec (fun _ => 0#32) := by rfl
theorem two_vecs (w : World) : HasVec ((w.alloc (.cells zer 43)).alloc (.cells zer 43)) (w.heap.size + 1) (fun _ => 0#32) ∧ HasVec ((w.alloc (.cells zer 43)).alloc (.cells zer 43)) w.heap.size (fun _ => 0#32) := by
  unfold HasVec
  rw [← zer_eq]
  exact ⟨heap_alloc2_new _ _ _, heap_alloc2_old _ _ _⟩
theorem below2 (w : World) (a b : Obj) : Below w.heap.size w ((w.alloc a).alloc b) := ((Below.refl _ _).alloc (Nat.le_refl _) _).alloc (by simp) _
theorem info_vec (m : Nat → BitVec 32) : (Try.prog.info? 43).map (·.size) = some (vec m).size := by
  rw [vec_size]
  kernel_rfl
theorem vec_congr {m m' : Nat → BitVec 32} (h : ∀ i, i < 32 → m i = m' i) : vec m = vec m' := by
  unfold vec vl
  congr 1
  apply List.map_congr_left
  intro i hi
  rw [h i (by simpa using hi)]
theorem HasVec.set_all {w : World} {b : Nat} {m : Nat → BitVec 32} (h : HasVec w b m) (m' : Nat → BitVec 32) : HasVec (w.setRow b (vec m')) b m' := setRow_heap w b _ _ _ _ h
theorem below_setRow {B : Nat} {a w : World} (h : Below B a w) (b : Nat) (hb : B ≤ b) (cs : Array Value) : Below B a (w.setRow b cs) :=
  ⟨h.os, h.tape, h.output, by simpa using h.size, fun k hk => (setRow_other w b k cs (by omega)).trans (h.block k hk)⟩
theorem pow_rg (k : Nat) : (2 : Int) ^ k % 4294967296 = rg (1#32 <<< k) := by
  unfold rg
  rw [BitVec.toNat_shiftLeft, Nat.shiftLeft_eq]
  simp
theorem oneMore_pow (k : Nat) (w : World) :
    Calls Try.prog 16 #[.int .u32 (2 ^ k % 4294967296), .int .u8 0] w fun e w' => e = .returned (.int .u32 (rg (z (1#32 <<< k)))) ∧ w = w' := by
  have h := oneMore_any (1#32 <<< k) 0 (by decide) (by decide) w
  have e : b8 0 = 0#32 := rfl
  rw [e, byt_zero, ← pow_rg] at h
  exact h

/-- a call ends with a whole array as its result -/
theorem post_cell_row {P : Program} {fn : Func} {R : Ending → World → Prop} {a : Act} {w : World} {p : Tmp} {ty : TypeId} (h : fn.results = #[.cell p ty]) (g : Nat) (t : TypeId) (cs : Array Value) (fr : Nat × Nat) (d : TypeDesc)
    (hu : P.underlying ty = some d) (hd : (match d with | .struct _ | .array _ _ => true | _ => false) = true) (hi : (P.info? ty).map (·.size) = some cs.size)
    (hp : a.tmps.getD p undef = .pointer (some ⟨g, 0, none⟩)) (hg : w.heap[g]? = some (.cells cs t fr)) (hdf : a.defers = []) (hR : R (.returned (.agg cs)) w) : bodyPost P fn R .ret a w :=
  bodyPost_ret (results_cell_row h a.tmps w g t cs fr d hp hg hu hd hi) hdf hR

/-- a single nought -/
theorem one_any (w : World) :
    Calls Try.prog 17 #[] w fun e w' => e = .returned (.agg (vec fun i => z (1#32 <<< i))) ∧ Below w.heap.size w w' := by
  go_enter Try.func17, Try.ntmps17
  go_wp2
  go_loopw [2, 3] (fun _ i wr => ∃ (k : Nat) (m : Nat → BitVec 32), k ≤ 32 ∧ i = .int .i64 k ∧ Hid (∀ j, j < k → m j = z (1#32 <<< j)) ∧ HasVec wr (w.heap.size + 1) m ∧ Hid (∃ m0, HasVec wr w.heap.size m0) ∧ Below w.heap.size w wr) (fun _ i _ => 32 - (intOf i).toNat)
  case atStart =>
    refine ⟨0, fun _ => 0#32, by omega, rfl, fun j hj => absurd hj (by omega), ?_, ?_, ?_⟩
    · exact (two_vecs w).1
    · exact ⟨_, (two_vecs w).2⟩
    · exact below2 _ _ _
  case round =>
    obtain ⟨k, m, hk, rfl, HM, hv, HV0, hb⟩ := hrel
    have HV := Lib.hid hv
    have HB := Lib.hid hb
    clear hv hb
    by_cases hlt : k < 32
    · have hc := HV.out.cell k hlt
      have hf := HV.out.free k
      have hki : (k : Int) < 32 := by omega
      go_wp2_with (go_at_call 16; refine (oneMore_pow _ _).mono ?_; rintro e w' ⟨rfl, rfl⟩)
      go_roundw
      case rel =>
        refine ⟨k + 1, _, by omega, by go_num, step_vec HM.out rfl, HV.out.put k _, ?_, ?_⟩
        · exact ⟨_, HV0.out.choose_spec.keep _ _ (by omega)⟩
        · exact HB.out.setCell (by simp) _
      case measure => simp [intOf]; omega
    · obtain rfl : k = 32 := by omega
      obtain ⟨m0, hv0⟩ := HV0.out
      have HV1 := Lib.hid hv0
      clear hv0
      go_wp2_with (first | (refine wpList_load_row rfl 43 (.tmp 1) rfl (w.heap.size + 1) rfl 43 (vec m) (0, 0) _ HV.out Try.underlying43 rfl (info_vec m) ?_) | (refine wpList_store_row rfl 43 (.tmp 0) (.tmp 12) rfl w.heap.size (vec m) rfl rfl 43 (vec m0) HV1.out (info_vec m) (by rw [vec_size, vec_size]) (vec_one m) ?_))
      refine post_cell_row Try.results17 w.heap.size 43 (vec m) (0, 0) _ Try.underlying43 rfl (info_vec m) ?_ ?_ ?_ ?_
      · rfl
      · exact HV1.out.set_all m
      · rfl
      · refine ⟨?_, below_setRow HB.out _ (Nat.le_refl _) _⟩
        rw [vec_congr (fun i hi => HM.out i hi)]

theorem HasVec.drew {w : World} {b : Nat} {m : Nat → BitVec 32} (h : HasVec w b m) : HasVec w.drew b m := h
theorem HasVec.held {w : World} {b : Nat} {m : Nat → BitVec 32} (h : HasVec w b m) {k : Nat} (hk : k < 32) : w.rangeAt b 0 (vl m) ∧ w.cell? ⟨b, k, none⟩ = some (.int .u32 (rg (m k))) := by
  refine ⟨fun j v hv => ?_, h.cell k hk⟩
  rw [Nat.zero_add, cell_of_row w b j _ _ _ h]
  simpa using hv
theorem three_vecs (w : World) (m : Nat → BitVec 32) : HasVec (((w.alloc (.cells (vec m) 43)).alloc (.cells zer 43)).alloc (.cells zer 43)) w.heap.size m ∧
    HasVec (((w.alloc (.cells (vec m) 43)).alloc (.cells zer 43)).alloc (.cells zer 43)) (w.heap.size + 1) (fun _ => 0#32) ∧
    HasVec (((w.alloc (.cells (vec m) 43)).alloc (.cells zer 43)).alloc (.cells zer 43)) (w.heap.size + 1 + 1) (fun _ => 0#32) := by
  have h := two_vecs (w.alloc (.cells (vec m) 43))
  rw [World.size_alloc] at h
  refine ⟨?_, h.2, h.1⟩
  unfold HasVec
  rw [Go.heap_alloc_old _ _ (by simp; omega), Go.heap_alloc_old _ _ (by simp), heap_alloc_new]

/-- as many noughts again -/
theorem twice_any (m : Nat → BitVec 32) (w : World) :
    Calls Try.prog 19 #[.agg (vec m)] w fun e w' => e = .returned (.agg (vec fun i => bh m (m i) 32)) ∧ Below w.heap.size w w' := by
  go_enter Try.func19, Try.ntmps19
  go_wp2
  go_loopw [4, 5] (fun _ i wr => ∃ (k : Nat) (m3 : Nat → BitVec 32), k ≤ 32 ∧ i = .int .i64 k ∧ Hid (∀ j, j < k → m3 j = bh m (m j) 32) ∧ HasVec wr w.heap.size m ∧ HasVec wr (w.heap.size + 1 + 1) m3 ∧ Hid (∃ m0, HasVec wr (w.heap.size + 1) m0) ∧ Below w.heap.size w wr) (fun _ i _ => 32 - (intOf i).toNat)
  case atStart => exact ⟨0, fun _ => 0#32, by omega, rfl, fun j hj => absurd hj (by omega), (three_vecs w m).1, (three_vecs w m).2.2, ⟨_, (three_vecs w m).2.1⟩, (((Below.refl _ _).alloc (Nat.le_refl _) _).alloc (by simp) _).alloc (by simp; omega) _⟩
  case round =>
    obtain ⟨k, m3, hk, rfl, HM, hv, hv3, HV1, hb⟩ := hrel
    have HV := Lib.hid hv
    have HV3 := Lib.hid hv3
    have HB := Lib.hid hb
    have HL := Lib.hid hv3.lt
    clear hv hv3 hb
    by_cases hlt : k < 32
    · have hki : (k : Int) < 32 := by omega
      have hu := Try.underlying43
      have hi : (Try.prog.info? 43).map (·.size) = some (vl m).length := by rw [vl_len]; kernel_rfl
      go_wp2
      go_region_held3 (fun w' => w'.rangeAt w.heap.size 0 (vl m) ∧ w'.cell? ⟨w.heap.size, k, none⟩ = some (.int .u32 (rg (m k)))) (first | exact HV.out.drew.held hlt | exact (HV.out.drew.below hb1 (by have := HL.out; simp; omega)).held hlt | exact ((HV.out.drew.below hb1 (by have := HL.out; simp; omega)).keep _ _ (by omega)).held hlt) (first | (go_at_call 18; refine (behind_any m (m k) _).mono ?_; rintro e w1 ⟨rfl, hb1⟩; have hc3 := (HV3.out.drew.below hb1 HL.out).cell k hlt; have hf3 := (HV3.out.drew.below hb1 HL.out).free k))
      go_wp2
      go_roundw
      case rel =>
        obtain ⟨m0, hv0⟩ := HV1.out
        have hl := HL.out
        have hd : wr.drew.heap.size = wr.heap.size := rfl
        refine ⟨k + 1, _, by omega, by go_num, step_vec HM.out rfl, ?_, (HV3.out.drew.below hb1 (by omega)).put k _, ⟨m0, ?_⟩, ?_⟩
        · exact (HV.out.drew.below hb1 (by omega)).keep _ _ (by omega)
        · exact (hv0.drew.below hb1 (by omega)).keep _ _ (by omega)
        · exact (HB.out.drew.trans (hb1.mono (by omega))).setCell (by simp; omega) _
      case measure => simp [intOf]; omega
    · obtain rfl : k = 32 := by omega
      obtain ⟨m0, hv0⟩ := HV1.out
      have HV0 := Lib.hid hv0
      clear hv0
      go_wp2_with (first | (refine wpList_load_row rfl 43 (.tmp 3) rfl (w.heap.size + 1 + 1) rfl 43 (vec m3) (0, 0) _ HV3.out Try.underlying43 rfl (info_vec m3) ?_) | (refine wpList_store_row rfl 43 (.tmp 2) (.tmp 16) rfl (w.heap.size + 1) (vec m3) rfl rfl 43 (vec m0) HV0.out (info_vec m3) (by rw [vec_size, vec_size]) (vec_one m3) ?_))
      refine post_cell_row Try.results19 (w.heap.size + 1) 43 (vec m3) (0, 0) _ Try.underlying43 rfl (info_vec m3) ?_ ?_ ?_ ?_
      · rfl
      · exact HV0.out.set_all m3
      · rfl
      · refine ⟨?_, below_setRow HB.out _ (by omega) _⟩
        rw [vec_congr (fun i hi => HM.out i hi)]

/-- what the loop of Noughts holds: of N noughts some are behind the register R, by powers of two -/
def NInv (N : Nat) (R : BitVec 32) (L : Int) (t : BitVec 32) (m : Nat → BitVec 32) : Prop :=
  ∃ j c : Nat, N = c + L.toNat * 2 ^ j ∧ t = it z c R ∧ ∀ i, i < 32 → m i = it z (2 ^ j) (1#32 <<< i)
theorem NInv.start (R : BitVec 32) (L : Int) : NInv L.toNat R L R (fun i => z (1#32 <<< i)) := ⟨0, 0, by simp, rfl, fun _ _ => rfl⟩
theorem NInv.twice {m : Nat → BitVec 32} {j : Nat} (h : ∀ i, i < 32 → m i = it z (2 ^ j) (1#32 <<< i)) : ∀ i, i < 32 → bh m (m i) 32 = it z (2 ^ (j + 1)) (1#32 <<< i) := by
  intro i hi
  have e : 2 ^ (j + 1) = 2 ^ j + 2 ^ j := by rw [Nat.pow_succ]; omega
  rw [bh_of (lin_it lin_z (2 ^ j)) m _ h, h i hi, e, it_add]
theorem NInv.odd {N : Nat} {R t : BitVec 32} {L : Int} {m : Nat → BitVec 32} (h : NInv N R L t m) (h0 : 0 < L) (h1 : L % 2 = 1) : NInv N R (L / 2) (bh m t 32) (fun i => bh m (m i) 32) := by
  obtain ⟨j, c, hN, ht, hm⟩ := h
  refine ⟨j + 1, c + 2 ^ j, ?_, ?_, NInv.twice hm⟩
  · have e : L.toNat = 2 * (L / 2).toNat + 1 := by omega
    rw [hN, e, Nat.pow_succ, Nat.add_mul, Nat.one_mul, Nat.mul_comm (2 ^ j) 2, ← Nat.mul_assoc, Nat.mul_comm (L / 2).toNat 2]
    omega
  · rw [bh_of (lin_it lin_z (2 ^ j)) m _ hm, ht, it_add]
theorem NInv.even {N : Nat} {R t : BitVec 32} {L : Int} {m : Nat → BitVec 32} (h : NInv N R L t m) (h0 : 0 < L) (h1 : ¬ L % 2 = 1) : NInv N R (L / 2) t (fun i => bh m (m i) 32) := by
  obtain ⟨j, c, hN, ht, hm⟩ := h
  refine ⟨j + 1, c, ?_, ht, NInv.twice hm⟩
  have e : L.toNat = 2 * (L / 2).toNat := by omega
  rw [hN, e, Nat.pow_succ, Nat.mul_comm (2 ^ j) 2, ← Nat.mul_assoc, Nat.mul_comm (L / 2).toNat 2]
theorem NInv.last {N : Nat} {R t : BitVec 32} {L : Int} {m : Nat → BitVec 32} (h : NInv N R L t m) (h0 : ¬ 0 < L) : t = it z N R := by
  obtain ⟨j, c, hN, ht, _⟩ := h
  have e : L.toNat = 0 := by omega
  rw [ht, hN, e, Nat.zero_mul, Nat.add_zero]
theorem min_le' {n : Int} (h : n ≤ 1099511627776) : (min n 1099511627776).toNat = n.toNat := by omega
theorem min_gt' {n : Int} (h : 1099511627776 < n) : (min n 1099511627776).toNat = (1099511627776 : Int).toNat := by omega

set_option maxRecDepth 100000 in
theorem noughts_any (s : BitVec 32) (n : Int) (h0 : -9223372036854775808 ≤ n) (w : World) :
    Calls Try.prog 13 #[.int .u32 (rg s), .int .i64 n] w fun e w' => e = .returned (.int .u32 (rg (nts s n))) ∧ Below w.heap.size w w' := by
  have hr := rg_bd s
  go_enter Try.func13, Try.ntmps13
  go_wp2_with (first | (go_at_call 17; refine (one_any _).mono ?_; rintro e w1 ⟨rfl, hb1⟩) | (refine wpList_store_row rfl 43 (.tmp 6) (.tmp 10) rfl w1.heap.size (vec fun i => z (1#32 <<< i)) rfl rfl 43 zer (heap_alloc_new _ _) (info_vec _) (by rw [vec_size]; rfl) (vec_one _) ?_))
  all_goals
    have HB1 := Lib.hid hb1
    have HS1 := Lib.hid hb1.size
    clear hb1
    go_loopw [5, 7] (fun t l wr => ∃ (L : Int) (x : BitVec 32) (m : Nat → BitVec 32), L ≤ 1099511627776 ∧ -9223372036854775808 ≤ L ∧ l = .int .i64 L ∧ t = .int .u32 (rg x) ∧ NInv (min n 1099511627776).toNat (~~~s) L x m ∧ HasVec wr w1.heap.size m ∧ Below w.heap.size w wr) (fun _ l _ => (intOf l).toNat)
    case atStart =>
      refine ⟨_, ~~~s, _, by omega, by omega, rfl, by rw [not_int], ?_, (show HasVec (w1.alloc (.cells zer 43)) w1.heap.size (fun _ => 0#32) from by unfold HasVec; rw [← zer_eq]; exact heap_alloc_new _ _).set_all _, below_setRow (HB1.out.alloc HS1.out _) _ HS1.out _⟩
      first
        | (rw [min_le' (by assumption)]; exact NInv.start _ _)
        | (rw [min_gt' (by assumption)]; exact NInv.start _ _)
    case round =>
      obtain ⟨L, x, m, hL, hL0, rfl, rfl, hI, hv, hb⟩ := hrel
      have HV := Lib.hid hv
      have HB := Lib.hid hb
      have HI := Lib.hid hI
      clear hv hb hI
      by_cases hlt : 0 < L
      · by_cases hodd : L % 2 = 1
        · go_wp2_with (first | (refine wpList_load_row rfl 43 (.tmp 6) rfl w1.heap.size rfl 43 (vec m) (0, 0) _ HV2.out Try.underlying43 rfl (info_vec m) ?_) | (refine wpList_load_row rfl 43 (.tmp 6) rfl w1.heap.size rfl 43 (vec m) (0, 0) _ HV.out Try.underlying43 rfl (info_vec m) ?_) | (go_at_call 18; refine (behind_any m x _).mono ?_; rintro e w2 ⟨rfl, hb2⟩; have HV2 := Lib.hid (HV.out.below hb2 HV.out.lt); have HB2 := Lib.hid (HB.out.trans (hb2.mono HB.out.size)); clear hb2) | (go_at_call 19; refine (twice_any m _).mono ?_; rintro e w3 ⟨rfl, hb3⟩; have HV3 := Lib.hid (HV2.out.below hb3 HV2.out.lt); have HB3 := Lib.hid (HB2.out.trans (hb3.mono HB2.out.size)); clear hb3) | (refine wpList_store_row rfl 43 (.tmp 6) (.tmp 24) rfl w1.heap.size (vec fun i => bh m (m i) 32) rfl rfl 43 (vec m) HV3.out (info_vec _) (by rw [vec_size, vec_size]) (vec_one _) ?_))
          go_roundw
          case rel => exact ⟨_, _, _, by omega, by omega, rfl, rfl, HI.out.odd hlt hodd, HV3.out.set_all _, below_setRow HB3.out _ HS1.out _⟩
          case measure => simp [intOf]; omega
        · go_wp2_with (first | (refine wpList_load_row rfl 43 (.tmp 6) rfl w1.heap.size rfl 43 (vec m) (0, 0) _ HV.out Try.underlying43 rfl (info_vec m) ?_) | (go_at_call 19; refine (twice_any m _).mono ?_; rintro e w3 ⟨rfl, hb3⟩; have HV3 := Lib.hid (HV.out.below hb3 HV.out.lt); have HB3 := Lib.hid (HB.out.trans (hb3.mono HB.out.size)); clear hb3) | (refine wpList_store_row rfl 43 (.tmp 6) (.tmp 24) rfl w1.heap.size (vec fun i => bh m (m i) 32) rfl rfl 43 (vec m) HV3.out (info_vec _) (by rw [vec_size, vec_size]) (vec_one _) ?_))
          go_roundw
          case rel => exact ⟨_, _, _, by omega, by omega, rfl, rfl, HI.out.even hlt hodd, HV3.out.set_all _, below_setRow HB3.out _ HS1.out _⟩
          case measure => simp [intOf]; omega
      · have HL := Lib.hid (HI.out.last hlt)
        go_wp2
        go_ret
        exact ⟨ret_u32 (by rw [not_int, HL.out]; rfl), HB.out⟩
end Go.Proofs.Ytefdmocfoopghaa

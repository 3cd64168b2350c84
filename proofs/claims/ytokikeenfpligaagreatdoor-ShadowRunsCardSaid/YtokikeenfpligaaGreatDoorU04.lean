/-
  THE WALKS of sum.tail, sum.Good, sum.Mark: the last four bytes. Conditions: the bytes are bytes, their cells lie in memory.
-/
import Derived.Laws.CopyOwn
import Derived.OwnWalk
import Derived.Laws.Cover3
import Derived.Laws.StructEq
import Derived.Deep.OwnRows
import Derived.Deep.RegionLaw
import Derived.Test.YtokikeenfpligaaGreatDoorU03
namespace Go.Proofs.YtokikeenfpligaaGreatDoor.Sm
open Go.RowKit Crc

/-- four bytes as an array -/
def tvl (f : Nat → Int) : List Value := (List.range 4).map fun i => Value.int .u8 (f i)
abbrev tvec (f : Nat → Int) : Array Value := (tvl f).toArray
theorem tvl_len (f : Nat → Int) : (tvl f).length = 4 := by simp [tvl]
theorem tvl_get (f : Nat → Int) (i : Nat) (h : i < 4) : (tvl f)[i]? = some (.int .u8 (f i)) := by simp [tvl, h]
theorem tvec_set (f : Nat → Int) (i : Nat) (x : Int) : (tvec f).setIfInBounds i (.int .u8 x) = tvec (fun j => if j = i then x else f j) := by
  apply Array.ext
  · simp [tvl_len]
  · intro j h1 h2
    rw [Array.getElem_setIfInBounds (by simpa using h1)]
    by_cases h : i = j
    · subst h; simp [tvl]
    · have h' : ¬ j = i := fun e => h e.symm
      simp [tvl, h, h']
theorem tvec_one (f : Nat → Int) : (tvec f).all (·.oneCell') = true := by
  simp [tvl, Value.oneCell']
def HasT (w : World) (b : Nat) (f : Nat → Int) : Prop := w.heap[b]? = some (.cells (tvec f) 206 (0, 0))
theorem HasT.cell {w : World} {b : Nat} {f : Nat → Int} (h : HasT w b f) (i : Nat) (hi : i < 4) : w.cell? ⟨b, i, none⟩ = some (.int .u8 (f i)) := by
  rw [cell_of_row w b i _ _ _ h]
  exact (by simpa using tvl_get f i hi)
theorem HasT.free {w : World} {b : Nat} {f : Nat → Int} (h : HasT w b f) (i : Nat) : w.frozen? ⟨b, i, none⟩ = false := frozen_of_row w b i _ _ h
theorem HasT.put {w : World} {b : Nat} {f : Nat → Int} (h : HasT w b f) (i : Nat) (x : Int) : HasT (w.setCell ⟨b, i, none⟩ (.int .u8 x)) b (fun j => if j = i then x else f j) := by
  unfold HasT
  rw [heap_setCell_same w b i _ _ _ h, tvec_set]
theorem HasT.keep {w : World} {b : Nat} {f : Nat → Int} (h : HasT w b f) {g : Nat} (i : Nat) (x : Value) (hne : b ≠ g) : HasT (w.setCell ⟨g, i, none⟩ x) b f := by
  unfold HasT
  rw [heap_setCell_other w _ b x hne]
  exact h
theorem tvec_size (f : Nat → Int) : (tvec f).size = 4 := by simp [tvl_len]
theorem info_t (f : Nat → Int) : (Tryz.prog.info? 206).map (·.size) = some (tvec f).size := by
  rw [tvec_size]
  kernel_rfl
theorem tvec_congr {f f' : Nat → Int} (h : ∀ i, i < 4 → f i = f' i) : tvec f = tvec f' := by
  unfold tvec tvl
  congr 1
  apply List.map_congr_left
  intro i hi
  rw [h i (by simpa using hi)]
def zt : Array Value := #[.int .u8 0, .int .u8 0, .int .u8 0, .int .u8 0]
theorem two_ts (w : World) : HasT ((w.alloc (.cells zt 206)).alloc (.cells zt 206)) (w.heap.size + 1) (fun _ => 0) ∧ HasT ((w.alloc (.cells zt 206)).alloc (.cells zt 206)) w.heap.size (fun _ => 0) :=
  ⟨heap_alloc2_new _ _ _, heap_alloc2_old _ _ _⟩
theorem step_t {m f : Nat → Int} {k : Nat} {x : Int} (h : ∀ j, j < k → m j = f j) (hx : x = f k) : ∀ j, j < k + 1 → (fun j => if j = k then x else m j) j = f j := by
  intro j hj
  show (if j = k then x else m j) = f j
  by_cases e : j = k
  · rw [if_pos e, e, hx]
  · rw [if_neg e, h j (by omega)]
theorem tb_int (s : BitVec 32) (k : Nat) : rg s / 2 ^ (8 * k) % 256 = rg (tb s k) := by
  rw [shr_rg]
  unfold tb rg
  rw [BitVec.toNat_and]
  have e : (255#32).toNat = 2 ^ 8 - 1 := rfl
  rw [e, Nat.and_two_pow_sub_one_eq_mod]
  omega

theorem tail_any (s : BitVec 32) (w : World) :
    Calls Tryz.prog 126 #[.int .u32 (rg s)] w fun e w' => e = .returned (.agg (tvec fun i => rg (tb s i))) ∧ Below w.heap.size w w' := by
  have hr := rg_bd s
  go_enter Tryz.func126, Tryz.ntmps126
  go_wp2
  go_loopw [4, 5] (fun _ i wr => ∃ (k : Nat) (m : Nat → Int), k ≤ 4 ∧ i = .int .i64 k ∧ Hid (∀ j, j < k → m j = rg (tb s j)) ∧ HasT wr (w.heap.size + 1) m ∧ Hid (∃ m0, HasT wr w.heap.size m0) ∧ Below w.heap.size w wr) (fun _ i _ => 4 - (intOf i).toNat)
  case atStart => exact ⟨0, fun _ => 0, by omega, rfl, fun j hj => absurd hj (by omega), (two_ts w).1, ⟨_, (two_ts w).2⟩, below2 _ _ _⟩
  case round =>
    obtain ⟨k, m, hk, rfl, HM, hv, HV0, hb⟩ := hrel
    have HV := Lib.hid hv
    have HB := Lib.hid hb
    clear hv hb
    by_cases hlt : k < 4
    · have hc := HV.out.cell k hlt
      have hf := HV.out.free k
      have hki : (k : Int) < 4 := by omega
      go_wp2
      go_roundw
      case rel => exact ⟨k + 1, _, by omega, by go_num, step_t HM.out (tb_int s k), HV.out.put k _, ⟨_, HV0.out.choose_spec.keep _ _ (by omega)⟩, HB.out.setCell (by simp) _⟩
      case measure => simp [intOf]; omega
    · obtain rfl : k = 4 := by omega
      obtain ⟨m0, hv0⟩ := HV0.out
      have HV1 := Lib.hid hv0
      clear hv0
      go_wp2_with (first | (refine wpList_load_row rfl 206 (.tmp 3) rfl (w.heap.size + 1) rfl 206 (tvec m) (0, 0) _ HV.out Tryz.underlying206 rfl (info_t m) ?_) | (refine wpList_store_row rfl 206 (.tmp 2) (.tmp 16) rfl w.heap.size (tvec m) rfl rfl 206 (tvec m0) HV1.out (info_t m) (by simp [tvl_len]) (tvec_one m) ?_))
      refine post_cell_row Tryz.results126 w.heap.size 206 (tvec m) (0, 0) _ Tryz.underlying206 rfl (info_t m) ?_ ?_ ?_ ?_
      · rfl
      · exact setRow_heap _ _ _ _ _ _ HV1.out
      · rfl
      · refine ⟨?_, below_setRow HB.out _ (Nat.le_refl _) _⟩
        rw [tvec_congr (fun i hi => HM.out i hi)]

theorem Lies.drew {w : World} {a : Option Addr} {xs : List Int} (h : Lies w a xs) : Lies w.drew a xs := h
theorem Lies.drewN {w : World} {a : Option Addr} {xs : List Int} (h : Lies w a xs) (n : Nat) : Lies (w.drewN n) a xs := h
theorem Lies.below {w w' : World} {a : Option Addr} {xs : List Int} (h : Lies w a xs) (hb : Below w.heap.size w w') : Lies w' a xs := by
  intro i hi
  obtain ⟨b, off, ha, hc, h0, h1⟩ := h i hi
  exact ⟨b, off, ha, by rw [hb.cell (World.block_lt_of_cell? w _ hc)]; exact hc, h0, h1⟩

theorem eq4_any (d : Nat) (w : World) (a0 a1 a2 a3 b0 b1 b2 b3 : Int) :
    (Op.equalIn (d + 1 + 1) 206 (.agg #[.int .u8 a0, .int .u8 a1, .int .u8 a2, .int .u8 a3]) (.agg #[.int .u8 b0, .int .u8 b1, .int .u8 b2, .int .u8 b3])).run Tryz.prog w = .ok (a0 == b0 && (a1 == b1 && (a2 == b2 && a3 == b3))) w := by
  have hs : (sizeOf 5).run Tryz.prog w = .ok 1 w := by kernel_rfl
  have ha : (isAgg 5).run Tryz.prog w = .ok false w := by kernel_rfl
  have hp : ∀ (xs : Array Value) (i : Nat) (v : Value), xs[i]? = some v → (part 5 xs i).run Tryz.prog w = .ok v w := by
    intro xs i v h
    unfold part
    rw [Sem.run_bind, ha]
    simp [h]
  have he : ∀ a b : Int, (Op.equalIn (d + 1) 5 (.int .u8 a) (.int .u8 b)).run Tryz.prog w = .ok (a == b) w := fun a b => run_equalIn_int w d 5 .u8 .u8 a b Tryz.underlying5
  unfold Op.equalIn
  simp only [Sem.run_bind, run_underlying Tryz.underlying206, Result.andThen_ok, hs]
  have r4 : List.range' 0 4 1 = [0, 1, 2, 3] := rfl
  simp only [Std.Legacy.Range.forIn_eq_forIn_range', Std.Legacy.Range.size, Nat.sub_zero, Nat.add_sub_cancel, Nat.div_one, r4, List.forIn_cons, List.forIn_nil, Sem.run_bind, Nat.mul_one]
  have A0 := hp #[.int .u8 a0, .int .u8 a1, .int .u8 a2, .int .u8 a3] 0 (.int .u8 a0) rfl
  have A1 := hp #[.int .u8 a0, .int .u8 a1, .int .u8 a2, .int .u8 a3] 1 (.int .u8 a1) rfl
  have A2 := hp #[.int .u8 a0, .int .u8 a1, .int .u8 a2, .int .u8 a3] 2 (.int .u8 a2) rfl
  have A3 := hp #[.int .u8 a0, .int .u8 a1, .int .u8 a2, .int .u8 a3] 3 (.int .u8 a3) rfl
  have B0 := hp #[.int .u8 b0, .int .u8 b1, .int .u8 b2, .int .u8 b3] 0 (.int .u8 b0) rfl
  have B1 := hp #[.int .u8 b0, .int .u8 b1, .int .u8 b2, .int .u8 b3] 1 (.int .u8 b1) rfl
  have B2 := hp #[.int .u8 b0, .int .u8 b1, .int .u8 b2, .int .u8 b3] 2 (.int .u8 b2) rfl
  have B3 := hp #[.int .u8 b0, .int .u8 b1, .int .u8 b2, .int .u8 b3] 3 (.int .u8 b3) rfl
  simp only [A0, B0, Result.andThen_ok, he]
  cases h0 : (a0 == b0)
  · simp
  simp only [Bool.not_true, Bool.false_eq_true, if_false, Sem.run_pure, Result.andThen_ok, Sem.run_bind, A1, B1, he]
  cases h1 : (a1 == b1)
  · simp
  simp only [Bool.not_true, Bool.false_eq_true, if_false, Sem.run_pure, Result.andThen_ok, Sem.run_bind, A2, B2, he]
  cases h2 : (a2 == b2)
  · simp
  simp only [Bool.not_true, Bool.false_eq_true, if_false, Sem.run_pure, Result.andThen_ok, Sem.run_bind, A3, B3, he]
  cases h3 : (a3 == b3)
  · simp
  · simp
theorem four_run (ys : List Int) (t0 t1 t2 t3 : Int) (w : World) :
    (Op.equalIn 10000 206 (.agg #[.int .u8 t0, .int .u8 t1, .int .u8 t2, .int .u8 t3]) (.agg (tvec fun i => rg (tb (more 0#32 ys) i)))).run Tryz.prog w = .ok (Four ys t0 t1 t2 t3) w :=
  eq4_any 9998 w t0 t1 t2 t3 _ _ _ _
theorem arr_at (a : Addr) (c : Nat) (w : World) : (Instr.arrayAt 206 (.slice (some a) 4 c)).run Tryz.prog w = .ok (.pointer (some a)) w := run_arrayAt _ _ _ _ _ _ _ Tryz.underlying206 (Nat.le_refl _)
theorem good_at (b off L c : Nat) (ys : List Int) (t0 t1 t2 t3 : Int) (w : World) (hl : ys.length = L) (hy : Lies w (some ⟨b, off, none⟩) ys) (hm : L + 4 ≤ 9223372036854775807) (hc : L + 4 ≤ c)
    (k0 : w.cell? ⟨b, off + L, none⟩ = some (.int .u8 t0)) (k1 : w.cell? ⟨b, off + L + 1, none⟩ = some (.int .u8 t1)) (k2 : w.cell? ⟨b, off + L + 2, none⟩ = some (.int .u8 t2)) (k3 : w.cell? ⟨b, off + L + 3, none⟩ = some (.int .u8 t3)) :
    Calls Tryz.prog 108 #[.slice (some ⟨b, off, none⟩) (L + 4) c] w fun e w' => e = .returned (.bool (Four ys t0 t1 t2 t3)) ∧ Below w.heap.size w w' := by
  subst hl
  have HY := Lib.hid hy
  have hlt := World.block_lt_of_cell? w _ k0
  have hlt' : b < w.heap.size := hlt
  have hat := arr_at ⟨b, off + ys.length, none⟩ (c - ys.length)
  have hfr := four_run ys t0 t1 t2 t3
  clear hy hlt
  go_enter Tryz.func108, Tryz.ntmps108
  go_wp2
  go_quiet (fail)
  go_wp2
  go_region_held3 (fun w' => w'.cell? ⟨b, off + ys.length, none⟩ = some (.int .u8 t0) ∧ w'.cell? ⟨b, off + ys.length + 1, none⟩ = some (.int .u8 t1) ∧ w'.cell? ⟨b, off + ys.length + 2, none⟩ = some (.int .u8 t2) ∧ w'.cell? ⟨b, off + ys.length + 3, none⟩ = some (.int .u8 t3)) (first | exact ⟨k0, k1, k2, k3⟩ | exact ⟨(hb1.cell hlt').trans k0, (hb1.cell hlt').trans k1, (hb1.cell hlt').trans k2, (hb1.cell hlt').trans k3⟩) (first | (go_at_call 127; refine (sum_any _ _ ys _ (HY.out.drewN _) (by omega)).mono ?_; rintro e w' ⟨rfl, rfl⟩) | (go_at_call 126; refine (tail_any _ _).mono ?_; rintro e w1 ⟨rfl, hb1⟩))
  all_goals go_wp2
  all_goals go_ret
  all_goals exact ⟨rfl, ⟨hb1.os, hb1.tape, hb1.output, hb1.size, hb1.block⟩⟩
theorem made_eq (v : Value) (n : Nat) : madeCells #[v] n = (List.replicate n v).toArray := by
  apply Array.ext
  · simp [madeCells]
  · intro i h1 h2
    simp [madeCells, Nat.mod_one]
theorem info_b : (Tryz.prog.info? 5).map (fun i => (i.zero, i.size, i.bytes)) = some (some (.int .u8 0), 1, 1) := by kernel_rfl
theorem size_b : (Tryz.prog.info? 5).map (·.size) = some 1 := by kernel_rfl
def bl (xs : List Int) : List Value := xs.map (Value.int .u8)
theorem bl_len (xs : List Int) : (bl xs).length = xs.length := by simp [bl]
theorem bl_one (xs : List Int) : ∀ v ∈ bl xs, v.oneCell' = true := by
  intro v hv
  simp [bl] at hv
  obtain ⟨x, _, rfl⟩ := hv
  rfl
theorem bl_lies {w : World} {b off : Nat} {xs : List Int} (h : Lies w (some ⟨b, off, none⟩) xs) : ∀ j v, (bl xs)[j]? = some v → w.cell? ((⟨b, off, none⟩ : Addr).add j) = some v := by
  intro j v hv
  have hj : j < xs.length := by
    have := (List.getElem?_eq_some_iff.1 hv).1
    simpa [bl] using this
  obtain ⟨b', off', ha, hc, _⟩ := h j hj
  obtain ⟨rfl, rfl⟩ : b = b' ∧ off = off' := by simpa using ha
  rw [Addr.add_mid, hc]
  simpa [bl, hj] using hv
theorem tvl_at {w : World} {b : Nat} {f : Nat → Int} (h : HasT w b f) : ∀ j v, (tvl f)[j]? = some v → w.cell? ((⟨b, 0, none⟩ : Addr).add j) = some v := by
  intro j v hv
  rw [Addr.add_mid, Nat.zero_add, cell_of_row w b j _ _ _ h]
  simpa using hv
theorem tvl_one (f : Nat → Int) : ∀ v ∈ tvl f, v.oneCell' = true := by
  intro v hv
  simp [tvl] at hv
  obtain ⟨x, _, rfl⟩ := hv
  rfl
theorem mk_splice (ys : List Int) : splice (splice (List.replicate (ys.length + 4) (Value.int .u8 0)) 0 (bl ys)) ys.length (tvl fun i => rg (tb (more 0#32 ys) i)) = bl (mk ys) := by
  have e1 : splice (List.replicate (ys.length + 4) (Value.int .u8 0)) 0 (bl ys) = bl ys ++ List.replicate 4 (Value.int .u8 0) := by
    simp [splice, bl]
  have hl : ys.length = (bl ys).length := (bl_len ys).symm
  rw [e1]
  unfold splice
  rw [hl, List.take_left', List.drop_of_length_le (by simp [tvl_len])]
  · simp [bl, mk, tls, tvl]
    rfl
  · rfl
set_option maxHeartbeats 1000000 in
theorem mark_at (b off L c : Nat) (ys : List Int) (w : World) (hl : ys.length = L) (hy : Lies w (some ⟨b, off, none⟩) ys) (hm : L + 4 ≤ 281474976710656) (hc : L + 4 ≤ c) :
    Calls Tryz.prog 117 #[.slice (some ⟨b, off, none⟩) (L + 4) c] w fun e w' => e = .returned (.tuple #[.slice (some ⟨w.heap.size, 0, none⟩) (L + 4) (L + 4), .nilIface]) ∧ w'.heap[w.heap.size]? = some (.cells (bl (mk ys)).toArray 5 (0, 0)) ∧ Below w.heap.size w w' := by
  subst hl
  have HY := Lib.hid hy
  have hmk := run_make_row' (P := Tryz.prog) 72 5 (.int .u8 0) 1 Tryz.underlying72 info_b rfl .i64 .i64 (ys.length + 4) (by omega) (by omega)
  have ec : ((ys.length + 4 : Nat) : Int) = (ys.length : Int) + 4 := by omega
  rw [ec, made_eq] at hmk
  have HB0 := Lib.hid ((Below.refl w.heap.size w).alloc (Nat.le_refl _) (.cells (List.replicate (ys.length + 4) (Value.int .u8 0)).toArray 5))
  have HY1 := Lib.hid (hy.below HB0.out)
  clear hy ec
  go_enter Tryz.func117, Tryz.ntmps117
  go_wp2_with (first | (refine wpList_copy_splice rfl (.tmp 19) (.tmp 20) 72 72 rfl 5 Tryz.underlying72 size_b _ _ _ _ _ _ rfl rfl w.heap.size 0 (List.replicate (ys.length + 4) (Value.int .u8 0)) 5 (heap_alloc_new _ _) (bl ys) (by rw [bl_len]; exact (Nat.min_eq_left (by omega)).symm) (fun _ => ⟨rfl, _, rfl, bl_lies HY1.out⟩) (by simp [bl_len]) (bl_one ys) w.heap.size w HB0.out (Nat.le_refl _) ?_; intro w2 hG2 hB2) | (go_at_call 127; refine (sum_any _ _ ys _ (HY.out.below hB2) (by omega)).mono ?_; rintro e w' ⟨rfl, rfl⟩) | (go_at_call 126; refine (tail_any _ _).mono ?_; rintro e w3 ⟨rfl, hb3⟩) | (refine wpList_store_row rfl 206 (.tmp 6) (.tmp 24) rfl w3.heap.size (tvec fun i => rg (tb (more 0#32 ys) i)) rfl rfl 206 zt (heap_alloc_new _ _) (info_t _) (by rw [tvec_size]; rfl) (tvec_one _) ?_))
  have hs2 := hB2.size
  have hs3 := hb3.size
  have HG3 := Lib.hid ((hb3.block w.heap.size (lt_of_block hG2.out)).trans hG2.out)
  have hne : w.heap.size ≠ w3.heap.size := by have := lt_of_block HG3.out; omega
  generalize hW : (w3.alloc (.cells #[Value.int .u8 0, Value.int .u8 0, Value.int .u8 0, Value.int .u8 0] 206)).setRow w3.heap.size (tvec fun i => rg (tb (more 0#32 ys) i)) = W4
  have HG4 : Hid (W4.heap[w.heap.size]? = some (.cells (splice (List.replicate (ys.length + 4) (Value.int .u8 0)) 0 (bl ys)).toArray 5 (0, 0))) := by
    rw [← hW]
    show _ = _
    rw [setRow_other _ _ _ _ hne, Go.heap_alloc_old _ _ (lt_of_block HG3.out)]
    exact HG3.out
  have HT4 : Hid (HasT W4 w3.heap.size (fun i => rg (tb (more 0#32 ys) i))) := by
    rw [← hW]
    exact setRow_heap _ _ _ _ _ _ (heap_alloc_new _ _)
  have HB4 : Hid (Below w.heap.size w W4) := by
    rw [← hW]
    exact below_setRow ((hB2.trans (hb3.mono (by omega))).alloc (by omega) _) _ (by omega) _
  clear hW HG3 hb3 hB2 hG2 hmk HB0 HY1 HY hs2 hs3 hne
  have hle : (ys.length : Int) ≤ (ys.length : Int) + 4 := by omega
  have HG5 : Hid (W4.drew.heap[w.heap.size]? = some (.cells (splice (List.replicate (ys.length + 4) (Value.int .u8 0)) 0 (bl ys)).toArray 5 (0, 0))) := HG4
  have HT5 : Hid (HasT W4.drew w3.heap.size (fun i => rg (tb (more 0#32 ys) i))) := HT4
  have HB5 : Hid (Below w.heap.size w W4.drew) := HB4.out.drew
  clear HG4 HT4 HB4
  go_region_law (refine step_copy_splice (w := W4.drew) rfl (.tmp 28) (.tmp 29) 72 72 rfl 5 Tryz.underlying72 size_b (some ⟨w.heap.size, ys.length, none⟩) (some ⟨w3.heap.size, 0, none⟩) 4 4 4 4 rfl rfl w.heap.size ys.length (splice (List.replicate (ys.length + 4) (Value.int .u8 0)) 0 (bl ys)) 5 HG5.out (tvl fun i => rg (tb (more 0#32 ys) i)) (by rw [tvl_len]; rfl) (fun _ => ⟨rfl, _, rfl, tvl_at HT5.out⟩) (by rw [length_splice _ _ _ (by simp [bl_len])]; simp [tvl_len]) (tvl_one _) w.heap.size w HB5.out (Nat.le_refl _) ?_; intro w5 hG5 hB5)
  have HB6 := Lib.hid hB5
  clear hB5 HG5 HT5 HB5
  go_wp2
  go_ret2
  refine ⟨rfl, ?_, HB6.out⟩
  rw [hG5.out, mk_splice]

theorem mark_short (a : Option Addr) (n c : Nat) (w : World) (h : n < 4) :
    Calls Tryz.prog 117 #[.slice a n c] w fun e w' => e = .returned (.tuple #[.slice none 0 0, .iface 78 (.int .i64 1)]) ∧ w = w' := by
  go_enter Tryz.func117, Tryz.ntmps117
  go_wp2
  go_ret2
  exact ⟨rfl, rfl⟩
theorem good_short (a : Option Addr) (n c : Nat) (w : World) (h : n < 4) :
    Calls Tryz.prog 108 #[.slice a n c] w fun e w' => e = .returned (.bool false) ∧ w = w' := by
  go_enter Tryz.func108, Tryz.ntmps108
  go_wp2
  go_ret
  exact ⟨rfl, rfl⟩
/-- whether bytes, of which there are four at least, are good -/
theorem good_any (a : Option Addr) (c : Nat) (xs : List Int) (w : World) (h4 : 4 ≤ xs.length) (hx : Lies w a xs) (hm : xs.length ≤ 9223372036854775807) (hc : xs.length ≤ c) :
    Calls Tryz.prog 108 #[.slice a xs.length c] w fun e w' => e = .returned (.bool (isGood xs)) ∧ Below w.heap.size w w' := by
  obtain ⟨ys, t0, t1, t2, t3, rfl⟩ := four_last xs h4
  have hl : (ys ++ [t0, t1, t2, t3]).length = ys.length + 4 := by simp
  rw [hl] at hm hc ⊢
  obtain ⟨b, off, rfl, e0, l0, u0⟩ := hx ys.length (by simp)
  obtain ⟨b', off', ha, e1, l1, u1⟩ := hx (ys.length + 1) (by simp)
  obtain ⟨rfl, rfl⟩ : b = b' ∧ off = off' := by simpa using ha
  obtain ⟨b', off', ha, e2, l2, u2⟩ := hx (ys.length + 2) (by simp)
  obtain ⟨rfl, rfl⟩ : b = b' ∧ off = off' := by simpa using ha
  obtain ⟨b', off', ha, e3, l3, u3⟩ := hx (ys.length + 3) (by simp)
  obtain ⟨rfl, rfl⟩ : b = b' ∧ off = off' := by simpa using ha
  simp at e0 e1 e2 e3 l0 l1 l2 l3 u0 u1 u2 u3
  have hy : Lies w (some ⟨b, off, none⟩) ys := by
    intro i hi
    obtain ⟨b', off', ha, h1, h2, h3⟩ := hx i (by simp; omega)
    rw [List.getElem_append_left hi] at h1 h2 h3
    exact ⟨b', off', ha, h1, h2, h3⟩
  have := good_at b off ys.length c ys t0 t1 t2 t3 w rfl hy hm hc e0 e1 e2 e3
  rw [four_good ys t0 t1 t2 t3 ⟨l0, u0⟩ ⟨l1, u1⟩ ⟨l2, u2⟩ ⟨l3, u3⟩] at this
  exact this
end Go.Proofs.YtokikeenfpligaaGreatDoor.Sm

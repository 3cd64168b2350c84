/-
  THE WALKS of math/bits.Mul at 1 and a small number, and of slices.Repeat of one empty frame. Conditions: the number is small.
  THE WALKS of slices.Repeat of one empty frame, and of the pool's New. Conditions: the number of frames is one that can be.
-/
import Derived.Laws.BitsAllLaws
import Derived.Laws.CopyRow
import Derived.Laws.CopyOwn
import Derived.Deep.RegionLaw
import Derived.Test.YtlfkkakohldgnaaGreatDoorN18
namespace Go.Proofs.YtlfkkakohldgnaaGreatDoor
open Go.RowKit Go.Maps

theorem and_mask (m : Nat) (h : m < 4294967296) : bits .and .u64 (m : Int) 4294967295 = (m : Int) := by
  have e := u64_and_nat m 4294967295 (by omega) (by omega)
  have e2 : m &&& 4294967295 = m := by
    rw [show (4294967295 : Nat) = 2 ^ 32 - 1 by rfl, Nat.and_two_pow_sub_one_eq_mod]
    exact Nat.mod_eq_of_lt (by omega)
  rw [e2] at e
  exact e
set_option maxRecDepth 100000 in
theorem mul64_one (m : Nat) (w : World) (h : m ≤ 1024) : Calls Tryz.prog 143 #[.int .u64 1, .int .u64 (m : Int)] w fun e w' => e = .returned (.tuple #[.int .u64 0, .int .u64 (m : Int)]) ∧ w = w' := by
  have e1 := and_mask m (by omega)
  have e2 : (m : Int) / 4294967296 = 0 := by omega
  have e3 : bits .and .u64 1 4294967295 = 1 := and_mask 1 (by omega)
  have e4 : bits .and .u64 0 4294967295 = 0 := and_mask 0 (by omega)
  have e5 : (1 : Int) / 4294967296 = 0 := by decide
  have h0 : (0 : Int) ≤ (m : Int) := by omega
  have h1 : (m : Int) ≤ 1024 := by omega
  go_enter Tryz.func143, Tryz.ntmps143
  go_wp2
  go_ret2
  exact ⟨rfl, rfl⟩
set_option maxRecDepth 100000 in
theorem mul_one' (m : Nat) (w : World) (h : m ≤ 1024) : Calls Tryz.prog 123 #[.int .u64 1, .int .u64 (m : Int)] w fun e w' => e = .returned (.tuple #[.int .u64 0, .int .u64 (m : Int)]) ∧ w = w' := by
  have h0 : (0 : Int) ≤ (m : Int) := by omega
  have h1 : (m : Int) ≤ 1024 := by omega
  go_enter Tryz.func123, Tryz.ntmps123
  go_wp2_with (go_at_call 143; refine (mul64_one m _ h).mono ?_; rintro e w1 ⟨rfl, rfl⟩)
  go_ret2
  exact ⟨rfl, rfl⟩

/-! frames in a row -/
def fz (b : Bool) : Nat → Value := fv (if b then Fr.new (-1) else Fr.new 0) none 0
def rw5 (k m : Nat) : List Value := (List.range (m * 5)).map fun q => fz (decide (q / 5 < k)) (q % 5)
theorem rw5_len (k m : Nat) : (rw5 k m).length = m * 5 := by simp [rw5]
theorem rw5_get (k m q : Nat) (h : q < m * 5) : (rw5 k m)[q]? = some (fz (decide (q / 5 < k)) (q % 5)) := by
  unfold rw5
  rw [List.getElem?_map, List.getElem?_range h]
  rfl
theorem fz_one (b : Bool) (j : Nat) : (fz b j).oneCell' = true := by
  unfold fz
  generalize (if b = true then Fr.new (-1) else Fr.new 0) = f
  match j with
  | 0 => rfl
  | 1 => rfl
  | 2 => rfl
  | 3 => rfl
  | n + 4 => rfl
theorem rw5_one (k m : Nat) : ∀ v ∈ rw5 k m, v.oneCell' = true := by
  intro v hv
  unfold rw5 at hv
  obtain ⟨q, _, rfl⟩ := List.mem_map.1 hv
  exact fz_one _ _
theorem splice_get {α : Type} (L : List α) (off : Nat) (cs : List α) (h : off + cs.length ≤ L.length) (q : Nat) : (splice L off cs)[q]? = if q < off then L[q]? else if q < off + cs.length then cs[q - off]? else L[q]? := by
  unfold splice
  have hl : (L.take off).length = off := by rw [List.length_take]; omega
  by_cases h1 : q < off
  · rw [if_pos h1, List.getElem?_append_left (by omega), List.getElem?_take, if_pos h1]
  · rw [if_neg h1, List.getElem?_append_right (by omega), hl]
    by_cases h2 : q < off + cs.length
    · rw [if_pos h2, List.getElem?_append_left (by omega)]
    · rw [if_neg h2, List.getElem?_append_right (by omega), List.getElem?_drop]
      congr 1
      omega
theorem rw5_first (m : Nat) (h : 1 ≤ m) : splice (rw5 0 m) 0 (rw5 1 1) = rw5 1 m := by
  apply List.ext_getElem?
  intro q
  rw [splice_get _ _ _ (by rw [rw5_len, rw5_len]; omega), rw5_len, if_neg (by omega)]
  by_cases h1 : q < 0 + 1 * 5
  · rw [if_pos h1, Nat.sub_zero, rw5_get _ _ _ (by omega), rw5_get _ _ _ (by omega)]
  · rw [if_neg h1]
    by_cases h2 : q < m * 5
    · rw [rw5_get _ _ _ h2, rw5_get _ _ _ h2, decide_eq_false (by omega), decide_eq_false (by omega)]
    · rw [List.getElem?_eq_none (by rw [rw5_len]; omega), List.getElem?_eq_none (by rw [rw5_len]; omega)]
theorem rw5_next (n c m : Nat) (hc : c ≤ n) (hm : n + c ≤ m) : splice (rw5 n m) (n * 5) ((rw5 n m).take (c * 5)) = rw5 (n + c) m := by
  have hl : ((rw5 n m).take (c * 5)).length = c * 5 := by rw [List.length_take, rw5_len]; omega
  apply List.ext_getElem?
  intro q
  rw [splice_get _ _ _ (by rw [hl, rw5_len]; omega), hl]
  by_cases h0 : q < n * 5
  · rw [if_pos h0, rw5_get _ _ _ (by omega), rw5_get _ _ _ (by omega), decide_eq_true (by omega), decide_eq_true (by omega)]
  · rw [if_neg h0]
    by_cases h1 : q < n * 5 + c * 5
    · rw [if_pos h1, List.getElem?_take, if_pos (by omega), rw5_get _ _ _ (by omega), rw5_get _ _ _ (by omega), decide_eq_true (by omega), decide_eq_true (by omega), show (q - n * 5) % 5 = q % 5 by omega]
    · rw [if_neg h1]
      by_cases h2 : q < m * 5
      · rw [rw5_get _ _ _ h2, rw5_get _ _ _ h2, decide_eq_false (by omega), decide_eq_false (by omega)]
      · rw [List.getElem?_eq_none (by rw [rw5_len]; omega), List.getElem?_eq_none (by rw [rw5_len]; omega)]
set_option maxRecDepth 100000 in
theorem info_fz : (Tryz.prog.info? 173).map (fun i => (i.zero, i.size, i.bytes)) = some (some (.agg #[.int .i64 0, .slice none 0 0, .bool false, .bool false, .int .i64 0]), 5, 48) := by kernel_rfl
set_option maxRecDepth 100000 in
theorem make_fr (n : Nat) (hn : n ≤ 1024) (w : World) : (Instr.makeSlice 170 (.int .i64 (n : Int)) (.int .i64 (n : Int))).run Tryz.prog w = .ok (.slice (some ⟨w.heap.size, 0, none⟩) n n) (w.alloc (.cells (rw5 0 n).toArray 173)) := by
  obtain ⟨i, hi, hzz⟩ := Option.map_eq_some_iff.1 info_fz
  simp only [Prod.mk.injEq] at hzz
  obtain ⟨hz, hs, hb⟩ := hzz
  have hr := run_make (P := Tryz.prog) w 170 173 i _ Tryz.underlying170 hi hz .i64 .i64 (n : Int) (n : Int) (by omega) (Int.le_refl _) (by rw [hb]; omega) (by omega)
  rw [hs] at hr
  simp only [Int.toNat_natCast] at hr
  rw [hr]
  congr 3
  show madeCells #[.int .i64 0, .slice none 0 0, .bool false, .bool false, .int .i64 0] (n * 5) = _
  apply Array.ext
  · simp [madeCells, rw5_len]
  · intro q h1 h2
    have hq : q < n * 5 := by simpa [madeCells] using h1
    have e := rw5_get 0 n q hq
    rw [List.getElem?_eq_getElem (by rw [rw5_len]; exact hq)] at e
    have e2 : (rw5 0 n).toArray[q] = fz (decide (q / 5 < 0)) (q % 5) := by simpa using Option.some.inj e
    rw [e2, decide_eq_false (by omega)]
    simp only [madeCells, Array.getElem_map, Array.getElem_range]
    have h5 : q % 5 < 5 := Nat.mod_lt _ (by omega)
    show (#[Value.int .i64 0, .slice none 0 0, .bool false, .bool false, .int .i64 0] : Array Value)[q % 5]! = fz false (q % 5)
    generalize q % 5 = j at h5 ⊢
    match j, h5 with
    | 0, _ => rfl
    | 1, _ => rfl
    | 2, _ => rfl
    | 3, _ => rfl
    | 4, _ => rfl
/-- the builtin copy, of frames -/
theorem run_copy5 (w : World) (ty : TypeId) (g o dLen dCap : Nat) (a : Addr) (sLen sCap : Nat) (cur : List Value) (t : TypeId) (cs : List Value)
    (hg : w.heap[g]? = some (.cells cur.toArray t (0, 0))) (hn : Nat.min sLen dLen * 5 = cs.length)
    (hsrc : ∀ j v, cs[j]? = some v → w.cell? (a.add j) = some v) (hfit : o + cs.length ≤ cur.length) (h1 : ∀ v ∈ cs, v.oneCell' = true) :
    (Builtin.copy_ #[170, 170] ty #[.slice (some ⟨g, o, none⟩) dLen dCap, .slice (some a) sLen sCap]).run Tryz.prog w =
      .ok (goInt (Nat.min sLen dLen)) (w.setRow g (splice cur o cs).toArray) := by
  have hl := run_loadCells_list (P := Tryz.prog) w a cs hsrc
  have hst := run_storeCells_at Tryz.prog g o t cs 0 cur.toArray w hg (by simpa using hfit) h1
  have hu : Tryz.prog.underlying 170 = some (.slice 173) := Tryz.underlying170
  cases hq : Tryz.prog.info? 173 with
  | none => have := info_fr; rw [hq] at this; cases this
  | some i =>
    have hi : i.size = 5 := by have := info_fr; rw [hq] at this; exact Option.some.inj this
    simp [Builtin.copy_, run_underlying hu, Builtin.lenOf, Builtin.firstCells, sizeOf, typeInfo, hq, hi, hn, hl, hst]
    rfl
theorem wpList_copy5 {w : World} {ops : Array Oper} {rest : List Oper} {o : Oper} {a : Act} {Q : Exit → Act → World → Prop} (hgd : o.guard = none) (d s : Operand)
    (ho : o.op = .call { callee := .builtin .copy, args := #[d, s], argTypes := #[170, 170] })
    (g off dLen dCap : Nat) (ad : Addr) (sLen sCap : Nat) (hd : a.eval d = .slice (some ⟨g, off, none⟩) dLen dCap) (hs : a.eval s = .slice (some ad) sLen sCap)
    (cur : List Value) (t : TypeId) (hg : w.heap[g]? = some (.cells cur.toArray t (0, 0))) (cs : List Value) (n : Nat) (hnn : Nat.min sLen dLen = n) (hn : n * 5 = cs.length)
    (hsrc : ∀ j v, cs[j]? = some v → w.cell? (ad.add j) = some v) (hfit : off + cs.length ≤ cur.length) (h1 : ∀ v ∈ cs, v.oneCell' = true) (B : Nat) (w0 : World) (hb : Below B w0 w) (hBg : B ≤ g)
    (h : ∀ w', Hid (w'.heap[g]? = some (.cells (splice cur off cs).toArray t (0, 0))) → Hid (Below B w0 w') → wpList Tryz.prog ops Q rest (a.put o.dst (.int .i64 (n : Int))) w') :
    wpList Tryz.prog ops Q (o :: rest) a w := by
  subst hnn
  refine wpList_plain hgd fun _ hK => ?_
  have hrun := run_copy5 w o.type g off dLen dCap ad sLen sCap cur t cs hg hn hsrc hfit h1
  unfold Oper.wp
  simp [execOp, ho, resolve, invoke, builtin, hd, hs, hrun, Result.andThen]
  exact hK _ _ (h _ (show _ = _ from setRow_heap w g _ _ t _ hg) (show Below _ _ _ from below_setRow hb hBg _))
theorem step_copy5 {ops : Array Oper} {o : Oper} {a : Act} {w : World} {K : Act → World → Prop} {Q : Exit → Act → World → Prop} {E : Prop} (hgd : o.guard = none) (d s : Operand)
    (ho : o.op = .call { callee := .builtin .copy, args := #[d, s], argTypes := #[170, 170] })
    (g off dLen dCap : Nat) (ad : Addr) (sLen sCap : Nat) (hd : a.eval d = .slice (some ⟨g, off, none⟩) dLen dCap) (hs : a.eval s = .slice (some ad) sLen sCap)
    (cur : List Value) (t : TypeId) (hg : w.heap[g]? = some (.cells cur.toArray t (0, 0))) (cs : List Value) (n : Nat) (hnn : Nat.min sLen dLen = n) (hn : n * 5 = cs.length)
    (hsrc : ∀ j v, cs[j]? = some v → w.cell? (ad.add j) = some v) (hfit : off + cs.length ≤ cur.length) (h1 : ∀ v ∈ cs, v.oneCell' = true) (B : Nat) (w0 : World) (hb : Below B w0 w) (hBg : B ≤ g)
    (h : ∀ w', Hid (w'.heap[g]? = some (.cells (splice cur off cs).toArray t (0, 0))) → Hid (Below B w0 w') → K (a.put o.dst (.int .i64 (n : Int))) w') :
    if Region.wanted o (yielded ops a.tmps) = true then Oper.wp Tryz.prog o a w K Q else E := by
  subst hnn
  have hw : Region.wanted o (yielded ops a.tmps) = true := by simp [Region.wanted, hgd]
  rw [if_pos hw]
  have hrun := run_copy5 w o.type g off dLen dCap ad sLen sCap cur t cs hg hn hsrc hfit h1
  unfold Oper.wp
  simp [execOp, ho, resolve, invoke, builtin, hd, hs, hrun, Result.andThen]
  exact h _ (show _ = _ from setRow_heap w g _ _ t _ hg) (show Below _ _ _ from below_setRow hb hBg _)
end Go.Proofs.YtlfkkakohldgnaaGreatDoor
namespace Go.Proofs.YtlfkkakohldgnaaGreatDoor
open Go.RowKit Go.Maps

def RepAt (w : World) (m : Nat) (e : Ending) (w' : World) : Prop :=
  ∃ G, e = .returned (.slice (some ⟨G, 0, none⟩) m m) ∧ w'.heap[G]? = some (.cells (rw5 m m).toArray 173 (0, 0)) ∧ w.heap.size ≤ G ∧ Below w.heap.size w w'
set_option maxRecDepth 100000 in
set_option maxHeartbeats 1000000 in
theorem repeat_any (g c m : Nat) (w : World) (h1 : 1 ≤ m) (h2 : m ≤ 1024) (hg : ∀ j v, (rw5 1 1)[j]? = some v → w.cell? ((⟨g, 0, none⟩ : Addr).add j) = some v) (hgl : g < w.heap.size) :
    Calls Tryz.prog 102 #[.slice (some ⟨g, 0, none⟩) 1 c, .int .i64 (m : Int)] w (RepAt w m) := by
  have hmk := make_fr m h2
  have m0 : (0 : Int) ≤ (m : Int) := by omega
  have m1 : (m : Int) ≤ 1024 := by omega
  have m2 : ¬ (m : Int) < 0 := by omega
  have m3 : ¬ (9223372036854775807 : Int) < (m : Int) := by omega
  have HB0 := Lib.hid ((Below.refl w.heap.size w).alloc (Nat.le_refl _) (.cells (rw5 0 m).toArray 173))
  have HSRC := Lib.hid (show ∀ j v, (rw5 1 1)[j]? = some v → (w.alloc (.cells (rw5 0 m).toArray 173)).cell? ((⟨g, 0, none⟩ : Addr).add j) = some v from fun j v e => (HB0.out.cell (p := (⟨g, 0, none⟩ : Addr).add j) (by rw [Addr.add_mid]; exact hgl)).trans (hg j v e))
  have HF := Lib.hid (rw5_first m h1)
  have HG0 := Lib.hid (heap_alloc_new w (.cells (rw5 0 m).toArray 173))
  clear hg hgl
  go_enter Tryz.func102, Tryz.ntmps102
  go_wp2_with (first | (go_at_call 123; refine (mul_one' m _ h2).mono ?_; rintro e w1 ⟨rfl, rfl⟩) | (refine wpList_copy5 rfl (.tmp 31) (.tmp 32) rfl w.heap.size 0 m m ⟨g, 0, none⟩ 1 c rfl rfl (rw5 0 m) 173 HG0.out (rw5 1 1) 1 (Nat.min_eq_left h1) (by rw [rw5_len]) HSRC.out (by rw [rw5_len, rw5_len]; omega) (rw5_one 1 1) w.heap.size w HB0.out (Nat.le_refl _) ?_; intro w2 hG2 hB2; rw [HF.out] at hG2))
  generalize hG : w.heap.size = G at hG2 hB2 ⊢
  go_loopw [8] (fun n wr => ∃ k : Nat, 1 ≤ k ∧ k ≤ m ∧ n = .int .i64 k ∧ Hid (wr.heap[G]? = some (.cells (rw5 k m).toArray 173 (0, 0))) ∧ Hid (Below G w wr)) (fun n _ => m - (intOf n).toNat)
  case atStart => exact ⟨1, by omega, h1, rfl, hG2, hB2⟩
  case round =>
    obtain ⟨k, k1, k2, rfl, HG, HB⟩ := hrel
    by_cases hlt : k < m
    · have i0 : (0 : Int) ≤ (k : Int) := by omega
      have i1 : (k : Int) < (m : Int) := by omega
      have i2 : (k : Int) ≤ (m : Int) := by omega
      have i3 : ¬ (k : Int) = (m : Int) := by omega
      have i4 : ¬ k = m := by omega
      have i6 : ¬ m = k := by omega
      have i5 : ¬ m - k = 0 := by omega
      obtain ⟨q, hq⟩ : ∃ q, Nat.min k (m - k) = q := ⟨_, rfl⟩
      have hq1 : q ≤ k := by rw [← hq]; exact Nat.min_le_left _ _
      have hq2 : k + q ≤ m := by have : q ≤ m - k := by rw [← hq]; exact Nat.min_le_right _ _
                                 omega
      have hq3 : 1 ≤ q := by
        rw [← hq]
        rcases Nat.le_total k (m - k) with e | e
        · rw [show Nat.min k (m - k) = k from Nat.min_eq_left e]; omega
        · rw [show Nat.min k (m - k) = m - k from Nat.min_eq_right e]; omega
      have HQ := Lib.hid hq
      have HGD : Hid (wr.drew.heap[G]? = some (.cells (rw5 k m).toArray 173 (0, 0))) := HG
      have HBD : Hid (Below G w wr.drew) := Lib.hid HB.out.drew
      have HSC := Lib.hid (show ∀ j v, ((rw5 k m).take (q * 5))[j]? = some v → wr.drew.cell? ((⟨G, 0, none⟩ : Addr).add j) = some v from fun j v e => by
        rw [List.getElem?_take] at e
        split at e
        · rw [Addr.add_mid, Nat.zero_add, cell_of_row _ _ _ _ _ _ HGD.out]
          simpa using e
        · cases e)
      have HN := Lib.hid (rw5_next k q m hq1 hq2)
      have HLN := Lib.hid (show ((rw5 k m).take (q * 5)).length = q * 5 by rw [List.length_take, rw5_len]; omega)
      have hwr : IntKind.i64.wrap ((k : Int) + (q : Int)) = (k : Int) + (q : Int) := by rw [IntKind.wrap_i64]; omega
      clear hq
      go_upto_region 9 with (fail)
      go_region_law (refine step_copy5 (w := wr.drew) rfl (.tmp 41) (.tmp 44) rfl G (k * 5) (m - k) (m - k) ⟨G, 0, none⟩ k m (by kernel_rfl) (by kernel_rfl) (rw5 k m) 173 HGD.out ((rw5 k m).take (q * 5)) q HQ.out HLN.out.symm HSC.out (by rw [HLN.out, rw5_len]; omega) (fun v hv => rw5_one k m v (List.mem_of_mem_take hv)) G w HBD.out (Nat.le_refl _) ?_; intro w4 hg4 hb4; rw [HN.out] at hg4)
      simp only [List.getElem_toArray, List.getElem_cons_succ, List.getElem_cons_zero]
      go_frame
      go_wp2
      go_roundw
      case rel => exact ⟨k + q, by omega, hq2, by go_num, hg4, hb4⟩
      case measure => simp [intOf]; omega
    · obtain rfl : k = m := by omega
      go_wp2
      go_ret
      exact ⟨G, rfl, HG.out, by omega, by rw [hG]; exact HB.out⟩
end Go.Proofs.YtlfkkakohldgnaaGreatDoor

/-
  THE WALKS of math/bits.Mul at 1 and a small number, and of slices.Repeat of one empty frame. Conditions: the number is small.
  THE WALKS of slices.Repeat of one empty frame, and of the pool's New. Conditions: the number of frames is one that can be.
  THE WALK of the pool's New. Conditions: the number of frames is one that can be.
  THE POOL's CALLS AS THE STATEMENTS MEET THEM: a pool that was made since the world W, and what has become of it since a world w0. Conditions: those that each lemma names.
-/
import Derived.Laws.BitsAllLaws
import Derived.Laws.CopyRow
import Derived.Laws.CopyOwn
import Derived.Deep.RegionLaw
import Derived.IntWalk
import Derived.Test.YtokikeenfpligaaGreatDoorU27
import Derived.Test.YtokikeenfpligaaGreatDoorU11
namespace Go.Proofs.YtokikeenfpligaaGreatDoor
open Go.RowKit Go.Maps

theorem and_mask (m : Nat) (h : m < 4294967296) : bits .and .u64 (m : Int) 4294967295 = (m : Int) := by
  have e := u64_and_nat m 4294967295 (by omega) (by omega)
  have e2 : m &&& 4294967295 = m := by
    rw [show (4294967295 : Nat) = 2 ^ 32 - 1 by rfl, Nat.and_two_pow_sub_one_eq_mod]
    exact Nat.mod_eq_of_lt (by omega)
  rw [e2] at e
  exact e
set_option maxRecDepth 100000 in
theorem mul64_one (m : Nat) (w : World) (h : m ≤ 1024) : Calls Tryz.prog 143 #[.int .u64 1, .int .u64 (m : Int)] w fun e w' => e = .returned (.tuple #[.int .u64 0, .int .u64 (m : Int)]) ∧ w = w' := by
  have e1 := and_mask m (by omega)
  have e2 : (m : Int) / 4294967296 = 0 := by omega
  have e3 : bits .and .u64 1 4294967295 = 1 := and_mask 1 (by omega)
  have e4 : bits .and .u64 0 4294967295 = 0 := and_mask 0 (by omega)
  have e5 : (1 : Int) / 4294967296 = 0 := by decide
  have h0 : (0 : Int) ≤ (m : Int) := by omega
  have h1 : (m : Int) ≤ 1024 := by omega
  go_enter Tryz.func143, Tryz.ntmps143
  go_wp2
  go_ret2
  exact ⟨rfl, rfl⟩
set_option maxRecDepth 100000 in
theorem mul_one' (m : Nat) (w : World) (h : m ≤ 1024) : Calls Tryz.prog 123 #[.int .u64 1, .int .u64 (m : Int)] w fun e w' => e = .returned (.tuple #[.int .u64 0, .int .u64 (m : Int)]) ∧ w = w' := by
  have h0 : (0 : Int) ≤ (m : Int) := by omega
  have h1 : (m : Int) ≤ 1024 := by omega
  go_enter Tryz.func123, Tryz.ntmps123
  go_wp2_with (go_at_call 143; refine (mul64_one m _ h).mono ?_; rintro e w1 ⟨rfl, rfl⟩)
  go_ret2
  exact ⟨rfl, rfl⟩

/-! frames in a row -/
def fz (b : Bool) : Nat → Value := fv (if b then Fr.new (-1) else Fr.new 0) none 0
def rw5 (k m : Nat) : List Value := (List.range (m * 5)).map fun q => fz (decide (q / 5 < k)) (q % 5)
theorem rw5_len (k m : Nat) : (rw5 k m).length = m * 5 := by simp [rw5]
theorem rw5_get (k m q : Nat) (h : q < m * 5) : (rw5 k m)[q]? = some (fz (decide (q / 5 < k)) (q % 5)) := by
  unfold rw5
  rw [List.getElem?_map, List.getElem?_range h]
  rfl
theorem fz_one (b : Bool) (j : Nat) : (fz b j).oneCell' = true := by
  unfold fz
  generalize (if b = true then Fr.new (-1) else Fr.new 0) = f
  match j with
  | 0 => rfl
  | 1 => rfl
  | 2 => rfl
  | 3 => rfl
  | n + 4 => rfl
theorem rw5_one (k m : Nat) : ∀ v ∈ rw5 k m, v.oneCell' = true := by
  intro v hv
  unfold rw5 at hv
  obtain ⟨q, _, rfl⟩ := List.mem_map.1 hv
  exact fz_one _ _
theorem splice_get {α : Type} (L : List α) (off : Nat) (cs : List α) (h : off + cs.length ≤ L.length) (q : Nat) : (splice L off cs)[q]? = if q < off then L[q]? else if q < off + cs.length then cs[q - off]? else L[q]? := by
  unfold splice
  have hl : (L.take off).length = off := by rw [List.length_take]; omega
  by_cases h1 : q < off
  · rw [if_pos h1, List.getElem?_append_left (by omega), List.getElem?_take, if_pos h1]
  · rw [if_neg h1, List.getElem?_append_right (by omega), hl]
    by_cases h2 : q < off + cs.length
    · rw [if_pos h2, List.getElem?_append_left (by omega)]
    · rw [if_neg h2, List.getElem?_append_right (by omega), List.getElem?_drop]
      congr 1
      omega
theorem rw5_first (m : Nat) (h : 1 ≤ m) : splice (rw5 0 m) 0 (rw5 1 1) = rw5 1 m := by
  apply List.ext_getElem?
  intro q
  rw [splice_get _ _ _ (by rw [rw5_len, rw5_len]; omega), rw5_len, if_neg (by omega)]
  by_cases h1 : q < 0 + 1 * 5
  · rw [if_pos h1, Nat.sub_zero, rw5_get _ _ _ (by omega), rw5_get _ _ _ (by omega)]
  · rw [if_neg h1]
    by_cases h2 : q < m * 5
    · rw [rw5_get _ _ _ h2, rw5_get _ _ _ h2, decide_eq_false (by omega), decide_eq_false (by omega)]
    · rw [List.getElem?_eq_none (by rw [rw5_len]; omega), List.getElem?_eq_none (by rw [rw5_len]; omega)]
theorem rw5_next (n c m : Nat) (hc : c ≤ n) (hm : n + c ≤ m) : splice (rw5 n m) (n * 5) ((rw5 n m).take (c * 5)) = rw5 (n + c) m := by
  have hl : ((rw5 n m).take (c * 5)).length = c * 5 := by rw [List.length_take, rw5_len]; omega
  apply List.ext_getElem?
  intro q
  rw [splice_get _ _ _ (by rw [hl, rw5_len]; omega), hl]
  by_cases h0 : q < n * 5
  · rw [if_pos h0, rw5_get _ _ _ (by omega), rw5_get _ _ _ (by omega), decide_eq_true (by omega), decide_eq_true (by omega)]
  · rw [if_neg h0]
    by_cases h1 : q < n * 5 + c * 5
    · rw [if_pos h1, List.getElem?_take, if_pos (by omega), rw5_get _ _ _ (by omega), rw5_get _ _ _ (by omega), decide_eq_true (by omega), decide_eq_true (by omega), show (q - n * 5) % 5 = q % 5 by omega]
    · rw [if_neg h1]
      by_cases h2 : q < m * 5
      · rw [rw5_get _ _ _ h2, rw5_get _ _ _ h2, decide_eq_false (by omega), decide_eq_false (by omega)]
      · rw [List.getElem?_eq_none (by rw [rw5_len]; omega), List.getElem?_eq_none (by rw [rw5_len]; omega)]
set_option maxRecDepth 100000 in
theorem info_fz : (Tryz.prog.info? 173).map (fun i => (i.zero, i.size, i.bytes)) = some (some (.agg #[.int .i64 0, .slice none 0 0, .bool false, .bool false, .int .i64 0]), 5, 48) := by kernel_rfl
set_option maxRecDepth 100000 in
theorem make_fr (n : Nat) (hn : n ≤ 1024) (w : World) : (Instr.makeSlice 170 (.int .i64 (n : Int)) (.int .i64 (n : Int))).run Tryz.prog w = .ok (.slice (some ⟨w.heap.size, 0, none⟩) n n) (w.alloc (.cells (rw5 0 n).toArray 173)) := by
  obtain ⟨i, hi, hzz⟩ := Option.map_eq_some_iff.1 info_fz
  simp only [Prod.mk.injEq] at hzz
  obtain ⟨hz, hs, hb⟩ := hzz
  have hr := run_make (P := Tryz.prog) w 170 173 i _ Tryz.underlying170 hi hz .i64 .i64 (n : Int) (n : Int) (by omega) (Int.le_refl _) (by rw [hb]; omega) (by omega)
  rw [hs] at hr
  simp only [Int.toNat_natCast] at hr
  rw [hr]
  congr 3
  show madeCells #[.int .i64 0, .slice none 0 0, .bool false, .bool false, .int .i64 0] (n * 5) = _
  apply Array.ext
  · simp [madeCells, rw5_len]
  · intro q h1 h2
    have hq : q < n * 5 := by simpa [madeCells] using h1
    have e := rw5_get 0 n q hq
    rw [List.getElem?_eq_getElem (by rw [rw5_len]; exact hq)] at e
    have e2 : (rw5 0 n).toArray[q] = fz (decide (q / 5 < 0)) (q % 5) := by simpa using Option.some.inj e
    rw [e2, decide_eq_false (by omega)]
    simp only [madeCells, Array.getElem_map, Array.getElem_range]
    have h5 : q % 5 < 5 := Nat.mod_lt _ (by omega)
    show (#[Value.int .i64 0, .slice none 0 0, .bool false, .bool false, .int .i64 0] : Array Value)[q % 5]! = fz false (q % 5)
    generalize q % 5 = j at h5 ⊢
    match j, h5 with
    | 0, _ => rfl
    | 1, _ => rfl
    | 2, _ => rfl
    | 3, _ => rfl
    | 4, _ => rfl
/-- the builtin copy, of frames -/
theorem run_copy5 (w : World) (ty : TypeId) (g o dLen dCap : Nat) (a : Addr) (sLen sCap : Nat) (cur : List Value) (t : TypeId) (cs : List Value)
    (hg : w.heap[g]? = some (.cells cur.toArray t (0, 0))) (hn : Nat.min sLen dLen * 5 = cs.length)
    (hsrc : ∀ j v, cs[j]? = some v → w.cell? (a.add j) = some v) (hfit : o + cs.length ≤ cur.length) (h1 : ∀ v ∈ cs, v.oneCell' = true) :
    (Builtin.copy_ #[170, 170] ty #[.slice (some ⟨g, o, none⟩) dLen dCap, .slice (some a) sLen sCap]).run Tryz.prog w =
      .ok (goInt (Nat.min sLen dLen)) (w.setRow g (splice cur o cs).toArray) := by
  have hl := run_loadCells_list (P := Tryz.prog) w a cs hsrc
  have hst := run_storeCells_at Tryz.prog g o t cs 0 cur.toArray w hg (by simpa using hfit) h1
  have hu : Tryz.prog.underlying 170 = some (.slice 173) := Tryz.underlying170
  cases hq : Tryz.prog.info? 173 with
  | none => have := info_fr; rw [hq] at this; cases this
  | some i =>
    have hi : i.size = 5 := by have := info_fr; rw [hq] at this; exact Option.some.inj this
    simp [Builtin.copy_, run_underlying hu, Builtin.lenOf, Builtin.firstCells, sizeOf, typeInfo, hq, hi, hn, hl, hst]
    rfl
theorem wpList_copy5 {w : World} {ops : Array Oper} {rest : List Oper} {o : Oper} {a : Act} {Q : Exit → Act → World → Prop} (hgd : o.guard = none) (d s : Operand)
    (ho : o.op = .call { callee := .builtin .copy, args := #[d, s], argTypes := #[170, 170] })
    (g off dLen dCap : Nat) (ad : Addr) (sLen sCap : Nat) (hd : a.eval d = .slice (some ⟨g, off, none⟩) dLen dCap) (hs : a.eval s = .slice (some ad) sLen sCap)
    (cur : List Value) (t : TypeId) (hg : w.heap[g]? = some (.cells cur.toArray t (0, 0))) (cs : List Value) (n : Nat) (hnn : Nat.min sLen dLen = n) (hn : n * 5 = cs.length)
    (hsrc : ∀ j v, cs[j]? = some v → w.cell? (ad.add j) = some v) (hfit : off + cs.length ≤ cur.length) (h1 : ∀ v ∈ cs, v.oneCell' = true) (B : Nat) (w0 : World) (hb : Below B w0 w) (hBg : B ≤ g)
    (h : ∀ w', Hid (w'.heap[g]? = some (.cells (splice cur off cs).toArray t (0, 0))) → Hid (Below B w0 w') → wpList Tryz.prog ops Q rest (a.put o.dst (.int .i64 (n : Int))) w') :
    wpList Tryz.prog ops Q (o :: rest) a w := by
  subst hnn
  refine wpList_plain hgd fun _ hK => ?_
  have hrun := run_copy5 w o.type g off dLen dCap ad sLen sCap cur t cs hg hn hsrc hfit h1
  unfold Oper.wp
  simp [execOp, ho, resolve, invoke, builtin, hd, hs, hrun, Result.andThen]
  exact hK _ _ (h _ (show _ = _ from setRow_heap w g _ _ t _ hg) (show Below _ _ _ from below_setRow hb hBg _))
theorem step_copy5 {ops : Array Oper} {o : Oper} {a : Act} {w : World} {K : Act → World → Prop} {Q : Exit → Act → World → Prop} {E : Prop} (hgd : o.guard = none) (d s : Operand)
    (ho : o.op = .call { callee := .builtin .copy, args := #[d, s], argTypes := #[170, 170] })
    (g off dLen dCap : Nat) (ad : Addr) (sLen sCap : Nat) (hd : a.eval d = .slice (some ⟨g, off, none⟩) dLen dCap) (hs : a.eval s = .slice (some ad) sLen sCap)
    (cur : List Value) (t : TypeId) (hg : w.heap[g]? = some (.cells cur.toArray t (0, 0))) (cs : List Value) (n : Nat) (hnn : Nat.min sLen dLen = n) (hn : n * 5 = cs.length)
    (hsrc : ∀ j v, cs[j]? = some v → w.cell? (ad.add j) = some v) (hfit : off + cs.length ≤ cur.length) (h1 : ∀ v ∈ cs, v.oneCell' = true) (B : Nat) (w0 : World) (hb : Below B w0 w) (hBg : B ≤ g)
    (h : ∀ w', Hid (w'.heap[g]? = some (.cells (splice cur off cs).toArray t (0, 0))) → Hid (Below B w0 w') → K (a.put o.dst (.int .i64 (n : Int))) w') :
    if Region.wanted o (yielded ops a.tmps) = true then Oper.wp Tryz.prog o a w K Q else E := by
  subst hnn
  have hw : Region.wanted o (yielded ops a.tmps) = true := by simp [Region.wanted, hgd]
  rw [if_pos hw]
  have hrun := run_copy5 w o.type g off dLen dCap ad sLen sCap cur t cs hg hn hsrc hfit h1
  unfold Oper.wp
  simp [execOp, ho, resolve, invoke, builtin, hd, hs, hrun, Result.andThen]
  exact h _ (show _ = _ from setRow_heap w g _ _ t _ hg) (show Below _ _ _ from below_setRow hb hBg _)
end Go.Proofs.YtokikeenfpligaaGreatDoor
namespace Go.Proofs.YtokikeenfpligaaGreatDoor
open Go.RowKit Go.Maps

def RepAt (w : World) (m : Nat) (e : Ending) (w' : World) : Prop :=
  ∃ G, e = .returned (.slice (some ⟨G, 0, none⟩) m m) ∧ w'.heap[G]? = some (.cells (rw5 m m).toArray 173 (0, 0)) ∧ w.heap.size ≤ G ∧ Below w.heap.size w w'
set_option maxRecDepth 100000 in
set_option maxHeartbeats 1000000 in
theorem repeat_any (g c m : Nat) (w : World) (h1 : 1 ≤ m) (h2 : m ≤ 1024) (hg : ∀ j v, (rw5 1 1)[j]? = some v → w.cell? ((⟨g, 0, none⟩ : Addr).add j) = some v) (hgl : g < w.heap.size) :
    Calls Tryz.prog 102 #[.slice (some ⟨g, 0, none⟩) 1 c, .int .i64 (m : Int)] w (RepAt w m) := by
  have hmk := make_fr m h2
  have m0 : (0 : Int) ≤ (m : Int) := by omega
  have m1 : (m : Int) ≤ 1024 := by omega
  have m2 : ¬ (m : Int) < 0 := by omega
  have m3 : ¬ (9223372036854775807 : Int) < (m : Int) := by omega
  have HB0 := Lib.hid ((Below.refl w.heap.size w).alloc (Nat.le_refl _) (.cells (rw5 0 m).toArray 173))
  have HSRC := Lib.hid (show ∀ j v, (rw5 1 1)[j]? = some v → (w.alloc (.cells (rw5 0 m).toArray 173)).cell? ((⟨g, 0, none⟩ : Addr).add j) = some v from fun j v e => (HB0.out.cell (p := (⟨g, 0, none⟩ : Addr).add j) (by rw [Addr.add_mid]; exact hgl)).trans (hg j v e))
  have HF := Lib.hid (rw5_first m h1)
  have HG0 := Lib.hid (heap_alloc_new w (.cells (rw5 0 m).toArray 173))
  clear hg hgl
  go_enter Tryz.func102, Tryz.ntmps102
  go_wp2_with (first | (go_at_call 123; refine (mul_one' m _ h2).mono ?_; rintro e w1 ⟨rfl, rfl⟩) | (refine wpList_copy5 rfl (.tmp 31) (.tmp 32) rfl w.heap.size 0 m m ⟨g, 0, none⟩ 1 c rfl rfl (rw5 0 m) 173 HG0.out (rw5 1 1) 1 (Nat.min_eq_left h1) (by rw [rw5_len]) HSRC.out (by rw [rw5_len, rw5_len]; omega) (rw5_one 1 1) w.heap.size w HB0.out (Nat.le_refl _) ?_; intro w2 hG2 hB2; rw [HF.out] at hG2))
  generalize hG : w.heap.size = G at hG2 hB2 ⊢
  go_loopw [8] (fun n wr => ∃ k : Nat, 1 ≤ k ∧ k ≤ m ∧ n = .int .i64 k ∧ Hid (wr.heap[G]? = some (.cells (rw5 k m).toArray 173 (0, 0))) ∧ Hid (Below G w wr)) (fun n _ => m - (intOf n).toNat)
  case atStart => exact ⟨1, by omega, h1, rfl, hG2, hB2⟩
  case round =>
    obtain ⟨k, k1, k2, rfl, HG, HB⟩ := hrel
    by_cases hlt : k < m
    · have i0 : (0 : Int) ≤ (k : Int) := by omega
      have i1 : (k : Int) < (m : Int) := by omega
      have i2 : (k : Int) ≤ (m : Int) := by omega
      have i3 : ¬ (k : Int) = (m : Int) := by omega
      have i4 : ¬ k = m := by omega
      have i6 : ¬ m = k := by omega
      have i5 : ¬ m - k = 0 := by omega
      obtain ⟨q, hq⟩ : ∃ q, Nat.min k (m - k) = q := ⟨_, rfl⟩
      have hq1 : q ≤ k := by rw [← hq]; exact Nat.min_le_left _ _
      have hq2 : k + q ≤ m := by have : q ≤ m - k := by rw [← hq]; exact Nat.min_le_right _ _
                                 omega
      have hq3 : 1 ≤ q := by
        rw [← hq]
        rcases Nat.le_total k (m - k) with e | e
        · rw [show Nat.min k (m - k) = k from Nat.min_eq_left e]; omega
        · rw [show Nat.min k (m - k) = m - k from Nat.min_eq_right e]; omega
      have HQ := Lib.hid hq
      have HGD : Hid (wr.drew.heap[G]? = some (.cells (rw5 k m).toArray 173 (0, 0))) := HG
      have HBD : Hid (Below G w wr.drew) := Lib.hid HB.out.drew
      have HSC := Lib.hid (show ∀ j v, ((rw5 k m).take (q * 5))[j]? = some v → wr.drew.cell? ((⟨G, 0, none⟩ : Addr).add j) = some v from fun j v e => by
        rw [List.getElem?_take] at e
        split at e
        · rw [Addr.add_mid, Nat.zero_add, cell_of_row _ _ _ _ _ _ HGD.out]
          simpa using e
        · cases e)
      have HN := Lib.hid (rw5_next k q m hq1 hq2)
      have HLN := Lib.hid (show ((rw5 k m).take (q * 5)).length = q * 5 by rw [List.length_take, rw5_len]; omega)
      have hwr : IntKind.i64.wrap ((k : Int) + (q : Int)) = (k : Int) + (q : Int) := by rw [IntKind.wrap_i64]; omega
      clear hq
      go_upto_region 9 with (fail)
      go_region_law (refine step_copy5 (w := wr.drew) rfl (.tmp 41) (.tmp 44) rfl G (k * 5) (m - k) (m - k) ⟨G, 0, none⟩ k m (by kernel_rfl) (by kernel_rfl) (rw5 k m) 173 HGD.out ((rw5 k m).take (q * 5)) q HQ.out HLN.out.symm HSC.out (by rw [HLN.out, rw5_len]; omega) (fun v hv => rw5_one k m v (List.mem_of_mem_take hv)) G w HBD.out (Nat.le_refl _) ?_; intro w4 hg4 hb4; rw [HN.out] at hg4)
      simp only [List.getElem_toArray, List.getElem_cons_succ, List.getElem_cons_zero]
      go_frame
      go_wp2
      go_roundw
      case rel => exact ⟨k + q, by omega, hq2, by go_num, hg4, hb4⟩
      case measure => simp [intOf]; omega
    · obtain rfl : k = m := by omega
      go_wp2
      go_ret
      exact ⟨G, rfl, HG.out, by omega, by rw [hG]; exact HB.out⟩
end Go.Proofs.YtokikeenfpligaaGreatDoor
namespace Go.Proofs.YtokikeenfpligaaGreatDoor
open Go.RowKit Go.Maps

set_option maxRecDepth 100000 in
theorem newp_no (d : Value) (m : Int) (w : World) (hd : d = .pointer none ∨ ((∃ D, d = .pointer (some ⟨D, 0, none⟩)) ∧ (m < 1 ∨ 1024 < m))) :
    Calls Tryz.prog 72 #[d, .int .i64 m] w fun e w' => e = .returned (.tuple #[.pointer none, .iface 78 (.int .i64 1)]) ∧ w = w' := by
  rcases hd with rfl | ⟨⟨D, rfl⟩, h | h⟩
  · go_enter Tryz.func72, Tryz.ntmps72
    go_wp2
    go_ret2
    exact ⟨rfl, rfl⟩
  · go_enter Tryz.func72, Tryz.ntmps72
    go_wp2
    go_ret2
    exact ⟨rfl, rfl⟩
  · have h2 : ¬ m < 1 := by omega
    go_enter Tryz.func72, Tryz.ntmps72
    go_wp2
    go_ret2
    exact ⟨rfl, rfl⟩
def Px.fresh (d : Dk) (m : Nat) : Px := ⟨d, m, 0, fun _ => Fr.new (-1), 0, 0⟩
theorem fresh_ok {d : Dk} {m N : Nat} (h1 : 1 ≤ m) (h2 : m ≤ 1024) (hn : d.n ≤ 16384) (w0 : 0 ≤ d.writes) (wN : d.writes ≤ N) : (Px.fresh d m).Ok N :=
  ⟨h1, h2, Nat.zero_le _, h1, hn, fun k hk => absurd hk (Nat.not_lt_zero _), fun j k hj => absurd hj (Nat.not_lt_zero _), fun _ _ => rfl, fun _ => .inr ⟨rfl, rfl⟩, fun _ => Nat.zero_le _, w0, wN, Int.le_refl _, by show (0 : Int) ≤ N; omega⟩
def NewPAt (B N : Nat) (w : World) (s : St) (d : Dk) (m : Nat) (e : Ending) (w' : World) : Prop :=
  ∃ μ, e = .returned (.tuple #[.pointer (some ⟨μ.P, 0, none⟩), .nilIface]) ∧ PoolAt B N w' μ ∧ μ.s = s ∧ μ.X = Px.fresh d m ∧ Below w.heap.size w w' ∧ ∀ b, μ.all b → s.has b ∨ w.heap.size ≤ b
theorem made_pool {B N : Nat} {w w1 w' : World} {s : St} {d : Dk} {m G : Nat} {P M : Nat} (hd : DiskAt B w s) (ht : Tie s d) (h1 : 1 ≤ m) (h2 : m ≤ 1024) (w0 : 0 ≤ d.writes) (wN : d.writes ≤ N)
    (hG : w1.heap[G]? = some (.cells (rw5 m m).toArray 173 (0, 0))) (hGl : w.heap.size ≤ G) (hb1 : Below w.heap.size w w1) (hM : M = w1.heap.size) (hP : P = w1.heap.size + 1)
    (hw : w' = (w1.alloc (.map #[] 0)).alloc (.cells #[.pointer (some ⟨s.D, 0, none⟩), .slice (some ⟨G, 0, none⟩) m m, .map (some M), .int .i64 0, .int .i64 0] 175)) :
    NewPAt B N w s d m (.returned (.tuple #[.pointer (some ⟨P, 0, none⟩), .nilIface])) w' := by
  have hGlt : G < w1.heap.size := (Array.getElem?_eq_some_iff.1 hG).1
  have hb2 : Below w.heap.size w w' := by
    rw [hw]
    exact (hb1.alloc hb1.size _).alloc (by have := hb1.size; simp; omega) _
  have eG : w'.heap[G]? = w1.heap[G]? := by
    rw [hw, Below.heap_alloc _ _ _ (by simp; omega), Below.heap_alloc _ _ _ hGlt]
  have eP : w'.heap[P]? = some (.cells #[.pointer (some ⟨s.D, 0, none⟩), .slice (some ⟨G, 0, none⟩) m m, .map (some M), .int .i64 0, .int .i64 0] 175 (0, 0)) := by
    rw [hw, hP]
    have := heap_alloc_new (w1.alloc (.map #[] 0)) (.cells #[.pointer (some ⟨s.D, 0, none⟩), .slice (some ⟨G, 0, none⟩) m m, .map (some M), .int .i64 0, .int .i64 0] 175)
    simpa using this
  have hB : B ≤ w.heap.size := Nat.le_trans hd.ok.bD (Nat.le_of_lt (hd.lt _ (.inl rfl)).2)
  have hsl : ∀ b, s.has b → b < w.heap.size := fun b hb => (hd.lt b hb).2
  have hs1 := hb1.size
  refine ⟨⟨P, G, M, s, Px.fresh d m, fun _ => none, fun _ => 0, .map []⟩, rfl, ⟨⟨hd.below hb2, ht, ⟨by show B ≤ P; omega, by show B ≤ G; omega, by show B ≤ M; omega, by show P ≠ G; omega, by show P ≠ M; omega, by show G ≠ M; omega, fun q => ?_, fun q => ?_, fun q => ?_⟩, ⟨cell_of_row _ _ _ _ _ _ eP, cell_of_row _ _ _ _ _ _ eP, cell_of_row _ _ _ _ _ _ eP, cell_of_row _ _ _ _ _ _ eP, cell_of_row _ _ _ _ _ _ eP, fun i => frozen_of_row _ _ _ _ _ eP⟩, ⟨fun k hk j hj => ?_, fun i => frozen_of_row _ _ _ _ _ (eG.trans hG), ?_⟩, ⟨fun k _ i hi => absurd hi (by simp [Px.fresh, Fr.new, nums]), fun k _ b off e => (by cases e), fun k _ => Nat.le_refl _⟩, fresh_ok h1 h2 (by rw [ht.n]; exact hd.ok.n1) w0 wN⟩, (by rw [hw, hM]; exact (World.ownsMap_made w1 _ _ _).alloc _), ⟨tidy_empty, fun i => ⟨fun q => (by simp [Maps.has] at q), fun ⟨k, hk, _⟩ => absurd hk (Nat.not_lt_zero _)⟩, fun k hk => absurd hk (Nat.not_lt_zero _), rfl⟩⟩, rfl, rfl, hb2, fun b hb => ?_⟩
  · have : P < w.heap.size := hsl _ q
    omega
  · have : G < w.heap.size := hsl _ q
    omega
  · have : M < w.heap.size := hsl _ q
    omega
  · show w'.cell? ⟨G, k * 5 + j, none⟩ = some (fv (Fr.new (-1)) none 0 j)
    have hk' : k < m := hk
    rw [cell_of_row _ _ _ _ _ _ (eG.trans hG)]
    have := rw5_get m m (k * 5 + j) (by omega)
    rw [decide_eq_true (by omega), show (k * 5 + j) % 5 = j by omega] at this
    show (rw5 m m).toArray[k * 5 + j]? = some (fz true j)
    simpa using this
  · show G < w'.heap.size
    have := hb2.size
    rw [hw]; simp; omega
  · rcases hb with (q | q | q | q) | ⟨k, off, _, e⟩
    · right; rw [q]; show w.heap.size ≤ P; omega
    · right; rw [q]; exact hGl
    · right; rw [q]; show w.heap.size ≤ M; omega
    · exact .inl q
    · cases e
set_option maxRecDepth 100000 in
set_option maxHeartbeats 1000000 in
theorem newp_any {B N : Nat} (s : St) (d : Dk) (m : Nat) (w : World) (hd : DiskAt B w s) (ht : Tie s d) (h1 : 1 ≤ m) (h2 : m ≤ 1024) (w0 : 0 ≤ d.writes) (wN : d.writes ≤ N) :
    Calls Tryz.prog 72 #[.pointer (some ⟨s.D, 0, none⟩), .int .i64 (m : Int)] w (NewPAt B N w s d m) := by
  have m0 : ¬ (m : Int) < 1 := by omega
  have m1 : ¬ (1024 : Int) < (m : Int) := by omega
  have hmm := @run_makeMap Tryz.prog
  have HD := Lib.hid hd
  have HT := Lib.hid ht
  have HW0 := Lib.hid w0
  have HWN := Lib.hid wN
  have HB0 := Lib.hid ((Below.refl w.heap.size w).alloc (Nat.le_refl _) (.cells #[.int .i64 (-1), .slice none 0 0, .bool false, .bool false, .int .i64 0] 173))
  have HR := Lib.hid (repeat_any w.heap.size 1 m (w.alloc (.cells #[.int .i64 (-1), .slice none 0 0, .bool false, .bool false, .int .i64 0] 173)) h1 h2 (fun j v e => by
    have hj : j < 5 := by have := (List.getElem?_eq_some_iff.1 e).1; rw [rw5_len] at this; omega
    rw [Addr.add_mid, Nat.zero_add, cell_of_row _ _ _ _ _ _ (heap_alloc_new _ _)]
    rw [rw5_get _ _ _ (by omega)] at e
    match j, hj with
    | 0, _ => exact e
    | 1, _ => exact e
    | 2, _ => exact e
    | 3, _ => exact e
    | 4, _ => exact e) (by simp))
  clear hd ht w0 wN
  go_enter Tryz.func72, Tryz.ntmps72
  go_wp2_with (go_at_call 102; refine HR.out.mono ?_; rintro e w1 ⟨G, rfl, hG, hGl, hb⟩; have HG := Lib.hid hG; have HGL := Lib.hid hGl; have HB := Lib.hid hb; clear hG hGl hb)
  go_ret2
  have hb1 : Below w.heap.size w w1 := HB0.out.trans (HB.out.mono (by simp))
  refine made_pool HD.out HT.out h1 h2 HW0.out HWN.out HG.out (by have := HGL.out; simp at this; omega) hb1 rfl rfl ?_
  rfl
end Go.Proofs.YtokikeenfpligaaGreatDoor
namespace Go.Proofs.YtokikeenfpligaaGreatDoor
open Go.RowKit Go.Maps

/-! the disk alone -/
theorem DiskAt.mono {B B' : Nat} {w : World} {s : St} (h : DiskAt B w s) (hB : B' ≤ B) : DiskAt B' w s := by
  have o := h.ok
  refine ⟨⟨o.n1, Nat.le_trans hB o.bD, Nat.le_trans hB o.bS, Nat.le_trans hB o.bL, o.DS, o.DL, o.SL, fun i b hi => ⟨Nat.le_trans hB (o.lt i b hi).1, (o.lt i b hi).2⟩, o.inj, o.pD, o.pS, o.pL, o.nd, o.mem, o.lim, o.l0, o.l1, o.us, o.un⟩, h.d0, h.d1, h.d2, h.d3, h.d4, h.dS, h.dL, h.fD, h.cS, h.fS, h.cL, h.fL, ⟨h.p.1, ?_⟩, h.cT, h.fT⟩
  rcases h.p.2 with hn | ⟨g, cap, cur, hv, hg, hh, r⟩
  · exact .inl hn
  · exact .inr ⟨g, cap, cur, hv, Nat.le_trans hB hg, hh, r⟩
def zT : ByteArray := tx fun _ => 0
def Dk.new (n : Nat) : Dk := ⟨n, fun _ => zT, [], 0, -1⟩
theorem fresh_tie {n : Nat} {w w' : World} {s : St} (h : Fresh n w w' s) : Tie s (Dk.new n) := by
  refine ⟨h.n.symm, fun i _ => ?_, h.pend.symm, h.writes.symm, h.left.symm⟩
  show tx (fun _ => 0) = _
  refine tx_congr fun j _ => ?_
  unfold St.cur
  rw [h.late]
  exact (h.sure i j).symm
/-- a disk that was made since the world W -/
def DkN (W w : World) (D : Nat) (d : Dk) (H : Nat → Prop) : Prop := ∃ s, DiskAt W.heap.size w s ∧ Tie s d ∧ s.D = D ∧ H = s.has ∧ Below W.heap.size W w
theorem DkN.below {W w w' : World} {D : Nat} {d : Dk} {H : Nat → Prop} (h : DkN W w D d H) (hb : Below w.heap.size w w') : DkN W w' D d H := by
  obtain ⟨s, h1, h2, h3, h4, h5⟩ := h
  exact ⟨s, h1.below hb, h2, h3, h4, h5.trans (hb.mono h5.size)⟩
theorem DkN.lt {W w : World} {D : Nat} {d : Dk} {H : Nat → Prop} (h : DkN W w D d H) (b : Nat) (hb : H b) : b < w.heap.size := by
  obtain ⟨s, h1, _, _, rfl, _⟩ := h
  exact (h1.lt b hb).2
theorem DkN.b {W w : World} {D : Nat} {d : Dk} {H : Nat → Prop} (h : DkN W w D d H) : Below W.heap.size W w := by
  obtain ⟨s, _, _, _, _, h5⟩ := h
  exact h5
set_option maxRecDepth 100000 in
theorem disk_new {W : World} (n : Nat) (w : World) (hW : Below W.heap.size W w) (h1 : 1 ≤ n) (h2 : n ≤ 16384) :
    Calls Tryz.prog 10 #[.int .i64 n] w fun e w' => ∃ D H, e = .returned (.tuple #[.pointer (some ⟨D, 0, none⟩), .nilIface]) ∧ DkN W w' D (Dk.new n) H ∧ Below w.heap.size w w' :=
  (new_any n w h1 h2).mono fun _ _ ⟨s, he, hf⟩ => ⟨s.D, s.has, he, ⟨s, DiskAt.mono hf.at' hW.size, fresh_tie hf, rfl, rfl, hW.trans (hf.below.mono hW.size)⟩, hf.below⟩
def DkWrote (W w : World) (D : Nat) (d : Dk) (H : Nat → Prop) (e : Ending) (w' : World) : Prop := e = .returned .nilIface ∧ ∃ H', DkN W w' D d H' ∧ Stp w H w' H'
set_option maxRecDepth 100000 in
theorem disk_write {W w : World} {D : Nat} {d : Dk} {H : Nat → Prop} (h : DkN W w D d H) (i : Nat) (b off c : Nat) (t : ByteArray) (hi : i < d.n) (ht : t.size = 512) (hl : Lies w (some ⟨b, off, none⟩) (nums t)) (hb : ¬ H b) (hf : d.left ≠ 0) (w0 : 0 ≤ d.writes) (w1 : d.writes < 4611686018427387904) :
    Calls Tryz.prog 124 #[.pointer (some ⟨D, 0, none⟩), .int .i64 i, .slice (some ⟨b, off, none⟩) 512 c] w (DkWrote W w D (d.wrote i t) H) := by
  obtain ⟨s, hd, htie, rfl, rfl, hB⟩ := h
  refine (write_any s i w b off c (nums t) hd (by rw [← htie.n]; exact hi) hl hb (by rw [nums_len, ht]) (by rw [← htie.left]; exact hf) (by rw [← htie.writes]; exact w0) (by rw [← htie.writes]; exact w1)).mono fun _ _ ⟨he, s', hd', hs, hw⟩ => ⟨he, s'.has, ⟨s', hd', htie.wrote hd.ok hw ht, hw.D, rfl, ?_⟩, ⟨hs.os, hs.tape, hs.output, hs.size, hs.block, hs.own⟩⟩
  exact hB.trans (hs.below hd)

/-! the pool -/
def Pl (W : World) (N : Nat) (w : World) (p D : Nat) (X : Px) (H : Nat → Prop) : Prop := ∃ μ, PoolAt W.heap.size N w μ ∧ μ.P = p ∧ μ.s.D = D ∧ μ.X = X ∧ H = μ.all ∧ Below W.heap.size W w
/-- .. and what has become of it since -/
def PlN (W : World) (N : Nat) (w : World) (p D : Nat) (X : Px) (w0 : World) (H0 : Nat → Prop) : Prop := ∃ H, Pl W N w p D X H ∧ Stp w0 H0 w H
theorem Pl.first {W w : World} {N p D : Nat} {X : Px} {H : Nat → Prop} (h : Pl W N w p D X H) : PlN W N w p D X w H := ⟨H, h, Stp.refl _ _⟩
theorem Pl.below {W w w' : World} {N p D : Nat} {X : Px} {H : Nat → Prop} (h : Pl W N w p D X H) (hb : Below w.heap.size w w') : Pl W N w' p D X H := by
  obtain ⟨μ, h1, h2, h3, h4, h5, h6⟩ := h
  exact ⟨μ, h1.below hb, h2, h3, h4, h5, h6.trans (hb.mono h6.size)⟩
theorem Pl.mono {W w : World} {N M p D : Nat} {X : Px} {H : Nat → Prop} (h : Pl W N w p D X H) (hN : N ≤ M) : Pl W M w p D X H := by
  obtain ⟨μ, h1, h2⟩ := h
  exact ⟨μ, h1.mono hN, h2⟩
theorem Pl.ok {W w : World} {N p D : Nat} {X : Px} {H : Nat → Prop} (h : Pl W N w p D X H) : X.Ok N := by
  obtain ⟨μ, h1, _, _, rfl, _⟩ := h
  exact h1.core.ok
theorem Pl.b {W w : World} {N p D : Nat} {X : Px} {H : Nat → Prop} (h : Pl W N w p D X H) : Below W.heap.size W w := by
  obtain ⟨μ, _, _, _, _, _, h6⟩ := h
  exact h6
theorem Pl.lt {W w : World} {N p D : Nat} {X : Px} {H : Nat → Prop} (h : Pl W N w p D X H) (b : Nat) (hb : H b) : W.heap.size ≤ b ∧ b < w.heap.size := by
  obtain ⟨μ, h1, _, _, _, rfl, _⟩ := h
  exact h1.lt b hb
/-- a block that is none of the pool's is written -/
theorem Pl.other {W w : World} {N p D : Nat} {X : Px} {H : Nat → Prop} (h : Pl W N w p D X H) {g : Nat} (hg : ¬ H g) (hW : W.heap.size ≤ g) (o : Nat) (v : Value) : Pl W N (w.setCell ⟨g, o, none⟩ v) p D X H := by
  obtain ⟨μ, h1, h2, h3, h4, rfl, h6⟩ := h
  exact ⟨μ, h1.moved (by simp) fun b hb => Below.heap_setCell _ _ _ _ (fun e => hg (by have e2 : b = g := e; rw [← e2]; exact hb)), h2, h3, h4, rfl, h6.setCell hW _⟩
theorem PlN.below {W w w' w0 : World} {N p D : Nat} {X : Px} {H0 : Nat → Prop} (h : PlN W N w p D X w0 H0) (hb : Below w.heap.size w w') : PlN W N w' p D X w0 H0 := by
  obtain ⟨H, h1, h2⟩ := h
  exact ⟨H, h1.below hb, h2.trans (.of_below hb)⟩
theorem PlN.drew {W w w0 : World} {N p D : Nat} {X : Px} {H0 : Nat → Prop} (h : PlN W N w p D X w0 H0) : PlN W N w.drew p D X w0 H0 := h.below (Below.refl _ _).drew
theorem PlN.mono {W w w0 : World} {N M p D : Nat} {X : Px} {H0 : Nat → Prop} (h : PlN W N w p D X w0 H0) (hN : N ≤ M) : PlN W M w p D X w0 H0 := by
  obtain ⟨H, h1, h2⟩ := h
  exact ⟨H, h1.mono hN, h2⟩
theorem PlN.ok {W w w0 : World} {N p D : Nat} {X : Px} {H0 : Nat → Prop} (h : PlN W N w p D X w0 H0) : X.Ok N := by
  obtain ⟨H, h1, _⟩ := h
  exact h1.ok
theorem PlN.b {W w w0 : World} {N p D : Nat} {X : Px} {H0 : Nat → Prop} (h : PlN W N w p D X w0 H0) : Below W.heap.size W w := by
  obtain ⟨H, h1, _⟩ := h
  exact h1.b
theorem PlN.cell {W w w0 : World} {N p D : Nat} {X : Px} {H0 : Nat → Prop} (h : PlN W N w p D X w0 H0) {g o : Nat} {v : Value} (hc : w0.cell? ⟨g, o, none⟩ = some v) (hn : ¬ H0 g) : w.cell? ⟨g, o, none⟩ = some v := by
  obtain ⟨H, _, h2⟩ := h
  exact h2.cell hc hn
theorem PlN.block {W w w0 : World} {N p D : Nat} {X : Px} {H0 : Nat → Prop} (h : PlN W N w p D X w0 H0) {g : Nat} (hg : g < w0.heap.size) (hn : ¬ H0 g) : w.heap[g]? = w0.heap[g]? := by
  obtain ⟨H, _, h2⟩ := h
  exact h2.block g hg hn
theorem PlN.frozen {W w w0 : World} {N p D : Nat} {X : Px} {H0 : Nat → Prop} (h : PlN W N w p D X w0 H0) {g o : Nat} (hg : g < w0.heap.size) (hn : ¬ H0 g) (hf : w0.frozen? ⟨g, o, none⟩ = false) : w.frozen? ⟨g, o, none⟩ = false :=
  (World.frozen?_of_block (h.block hg hn)).trans hf
theorem PlN.open' {W w w0 : World} {N p D : Nat} {X : Px} {H0 : Nat → Prop} (h : PlN W N w p D X w0 H0) {g : Nat} (hg : g < w0.heap.size) (hn : ¬ H0 g) : ∃ H, Pl W N w p D X H ∧ ¬ H g := by
  obtain ⟨H, h1, h2⟩ := h
  exact ⟨H, h1, fun q => by rcases h2.own g q with e | e; exact hn e; omega⟩
theorem goes_pl {W w w' w0 : World} {N M p D : Nat} {X : Px} {H0 : Nat → Prop} {μ : Mp} (h1 : PoolAt W.heap.size N w μ) (h2 : μ.P = p) (h3 : μ.s.D = D) (h6 : Below W.heap.size W w) (hs : Stp w0 H0 w μ.all) (hg : Goes W.heap.size M w μ X w') : PlN W M w' p D X w0 H0 := by
  obtain ⟨μ', g1, g2, g3, g4, g5, g6⟩ := hg
  exact ⟨μ'.all, ⟨μ', g1, g3.trans h2, g5.trans h3, g6, rfl, h6.trans (g2.below (fun b hb => (h1.lt b hb).1) h6.size)⟩, hs.trans g2⟩
theorem newp_at {W w : World} {D : Nat} {d : Dk} {H : Nat → Prop} (N m : Nat) (h : DkN W w D d H) (h1 : 1 ≤ m) (h2 : m ≤ 1024) (w0 : 0 ≤ d.writes) (wN : d.writes ≤ N) :
    Calls Tryz.prog 72 #[.pointer (some ⟨D, 0, none⟩), .int .i64 (m : Int)] w fun e w' => ∃ p H', e = .returned (.tuple #[.pointer (some ⟨p, 0, none⟩), .nilIface]) ∧ Pl W N w' p D (Px.fresh d m) H' := by
  obtain ⟨s, hd, ht, rfl, rfl, hB⟩ := h
  exact (newp_any (N := N) s d m w hd ht h1 h2 w0 wN).mono fun _ _ ⟨μ, he, hp, hs, hX, hb, _⟩ => ⟨μ.P, μ.all, he, μ, hp, rfl, by rw [hs], hX, rfl, hB.trans (hb.mono hB.size)⟩
theorem pl_write {W w w0 : World} {N p D : Nat} {X : Px} {H0 : Nat → Prop} (h : PlN W N w p D X w0 H0) (i : Int) (t : ByteArray) (c : Nat) (n : Nat) (hn : t.size = n) (hc : n ≤ c) (hN : N < 2305843009213693952) :
    Calls Tryz.prog 96 #[.pointer (some ⟨p, 0, none⟩), .int .i64 i, .slice (some ⟨w.heap.size, 0, none⟩) n c] (bw w t) fun e w' => e = .returned (errv (writeP X i t).2) ∧ PlN W (N + 1) w' p D (writeP X i t).1 w0 H0 := by
  subst hn
  have hb := bw_below w t
  obtain ⟨H, ⟨μ, h1, rfl, rfl, rfl, rfl, h6⟩, hs⟩ := h
  exact (write_any' μ i t _ c (bw w t) (h1.below hb) (bw_lies w t) hc (fun b off e q => by
    obtain ⟨rfl, _⟩ : w.heap.size = b ∧ 0 = off := by simpa using e
    have := (h1.lt _ q).2
    omega) hN).mono fun _ _ ⟨he, hg⟩ => ⟨he, goes_pl (h1.below hb) rfl rfl (h6.trans (hb.mono h6.size)) (hs.trans (.of_below hb)) hg⟩
theorem pl_read_got {W w w0 : World} {N p D : Nat} {X : Px} {H0 : Nat → Prop} (h : PlN W N w p D X w0 H0) (i : Int) (hN : N + 1 < 2305843009213693952) (he : (readP X i).2.2 = 0) (hs : (readP X i).2.1.size = 512) :
    Calls Tryz.prog 82 #[.pointer (some ⟨p, 0, none⟩), .int .i64 i] w fun e w' => ∃ g cap, e = .returned (.tuple #[.slice (some ⟨g, 0, none⟩) 512 cap, .nilIface]) ∧ Lies w' (some ⟨g, 0, none⟩) (nums (readP X i).2.1) ∧ PlN W (N + 2) w' p D (readP X i).1 w0 H0 := by
  obtain ⟨H, ⟨μ, h1, rfl, rfl, rfl, rfl, h6⟩, hst⟩ := h
  exact (read_got μ i w h1 hN he hs).mono fun _ _ ⟨g, cap, he, hl, _, _, μ', hp, hs', hE, hX, _⟩ => ⟨g, cap, he, hl, goes_pl h1 rfl rfl h6 hst ⟨μ', hp, hs', hE.1, hE.2.1, hE.2.2, hX⟩⟩
theorem pl_read_bad {W w w0 : World} {N p D : Nat} {X : Px} {H0 : Nat → Prop} (h : PlN W N w p D X w0 H0) (i : Int) (hN : N + 1 < 2305843009213693952) (he : (readP X i).2.2 ≠ 0) :
    Calls Tryz.prog 82 #[.pointer (some ⟨p, 0, none⟩), .int .i64 i] w fun e w' => e = .returned (.tuple #[.slice none 0 0, .iface 78 (.int .i64 (readP X i).2.2)]) ∧ PlN W (N + 2) w' p D (readP X i).1 w0 H0 := by
  obtain ⟨H, ⟨μ, h1, rfl, rfl, rfl, rfl, h6⟩, hst⟩ := h
  exact (read_bad μ i w h1 hN he).mono fun _ _ ⟨he, hg⟩ => ⟨he, goes_pl h1 rfl rfl h6 hst hg⟩
theorem pl_flush {W w w0 : World} {N p D : Nat} {X : Px} {H0 : Nat → Prop} (h : PlN W N w p D X w0 H0) (hN : N + 1025 < 2305843009213693952) :
    Calls Tryz.prog 76 #[.pointer (some ⟨p, 0, none⟩)] w fun e w' => e = .returned (errv (flushP X).2) ∧ PlN W (N + X.m) w' p D (flushP X).1 w0 H0 := by
  obtain ⟨H, ⟨μ, h1, rfl, rfl, rfl, rfl, h6⟩, hst⟩ := h
  exact (flushp_any μ w h1 hN).mono fun _ _ ⟨he, hg⟩ => ⟨he, goes_pl h1 rfl rfl h6 hst hg⟩
/-- the disk is read beside the pool -/
theorem pd_read {W w w0 : World} {N p D : Nat} {X : Px} {H0 : Nat → Prop} (h : PlN W N w p D X w0 H0) (i : Nat) (hi : i < X.d.n) :
    Calls Tryz.prog 32 #[.pointer (some ⟨D, 0, none⟩), .int .i64 i] w fun e w' => ∃ g cap, e = .returned (.tuple #[.slice (some ⟨g, 0, none⟩) 512 cap, .nilIface]) ∧ Lies w' (some ⟨g, 0, none⟩) (nums (X.d.cur i)) ∧ PlN W N w' p D X w0 H0 := by
  have h' := h
  obtain ⟨H, ⟨μ, h1, rfl, rfl, rfl, rfl, h6⟩, hst⟩ := h
  have hin : i < μ.s.n := by have := h1.core.t.n; omega
  exact (read_any μ.s i w h1.core.d hin).mono fun _ _ ⟨g, cap, he, hl, _, _, hb⟩ => ⟨g, cap, he, by rw [cur_is h1 hin]; exact hl, h'.below hb⟩
/-! numbers, and the same calls at numbers that are spelled otherwise -/
/-- int(uint(a) % m) -/
theorem red_bd (a m : Int) (hm : 0 < m) (hm2 : m ≤ 9223372036854775807) : 0 ≤ wrap64 ((IntKind.u64.wrap a).tmod m) ∧ wrap64 ((IntKind.u64.wrap a).tmod m) < m := by
  have h0 := wrap_u64_nonneg a
  rw [Int.tmod_eq_emod_of_nonneg h0]
  have h1 := Int.emod_nonneg (IntKind.u64.wrap a) (show m ≠ 0 by omega)
  have h2 := Int.emod_lt_of_pos (IntKind.u64.wrap a) hm
  rw [IntWalk.wrap64_in _ ⟨by omega, by omega⟩]
  exact ⟨h1, h2⟩
theorem red_nat (a m : Int) (hm : 0 < m) (hm2 : m ≤ 9223372036854775807) : ∃ k : Nat, wrap64 ((IntKind.u64.wrap a).tmod m) = k ∧ (k : Int) < m := by
  have := red_bd a m hm hm2
  exact ⟨(wrap64 ((IntKind.u64.wrap a).tmod m)).toNat, by omega, by omega⟩
theorem disk_new' {W : World} (n : Nat) (x : Int) (hx : x = n) (w : World) (hW : Below W.heap.size W w) (h1 : 1 ≤ n) (h2 : n ≤ 16384) :
    Calls Tryz.prog 10 #[.int .i64 x] w fun e w' => ∃ D H, e = .returned (.tuple #[.pointer (some ⟨D, 0, none⟩), .nilIface]) ∧ DkN W w' D (Dk.new n) H := by
  subst hx
  exact (disk_new n w hW h1 h2).mono fun _ _ ⟨D, H, he, h, _⟩ => ⟨D, H, he, h⟩
theorem newp_at' {W w : World} {D : Nat} {d : Dk} {H : Nat → Prop} (N m : Nat) (x : Int) (hx : x = m) (h : DkN W w D d H) (h1 : 1 ≤ m) (h2 : m ≤ 1024) (w0 : 0 ≤ d.writes) (wN : d.writes ≤ N) :
    Calls Tryz.prog 72 #[.pointer (some ⟨D, 0, none⟩), .int .i64 x] w fun e w' => ∃ p H', e = .returned (.tuple #[.pointer (some ⟨p, 0, none⟩), .nilIface]) ∧ Pl W N w' p D (Px.fresh d m) H' := by
  subst hx
  exact newp_at N m h h1 h2 w0 wN
/-! texts -/
set_option maxRecDepth 100000 in
theorem conv_t {w : World} {a : Option Addr} {c n : Nat} {t : ByteArray} (h : Lies w a (nums t)) (ht : t.size = n) : (convert 72 9 (.slice a n c)).run Tryz.prog w = .ok (.string t) w := by
  rw [conv_any h (by rw [nums_len, ht]), str_nums]
set_option maxRecDepth 100000 in
theorem conv_b (t : ByteArray) (ht : t.size = 512) (w : World) : (convert 9 72 (.string t)).run Tryz.prog w = .ok (.slice (some ⟨w.heap.size, 0, none⟩) 512 (bc w t)) (bw w t) := by
  rw [conv_bytes t w, ht]
end Go.Proofs.YtokikeenfpligaaGreatDoor

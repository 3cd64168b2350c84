/-
  THE DOCUMENT's OWN LISTS: strings and numbers that lie in memory; place, New, Flush of the reference. Conditions: those that each lemma names.
  THE REFERENCE's with: a list with another text at a place. Conditions: the texts lie in memory.
-/
import Derived.Deep.RegionLaw
import Derived.Deep.RegionHeld3
import Derived.Test.YtfhnnfheonkneaaDoorQw
import Derived.Test.YtfhnnfheonkneaaDoorQe
namespace Go.Proofs.YtfhnnfheonkneaaDoor
open Go.RowKit

/-- texts that lie in memory from a on -/
def Strs (w : World) (a : Option Addr) (xs : List ByteArray) : Prop :=
  ∀ i (h : i < xs.length), ∃ b off, a = some ⟨b, off, none⟩ ∧ w.cell? ⟨b, off + i, none⟩ = some (.string xs[i])
def sl (xs : List ByteArray) : List Value := xs.map Value.string
theorem Strs.below {w w' : World} {a : Option Addr} {xs : List ByteArray} (h : Strs w a xs) (hb : Below w.heap.size w w') : Strs w' a xs := by
  intro i hi
  obtain ⟨b, off, ha, hc⟩ := h i hi
  exact ⟨b, off, ha, by rw [hb.cell (World.block_lt_of_cell? w _ hc)]; exact hc⟩
theorem strs_nil (w : World) (a : Option Addr) : Strs w a [] := fun i hi => absurd hi (by simp)
theorem own_strs {w : World} {B n : Nat} {v : Value} {xs : List ByteArray} (h : w.ownsRow B 9 1 v n (sl xs)) : ∃ ao cap, v = .slice ao n cap ∧ Strs w ao xs ∧ n ≤ cap ∧ xs.length = n ∧ (∀ b off, ao = some ⟨b, off, none⟩ → B ≤ b ∧ off = 0) := by
  obtain ⟨hl, h⟩ := h
  have hn : xs.length = n := by simp [sl] at hl; omega
  rcases h with ⟨rfl, h0⟩ | ⟨g, cap, cur, rfl, hB, hg, hnc, _, hcs, ht⟩
  · obtain rfl : xs = [] := List.eq_nil_of_length_eq_zero (by omega)
    exact ⟨none, 0, by rw [h0], fun i hi => absurd hi (by simp), by omega, by omega, fun b off e => by cases e⟩
  · refine ⟨_, cap, rfl, ?_, by omega, hn, fun b off e => by injection e with e; injection e with e1 e2; exact ⟨by omega, e2.symm⟩⟩
    intro i hi
    refine ⟨g, 0, rfl, ?_⟩
    rw [Nat.zero_add, cell_of_row w g i _ _ _ hg]
    have e : (sl xs)[i]? = some (Value.string xs[i]) := by simp [sl, hi]
    rw [← ht, List.getElem?_take] at e
    have hi' : i < n * 1 := by omega
    rw [if_pos hi'] at e
    simpa using e

/-- the place of a number in a list, -1 where it is not -/
def plc (xs : List Int) (x : Int) : Int := if x ∈ xs then (xs.idxOf x : Int) else -1
theorem idx_at' {xs : List Int} {k : Nat} (hk : k < xs.length) (hn : xs[k] ∉ xs.take k) : xs.idxOf xs[k] = k := by
  have e : xs = xs.take k ++ xs[k] :: xs.drop (k + 1) := by
    rw [← List.drop_eq_getElem_cons hk, List.take_append_drop]
  have h2 : (xs.take k ++ xs[k] :: xs.drop (k + 1)).idxOf xs[k] = k := by
    rw [List.idxOf_append, if_neg hn, List.idxOf_cons_self, List.length_take]
    omega
  rw [← e] at h2
  exact h2
set_option maxRecDepth 100000 in
theorem place_any (a : Option Addr) (n c : Nat) (xs : List Int) (x : Int) (w : World) (ha : Ints w a xs) (hn : xs.length = n) (hm : n ≤ 9223372036854775807) :
    Calls Tryd.prog 65 #[.slice a n c, .int .i64 x] w fun e w' => e = .returned (.int .i64 (plc xs x)) ∧ w = w' := by
  have HA := Lib.hid ha
  have HN := Lib.hid hn
  clear ha hn
  go_enter Tryd.func65, Tryd.ntmps65
  go_wp2
  go_loop [5] (fun i => ∃ k : Nat, k ≤ n ∧ i = .int .i64 k ∧ Hid (x ∉ xs.take k)) (fun i => n - (intOf i).toNat)
  case atStart => exact ⟨0, by omega, rfl, by simp [Hid]⟩
  case round =>
    obtain ⟨k, hk, rfl, HT⟩ := hrel
    by_cases hlt : k < n
    · have hkl : k < xs.length := by rw [HN.out]; exact hlt
      obtain ⟨b, off, rfl, hc⟩ := HA.out k hkl
      have hlt' : (k : Int) < (n : Int) := by omega
      by_cases he : xs[k] = x
      · have HP := Lib.hid (show (k : Int) = plc xs x by
          have hmem : x ∈ xs := he ▸ List.getElem_mem hkl
          unfold plc
          rw [if_pos hmem, ← he, idx_at' hkl (by rw [he]; exact HT.out)])
        rw [he] at hc
        clear he
        go_wp2
        go_ret
        rw [HP.out]
        exact ⟨rfl, rfl⟩
      · have hb : (xs[k] == x) = false := by rw [beq_eq_false_iff_ne]; exact he
        have HT2 : Hid (x ∉ xs.take (k + 1)) := by
          show x ∉ xs.take (k + 1)
          rw [List.take_succ_eq_append_getElem hkl, List.mem_append, List.mem_singleton]
          exact fun q => q.elim HT.out (fun e => he e.symm)
        generalize xs[k] = y at hc hb he
        clear he
        go_wp2
        go_round
        case rel => exact ⟨k + 1, by omega, by go_num, HT2⟩
        case measure => simp [intOf]; omega
    · obtain rfl : k = n := by omega
      have HP := Lib.hid (show (-1 : Int) = plc xs x by
        have h := HT.out
        rw [← HN.out, List.take_length] at h
        unfold plc
        rw [if_neg h])
      go_wp2
      go_ret
      rw [← HP.out]
      exact ⟨rfl, rfl⟩

/-- the reference's disk -/
def rval (now sure : Value) (pend : Value) (writes left : Int) : List Value := [now, sure, pend, .int .i64 writes, .int .i64 left]
def ragg (now sure : Value) (pend : Value) (writes left : Int) : Value := .agg #[now, sure, pend, .int .i64 writes, .int .i64 left]
set_option maxRecDepth 100000 in
theorem refflush_any (now sure : Option Addr) (n1 c1 n2 c2 : Nat) (pa : Option Addr) (pn pc : Nat) (writes left : Int) (w : World) :
    Calls Tryd.prog 47 #[ragg (.slice now n1 c1) (.slice sure n2 c2) (.slice pa pn pc) writes left] w fun e w' => e = .returned (ragg (.slice now n1 c1) (.slice now n1 c1) (.slice none 0 0) writes left) ∧ Below w.heap.size w w' := by
  unfold ragg
  go_enter Tryd.func47, Tryd.ntmps47
  go_wp2
  refine bodyPost_ret (v := .agg #[.slice now n1 c1, .slice now n1 c1, .slice none 0 0, .int .i64 writes, .int .i64 left]) (by simp [results, Tryd.results47, go_sem]) rfl ⟨rfl, ?_⟩
  exact ((Below.refl _ _).alloc (Nat.le_refl _) _).alloc (by simp) _
end Go.Proofs.YtfhnnfheonkneaaDoor
namespace Go.Proofs.YtfhnnfheonkneaaDoor
open Go.RowKit

theorem step_app {ops : Array Oper} {o : Oper} {a : Act} {w : World} {K : Act → World → Prop} {Q : Exit → Act → World → Prop} {E : Prop} (hgd : o.guard = none) (s x : Operand)
    (ho : o.op = .call { callee := .builtin .append, args := #[s, x], argTypes := #[32, 32] }) (B n : Nat) (v : Value) (xs : List Value) (hs : a.eval s = v) (hown : w.ownsRow B 9 1 v n xs) (ad : Addr) (m c : Nat) (news : List Value) (hx : a.eval x = .slice (some ad) m c) (hl : news.length = m)
    (hc : ∀ j u, news[j]? = some u → w.cell? (ad.add j) = some u) (h1 : ∀ u ∈ news, u.oneCell' = true) (hm : n + m ≤ 100000) (hbase : B ≤ w.heap.size)
    (h : ∀ v' w', w'.ownsRow B 9 1 v' (n + m) (xs ++ news) → w.grownBy w' v.ownBlock → K (a.put o.dst v') w') : if Region.wanted o (yielded ops a.tmps) = true then Oper.wp Tryd.prog o a w K Q else E := by
  have hw : Region.wanted o (yielded ops a.tmps) = true := by simp [Region.wanted, hgd]
  rw [if_pos hw]
  obtain ⟨i, hi, hz0, hz1, hz2⟩ := info_parts info_str
  obtain ⟨v', w', hr, h2, h3, _⟩ := run_append_own (P := Tryd.prog) w B 32 o.type 9 i (.string ⟨#[]⟩) 1 16 Tryd.underlying32 hi hz0 hz1 hz2 rfl (by decide) v n xs hown ad m c news (by rw [hl, Nat.mul_one]) hc h1 (by unfold maxLen; omega) (by omega) hbase
  unfold Oper.wp execOp
  simp only [ho, resolve, invoke, builtin, Sem.run_bind, Sem.run_pure, Result.andThen_ok, List.map_toArray, List.map_cons, List.map_nil, hs, hx, hr]
  exact h v' w' h2 h3
theorem sl_one (xs : List ByteArray) : ∀ u ∈ sl xs, u.oneCell' = true := by
  intro u hu
  obtain ⟨x, _, rfl⟩ := List.mem_map.1 hu
  rfl
/-- a part of the texts, read in a later world -/
theorem strs_part {w w' : World} {b off : Nat} {xs : List ByteArray} (h : Strs w (some ⟨b, off, none⟩) xs) (hb : Below w.heap.size w w') (k m : Nat) : ∀ j u, (sl ((xs.drop k).take m))[j]? = some u → w'.cell? ((⟨b, off + k, none⟩ : Addr).add j) = some u := by
  intro j u hu
  have hj : j < ((xs.drop k).take m).length := by
    have := (List.getElem?_eq_some_iff.1 hu).1
    simpa [sl] using this
  have hj2 : j < m ∧ k + j < xs.length := by
    rw [List.length_take, List.length_drop] at hj
    omega
  obtain ⟨b', off', ha, hc⟩ := h (k + j) hj2.2
  obtain ⟨rfl, rfl⟩ : b = b' ∧ off = off' := by simpa using ha
  rw [Addr.add_mid, Nat.add_assoc, hb.cell (World.block_lt_of_cell? w _ hc), hc]
  have e : (sl ((xs.drop k).take m))[j]? = some (Value.string xs[k + j]) := by
    simp [sl, hj2.1, List.getElem?_drop, hj2.2]
  rw [e] at hu
  exact hu
/-- a list of texts in new memory -/
def NewStrs (w : World) (xs : List ByteArray) (n : Nat) (e : Ending) (w' : World) : Prop :=
  ∃ ao cap, e = .returned (.slice ao n cap) ∧ Strs w' ao xs ∧ n ≤ cap ∧ cap ≤ 9223372036854775807 ∧ (∀ b off, ao = some ⟨b, off, none⟩ → w.heap.size ≤ b ∧ off = 0) ∧ Below w.heap.size w w'
theorem set_parts {xs : List ByteArray} {i : Nat} (hi : i < xs.length) (t : ByteArray) : ([] ++ sl ((xs.drop 0).take i)) ++ [Value.string t] ++ sl ((xs.drop (i + 1)).take (xs.length - (i + 1))) = sl (xs.set i t) := by
  have e : (xs.drop (i + 1)).take (xs.length - (i + 1)) = xs.drop (i + 1) := List.take_of_length_le (by rw [List.length_drop]; omega)
  rw [e, List.drop_zero, List.nil_append, List.set_eq_take_append_cons_drop, if_pos hi]
  simp [sl]
def tailA (b off c i : Nat) : Addr := if c = i + 1 then ⟨b, off, none⟩ else ⟨b, off + (i + 1), none⟩
theorem tail_at (b off n c i : Nat) (hi : i < n) (W : World) : (Instr.slice 32 (.slice (some ⟨b, off, none⟩) n c) (some (.int .i64 ((i : Int) + 1))) none none).run Tryd.prog W = .ok (.slice (some (tailA b off c i)) (n - (i + 1)) (c - (i + 1))) W := by
  have i0 : (0 : Int) ≤ (i : Int) + 1 := by omega
  have i1 : (i : Int) + 1 ≤ (n : Int) := by omega
  have e : ((i : Int) + 1).toNat = i + 1 := by omega
  have hu := Tryd.underlying32
  have hs : (Tryd.prog.info? 9).map (·.size) = some 1 := by kernel_rfl
  obtain ⟨ie, hie, hsz⟩ := Option.map_eq_some_iff.1 hs
  unfold tailA
  by_cases h : c = i + 1
  · simp [Instr.slice, Instr.sliceBounds, run_underlying hu, i0, i1, e, h, sizeOf, typeInfo, hie, hsz, go_sem]
  · simp [Instr.slice, Instr.sliceBounds, run_underlying hu, i0, i1, e, h, sizeOf, typeInfo, hie, hsz, go_sem]
set_option maxRecDepth 100000 in
theorem tail_at2 (b off n c i : Nat) (hi : i < n) (W : World) : (Instr.sliceAt 32 (.slice (some ⟨b, off, none⟩) n c) (some (.int .i64 ((i : Int) + 1))) none none).run Tryd.prog W = .ok (.slice (some (tailA b off c i)) (n - (i + 1)) (c - (i + 1))) W := by
  have e := run_sliceAt_slice (P := Tryd.prog) (w := W) 32 (.slice (some ⟨b, off, none⟩) n c) (some (.int .i64 ((i : Int) + 1))) none none Tryd.underlying32
  rw [e]
  exact tail_at b off n c i hi W
theorem tail_part {w w' : World} {b off n c i : Nat} {xs : List ByteArray} (h : Strs w (some ⟨b, off, none⟩) xs) (hn : xs.length = n) (hc : n ≤ c) (hb : Below w.heap.size w w') : ∀ j u, (sl ((xs.drop (i + 1)).take (xs.length - (i + 1))))[j]? = some u → w'.cell? ((tailA b off c i).add j) = some u := by
  intro j u hu
  unfold tailA
  by_cases e : c = i + 1
  · have : (xs.drop (i + 1)) = [] := List.drop_of_length_le (by omega)
    rw [this] at hu
    simp [sl] at hu
  · rw [if_neg e]
    exact strs_part h hb (i + 1) _ j u hu
theorem one_str (w : World) (t : ByteArray) : ∀ j u, [Value.string t][j]? = some u → (w.alloc (.cells #[.string t] 9)).cell? ((⟨w.heap.size, 0, none⟩ : Addr).add j) = some u := by
  intro j u hj
  have hj0 : j < 1 := by simpa using (List.getElem?_eq_some_iff.1 hj).1
  obtain rfl : j = 0 := by omega
  rw [Addr.add_mid, cell_of_row _ _ _ _ _ _ (heap_alloc_new w _)]
  simpa using hj
theorem one_str2 {w wA : World} {t : ByteArray} (hg : ((w.alloc (.cells #[.string t] 9)).drew).grownBy wA (Value.slice none 0 0).ownBlock) (o1 : (w.alloc (.cells #[.string t] 9)).cell? ⟨w.heap.size, 0, none⟩ = some (.string t)) : ∀ j u, [Value.string t][j]? = some u → wA.cell? ((⟨w.heap.size, 0, none⟩ : Addr).add j) = some u := by
  intro j u hj
  have hj0 : j < 1 := by simpa using (List.getElem?_eq_some_iff.1 hj).1
  obtain rfl : j = 0 := by omega
  have o2 : ((w.alloc (.cells #[.string t] 9)).drew).cell? ⟨w.heap.size, 0, none⟩ = some (.string t) := o1
  rw [Addr.add_mid, hg.cell o2 (by simp [Value.ownBlock])]
  simpa using hj
theorem own_cap {w : World} {B n : Nat} {e : TypeId} {size : Nat} {v : Value} {xs : List Value} (h : w.ownsRow B e size v n xs) : ∀ ao n' cap, v = .slice ao n' cap → cap ≤ 9223372036854775807 := by
  intro ao n' cap hv
  rcases h.2 with ⟨rfl, _⟩ | ⟨g, c2, cur, rfl, _, _, _, hm, _⟩
  · injection hv with _ _ e; omega
  · injection hv with _ _ e
    unfold maxLen at hm
    omega
theorem with_done {w : World} {B n i : Nat} {v : Value} {xs : List ByteArray} {t : ByteArray} (h : w.ownsRow B 9 1 v (0 + i + 1 + (n - (i + 1))) ([] ++ sl ((xs.drop 0).take i) ++ [Value.string t] ++ sl ((xs.drop (i + 1)).take (xs.length - (i + 1))))) (hn : xs.length = n) (hi : i < n) : w.ownsRow B 9 1 v n (sl (xs.set i t)) := by
  have e : 0 + i + 1 + (n - (i + 1)) = n := by omega
  rw [e, set_parts (by omega) t] at h
  exact h
set_option maxRecDepth 100000 in
set_option maxHeartbeats 1000000 in
theorem with_any (b off n c i : Nat) (xs : List ByteArray) (t : ByteArray) (w : World) (hx : Strs w (some ⟨b, off, none⟩) xs) (hn : xs.length = n) (hi : i < n) (hc : n ≤ c) (hc2 : c ≤ 9223372036854775807) (hm : n ≤ 1000) :
    Calls Tryd.prog 64 #[.slice (some ⟨b, off, none⟩) n c, .int .i64 i, .string t] w (NewStrs w (xs.set i t) n) := by
  have HX := Lib.hid hx
  have HN := Lib.hid hn
  have ht := tail_at2 b off n c i hi
  have i0 : (0 : Int) ≤ (i : Int) := by omega
  have i1 : (i : Int) ≤ (c : Int) := by omega
  have i2 : (i : Int) + 1 ≤ (n : Int) := by omega
  have hb1 : Below w.heap.size w w.drew := (Below.refl _ _).drew
  have hb2 : Below w.heap.size w ((w.alloc (.cells #[.string t] 9)).drew) := ((Below.refl _ _).alloc (Nat.le_refl _) _).drew
  have l1 : (sl ((xs.drop 0).take i)).length = i := by simp [sl]; omega
  have l2 : (sl ((xs.drop (i + 1)).take (xs.length - (i + 1)))).length = n - (i + 1) := by simp [sl]; omega
  have hw := IntWalk.i64_in ((i : Int) + 1) (by omega)
  have HL1 := Lib.hid l1
  have HL2 := Lib.hid l2
  clear hx hn l1 l2
  go_enter Tryd.func64, Tryd.ntmps64
  go_wp2
  have o1 : (w.alloc (.cells #[.string t] 9)).cell? ⟨w.heap.size, 0, none⟩ = some (.string t) := by rw [cell_of_row _ _ _ _ _ _ (heap_alloc_new w _)]; rfl
  have s1 : ∀ u ∈ [Value.string t], u.oneCell' = true := by intro u hu; simp at hu; subst hu; rfl
  go_region_held3 (fun _ => True) (exact trivial) (first | (refine step_app rfl (.tmp 8) (.tmp 11) rfl w.heap.size 0 (.slice none 0 0) [] rfl (World.ownsRow_nil _ _ _ _) ⟨b, off, none⟩ i c (sl ((xs.drop 0).take i)) rfl HL1.out (strs_part HX.out (by assumption) 0 i) (sl_one _) (by omega) (by simp) ?_; intro vA wA hoA hgA; have hbA := Below.grown (by assumption) hgA (by simp) (by intro k hk; cases hk)) | (refine step_app rfl (.tmp 12) (.tmp 14) rfl w.heap.size (0 + i) vA _ rfl (hoA.alloc _) ⟨wA.heap.size, 0, none⟩ 1 1 [.string t] rfl rfl (one_str wA t) s1 (by omega) (by have := hbA.size; simp; omega) ?_; intro vB wB hoB hgB; have hbB := Below.grown (hbA.alloc hbA.size (.cells #[.string t] 9)) hgB (by have := hbA.size; simp; omega) (fun k hk => (hoA.lt k hk).1)) | (refine step_app rfl (.tmp 12) (.tmp 14) rfl w.heap.size (0 + i) vA _ rfl hoA ⟨w.heap.size, 0, none⟩ 1 1 [.string t] rfl rfl (one_str2 hgA o1) s1 (by omega) hbA.size ?_; intro vB wB hoB hgB; have hbB := Below.grown hbA hgB hbA.size (fun k hk => (hoA.lt k hk).1)) | (refine step_app rfl (.tmp 15) (.tmp 19) rfl w.heap.size (0 + i + 1) vB _ rfl hoB (tailA b off c i) (n - (i + 1)) (c - (i + 1)) (sl ((xs.drop (i + 1)).take (xs.length - (i + 1)))) rfl HL2.out (tail_part HX.out HN.out hc hbB) (sl_one _) (by omega) hbB.size ?_; intro vC wC hoC hgC; have hbC := Below.grown hbB hgC hbB.size (fun k hk => (hoB.lt k hk).1)))
  all_goals have HO := Lib.hid (with_done hoC HN.out hi)
  all_goals obtain ⟨ao, cap, rfl, hs, hnc, _, hfr⟩ := own_strs HO.out
  all_goals have HCP := Lib.hid (own_cap HO.out)
  all_goals have HS := Lib.hid hs
  all_goals clear hs hoC hgC hoA hgA hoB hgB
  all_goals go_wp2
  all_goals go_ret
  all_goals exact ⟨ao, cap, rfl, HS.out, hnc, HCP.out ao n cap rfl, hfr, hbC⟩
end Go.Proofs.YtfhnnfheonkneaaDoor

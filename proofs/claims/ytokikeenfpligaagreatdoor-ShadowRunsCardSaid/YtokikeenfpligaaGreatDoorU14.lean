/-
  THE REFERENCE's with: a list with an entry in the order of numbers. Conditions: the entries lie in memory.
-/
import Derived.Deep.RegionLaw
import Derived.Deep.RegionHeld3
import Derived.BigQuiet
import Derived.Test.YtokikeenfpligaaGreatDoorU13
namespace Go.Proofs.YtokikeenfpligaaGreatDoor
open Go.RowKit

theorem step_appE {ops : Array Oper} {o : Oper} {a : Act} {w : World} {K : Act → World → Prop} {Q : Exit → Act → World → Prop} {E : Prop} (hgd : o.guard = none) (s x : Operand)
    (ho : o.op = .call { callee := .builtin .append, args := #[s, x], argTypes := #[34, 34] }) (B n : Nat) (v : Value) (L : List Ent) (hs : a.eval s = v) (hown : OwnE w B v n L) (A : Option Addr) (m c : Nat) (M : List Ent) (hx : a.eval x = .slice A m c) (hl : M.length = m) (hA : A = none → m = 0)
    (hc : ∀ ad, A = some ad → ∀ j u, (el M)[j]? = some u → w.cell? (ad.add j) = some u) (hm : n + m ≤ 100000) (hbase : B ≤ w.heap.size)
    (h : ∀ v' w', OwnE w' B v' (n + m) (L ++ M) → w.grownBy w' v.ownBlock → K (a.put o.dst v') w') : if Region.wanted o (yielded ops a.tmps) = true then Oper.wp Tryz.prog o a w K Q else E := by
  have hw : Region.wanted o (yielded ops a.tmps) = true := by simp [Region.wanted, hgd]
  rw [if_pos hw]
  obtain ⟨i, hi, hz0, hz1, hz2⟩ := info_parts info_ent
  have key : ∃ v' w', (Builtin.append_ #[34, 34] o.type #[v, .slice A m c]).run Tryz.prog w = .ok v' w' ∧ OwnE w' B v' (n + m) (L ++ M) ∧ w.grownBy w' v.ownBlock := by
    cases A with
    | some ad =>
      obtain ⟨v', w', hr, h2, h3, _⟩ := run_append_own (P := Tryz.prog) w B 34 o.type 96 i (Ent.val ⟨0, 0, 0, 0, 0, none, 0, 0, false⟩) 7 64 Tryz.underlying34 hi hz0 hz1 hz2 rfl (by decide) v n (el L) hown ad m c (el M) (by rw [el_len, hl]) (hc ad rfl) (el_one M) (by unfold maxLen; omega) (by omega) hbase
      exact ⟨v', w', hr, by show World.ownsRow _ _ _ _ _ _ (el (L ++ M)); rw [el_app]; exact h2, h3⟩
    | none =>
      have h0 := hA rfl
      subst h0
      have hM : M = [] := List.length_eq_zero_iff.1 hl
      subst hM
      refine ⟨v, w, ?_, by simpa using hown, ⟨rfl, rfl, rfl, Nat.le_refl _, fun _ _ _ => rfl⟩⟩
      have hu := Tryz.underlying34
      rcases hown.2 with ⟨rfl, _⟩ | ⟨g, cap, cur, rfl, _, _, hnc, _⟩
      · simp [Builtin.append_, run_underlying hu, sizeOf, typeInfo, hi, Builtin.lenOf, Builtin.firstCells]
      · simp [Builtin.append_, run_underlying hu, sizeOf, typeInfo, hi, Builtin.lenOf, Builtin.firstCells, hnc, storeCells]
  obtain ⟨v', w', hr, h2, h3⟩ := key
  unfold Oper.wp execOp
  simp only [ho, resolve, invoke, builtin, Sem.run_bind, Sem.run_pure, Result.andThen_ok, List.map_toArray, List.map_cons, List.map_nil, hs, hx, hr]
  exact h v' w' h2 h3
/-- in the order of numbers -/
def ins (L : List Ent) (e : Ent) : List Ent := L.takeWhile (fun x => decide (x.n < e.n)) ++ [e] ++ L.dropWhile (fun x => decide (x.n < e.n))
theorem ins_at {L : List Ent} {e : Ent} {k : Nat} (hk : k ≤ L.length) (h1 : ∀ i (h : i < L.length), i < k → L[i].n < e.n) (h2 : k = L.length ∨ ∃ h : k < L.length, ¬ L[k].n < e.n) : L.take k ++ [e] ++ L.drop k = ins L e := by
  have ht : ∀ a ∈ L.take k, decide (a.n < e.n) = true := fun a ha => by
    obtain ⟨i, hi, rfl⟩ := List.mem_take_iff_getElem.1 ha
    exact decide_eq_true (h1 i (by omega) (by omega))
  have hd : (L.drop k).takeWhile (fun x => decide (x.n < e.n)) = [] ∧ (L.drop k).dropWhile (fun x => decide (x.n < e.n)) = L.drop k := by
    rcases h2 with q | ⟨hlt, q⟩
    · have : L.drop k = [] := List.drop_of_length_le (by omega)
      rw [this]; exact ⟨rfl, rfl⟩
    · rw [List.drop_eq_getElem_cons hlt]
      have hq : decide (L[k].n < e.n) = false := decide_eq_false q
      exact ⟨List.takeWhile_cons_of_neg (by rw [hq]; decide), List.dropWhile_cons_of_neg (by rw [hq]; decide)⟩
  have e1 : L.takeWhile (fun x => decide (x.n < e.n)) = L.take k := by
    have := List.takeWhile_append_of_pos (p := fun x : Ent => decide (x.n < e.n)) (l₂ := L.drop k) ht
    rw [List.take_append_drop, hd.1, List.append_nil] at this
    exact this
  have e2 : L.dropWhile (fun x => decide (x.n < e.n)) = L.drop k := by
    have := List.dropWhile_append_of_pos (p := fun x : Ent => decide (x.n < e.n)) (l₂ := L.drop k) ht
    rw [List.take_append_drop, hd.2] at this
    exact this
  unfold ins
  rw [e1, e2]
theorem ents_part {w w' : World} {b off : Nat} {L : List Ent} (h : Ents w (some ⟨b, off, none⟩) L) (hb : Below w.heap.size w w') (k m : Nat) (hkm : k + m ≤ L.length) : ∀ j u, (el ((L.drop k).take m))[j]? = some u → w'.cell? ((⟨b, off + k * 7, none⟩ : Addr).add j) = some u := by
  intro j u hu
  have hl : ((L.drop k).take m).length = m := by rw [List.length_take, List.length_drop]; omega
  have hj : j < m * 7 := by
    have := (List.getElem?_eq_some_iff.1 hu).1
    rw [el_len, hl] at this
    exact this
  have hq : j / 7 < m := by omega
  have h7 : j % 7 < 7 := by omega
  have e := el_at ((L.drop k).take m) (j / 7) (by omega) (j % 7) h7
  rw [show j / 7 * 7 + j % 7 = j by omega, hu, List.getElem_take, List.getElem_drop] at e
  obtain ⟨b', off', ha, hr⟩ := h (k + j / 7) (by omega)
  obtain ⟨rfl, rfl⟩ : b = b' ∧ off = off' := by simpa using ha
  have hc := hr (j % 7) u e.symm
  rw [Addr.add_mid, show off + k * 7 + j = off + (k + j / 7) * 7 + j % 7 by omega, hb.cell (World.block_lt_of_cell? w _ hc)]
  exact hc
def tailE (b off c k : Nat) : Addr := if c = k then ⟨b, off, none⟩ else ⟨b, off + k * 7, none⟩
set_option maxRecDepth 100000 in
theorem tail_e (b off n c k : Nat) (hk : k ≤ n) (W : World) : (Instr.sliceAt 34 (.slice (some ⟨b, off, none⟩) n c) (some (.int .i64 (k : Int))) none none).run Tryz.prog W = .ok (.slice (some (tailE b off c k)) (n - k) (c - k)) W := by
  have e := run_sliceAt_slice (P := Tryz.prog) (w := W) 34 (.slice (some ⟨b, off, none⟩) n c) (some (.int .i64 (k : Int))) none none Tryz.underlying34
  rw [e]
  have i0 : (0 : Int) ≤ (k : Int) := by omega
  have i1 : (k : Int) ≤ (n : Int) := by omega
  have hu := Tryz.underlying34
  have hs : (Tryz.prog.info? 96).map (·.size) = some 7 := by kernel_rfl
  obtain ⟨ie, hie, hsz⟩ := Option.map_eq_some_iff.1 hs
  unfold tailE
  by_cases h : c = k
  · simp [Instr.slice, Instr.sliceBounds, run_underlying hu, i0, i1, h, sizeOf, typeInfo, hie, hsz, go_sem]
  · simp [Instr.slice, Instr.sliceBounds, run_underlying hu, i0, i1, h, sizeOf, typeInfo, hie, hsz, go_sem]
theorem tail_ents {w w' : World} {b off n c k : Nat} {L : List Ent} (h : Ents w (some ⟨b, off, none⟩) L) (hn : L.length = n) (hc : n ≤ c) (hk : k ≤ n) (hb : Below w.heap.size w w') : ∀ ad, some (tailE b off c k) = some ad → ∀ j u, (el ((L.drop k).take (n - k)))[j]? = some u → w'.cell? (ad.add j) = some u := by
  intro ad had j u hu
  obtain rfl : tailE b off c k = ad := Option.some.inj had
  unfold tailE
  by_cases e : c = k
  · have : n - k = 0 := by omega
    rw [this, List.take_zero] at hu
    simp [el] at hu
  · rw [if_neg e]
    exact ents_part h hb k (n - k) (by omega) j u hu
theorem head_ents {w w' : World} {b k : Nat} {L : List Ent} (h : Ents w (some ⟨b, 0, none⟩) L) (hk : k ≤ L.length) (hb : Below w.heap.size w w') : ∀ ad, some (⟨b, 0, none⟩ : Addr) = some ad → ∀ j u, (el (L.take k))[j]? = some u → w'.cell? (ad.add j) = some u := by
  intro ad had j u hu
  obtain rfl : (⟨b, 0, none⟩ : Addr) = ad := Option.some.inj had
  have := ents_part h hb 0 k (by omega) j u (by rw [List.drop_zero]; exact hu)
  exact this
theorem cells7' (w : World) (x : Ent) : ∀ ad, some (⟨w.heap.size, 0, none⟩ : Addr) = some ad → ∀ j u, (el [x])[j]? = some u → (w.alloc (.cells #[.int .i64 x.n, .int .u8 x.ki, .int .u32 x.nu, .int .u64 x.ep, .int .i64 x.si, .slice x.a x.q x.c, .bool x.late] 96)).cell? (ad.add j) = some u := by
  intro ad had j u hu
  obtain rfl : (⟨w.heap.size, 0, none⟩ : Addr) = ad := Option.some.inj had
  exact cells7 w x j u (by simpa [el] using hu)
theorem cells7'' {w wA : World} {x : Ent} (hg : ((w.alloc (.cells #[.int .i64 x.n, .int .u8 x.ki, .int .u32 x.nu, .int .u64 x.ep, .int .i64 x.si, .slice x.a x.q x.c, .bool x.late] 96)).drew).grownBy wA (Value.slice none 0 0).ownBlock) : ∀ ad, some (⟨w.heap.size, 0, none⟩ : Addr) = some ad → ∀ j u, (el [x])[j]? = some u → wA.cell? (ad.add j) = some u := by
  intro ad had j u hu
  have h := cells7' w x ad had j u hu
  obtain rfl : (⟨w.heap.size, 0, none⟩ : Addr) = ad := Option.some.inj had
  rw [show (⟨w.heap.size, 0, none⟩ : Addr).add j = ⟨w.heap.size, j, none⟩ from by simp [Addr.add]; omega] at h ⊢
  have h2 : ((w.alloc (.cells #[.int .i64 x.n, .int .u8 x.ki, .int .u32 x.nu, .int .u64 x.ep, .int .i64 x.si, .slice x.a x.q x.c, .bool x.late] 96)).drew).cell? ⟨w.heap.size, j, none⟩ = some u := h
  rw [hg.cell h2 (by simp [Value.ownBlock])]
theorem own_nil_at {w : World} {B m cap : Nat} {ao : Option Addr} {M : List Ent} (h : OwnE w B (.slice ao m cap) m M) : (ao = none ∧ m = 0 ∧ cap = 0) ∨ ∃ b, ao = some ⟨b, 0, none⟩ := by
  rcases h.2 with ⟨e, h0⟩ | ⟨g, c2, cur, e, _⟩
  · simp at e
    exact .inl ⟨e.1, h0, e.2.2⟩
  · simp at e
    exact .inr ⟨g, e.1⟩
theorem with_done {w : World} {B m k : Nat} {v : Value} {M : List Ent} {e : Ent} (h : OwnE w B v (0 + k + 1 + (m - k)) ([] ++ M.take k ++ [e] ++ (M.drop k).take (m - k))) (hn : M.length = m) (hi : M.take k ++ [e] ++ M.drop k = ins M e) : OwnE w B v (ins M e).length (ins M e) := by
  have e1 : (M.drop k).take (m - k) = M.drop k := List.take_of_length_le (by rw [List.length_drop]; omega)
  rw [e1, List.nil_append, hi] at h
  have hl := h.1
  rw [el_len] at hl
  have e2 : (ins M e).length = 0 + k + 1 + (m - k) := by omega
  rw [e2]
  exact h
theorem below_dn {n : Nat} {w w' : World} (h : Below n w w') (q : Nat) : Below n w (w'.drewN q) := ⟨h.os, h.tape, h.output, h.size, h.block⟩
/-- an entry's box -/
structure BoxE (w : World) (g : Nat) (x : Ent) : Prop where
  f0 : w.cell? ⟨g, 0, none⟩ = some (.int .i64 x.n)
  f1 : w.cell? ⟨g, 1, none⟩ = some (.int .u8 x.ki)
  f2 : w.cell? ⟨g, 2, none⟩ = some (.int .u32 x.nu)
  f3 : w.cell? ⟨g, 3, none⟩ = some (.int .u64 x.ep)
  f4 : w.cell? ⟨g, 4, none⟩ = some (.int .i64 x.si)
  f5 : w.cell? ⟨g, 5, none⟩ = some (.slice x.a x.q x.c)
  f6 : w.cell? ⟨g, 6, none⟩ = some (.bool x.late)
theorem boxE_new (w : World) (x : Ent) : BoxE (w.alloc (.cells #[.int .i64 x.n, .int .u8 x.ki, .int .u32 x.nu, .int .u64 x.ep, .int .i64 x.si, .slice x.a x.q x.c, .bool x.late] 96)) w.heap.size x :=
  ⟨cell_of_row _ _ 0 _ _ _ (heap_alloc_new w _), cell_of_row _ _ 1 _ _ _ (heap_alloc_new w _), cell_of_row _ _ 2 _ _ _ (heap_alloc_new w _), cell_of_row _ _ 3 _ _ _ (heap_alloc_new w _), cell_of_row _ _ 4 _ _ _ (heap_alloc_new w _), cell_of_row _ _ 5 _ _ _ (heap_alloc_new w _), cell_of_row _ _ 6 _ _ _ (heap_alloc_new w _)⟩
theorem BoxE.same {w w' : World} {g : Nat} {x : Ent} (h : BoxE w g x) (hb : w'.heap[g]? = w.heap[g]?) : BoxE w' g x :=
  ⟨(World.cell?_of_block hb).trans h.f0, (World.cell?_of_block hb).trans h.f1, (World.cell?_of_block hb).trans h.f2, (World.cell?_of_block hb).trans h.f3, (World.cell?_of_block hb).trans h.f4, (World.cell?_of_block hb).trans h.f5, (World.cell?_of_block hb).trans h.f6⟩
theorem BoxE.lt {w : World} {g : Nat} {x : Ent} (h : BoxE w g x) : g < w.heap.size := World.block_lt_of_cell? w _ h.f0
/-- the seven cells at once -/
def Cells7 (w : World) (g : Nat) (x : Ent) : Prop := w.cell? ⟨g, 0, none⟩ = some (.int .i64 x.n) ∧ w.cell? ⟨g, 1, none⟩ = some (.int .u8 x.ki) ∧ w.cell? ⟨g, 2, none⟩ = some (.int .u32 x.nu) ∧ w.cell? ⟨g, 3, none⟩ = some (.int .u64 x.ep) ∧ w.cell? ⟨g, 4, none⟩ = some (.int .i64 x.si) ∧ w.cell? ⟨g, 5, none⟩ = some (.slice x.a x.q x.c) ∧ w.cell? ⟨g, 6, none⟩ = some (.bool x.late)
theorem BoxE.all {w : World} {g : Nat} {x : Ent} (h : BoxE w g x) : Cells7 w g x := ⟨h.f0, h.f1, h.f2, h.f3, h.f4, h.f5, h.f6⟩
set_option maxRecDepth 100000 in
set_option maxHeartbeats 2000000 in
theorem with_ref (a : Option Addr) (n c : Nat) (L : List Ent) (e : Ent) (w : World) (ha : Ents w a L) (hn : L.length = n) (hm : n ≤ 1000) :
    Calls Tryz.prog 81 #[.slice a n c, e.val] w (NewE w (ins (wo L e.n) e)) := by
  have HA := Lib.hid (ha.below (Sm.alX w (.cells #[.int .i64 e.n, .int .u8 e.ki, .int .u32 e.nu, .int .u64 e.ep, .int .i64 e.si, .slice e.a e.q e.c, .bool e.late] 96)))
  have HB0 := Lib.hid (Sm.alX w (.cells #[.int .i64 e.n, .int .u8 e.ki, .int .u32 e.nu, .int .u64 e.ep, .int .i64 e.si, .slice e.a e.q e.c, .bool e.late] 96))
  have HL := Lib.hid hn
  have HX := Lib.hid (boxE_new w e)
  have HML := Lib.hid (show (wo L e.n).length ≤ 1000 from Nat.le_trans (wo_len _ _) (by omega))
  have x0 := HX.out.f0
  unfold Ent.val
  clear ha hn
  go_enter Tryz.func81, Tryz.ntmps81
  go_wp2_with fail
  refine (without_ref a n c L e.n _ HA.out HL.out hm).mono ?_
  rintro e' w1 ⟨v, rfl, hown, hb⟩
  have HO := Lib.hid hown
  have HX1 := Lib.hid (HX.out.same (hb.block _ HX.out.lt))
  have HB1 := Lib.hid (HB0.out.trans (hb.mono HB0.out.size))
  have HSZ := Lib.hid (show w.heap.size < w1.heap.size from Nat.lt_of_lt_of_le HX.out.lt hb.size)
  clear hown hb x0 HA HX
  generalize hMW : wo L e.n = M at HO HML ⊢
  have HMW := Lib.hid hMW
  clear hMW
  obtain ⟨m, hmM⟩ : ∃ m, m = M.length := ⟨_, rfl⟩
  rw [← hmM] at HO HML
  have HM := Lib.hid hmM.symm
  clear hmM
  obtain ⟨ao, cap, rfl, hen, hcap, hcap2, _, hlo⟩ := own_ents HO.out
  have HEN := Lib.hid hen
  have HLO := Lib.hid hlo
  clear hen hlo
  go_wp2_with fail
  go_loopw [5] (fun i wr => ∃ k q : Nat, k ≤ m ∧ i = .int .i64 k ∧ Hid (∀ i (h : i < M.length), i < k → M[i].n < e.n) ∧ Hid (wr = w1.drewN q)) (fun i _ => m - (intOf i).toNat)
  case atStart => exact ⟨0, 0, by omega, rfl, Lib.hid (fun i _ h => absurd h (by omega)), Lib.hid rfl⟩
  case round =>
    obtain ⟨k, q, hk, rfl, HLT, hwr⟩ := hrel
    have hwr' := hwr.out
    clear hwr
    subst hwr'
    have f0 := HX1.out.f0
    have k0 : (0 : Int) ≤ (k : Int) := by omega
    by_cases hgo : k < m ∧ ∃ h : k < M.length, M[k].n < e.n
    · obtain ⟨hlt, hkM, he⟩ := hgo
      obtain ⟨b, off, rfl, hr⟩ := HEN.out k hkM
      have c0 : w1.cell? ⟨b, off + k * 7, none⟩ = some (.int .i64 M[k].n) := hr 0 _ rfl
      have k1 : (k : Int) < (m : Int) := by omega
      clear hr
      have HLT2 := Lib.hid (show ∀ i (h : i < M.length), i < k + 1 → M[i].n < e.n from fun i h hi => by
        by_cases q : i < k
        · exact HLT.out i h q
        · obtain rfl : i = k := by omega
          exact he)
      generalize M[k].n = y at c0 he
      go_wp2_with fail
      go_quiet (fail)
      go_wp2
      go_roundw
      case rel => exact ⟨k + 1, q + nq, by omega, by go_num, HLT2, Lib.hid rfl⟩
      case measure => simp [intOf]; omega
    · have HIN := Lib.hid (ins_at (by rw [HM.out]; exact hk) HLT.out (by
        by_cases h : k < M.length
        · exact .inr ⟨h, fun he => hgo ⟨by rw [← HM.out]; exact h, h, he⟩⟩
        · exact .inl (by have := HM.out; omega)))
      have HC := Lib.hid (show (k = m) ∨ (k < m ∧ ∃ b off y, ao = some ⟨b, off, none⟩ ∧ w1.cell? ⟨b, off + k * 7, none⟩ = some (.int .i64 y) ∧ ¬ y < e.n) by
        by_cases h : k < m
        · have hkM : k < M.length := by rw [HM.out]; exact h
          obtain ⟨b, off, ha, hr⟩ := HEN.out k hkM
          exact .inr ⟨h, b, off, M[k].n, ha, hr 0 _ rfl, fun he => hgo ⟨h, hkM, he⟩⟩
        · exact .inl (by omega))
      clear hgo
      have hk0 : k ≤ m := hk
      rcases own_nil_at HO.out with ⟨hao, hm0, hc0⟩ | ⟨b0, hao⟩
      · subst hao hm0 hc0
        have hk1 : k = 0 := by omega
        subst hk1
        have hM0 : M = [] := List.length_eq_zero_iff.1 HM.out
        subst hM0
        have HIE := Lib.hid (show ins [] e = [e] from rfl)
        clear HC HIN HLT
        go_wp2_with fail
        go_quiet (fail)
        go_upto_region 6 with (fail)
        have HX2 := Lib.hid (show BoxE ((w1.drewN q).drewN nq) w.heap.size e from HX1.out.same rfl)
        have HB2 := Lib.hid (show Below w.heap.size w ((w1.drewN q).drewN nq) from below_dn (below_dn HB1.out q) nq)
        have HS2 := Lib.hid (show w.heap.size < ((w1.drewN q).drewN nq).heap.size from HSZ.out)
        clear HX1 HEN HB1 HSZ HO HLO
        generalize (w1.drewN q).drewN nq = w2 at HX2 HB2 HS2 ⊢
        have hs2 := HS2.out
        have hb1 : Below w2.heap.size w2 w2.drew := (Below.refl _ _).drew
        have hb2 : Below w2.heap.size w2 ((w2.alloc (.cells #[.int .i64 e.n, .int .u8 e.ki, .int .u32 e.nu, .int .u64 e.ep, .int .i64 e.si, .slice e.a e.q e.c, .bool e.late] 96)).drew) := ((Below.refl _ _).alloc (Nat.le_refl _) _).drew
        have KA := Lib.hid HX2.out.all
        have KD := Lib.hid (show Cells7 w2.drew w.heap.size e from HX2.out.all)
        have KG := Lib.hid (show Cells7 (w2.alloc (.cells #[.int .i64 e.n, .int .u8 e.ki, .int .u32 e.nu, .int .u64 e.ep, .int .i64 e.si, .slice e.a e.q e.c, .bool e.late] 96)) w.heap.size e from (HX2.out.same (((Below.refl _ _).alloc (Nat.le_refl _) _ : Below w2.heap.size w2 (w2.alloc (.cells #[.int .i64 e.n, .int .u8 e.ki, .int .u32 e.nu, .int .u64 e.ep, .int .i64 e.si, .slice e.a e.q e.c, .bool e.late] 96))).block w.heap.size HX2.out.lt)).all)
        have KJ := Lib.hid (show Cells7 ((w2.alloc (.cells #[.int .i64 e.n, .int .u8 e.ki, .int .u32 e.nu, .int .u64 e.ep, .int .i64 e.si, .slice e.a e.q e.c, .bool e.late] 96)).drew) w.heap.size e from KG.out)
        unfold Cells7 at KA KD KG KJ
        go_region_held3 (fun w' => w'.cell? ⟨w.heap.size, 0, none⟩ = some (.int .i64 e.n) ∧ w'.cell? ⟨w.heap.size, 1, none⟩ = some (.int .u8 e.ki) ∧ w'.cell? ⟨w.heap.size, 2, none⟩ = some (.int .u32 e.nu) ∧ w'.cell? ⟨w.heap.size, 3, none⟩ = some (.int .u64 e.ep) ∧ w'.cell? ⟨w.heap.size, 4, none⟩ = some (.int .i64 e.si) ∧ w'.cell? ⟨w.heap.size, 5, none⟩ = some (.slice e.a e.q e.c) ∧ w'.cell? ⟨w.heap.size, 6, none⟩ = some (.bool e.late)) (first | with_reducible exact KD.out | with_reducible exact KA.out | with_reducible exact KE.out | with_reducible exact KF.out | with_reducible exact KG.out | with_reducible exact KJ.out | with_reducible exact KH.out | with_reducible exact KI.out) (first | (refine step_appE rfl (.tmp 27) (.tmp 30) rfl w2.heap.size 0 (.slice none 0 0) [] rfl (World.ownsRow_nil _ _ _ _) none 0 0 [] rfl rfl (fun _ => rfl) (fun _ q => by cases q) (by omega) (by simp) ?_; intro vA wA hoA hgA; have hbA := Below.grown (by assumption) hgA (by simp) (by intro k hk; cases hk); have KE := Lib.hid (HX2.out.same (hbA.block w.heap.size HX2.out.lt)).all; have KF := Lib.hid (HX2.out.same ((hbA.alloc hbA.size (.cells #[.int .i64 e.n, .int .u8 e.ki, .int .u32 e.nu, .int .u64 e.ep, .int .i64 e.si, .slice e.a e.q e.c, .bool e.late] 96)).block w.heap.size HX2.out.lt)).all; unfold Cells7 at KE KF) | (refine step_appE rfl (.tmp 31) (.tmp 33) rfl w2.heap.size (0 + 0) vA _ rfl (hoA.alloc _) (some ⟨wA.heap.size, 0, none⟩) 1 1 [e] rfl rfl (fun q => by cases q) (cells7' wA e) (by omega) (by have := hbA.size; simp; omega) ?_; intro vB wB hoB hgB; have hbB := Below.grown (hbA.alloc hbA.size (.cells #[.int .i64 e.n, .int .u8 e.ki, .int .u32 e.nu, .int .u64 e.ep, .int .i64 e.si, .slice e.a e.q e.c, .bool e.late] 96)) hgB (by have := hbA.size; simp; omega) (fun k hk => (hoA.lt k hk).1); have KH := Lib.hid (HX2.out.same (hbB.block w.heap.size HX2.out.lt)).all; unfold Cells7 at KH) | (refine step_appE rfl (.tmp 31) (.tmp 33) rfl w2.heap.size (0 + 0) vA _ rfl hoA (some ⟨w2.heap.size, 0, none⟩) 1 1 [e] rfl rfl (fun q => by cases q) (cells7'' hgA) (by omega) (by have := hbA.size; omega) ?_; intro vB wB hoB hgB; have hbB := Below.grown hbA hgB hbA.size (fun k hk => (hoA.lt k hk).1); have KH := Lib.hid (HX2.out.same (hbB.block w.heap.size HX2.out.lt)).all; unfold Cells7 at KH) | (refine step_appE rfl (.tmp 34) (.tmp 37) rfl w2.heap.size (0 + 0 + 1) vB _ rfl hoB none 0 0 [] rfl rfl (fun _ => rfl) (fun _ q => by cases q) (by omega) (by have := hbB.size; omega) ?_; intro vC wC hoC hgC; have hbC := Below.grown hbB hgC hbB.size (fun k hk => (hoB.lt k hk).1); have KI := Lib.hid (HX2.out.same (hbC.block w.heap.size HX2.out.lt)).all; unfold Cells7 at KI))
        all_goals have HOC := Lib.hid (show OwnE wC w2.heap.size vC (ins [] e).length (ins [] e) by rw [HIE.out]; exact hoC)
        all_goals have HBC := Lib.hid (HB2.out.trans (hbC.mono (by omega)))
        all_goals have HZC := Lib.hid (show w.heap.size ≤ w2.heap.size by omega)
        all_goals clear hoC hgC hoA hgA hoB hgB hbA hbB hbC KA KD KE KG KJ KH KI
        all_goals obtain ⟨ao', cap', rfl, _⟩ := own_ents HOC.out
        all_goals go_wp2
        all_goals go_ret
        all_goals rw [HMW.out]
        all_goals exact ⟨.slice ao' (ins [] e).length cap', rfl, Sm.own_mono HOC.out HZC.out, HBC.out⟩
      · subst hao
        rcases HC.out with h | ⟨h, b, off, y, hao, c0, hy⟩
        case inl =>
          have k1 : ¬ k < m := by omega
          clear h
          go_wp2_with fail
          go_quiet (fail)
          go_upto_region 6 with (fail)
          have HKZ := Lib.hid hk0
          have HX2 := Lib.hid (show BoxE ((w1.drewN q).drewN nq) w.heap.size e from HX1.out.same rfl)
          have HE2 := Lib.hid (show Ents ((w1.drewN q).drewN nq) (some ⟨b0, 0, none⟩) M from HEN.out.same fun _ _ _ => rfl)
          have HB2 := Lib.hid (show Below w.heap.size w ((w1.drewN q).drewN nq) from below_dn (below_dn HB1.out q) nq)
          have HS2 := Lib.hid (show w.heap.size < ((w1.drewN q).drewN nq).heap.size from HSZ.out)
          clear HX1 HEN HB1 HSZ HO HLO HC k1
          generalize (w1.drewN q).drewN nq = w2 at HX2 HE2 HB2 HS2 ⊢
          have hm1 := HML.out
          have hs2 := HS2.out
          have hMl := HM.out
          have ht := tail_e b0 0 m cap k hk0
          have j0 : (0 : Int) ≤ (k : Int) := by omega
          have j1 : (k : Int) ≤ (cap : Int) := by omega
          have hb1 : Below w2.heap.size w2 w2.drew := (Below.refl _ _).drew
          have hb2 : Below w2.heap.size w2 ((w2.alloc (.cells #[.int .i64 e.n, .int .u8 e.ki, .int .u32 e.nu, .int .u64 e.ep, .int .i64 e.si, .slice e.a e.q e.c, .bool e.late] 96)).drew) := ((Below.refl _ _).alloc (Nat.le_refl _) _).drew
          have HL1 := Lib.hid (show (M.take k).length = k by rw [List.length_take]; omega)
          have HL2 := Lib.hid (show ((M.drop k).take (m - k)).length = m - k by rw [List.length_take, List.length_drop]; omega)
          have KA := Lib.hid HX2.out.all
          have KD := Lib.hid (show Cells7 w2.drew w.heap.size e from HX2.out.all)
          have KG := Lib.hid (show Cells7 (w2.alloc (.cells #[.int .i64 e.n, .int .u8 e.ki, .int .u32 e.nu, .int .u64 e.ep, .int .i64 e.si, .slice e.a e.q e.c, .bool e.late] 96)) w.heap.size e from (HX2.out.same (((Below.refl _ _).alloc (Nat.le_refl _) _ : Below w2.heap.size w2 (w2.alloc (.cells #[.int .i64 e.n, .int .u8 e.ki, .int .u32 e.nu, .int .u64 e.ep, .int .i64 e.si, .slice e.a e.q e.c, .bool e.late] 96))).block w.heap.size HX2.out.lt)).all)
          have KJ := Lib.hid (show Cells7 ((w2.alloc (.cells #[.int .i64 e.n, .int .u8 e.ki, .int .u32 e.nu, .int .u64 e.ep, .int .i64 e.si, .slice e.a e.q e.c, .bool e.late] 96)).drew) w.heap.size e from KG.out)
          unfold Cells7 at KA KD KG KJ
          clear hMl
          go_region_held3 (fun w' => w'.cell? ⟨w.heap.size, 0, none⟩ = some (.int .i64 e.n) ∧ w'.cell? ⟨w.heap.size, 1, none⟩ = some (.int .u8 e.ki) ∧ w'.cell? ⟨w.heap.size, 2, none⟩ = some (.int .u32 e.nu) ∧ w'.cell? ⟨w.heap.size, 3, none⟩ = some (.int .u64 e.ep) ∧ w'.cell? ⟨w.heap.size, 4, none⟩ = some (.int .i64 e.si) ∧ w'.cell? ⟨w.heap.size, 5, none⟩ = some (.slice e.a e.q e.c) ∧ w'.cell? ⟨w.heap.size, 6, none⟩ = some (.bool e.late)) (first | with_reducible exact KD.out | with_reducible exact KA.out | with_reducible exact KE.out | with_reducible exact KF.out | with_reducible exact KG.out | with_reducible exact KJ.out | with_reducible exact KH.out | with_reducible exact KI.out) (first | (refine step_appE rfl (.tmp 27) (.tmp 30) rfl w2.heap.size 0 (.slice none 0 0) [] rfl (World.ownsRow_nil _ _ _ _) (some ⟨b0, 0, none⟩) k cap (M.take k) rfl HL1.out (fun q => by cases q) (head_ents HE2.out (by omega) (by assumption)) (by omega) (by simp) ?_; intro vA wA hoA hgA; have hbA := Below.grown (by assumption) hgA (by simp) (by intro k hk; cases hk); have KE := Lib.hid (HX2.out.same (hbA.block w.heap.size HX2.out.lt)).all; have KF := Lib.hid (HX2.out.same ((hbA.alloc hbA.size (.cells #[.int .i64 e.n, .int .u8 e.ki, .int .u32 e.nu, .int .u64 e.ep, .int .i64 e.si, .slice e.a e.q e.c, .bool e.late] 96)).block w.heap.size HX2.out.lt)).all; unfold Cells7 at KE KF) | (refine step_appE rfl (.tmp 31) (.tmp 33) rfl w2.heap.size (0 + k) vA _ rfl (hoA.alloc _) (some ⟨wA.heap.size, 0, none⟩) 1 1 [e] rfl rfl (fun q => by cases q) (cells7' wA e) (by omega) (by have := hbA.size; simp; omega) ?_; intro vB wB hoB hgB; have hbB := Below.grown (hbA.alloc hbA.size (.cells #[.int .i64 e.n, .int .u8 e.ki, .int .u32 e.nu, .int .u64 e.ep, .int .i64 e.si, .slice e.a e.q e.c, .bool e.late] 96)) hgB (by have := hbA.size; simp; omega) (fun k hk => (hoA.lt k hk).1); have KH := Lib.hid (HX2.out.same (hbB.block w.heap.size HX2.out.lt)).all; unfold Cells7 at KH) | (refine step_appE rfl (.tmp 31) (.tmp 33) rfl w2.heap.size (0 + k) vA _ rfl hoA (some ⟨w2.heap.size, 0, none⟩) 1 1 [e] rfl rfl (fun q => by cases q) (cells7'' hgA) (by omega) (by have := hbA.size; omega) ?_; intro vB wB hoB hgB; have hbB := Below.grown hbA hgB hbA.size (fun k hk => (hoA.lt k hk).1); have KH := Lib.hid (HX2.out.same (hbB.block w.heap.size HX2.out.lt)).all; unfold Cells7 at KH) | (refine step_appE rfl (.tmp 34) (.tmp 37) rfl w2.heap.size (0 + k + 1) vB _ rfl hoB (some (tailE b0 0 cap k)) (m - k) (cap - k) ((M.drop k).take (m - k)) rfl HL2.out (fun q => by cases q) (tail_ents HE2.out HM.out hcap HKZ.out hbB) (by omega) (by have := hbB.size; omega) ?_; intro vC wC hoC hgC; have hbC := Below.grown hbB hgC hbB.size (fun k hk => (hoB.lt k hk).1); have KI := Lib.hid (HX2.out.same (hbC.block w.heap.size HX2.out.lt)).all; unfold Cells7 at KI))
          all_goals have HOC := Lib.hid (with_done hoC HM.out HIN.out)
          all_goals have HBC := Lib.hid (HB2.out.trans (hbC.mono (by omega)))
          all_goals have HZC := Lib.hid (show w.heap.size ≤ w2.heap.size by omega)
          all_goals clear hoC hgC hoA hgA hoB hgB hbA hbB hbC KA KD KE KG KJ KH KI ht
          all_goals obtain ⟨ao', cap', rfl, _⟩ := own_ents HOC.out
          all_goals go_wp2
          all_goals go_ret
          all_goals rw [HMW.out]
          all_goals exact ⟨.slice ao' (ins M e).length cap', rfl, Sm.own_mono HOC.out HZC.out, HBC.out⟩
        case inr =>
          obtain ⟨rfl, rfl⟩ : b0 = b ∧ 0 = off := by simpa using hao
          rw [Nat.zero_add] at c0
          have k1 : (k : Int) < (m : Int) := by omega
          clear hao
          go_wp2_with fail
          go_quiet (fail)
          go_upto_region 6 with (fail)
          have HKZ := Lib.hid hk0
          have HX2 := Lib.hid (show BoxE ((w1.drewN q).drewN nq) w.heap.size e from HX1.out.same rfl)
          have HE2 := Lib.hid (show Ents ((w1.drewN q).drewN nq) (some ⟨b0, 0, none⟩) M from HEN.out.same fun _ _ _ => rfl)
          have HB2 := Lib.hid (show Below w.heap.size w ((w1.drewN q).drewN nq) from below_dn (below_dn HB1.out q) nq)
          have HS2 := Lib.hid (show w.heap.size < ((w1.drewN q).drewN nq).heap.size from HSZ.out)
          clear HX1 HEN HB1 HSZ HO HLO HC k1 h c0 hy
          generalize (w1.drewN q).drewN nq = w2 at HX2 HE2 HB2 HS2 ⊢
          have hm1 := HML.out
          have hs2 := HS2.out
          have hMl := HM.out
          have ht := tail_e b0 0 m cap k hk0
          have j0 : (0 : Int) ≤ (k : Int) := by omega
          have j1 : (k : Int) ≤ (cap : Int) := by omega
          have hb1 : Below w2.heap.size w2 w2.drew := (Below.refl _ _).drew
          have hb2 : Below w2.heap.size w2 ((w2.alloc (.cells #[.int .i64 e.n, .int .u8 e.ki, .int .u32 e.nu, .int .u64 e.ep, .int .i64 e.si, .slice e.a e.q e.c, .bool e.late] 96)).drew) := ((Below.refl _ _).alloc (Nat.le_refl _) _).drew
          have HL1 := Lib.hid (show (M.take k).length = k by rw [List.length_take]; omega)
          have HL2 := Lib.hid (show ((M.drop k).take (m - k)).length = m - k by rw [List.length_take, List.length_drop]; omega)
          have KA := Lib.hid HX2.out.all
          have KD := Lib.hid (show Cells7 w2.drew w.heap.size e from HX2.out.all)
          have KG := Lib.hid (show Cells7 (w2.alloc (.cells #[.int .i64 e.n, .int .u8 e.ki, .int .u32 e.nu, .int .u64 e.ep, .int .i64 e.si, .slice e.a e.q e.c, .bool e.late] 96)) w.heap.size e from (HX2.out.same (((Below.refl _ _).alloc (Nat.le_refl _) _ : Below w2.heap.size w2 (w2.alloc (.cells #[.int .i64 e.n, .int .u8 e.ki, .int .u32 e.nu, .int .u64 e.ep, .int .i64 e.si, .slice e.a e.q e.c, .bool e.late] 96))).block w.heap.size HX2.out.lt)).all)
          have KJ := Lib.hid (show Cells7 ((w2.alloc (.cells #[.int .i64 e.n, .int .u8 e.ki, .int .u32 e.nu, .int .u64 e.ep, .int .i64 e.si, .slice e.a e.q e.c, .bool e.late] 96)).drew) w.heap.size e from KG.out)
          unfold Cells7 at KA KD KG KJ
          clear hMl
          go_region_held3 (fun w' => w'.cell? ⟨w.heap.size, 0, none⟩ = some (.int .i64 e.n) ∧ w'.cell? ⟨w.heap.size, 1, none⟩ = some (.int .u8 e.ki) ∧ w'.cell? ⟨w.heap.size, 2, none⟩ = some (.int .u32 e.nu) ∧ w'.cell? ⟨w.heap.size, 3, none⟩ = some (.int .u64 e.ep) ∧ w'.cell? ⟨w.heap.size, 4, none⟩ = some (.int .i64 e.si) ∧ w'.cell? ⟨w.heap.size, 5, none⟩ = some (.slice e.a e.q e.c) ∧ w'.cell? ⟨w.heap.size, 6, none⟩ = some (.bool e.late)) (first | with_reducible exact KD.out | with_reducible exact KA.out | with_reducible exact KE.out | with_reducible exact KF.out | with_reducible exact KG.out | with_reducible exact KJ.out | with_reducible exact KH.out | with_reducible exact KI.out) (first | (refine step_appE rfl (.tmp 27) (.tmp 30) rfl w2.heap.size 0 (.slice none 0 0) [] rfl (World.ownsRow_nil _ _ _ _) (some ⟨b0, 0, none⟩) k cap (M.take k) rfl HL1.out (fun q => by cases q) (head_ents HE2.out (by omega) (by assumption)) (by omega) (by simp) ?_; intro vA wA hoA hgA; have hbA := Below.grown (by assumption) hgA (by simp) (by intro k hk; cases hk); have KE := Lib.hid (HX2.out.same (hbA.block w.heap.size HX2.out.lt)).all; have KF := Lib.hid (HX2.out.same ((hbA.alloc hbA.size (.cells #[.int .i64 e.n, .int .u8 e.ki, .int .u32 e.nu, .int .u64 e.ep, .int .i64 e.si, .slice e.a e.q e.c, .bool e.late] 96)).block w.heap.size HX2.out.lt)).all; unfold Cells7 at KE KF) | (refine step_appE rfl (.tmp 31) (.tmp 33) rfl w2.heap.size (0 + k) vA _ rfl (hoA.alloc _) (some ⟨wA.heap.size, 0, none⟩) 1 1 [e] rfl rfl (fun q => by cases q) (cells7' wA e) (by omega) (by have := hbA.size; simp; omega) ?_; intro vB wB hoB hgB; have hbB := Below.grown (hbA.alloc hbA.size (.cells #[.int .i64 e.n, .int .u8 e.ki, .int .u32 e.nu, .int .u64 e.ep, .int .i64 e.si, .slice e.a e.q e.c, .bool e.late] 96)) hgB (by have := hbA.size; simp; omega) (fun k hk => (hoA.lt k hk).1); have KH := Lib.hid (HX2.out.same (hbB.block w.heap.size HX2.out.lt)).all; unfold Cells7 at KH) | (refine step_appE rfl (.tmp 31) (.tmp 33) rfl w2.heap.size (0 + k) vA _ rfl hoA (some ⟨w2.heap.size, 0, none⟩) 1 1 [e] rfl rfl (fun q => by cases q) (cells7'' hgA) (by omega) (by have := hbA.size; omega) ?_; intro vB wB hoB hgB; have hbB := Below.grown hbA hgB hbA.size (fun k hk => (hoA.lt k hk).1); have KH := Lib.hid (HX2.out.same (hbB.block w.heap.size HX2.out.lt)).all; unfold Cells7 at KH) | (refine step_appE rfl (.tmp 34) (.tmp 37) rfl w2.heap.size (0 + k + 1) vB _ rfl hoB (some (tailE b0 0 cap k)) (m - k) (cap - k) ((M.drop k).take (m - k)) rfl HL2.out (fun q => by cases q) (tail_ents HE2.out HM.out hcap HKZ.out hbB) (by omega) (by have := hbB.size; omega) ?_; intro vC wC hoC hgC; have hbC := Below.grown hbB hgC hbB.size (fun k hk => (hoB.lt k hk).1); have KI := Lib.hid (HX2.out.same (hbC.block w.heap.size HX2.out.lt)).all; unfold Cells7 at KI))
          all_goals have HOC := Lib.hid (with_done hoC HM.out HIN.out)
          all_goals have HBC := Lib.hid (HB2.out.trans (hbC.mono (by omega)))
          all_goals have HZC := Lib.hid (show w.heap.size ≤ w2.heap.size by omega)
          all_goals clear hoC hgC hoA hgA hoB hgB hbA hbB hbC KA KD KE KG KJ KH KI ht
          all_goals obtain ⟨ao', cap', rfl, _⟩ := own_ents HOC.out
          all_goals go_wp2
          all_goals go_ret
          all_goals rw [HMW.out]
          all_goals exact ⟨.slice ao' (ins M e).length cap', rfl, Sm.own_mono HOC.out HZC.out, HBC.out⟩
end Go.Proofs.YtokikeenfpligaaGreatDoor

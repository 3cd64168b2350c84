/-
  THE REFERENCE's with: a list with an entry in the order of numbers. Conditions: the entries lie in memory.
  THE REFERENCE's Free. Conditions: the lists lie in memory.
  THE REFERENCE's Abort, Drop and Read. Conditions: the lists lie in memory.
  THE WALK of the document's own May. Conditions: the records lie in memory.
  THE REFERENCE's Write. Conditions: the lists, and the page's records, lie in memory.
  THE REFERENCE's Write, where a page may be. Conditions: the lists, and the page's records, lie in memory.
  THE REFERENCE's Write, where it is done. Conditions: the lists, and the page's records, lie in memory.
  THE REFERENCE's Commit. Conditions: the lists lie in memory.
  THE DOCUMENT's Write AND Commit, whatever comes of them. Conditions: the lists, and the page's records, lie in memory.
-/
import Derived.Deep.RegionLaw
import Derived.Deep.RegionHeld3
import Derived.BigQuiet
import Derived.StillTailTactics
import Derived.Test.YtlfkkakohldgnaaGreatDoorB48
namespace Go.Proofs.YtlfkkakohldgnaaGreatDoor
open Go.RowKit

theorem step_appE {ops : Array Oper} {o : Oper} {a : Act} {w : World} {K : Act → World → Prop} {Q : Exit → Act → World → Prop} {E : Prop} (hgd : o.guard = none) (s x : Operand)
    (ho : o.op = .call { callee := .builtin .append, args := #[s, x], argTypes := #[34, 34] }) (B n : Nat) (v : Value) (L : List Ent) (hs : a.eval s = v) (hown : OwnE w B v n L) (A : Option Addr) (m c : Nat) (M : List Ent) (hx : a.eval x = .slice A m c) (hl : M.length = m) (hA : A = none → m = 0)
    (hc : ∀ ad, A = some ad → ∀ j u, (el M)[j]? = some u → w.cell? (ad.add j) = some u) (hm : n + m ≤ 100000) (hbase : B ≤ w.heap.size)
    (h : ∀ v' w', OwnE w' B v' (n + m) (L ++ M) → w.grownBy w' v.ownBlock → K (a.put o.dst v') w') : if Region.wanted o (yielded ops a.tmps) = true then Oper.wp Tryz.prog o a w K Q else E := by
  have hw : Region.wanted o (yielded ops a.tmps) = true := by simp [Region.wanted, hgd]
  rw [if_pos hw]
  obtain ⟨i, hi, hz0, hz1, hz2⟩ := info_parts info_ent
  have key : ∃ v' w', (Builtin.append_ #[34, 34] o.type #[v, .slice A m c]).run Tryz.prog w = .ok v' w' ∧ OwnE w' B v' (n + m) (L ++ M) ∧ w.grownBy w' v.ownBlock := by
    cases A with
    | some ad =>
      obtain ⟨v', w', hr, h2, h3, _⟩ := run_append_own (P := Tryz.prog) w B 34 o.type 96 i (Ent.val ⟨0, 0, 0, 0, 0, none, 0, 0, false⟩) 7 64 Tryz.underlying34 hi hz0 hz1 hz2 rfl (by decide) v n (el L) hown ad m c (el M) (by rw [el_len, hl]) (hc ad rfl) (el_one M) (by unfold maxLen; omega) (by omega) hbase
      exact ⟨v', w', hr, by show World.ownsRow _ _ _ _ _ _ (el (L ++ M)); rw [el_app]; exact h2, h3⟩
    | none =>
      have h0 := hA rfl
      subst h0
      have hM : M = [] := List.length_eq_zero_iff.1 hl
      subst hM
      refine ⟨v, w, ?_, by simpa using hown, ⟨rfl, rfl, rfl, Nat.le_refl _, fun _ _ _ => rfl⟩⟩
      have hu := Tryz.underlying34
      rcases hown.2 with ⟨rfl, _⟩ | ⟨g, cap, cur, rfl, _, _, hnc, _⟩
      · simp [Builtin.append_, run_underlying hu, sizeOf, typeInfo, hi, Builtin.lenOf, Builtin.firstCells]
      · simp [Builtin.append_, run_underlying hu, sizeOf, typeInfo, hi, Builtin.lenOf, Builtin.firstCells, hnc, storeCells]
  obtain ⟨v', w', hr, h2, h3⟩ := key
  unfold Oper.wp execOp
  simp only [ho, resolve, invoke, builtin, Sem.run_bind, Sem.run_pure, Result.andThen_ok, List.map_toArray, List.map_cons, List.map_nil, hs, hx, hr]
  exact h v' w' h2 h3
/-- in the order of numbers -/
def ins (L : List Ent) (e : Ent) : List Ent := L.takeWhile (fun x => decide (x.n < e.n)) ++ [e] ++ L.dropWhile (fun x => decide (x.n < e.n))
theorem ins_at {L : List Ent} {e : Ent} {k : Nat} (hk : k ≤ L.length) (h1 : ∀ i (h : i < L.length), i < k → L[i].n < e.n) (h2 : k = L.length ∨ ∃ h : k < L.length, ¬ L[k].n < e.n) : L.take k ++ [e] ++ L.drop k = ins L e := by
  have ht : ∀ a ∈ L.take k, decide (a.n < e.n) = true := fun a ha => by
    obtain ⟨i, hi, rfl⟩ := List.mem_take_iff_getElem.1 ha
    exact decide_eq_true (h1 i (by omega) (by omega))
  have hd : (L.drop k).takeWhile (fun x => decide (x.n < e.n)) = [] ∧ (L.drop k).dropWhile (fun x => decide (x.n < e.n)) = L.drop k := by
    rcases h2 with q | ⟨hlt, q⟩
    · have : L.drop k = [] := List.drop_of_length_le (by omega)
      rw [this]; exact ⟨rfl, rfl⟩
    · rw [List.drop_eq_getElem_cons hlt]
      have hq : decide (L[k].n < e.n) = false := decide_eq_false q
      exact ⟨List.takeWhile_cons_of_neg (by rw [hq]; decide), List.dropWhile_cons_of_neg (by rw [hq]; decide)⟩
  have e1 : L.takeWhile (fun x => decide (x.n < e.n)) = L.take k := by
    have := List.takeWhile_append_of_pos (p := fun x : Ent => decide (x.n < e.n)) (l₂ := L.drop k) ht
    rw [List.take_append_drop, hd.1, List.append_nil] at this
    exact this
  have e2 : L.dropWhile (fun x => decide (x.n < e.n)) = L.drop k := by
    have := List.dropWhile_append_of_pos (p := fun x : Ent => decide (x.n < e.n)) (l₂ := L.drop k) ht
    rw [List.take_append_drop, hd.2] at this
    exact this
  unfold ins
  rw [e1, e2]
theorem ents_part {w w' : World} {b off : Nat} {L : List Ent} (h : Ents w (some ⟨b, off, none⟩) L) (hb : Below w.heap.size w w') (k m : Nat) (hkm : k + m ≤ L.length) : ∀ j u, (el ((L.drop k).take m))[j]? = some u → w'.cell? ((⟨b, off + k * 7, none⟩ : Addr).add j) = some u := by
  intro j u hu
  have hl : ((L.drop k).take m).length = m := by rw [List.length_take, List.length_drop]; omega
  have hj : j < m * 7 := by
    have := (List.getElem?_eq_some_iff.1 hu).1
    rw [el_len, hl] at this
    exact this
  have hq : j / 7 < m := by omega
  have h7 : j % 7 < 7 := by omega
  have e := el_at ((L.drop k).take m) (j / 7) (by omega) (j % 7) h7
  rw [show j / 7 * 7 + j % 7 = j by omega, hu, List.getElem_take, List.getElem_drop] at e
  obtain ⟨b', off', ha, hr⟩ := h (k + j / 7) (by omega)
  obtain ⟨rfl, rfl⟩ : b = b' ∧ off = off' := by simpa using ha
  have hc := hr (j % 7) u e.symm
  rw [Addr.add_mid, show off + k * 7 + j = off + (k + j / 7) * 7 + j % 7 by omega, hb.cell (World.block_lt_of_cell? w _ hc)]
  exact hc
def tailE (b off c k : Nat) : Addr := if c = k then ⟨b, off, none⟩ else ⟨b, off + k * 7, none⟩
set_option maxRecDepth 100000 in
theorem tail_e (b off n c k : Nat) (hk : k ≤ n) (W : World) : (Instr.sliceAt 34 (.slice (some ⟨b, off, none⟩) n c) (some (.int .i64 (k : Int))) none none).run Tryz.prog W = .ok (.slice (some (tailE b off c k)) (n - k) (c - k)) W := by
  have e := run_sliceAt_slice (P := Tryz.prog) (w := W) 34 (.slice (some ⟨b, off, none⟩) n c) (some (.int .i64 (k : Int))) none none Tryz.underlying34
  rw [e]
  have i0 : (0 : Int) ≤ (k : Int) := by omega
  have i1 : (k : Int) ≤ (n : Int) := by omega
  have hu := Tryz.underlying34
  have hs : (Tryz.prog.info? 96).map (·.size) = some 7 := by kernel_rfl
  obtain ⟨ie, hie, hsz⟩ := Option.map_eq_some_iff.1 hs
  unfold tailE
  by_cases h : c = k
  · simp [Instr.slice, Instr.sliceBounds, run_underlying hu, i0, i1, h, sizeOf, typeInfo, hie, hsz, go_sem]
  · simp [Instr.slice, Instr.sliceBounds, run_underlying hu, i0, i1, h, sizeOf, typeInfo, hie, hsz, go_sem]
theorem tail_ents {w w' : World} {b off n c k : Nat} {L : List Ent} (h : Ents w (some ⟨b, off, none⟩) L) (hn : L.length = n) (hc : n ≤ c) (hk : k ≤ n) (hb : Below w.heap.size w w') : ∀ ad, some (tailE b off c k) = some ad → ∀ j u, (el ((L.drop k).take (n - k)))[j]? = some u → w'.cell? (ad.add j) = some u := by
  intro ad had j u hu
  obtain rfl : tailE b off c k = ad := Option.some.inj had
  unfold tailE
  by_cases e : c = k
  · have : n - k = 0 := by omega
    rw [this, List.take_zero] at hu
    simp [el] at hu
  · rw [if_neg e]
    exact ents_part h hb k (n - k) (by omega) j u hu
theorem head_ents {w w' : World} {b k : Nat} {L : List Ent} (h : Ents w (some ⟨b, 0, none⟩) L) (hk : k ≤ L.length) (hb : Below w.heap.size w w') : ∀ ad, some (⟨b, 0, none⟩ : Addr) = some ad → ∀ j u, (el (L.take k))[j]? = some u → w'.cell? (ad.add j) = some u := by
  intro ad had j u hu
  obtain rfl : (⟨b, 0, none⟩ : Addr) = ad := Option.some.inj had
  have := ents_part h hb 0 k (by omega) j u (by rw [List.drop_zero]; exact hu)
  exact this
theorem cells7' (w : World) (x : Ent) : ∀ ad, some (⟨w.heap.size, 0, none⟩ : Addr) = some ad → ∀ j u, (el [x])[j]? = some u → (w.alloc (.cells #[.int .i64 x.n, .int .u8 x.ki, .int .u32 x.nu, .int .u64 x.ep, .int .i64 x.si, .slice x.a x.q x.c, .bool x.late] 96)).cell? (ad.add j) = some u := by
  intro ad had j u hu
  obtain rfl : (⟨w.heap.size, 0, none⟩ : Addr) = ad := Option.some.inj had
  exact cells7 w x j u (by simpa [el] using hu)
theorem cells7'' {w wA : World} {x : Ent} (hg : ((w.alloc (.cells #[.int .i64 x.n, .int .u8 x.ki, .int .u32 x.nu, .int .u64 x.ep, .int .i64 x.si, .slice x.a x.q x.c, .bool x.late] 96)).drew).grownBy wA (Value.slice none 0 0).ownBlock) : ∀ ad, some (⟨w.heap.size, 0, none⟩ : Addr) = some ad → ∀ j u, (el [x])[j]? = some u → wA.cell? (ad.add j) = some u := by
  intro ad had j u hu
  have h := cells7' w x ad had j u hu
  obtain rfl : (⟨w.heap.size, 0, none⟩ : Addr) = ad := Option.some.inj had
  rw [show (⟨w.heap.size, 0, none⟩ : Addr).add j = ⟨w.heap.size, j, none⟩ from by simp [Addr.add]; omega] at h ⊢
  have h2 : ((w.alloc (.cells #[.int .i64 x.n, .int .u8 x.ki, .int .u32 x.nu, .int .u64 x.ep, .int .i64 x.si, .slice x.a x.q x.c, .bool x.late] 96)).drew).cell? ⟨w.heap.size, j, none⟩ = some u := h
  rw [hg.cell h2 (by simp [Value.ownBlock])]
theorem own_nil_at {w : World} {B m cap : Nat} {ao : Option Addr} {M : List Ent} (h : OwnE w B (.slice ao m cap) m M) : (ao = none ∧ m = 0 ∧ cap = 0) ∨ ∃ b, ao = some ⟨b, 0, none⟩ := by
  rcases h.2 with ⟨e, h0⟩ | ⟨g, c2, cur, e, _⟩
  · simp at e
    exact .inl ⟨e.1, h0, e.2.2⟩
  · simp at e
    exact .inr ⟨g, e.1⟩
theorem with_done {w : World} {B m k : Nat} {v : Value} {M : List Ent} {e : Ent} (h : OwnE w B v (0 + k + 1 + (m - k)) ([] ++ M.take k ++ [e] ++ (M.drop k).take (m - k))) (hn : M.length = m) (hi : M.take k ++ [e] ++ M.drop k = ins M e) : OwnE w B v (ins M e).length (ins M e) := by
  have e1 : (M.drop k).take (m - k) = M.drop k := List.take_of_length_le (by rw [List.length_drop]; omega)
  rw [e1, List.nil_append, hi] at h
  have hl := h.1
  rw [el_len] at hl
  have e2 : (ins M e).length = 0 + k + 1 + (m - k) := by omega
  rw [e2]
  exact h
theorem below_dn {n : Nat} {w w' : World} (h : Below n w w') (q : Nat) : Below n w (w'.drewN q) := ⟨h.os, h.tape, h.output, h.size, h.block⟩
/-- an entry's box -/
structure BoxE (w : World) (g : Nat) (x : Ent) : Prop where
  f0 : w.cell? ⟨g, 0, none⟩ = some (.int .i64 x.n)
  f1 : w.cell? ⟨g, 1, none⟩ = some (.int .u8 x.ki)
  f2 : w.cell? ⟨g, 2, none⟩ = some (.int .u32 x.nu)
  f3 : w.cell? ⟨g, 3, none⟩ = some (.int .u64 x.ep)
  f4 : w.cell? ⟨g, 4, none⟩ = some (.int .i64 x.si)
  f5 : w.cell? ⟨g, 5, none⟩ = some (.slice x.a x.q x.c)
  f6 : w.cell? ⟨g, 6, none⟩ = some (.bool x.late)
theorem boxE_new (w : World) (x : Ent) : BoxE (w.alloc (.cells #[.int .i64 x.n, .int .u8 x.ki, .int .u32 x.nu, .int .u64 x.ep, .int .i64 x.si, .slice x.a x.q x.c, .bool x.late] 96)) w.heap.size x :=
  ⟨cell_of_row _ _ 0 _ _ _ (heap_alloc_new w _), cell_of_row _ _ 1 _ _ _ (heap_alloc_new w _), cell_of_row _ _ 2 _ _ _ (heap_alloc_new w _), cell_of_row _ _ 3 _ _ _ (heap_alloc_new w _), cell_of_row _ _ 4 _ _ _ (heap_alloc_new w _), cell_of_row _ _ 5 _ _ _ (heap_alloc_new w _), cell_of_row _ _ 6 _ _ _ (heap_alloc_new w _)⟩
theorem BoxE.same {w w' : World} {g : Nat} {x : Ent} (h : BoxE w g x) (hb : w'.heap[g]? = w.heap[g]?) : BoxE w' g x :=
  ⟨(World.cell?_of_block hb).trans h.f0, (World.cell?_of_block hb).trans h.f1, (World.cell?_of_block hb).trans h.f2, (World.cell?_of_block hb).trans h.f3, (World.cell?_of_block hb).trans h.f4, (World.cell?_of_block hb).trans h.f5, (World.cell?_of_block hb).trans h.f6⟩
theorem BoxE.lt {w : World} {g : Nat} {x : Ent} (h : BoxE w g x) : g < w.heap.size := World.block_lt_of_cell? w _ h.f0
/-- the seven cells at once -/
def Cells7 (w : World) (g : Nat) (x : Ent) : Prop := w.cell? ⟨g, 0, none⟩ = some (.int .i64 x.n) ∧ w.cell? ⟨g, 1, none⟩ = some (.int .u8 x.ki) ∧ w.cell? ⟨g, 2, none⟩ = some (.int .u32 x.nu) ∧ w.cell? ⟨g, 3, none⟩ = some (.int .u64 x.ep) ∧ w.cell? ⟨g, 4, none⟩ = some (.int .i64 x.si) ∧ w.cell? ⟨g, 5, none⟩ = some (.slice x.a x.q x.c) ∧ w.cell? ⟨g, 6, none⟩ = some (.bool x.late)
theorem BoxE.all {w : World} {g : Nat} {x : Ent} (h : BoxE w g x) : Cells7 w g x := ⟨h.f0, h.f1, h.f2, h.f3, h.f4, h.f5, h.f6⟩
set_option maxRecDepth 100000 in
set_option maxHeartbeats 2000000 in
theorem with_ref (a : Option Addr) (n c : Nat) (L : List Ent) (e : Ent) (w : World) (ha : Ents w a L) (hn : L.length = n) (hm : n ≤ 1000) :
    Calls Tryz.prog 81 #[.slice a n c, e.val] w (NewE w (ins (wo L e.n) e)) := by
  have HA := Lib.hid (ha.below (Sm.alX w (.cells #[.int .i64 e.n, .int .u8 e.ki, .int .u32 e.nu, .int .u64 e.ep, .int .i64 e.si, .slice e.a e.q e.c, .bool e.late] 96)))
  have HB0 := Lib.hid (Sm.alX w (.cells #[.int .i64 e.n, .int .u8 e.ki, .int .u32 e.nu, .int .u64 e.ep, .int .i64 e.si, .slice e.a e.q e.c, .bool e.late] 96))
  have HL := Lib.hid hn
  have HX := Lib.hid (boxE_new w e)
  have HML := Lib.hid (show (wo L e.n).length ≤ 1000 from Nat.le_trans (wo_len _ _) (by omega))
  have x0 := HX.out.f0
  unfold Ent.val
  clear ha hn
  go_enter Tryz.func81, Tryz.ntmps81
  go_wp2_with fail
  refine (without_ref a n c L e.n _ HA.out HL.out hm).mono ?_
  rintro e' w1 ⟨v, rfl, hown, hb⟩
  have HO := Lib.hid hown
  have HX1 := Lib.hid (HX.out.same (hb.block _ HX.out.lt))
  have HB1 := Lib.hid (HB0.out.trans (hb.mono HB0.out.size))
  have HSZ := Lib.hid (show w.heap.size < w1.heap.size from Nat.lt_of_lt_of_le HX.out.lt hb.size)
  clear hown hb x0 HA HX
  generalize hMW : wo L e.n = M at HO HML ⊢
  have HMW := Lib.hid hMW
  clear hMW
  obtain ⟨m, hmM⟩ : ∃ m, m = M.length := ⟨_, rfl⟩
  rw [← hmM] at HO HML
  have HM := Lib.hid hmM.symm
  clear hmM
  obtain ⟨ao, cap, rfl, hen, hcap, hcap2, _, hlo⟩ := own_ents HO.out
  have HEN := Lib.hid hen
  have HLO := Lib.hid hlo
  clear hen hlo
  go_wp2_with fail
  go_loopw [5] (fun i wr => ∃ k q : Nat, k ≤ m ∧ i = .int .i64 k ∧ Hid (∀ i (h : i < M.length), i < k → M[i].n < e.n) ∧ Hid (wr = w1.drewN q)) (fun i _ => m - (intOf i).toNat)
  case atStart => exact ⟨0, 0, by omega, rfl, Lib.hid (fun i _ h => absurd h (by omega)), Lib.hid rfl⟩
  case round =>
    obtain ⟨k, q, hk, rfl, HLT, hwr⟩ := hrel
    have hwr' := hwr.out
    clear hwr
    subst hwr'
    have f0 := HX1.out.f0
    have k0 : (0 : Int) ≤ (k : Int) := by omega
    by_cases hgo : k < m ∧ ∃ h : k < M.length, M[k].n < e.n
    · obtain ⟨hlt, hkM, he⟩ := hgo
      obtain ⟨b, off, rfl, hr⟩ := HEN.out k hkM
      have c0 : w1.cell? ⟨b, off + k * 7, none⟩ = some (.int .i64 M[k].n) := hr 0 _ rfl
      have k1 : (k : Int) < (m : Int) := by omega
      clear hr
      have HLT2 := Lib.hid (show ∀ i (h : i < M.length), i < k + 1 → M[i].n < e.n from fun i h hi => by
        by_cases q : i < k
        · exact HLT.out i h q
        · obtain rfl : i = k := by omega
          exact he)
      generalize M[k].n = y at c0 he
      go_wp2_with fail
      go_quiet (fail)
      go_wp2
      go_roundw
      case rel => exact ⟨k + 1, q + nq, by omega, by go_num, HLT2, Lib.hid rfl⟩
      case measure => simp [intOf]; omega
    · have HIN := Lib.hid (ins_at (by rw [HM.out]; exact hk) HLT.out (by
        by_cases h : k < M.length
        · exact .inr ⟨h, fun he => hgo ⟨by rw [← HM.out]; exact h, h, he⟩⟩
        · exact .inl (by have := HM.out; omega)))
      have HC := Lib.hid (show (k = m) ∨ (k < m ∧ ∃ b off y, ao = some ⟨b, off, none⟩ ∧ w1.cell? ⟨b, off + k * 7, none⟩ = some (.int .i64 y) ∧ ¬ y < e.n) by
        by_cases h : k < m
        · have hkM : k < M.length := by rw [HM.out]; exact h
          obtain ⟨b, off, ha, hr⟩ := HEN.out k hkM
          exact .inr ⟨h, b, off, M[k].n, ha, hr 0 _ rfl, fun he => hgo ⟨h, hkM, he⟩⟩
        · exact .inl (by omega))
      clear hgo
      have hk0 : k ≤ m := hk
      rcases own_nil_at HO.out with ⟨hao, hm0, hc0⟩ | ⟨b0, hao⟩
      · subst hao hm0 hc0
        have hk1 : k = 0 := by omega
        subst hk1
        have hM0 : M = [] := List.length_eq_zero_iff.1 HM.out
        subst hM0
        have HIE := Lib.hid (show ins [] e = [e] from rfl)
        clear HC HIN HLT
        go_wp2_with fail
        go_quiet (fail)
        go_upto_region 6 with (fail)
        have HX2 := Lib.hid (show BoxE ((w1.drewN q).drewN nq) w.heap.size e from HX1.out.same rfl)
        have HB2 := Lib.hid (show Below w.heap.size w ((w1.drewN q).drewN nq) from below_dn (below_dn HB1.out q) nq)
        have HS2 := Lib.hid (show w.heap.size < ((w1.drewN q).drewN nq).heap.size from HSZ.out)
        clear HX1 HEN HB1 HSZ HO HLO
        generalize (w1.drewN q).drewN nq = w2 at HX2 HB2 HS2 ⊢
        have hs2 := HS2.out
        have hb1 : Below w2.heap.size w2 w2.drew := (Below.refl _ _).drew
        have hb2 : Below w2.heap.size w2 ((w2.alloc (.cells #[.int .i64 e.n, .int .u8 e.ki, .int .u32 e.nu, .int .u64 e.ep, .int .i64 e.si, .slice e.a e.q e.c, .bool e.late] 96)).drew) := ((Below.refl _ _).alloc (Nat.le_refl _) _).drew
        have KA := Lib.hid HX2.out.all
        have KD := Lib.hid (show Cells7 w2.drew w.heap.size e from HX2.out.all)
        have KG := Lib.hid (show Cells7 (w2.alloc (.cells #[.int .i64 e.n, .int .u8 e.ki, .int .u32 e.nu, .int .u64 e.ep, .int .i64 e.si, .slice e.a e.q e.c, .bool e.late] 96)) w.heap.size e from (HX2.out.same (((Below.refl _ _).alloc (Nat.le_refl _) _ : Below w2.heap.size w2 (w2.alloc (.cells #[.int .i64 e.n, .int .u8 e.ki, .int .u32 e.nu, .int .u64 e.ep, .int .i64 e.si, .slice e.a e.q e.c, .bool e.late] 96))).block w.heap.size HX2.out.lt)).all)
        have KJ := Lib.hid (show Cells7 ((w2.alloc (.cells #[.int .i64 e.n, .int .u8 e.ki, .int .u32 e.nu, .int .u64 e.ep, .int .i64 e.si, .slice e.a e.q e.c, .bool e.late] 96)).drew) w.heap.size e from KG.out)
        unfold Cells7 at KA KD KG KJ
        go_region_held3 (fun w' => w'.cell? ⟨w.heap.size, 0, none⟩ = some (.int .i64 e.n) ∧ w'.cell? ⟨w.heap.size, 1, none⟩ = some (.int .u8 e.ki) ∧ w'.cell? ⟨w.heap.size, 2, none⟩ = some (.int .u32 e.nu) ∧ w'.cell? ⟨w.heap.size, 3, none⟩ = some (.int .u64 e.ep) ∧ w'.cell? ⟨w.heap.size, 4, none⟩ = some (.int .i64 e.si) ∧ w'.cell? ⟨w.heap.size, 5, none⟩ = some (.slice e.a e.q e.c) ∧ w'.cell? ⟨w.heap.size, 6, none⟩ = some (.bool e.late)) (first | with_reducible exact KD.out | with_reducible exact KA.out | with_reducible exact KE.out | with_reducible exact KF.out | with_reducible exact KG.out | with_reducible exact KJ.out | with_reducible exact KH.out | with_reducible exact KI.out) (first | (refine step_appE rfl (.tmp 27) (.tmp 30) rfl w2.heap.size 0 (.slice none 0 0) [] rfl (World.ownsRow_nil _ _ _ _) none 0 0 [] rfl rfl (fun _ => rfl) (fun _ q => by cases q) (by omega) (by simp) ?_; intro vA wA hoA hgA; have hbA := Below.grown (by assumption) hgA (by simp) (by intro k hk; cases hk); have KE := Lib.hid (HX2.out.same (hbA.block w.heap.size HX2.out.lt)).all; have KF := Lib.hid (HX2.out.same ((hbA.alloc hbA.size (.cells #[.int .i64 e.n, .int .u8 e.ki, .int .u32 e.nu, .int .u64 e.ep, .int .i64 e.si, .slice e.a e.q e.c, .bool e.late] 96)).block w.heap.size HX2.out.lt)).all; unfold Cells7 at KE KF) | (refine step_appE rfl (.tmp 31) (.tmp 33) rfl w2.heap.size (0 + 0) vA _ rfl (hoA.alloc _) (some ⟨wA.heap.size, 0, none⟩) 1 1 [e] rfl rfl (fun q => by cases q) (cells7' wA e) (by omega) (by have := hbA.size; simp; omega) ?_; intro vB wB hoB hgB; have hbB := Below.grown (hbA.alloc hbA.size (.cells #[.int .i64 e.n, .int .u8 e.ki, .int .u32 e.nu, .int .u64 e.ep, .int .i64 e.si, .slice e.a e.q e.c, .bool e.late] 96)) hgB (by have := hbA.size; simp; omega) (fun k hk => (hoA.lt k hk).1); have KH := Lib.hid (HX2.out.same (hbB.block w.heap.size HX2.out.lt)).all; unfold Cells7 at KH) | (refine step_appE rfl (.tmp 31) (.tmp 33) rfl w2.heap.size (0 + 0) vA _ rfl hoA (some ⟨w2.heap.size, 0, none⟩) 1 1 [e] rfl rfl (fun q => by cases q) (cells7'' hgA) (by omega) (by have := hbA.size; omega) ?_; intro vB wB hoB hgB; have hbB := Below.grown hbA hgB hbA.size (fun k hk => (hoA.lt k hk).1); have KH := Lib.hid (HX2.out.same (hbB.block w.heap.size HX2.out.lt)).all; unfold Cells7 at KH) | (refine step_appE rfl (.tmp 34) (.tmp 37) rfl w2.heap.size (0 + 0 + 1) vB _ rfl hoB none 0 0 [] rfl rfl (fun _ => rfl) (fun _ q => by cases q) (by omega) (by have := hbB.size; omega) ?_; intro vC wC hoC hgC; have hbC := Below.grown hbB hgC hbB.size (fun k hk => (hoB.lt k hk).1); have KI := Lib.hid (HX2.out.same (hbC.block w.heap.size HX2.out.lt)).all; unfold Cells7 at KI))
        all_goals have HOC := Lib.hid (show OwnE wC w2.heap.size vC (ins [] e).length (ins [] e) by rw [HIE.out]; exact hoC)
        all_goals have HBC := Lib.hid (HB2.out.trans (hbC.mono (by omega)))
        all_goals have HZC := Lib.hid (show w.heap.size ≤ w2.heap.size by omega)
        all_goals clear hoC hgC hoA hgA hoB hgB hbA hbB hbC KA KD KE KG KJ KH KI
        all_goals obtain ⟨ao', cap', rfl, _⟩ := own_ents HOC.out
        all_goals go_wp2
        all_goals go_ret
        all_goals rw [HMW.out]
        all_goals exact ⟨.slice ao' (ins [] e).length cap', rfl, Sm.own_mono HOC.out HZC.out, HBC.out⟩
      · subst hao
        rcases HC.out with h | ⟨h, b, off, y, hao, c0, hy⟩
        case inl =>
          have k1 : ¬ k < m := by omega
          clear h
          go_wp2_with fail
          go_quiet (fail)
          go_upto_region 6 with (fail)
          have HKZ := Lib.hid hk0
          have HX2 := Lib.hid (show BoxE ((w1.drewN q).drewN nq) w.heap.size e from HX1.out.same rfl)
          have HE2 := Lib.hid (show Ents ((w1.drewN q).drewN nq) (some ⟨b0, 0, none⟩) M from HEN.out.same fun _ _ _ => rfl)
          have HB2 := Lib.hid (show Below w.heap.size w ((w1.drewN q).drewN nq) from below_dn (below_dn HB1.out q) nq)
          have HS2 := Lib.hid (show w.heap.size < ((w1.drewN q).drewN nq).heap.size from HSZ.out)
          clear HX1 HEN HB1 HSZ HO HLO HC k1
          generalize (w1.drewN q).drewN nq = w2 at HX2 HE2 HB2 HS2 ⊢
          have hm1 := HML.out
          have hs2 := HS2.out
          have hMl := HM.out
          have ht := tail_e b0 0 m cap k hk0
          have j0 : (0 : Int) ≤ (k : Int) := by omega
          have j1 : (k : Int) ≤ (cap : Int) := by omega
          have hb1 : Below w2.heap.size w2 w2.drew := (Below.refl _ _).drew
          have hb2 : Below w2.heap.size w2 ((w2.alloc (.cells #[.int .i64 e.n, .int .u8 e.ki, .int .u32 e.nu, .int .u64 e.ep, .int .i64 e.si, .slice e.a e.q e.c, .bool e.late] 96)).drew) := ((Below.refl _ _).alloc (Nat.le_refl _) _).drew
          have HL1 := Lib.hid (show (M.take k).length = k by rw [List.length_take]; omega)
          have HL2 := Lib.hid (show ((M.drop k).take (m - k)).length = m - k by rw [List.length_take, List.length_drop]; omega)
          have KA := Lib.hid HX2.out.all
          have KD := Lib.hid (show Cells7 w2.drew w.heap.size e from HX2.out.all)
          have KG := Lib.hid (show Cells7 (w2.alloc (.cells #[.int .i64 e.n, .int .u8 e.ki, .int .u32 e.nu, .int .u64 e.ep, .int .i64 e.si, .slice e.a e.q e.c, .bool e.late] 96)) w.heap.size e from (HX2.out.same (((Below.refl _ _).alloc (Nat.le_refl _) _ : Below w2.heap.size w2 (w2.alloc (.cells #[.int .i64 e.n, .int .u8 e.ki, .int .u32 e.nu, .int .u64 e.ep, .int .i64 e.si, .slice e.a e.q e.c, .bool e.late] 96))).block w.heap.size HX2.out.lt)).all)
          have KJ := Lib.hid (show Cells7 ((w2.alloc (.cells #[.int .i64 e.n, .int .u8 e.ki, .int .u32 e.nu, .int .u64 e.ep, .int .i64 e.si, .slice e.a e.q e.c, .bool e.late] 96)).drew) w.heap.size e from KG.out)
          unfold Cells7 at KA KD KG KJ
          clear hMl
          go_region_held3 (fun w' => w'.cell? ⟨w.heap.size, 0, none⟩ = some (.int .i64 e.n) ∧ w'.cell? ⟨w.heap.size, 1, none⟩ = some (.int .u8 e.ki) ∧ w'.cell? ⟨w.heap.size, 2, none⟩ = some (.int .u32 e.nu) ∧ w'.cell? ⟨w.heap.size, 3, none⟩ = some (.int .u64 e.ep) ∧ w'.cell? ⟨w.heap.size, 4, none⟩ = some (.int .i64 e.si) ∧ w'.cell? ⟨w.heap.size, 5, none⟩ = some (.slice e.a e.q e.c) ∧ w'.cell? ⟨w.heap.size, 6, none⟩ = some (.bool e.late)) (first | with_reducible exact KD.out | with_reducible exact KA.out | with_reducible exact KE.out | with_reducible exact KF.out | with_reducible exact KG.out | with_reducible exact KJ.out | with_reducible exact KH.out | with_reducible exact KI.out) (first | (refine step_appE rfl (.tmp 27) (.tmp 30) rfl w2.heap.size 0 (.slice none 0 0) [] rfl (World.ownsRow_nil _ _ _ _) (some ⟨b0, 0, none⟩) k cap (M.take k) rfl HL1.out (fun q => by cases q) (head_ents HE2.out (by omega) (by assumption)) (by omega) (by simp) ?_; intro vA wA hoA hgA; have hbA := Below.grown (by assumption) hgA (by simp) (by intro k hk; cases hk); have KE := Lib.hid (HX2.out.same (hbA.block w.heap.size HX2.out.lt)).all; have KF := Lib.hid (HX2.out.same ((hbA.alloc hbA.size (.cells #[.int .i64 e.n, .int .u8 e.ki, .int .u32 e.nu, .int .u64 e.ep, .int .i64 e.si, .slice e.a e.q e.c, .bool e.late] 96)).block w.heap.size HX2.out.lt)).all; unfold Cells7 at KE KF) | (refine step_appE rfl (.tmp 31) (.tmp 33) rfl w2.heap.size (0 + k) vA _ rfl (hoA.alloc _) (some ⟨wA.heap.size, 0, none⟩) 1 1 [e] rfl rfl (fun q => by cases q) (cells7' wA e) (by omega) (by have := hbA.size; simp; omega) ?_; intro vB wB hoB hgB; have hbB := Below.grown (hbA.alloc hbA.size (.cells #[.int .i64 e.n, .int .u8 e.ki, .int .u32 e.nu, .int .u64 e.ep, .int .i64 e.si, .slice e.a e.q e.c, .bool e.late] 96)) hgB (by have := hbA.size; simp; omega) (fun k hk => (hoA.lt k hk).1); have KH := Lib.hid (HX2.out.same (hbB.block w.heap.size HX2.out.lt)).all; unfold Cells7 at KH) | (refine step_appE rfl (.tmp 31) (.tmp 33) rfl w2.heap.size (0 + k) vA _ rfl hoA (some ⟨w2.heap.size, 0, none⟩) 1 1 [e] rfl rfl (fun q => by cases q) (cells7'' hgA) (by omega) (by have := hbA.size; omega) ?_; intro vB wB hoB hgB; have hbB := Below.grown hbA hgB hbA.size (fun k hk => (hoA.lt k hk).1); have KH := Lib.hid (HX2.out.same (hbB.block w.heap.size HX2.out.lt)).all; unfold Cells7 at KH) | (refine step_appE rfl (.tmp 34) (.tmp 37) rfl w2.heap.size (0 + k + 1) vB _ rfl hoB (some (tailE b0 0 cap k)) (m - k) (cap - k) ((M.drop k).take (m - k)) rfl HL2.out (fun q => by cases q) (tail_ents HE2.out HM.out hcap HKZ.out hbB) (by omega) (by have := hbB.size; omega) ?_; intro vC wC hoC hgC; have hbC := Below.grown hbB hgC hbB.size (fun k hk => (hoB.lt k hk).1); have KI := Lib.hid (HX2.out.same (hbC.block w.heap.size HX2.out.lt)).all; unfold Cells7 at KI))
          all_goals have HOC := Lib.hid (with_done hoC HM.out HIN.out)
          all_goals have HBC := Lib.hid (HB2.out.trans (hbC.mono (by omega)))
          all_goals have HZC := Lib.hid (show w.heap.size ≤ w2.heap.size by omega)
          all_goals clear hoC hgC hoA hgA hoB hgB hbA hbB hbC KA KD KE KG KJ KH KI ht
          all_goals obtain ⟨ao', cap', rfl, _⟩ := own_ents HOC.out
          all_goals go_wp2
          all_goals go_ret
          all_goals rw [HMW.out]
          all_goals exact ⟨.slice ao' (ins M e).length cap', rfl, Sm.own_mono HOC.out HZC.out, HBC.out⟩
        case inr =>
          obtain ⟨rfl, rfl⟩ : b0 = b ∧ 0 = off := by simpa using hao
          rw [Nat.zero_add] at c0
          have k1 : (k : Int) < (m : Int) := by omega
          clear hao
          go_wp2_with fail
          go_quiet (fail)
          go_upto_region 6 with (fail)
          have HKZ := Lib.hid hk0
          have HX2 := Lib.hid (show BoxE ((w1.drewN q).drewN nq) w.heap.size e from HX1.out.same rfl)
          have HE2 := Lib.hid (show Ents ((w1.drewN q).drewN nq) (some ⟨b0, 0, none⟩) M from HEN.out.same fun _ _ _ => rfl)
          have HB2 := Lib.hid (show Below w.heap.size w ((w1.drewN q).drewN nq) from below_dn (below_dn HB1.out q) nq)
          have HS2 := Lib.hid (show w.heap.size < ((w1.drewN q).drewN nq).heap.size from HSZ.out)
          clear HX1 HEN HB1 HSZ HO HLO HC k1 h c0 hy
          generalize (w1.drewN q).drewN nq = w2 at HX2 HE2 HB2 HS2 ⊢
          have hm1 := HML.out
          have hs2 := HS2.out
          have hMl := HM.out
          have ht := tail_e b0 0 m cap k hk0
          have j0 : (0 : Int) ≤ (k : Int) := by omega
          have j1 : (k : Int) ≤ (cap : Int) := by omega
          have hb1 : Below w2.heap.size w2 w2.drew := (Below.refl _ _).drew
          have hb2 : Below w2.heap.size w2 ((w2.alloc (.cells #[.int .i64 e.n, .int .u8 e.ki, .int .u32 e.nu, .int .u64 e.ep, .int .i64 e.si, .slice e.a e.q e.c, .bool e.late] 96)).drew) := ((Below.refl _ _).alloc (Nat.le_refl _) _).drew
          have HL1 := Lib.hid (show (M.take k).length = k by rw [List.length_take]; omega)
          have HL2 := Lib.hid (show ((M.drop k).take (m - k)).length = m - k by rw [List.length_take, List.length_drop]; omega)
          have KA := Lib.hid HX2.out.all
          have KD := Lib.hid (show Cells7 w2.drew w.heap.size e from HX2.out.all)
          have KG := Lib.hid (show Cells7 (w2.alloc (.cells #[.int .i64 e.n, .int .u8 e.ki, .int .u32 e.nu, .int .u64 e.ep, .int .i64 e.si, .slice e.a e.q e.c, .bool e.late] 96)) w.heap.size e from (HX2.out.same (((Below.refl _ _).alloc (Nat.le_refl _) _ : Below w2.heap.size w2 (w2.alloc (.cells #[.int .i64 e.n, .int .u8 e.ki, .int .u32 e.nu, .int .u64 e.ep, .int .i64 e.si, .slice e.a e.q e.c, .bool e.late] 96))).block w.heap.size HX2.out.lt)).all)
          have KJ := Lib.hid (show Cells7 ((w2.alloc (.cells #[.int .i64 e.n, .int .u8 e.ki, .int .u32 e.nu, .int .u64 e.ep, .int .i64 e.si, .slice e.a e.q e.c, .bool e.late] 96)).drew) w.heap.size e from KG.out)
          unfold Cells7 at KA KD KG KJ
          clear hMl
          go_region_held3 (fun w' => w'.cell? ⟨w.heap.size, 0, none⟩ = some (.int .i64 e.n) ∧ w'.cell? ⟨w.heap.size, 1, none⟩ = some (.int .u8 e.ki) ∧ w'.cell? ⟨w.heap.size, 2, none⟩ = some (.int .u32 e.nu) ∧ w'.cell? ⟨w.heap.size, 3, none⟩ = some (.int .u64 e.ep) ∧ w'.cell? ⟨w.heap.size, 4, none⟩ = some (.int .i64 e.si) ∧ w'.cell? ⟨w.heap.size, 5, none⟩ = some (.slice e.a e.q e.c) ∧ w'.cell? ⟨w.heap.size, 6, none⟩ = some (.bool e.late)) (first | with_reducible exact KD.out | with_reducible exact KA.out | with_reducible exact KE.out | with_reducible exact KF.out | with_reducible exact KG.out | with_reducible exact KJ.out | with_reducible exact KH.out | with_reducible exact KI.out) (first | (refine step_appE rfl (.tmp 27) (.tmp 30) rfl w2.heap.size 0 (.slice none 0 0) [] rfl (World.ownsRow_nil _ _ _ _) (some ⟨b0, 0, none⟩) k cap (M.take k) rfl HL1.out (fun q => by cases q) (head_ents HE2.out (by omega) (by assumption)) (by omega) (by simp) ?_; intro vA wA hoA hgA; have hbA := Below.grown (by assumption) hgA (by simp) (by intro k hk; cases hk); have KE := Lib.hid (HX2.out.same (hbA.block w.heap.size HX2.out.lt)).all; have KF := Lib.hid (HX2.out.same ((hbA.alloc hbA.size (.cells #[.int .i64 e.n, .int .u8 e.ki, .int .u32 e.nu, .int .u64 e.ep, .int .i64 e.si, .slice e.a e.q e.c, .bool e.late] 96)).block w.heap.size HX2.out.lt)).all; unfold Cells7 at KE KF) | (refine step_appE rfl (.tmp 31) (.tmp 33) rfl w2.heap.size (0 + k) vA _ rfl (hoA.alloc _) (some ⟨wA.heap.size, 0, none⟩) 1 1 [e] rfl rfl (fun q => by cases q) (cells7' wA e) (by omega) (by have := hbA.size; simp; omega) ?_; intro vB wB hoB hgB; have hbB := Below.grown (hbA.alloc hbA.size (.cells #[.int .i64 e.n, .int .u8 e.ki, .int .u32 e.nu, .int .u64 e.ep, .int .i64 e.si, .slice e.a e.q e.c, .bool e.late] 96)) hgB (by have := hbA.size; simp; omega) (fun k hk => (hoA.lt k hk).1); have KH := Lib.hid (HX2.out.same (hbB.block w.heap.size HX2.out.lt)).all; unfold Cells7 at KH) | (refine step_appE rfl (.tmp 31) (.tmp 33) rfl w2.heap.size (0 + k) vA _ rfl hoA (some ⟨w2.heap.size, 0, none⟩) 1 1 [e] rfl rfl (fun q => by cases q) (cells7'' hgA) (by omega) (by have := hbA.size; omega) ?_; intro vB wB hoB hgB; have hbB := Below.grown hbA hgB hbA.size (fun k hk => (hoA.lt k hk).1); have KH := Lib.hid (HX2.out.same (hbB.block w.heap.size HX2.out.lt)).all; unfold Cells7 at KH) | (refine step_appE rfl (.tmp 34) (.tmp 37) rfl w2.heap.size (0 + k + 1) vB _ rfl hoB (some (tailE b0 0 cap k)) (m - k) (cap - k) ((M.drop k).take (m - k)) rfl HL2.out (fun q => by cases q) (tail_ents HE2.out HM.out hcap HKZ.out hbB) (by omega) (by have := hbB.size; omega) ?_; intro vC wC hoC hgC; have hbC := Below.grown hbB hgC hbB.size (fun k hk => (hoB.lt k hk).1); have KI := Lib.hid (HX2.out.same (hbC.block w.heap.size HX2.out.lt)).all; unfold Cells7 at KI))
          all_goals have HOC := Lib.hid (with_done hoC HM.out HIN.out)
          all_goals have HBC := Lib.hid (HB2.out.trans (hbC.mono (by omega)))
          all_goals have HZC := Lib.hid (show w.heap.size ≤ w2.heap.size by omega)
          all_goals clear hoC hgC hoA hgA hoB hgB hbA hbB hbC KA KD KE KG KJ KH KI ht
          all_goals obtain ⟨ao', cap', rfl, _⟩ := own_ents HOC.out
          all_goals go_wp2
          all_goals go_ret
          all_goals rw [HMW.out]
          all_goals exact ⟨.slice ao' (ins M e).length cap', rfl, Sm.own_mono HOC.out HZC.out, HBC.out⟩
end Go.Proofs.YtlfkkakohldgnaaGreatDoor
namespace Go.Proofs.YtlfkkakohldgnaaGreatDoor
open Go.RowKit

/-- the document's shadow -/
structure Rf where
  su : List Ent
  nw : List Ent
  sa : Option Addr
  sc : Nat
  na : Option Addr
  nc : Nat
  size : Int
  ep : Int
def Rf.val (r : Rf) : Value := .agg #[.slice r.sa r.su.length r.sc, .slice r.na r.nw.length r.nc, .int .i64 r.size, .int .i64 r.ep]
structure RfOk (r : Rf) : Prop where
  l1 : r.su.length ≤ 200
  l2 : r.nw.length ≤ 200
  b1 : ∀ x ∈ r.su, 0 ≤ x.n ∧ x.n < 15006
  b2 : ∀ x ∈ r.nw, 0 ≤ x.n ∧ x.n < 15006
  s0 : 0 ≤ r.size
  s1 : r.size ≤ 16384
  e0 : 0 ≤ r.ep
  e1 : r.ep ≤ 1000000
structure RfAt (w : World) (r : Rf) : Prop where
  s : Ents w r.sa r.su
  n : Ents w r.na r.nw
theorem RfAt.below {w w' : World} {r : Rf} (h : RfAt w r) (hb : Below w.heap.size w w') : RfAt w' r := ⟨h.s.below hb, h.n.below hb⟩
/-- how many of the first k are late -/
def lateN (L : List Ent) (k : Nat) : Nat := ((L.take k).filter fun x => x.late).length
theorem lateN_le (L : List Ent) (k : Nat) : lateN L k ≤ k := Nat.le_trans (List.length_filter_le _ _) (List.length_take_le _ _)
theorem lateN_next {L : List Ent} {k : Nat} (h : k < L.length) : lateN L (k + 1) = lateN L k + (if L[k].late = true then 1 else 0) := by
  unfold lateN
  rw [List.take_succ_eq_append_getElem h, List.filter_append, List.length_append]
  congr 1
  cases hl : L[k].late
  · simp [hl]
  · simp [hl]
def freeR (r : Rf) : Int := r.size - 2 - (r.su.length : Int) - tblsE r.su - (lateN r.nw r.nw.length : Int)
theorem tblsE_bd {L : List Ent} (h : ∀ x ∈ L, 0 ≤ x.n ∧ x.n < 15006) : 0 ≤ tblsE L ∧ tblsE L ≤ 122 := by
  unfold tblsE
  cases hl : L.getLast? with
  | none => simp
  | some x =>
    have := h x (List.mem_of_getLast? hl)
    simp only
    omega
/-- a box of the document's shadow -/
structure BoxR (w : World) (g : Nat) (r : Rf) : Prop where
  f0 : w.cell? ⟨g, 0, none⟩ = some (.slice r.sa r.su.length r.sc)
  f1 : w.cell? ⟨g, 1, none⟩ = some (.slice r.na r.nw.length r.nc)
  f2 : w.cell? ⟨g, 2, none⟩ = some (.int .i64 r.size)
  f3 : w.cell? ⟨g, 3, none⟩ = some (.int .i64 r.ep)
theorem boxR_new (w : World) (r : Rf) : BoxR (w.alloc (.cells #[.slice r.sa r.su.length r.sc, .slice r.na r.nw.length r.nc, .int .i64 r.size, .int .i64 r.ep] 36)) w.heap.size r :=
  ⟨cell_of_row _ _ 0 _ _ _ (heap_alloc_new w _), cell_of_row _ _ 1 _ _ _ (heap_alloc_new w _), cell_of_row _ _ 2 _ _ _ (heap_alloc_new w _), cell_of_row _ _ 3 _ _ _ (heap_alloc_new w _)⟩
theorem BoxR.same {w w' : World} {g : Nat} {r : Rf} (h : BoxR w g r) (hb : w'.heap[g]? = w.heap[g]?) : BoxR w' g r :=
  ⟨(World.cell?_of_block hb).trans h.f0, (World.cell?_of_block hb).trans h.f1, (World.cell?_of_block hb).trans h.f2, (World.cell?_of_block hb).trans h.f3⟩
theorem BoxR.lt {w : World} {g : Nat} {r : Rf} (h : BoxR w g r) : g < w.heap.size := World.block_lt_of_cell? w _ h.f0
set_option maxRecDepth 100000 in
set_option maxHeartbeats 2000000 in
theorem free_ref (r : Rf) (w : World) (h : RfAt w r) (ok : RfOk r) :
    Calls Tryz.prog 41 #[r.val] w fun e w' => e = .returned (.int .i64 (freeR r)) ∧ Below w.heap.size w w' := by
  have hb := Sm.alX w (.cells #[.slice r.sa r.su.length r.sc, .slice r.na r.nw.length r.nc, .int .i64 r.size, .int .i64 r.ep] 36)
  have HAT := Lib.hid (h.below hb)
  have HB := Lib.hid hb
  have HX := Lib.hid (boxR_new w r)
  have HOK := Lib.hid ok
  have s0 := ok.s0
  have s1 := ok.s1
  have l1 := ok.l1
  have l2 := ok.l2
  have ht := tblsE_bd ok.b1
  have t0 := ht.1
  have t1 := ht.2
  have HFR := Lib.hid (show freeR r = r.size - 2 - (r.su.length : Int) - tblsE r.su - (lateN r.nw r.nw.length : Int) from rfl)
  unfold Rf.val
  clear h ok hb ht
  go_enter Tryz.func41, Tryz.ntmps41
  go_upto_region 1 with (fail)
  generalize hw1 : w.alloc _ = w1 at HAT HB HX ⊢
  have f0 := HX.out.f0
  have f1 := HX.out.f1
  have f2 := HX.out.f2
  obtain ⟨n1, hn1⟩ : ∃ n, n = r.su.length := ⟨_, rfl⟩
  obtain ⟨n2, hn2⟩ : ∃ n, n = r.nw.length := ⟨_, rfl⟩
  have HN1 := Lib.hid hn1.symm
  have HN2 := Lib.hid hn2.symm
  rw [← hn1] at f0 HFR l1 ⊢
  rw [← hn2] at f1 HFR l2 ⊢
  have HTB := Lib.hid (show ∀ q, Calls Tryz.prog 63 #[.slice r.sa n1 r.sc] (w1.drewN q) fun e w' => e = .returned (.int .i64 (tblsE r.su)) ∧ w' = w1.drewN q from fun q => (tables_ref r.sa n1 r.sc r.su (w1.drewN q) (HAT.out.s.same (fun _ _ _ => rfl)) HN1.out (by omega) HOK.out.b1).mono fun _ _ ⟨a, b⟩ => ⟨a, b.symm⟩)
  generalize tblsE r.su = T at HTB t0 t1 HFR
  generalize r.size = z at f2 s0 s1 HFR ⊢
  have hs1 : IntKind.i64.wrap (z - 2) = z - 2 := IntWalk.i64_in _ ⟨by omega, by omega⟩
  have hs2 : IntKind.i64.wrap (z - 2 - (n1 : Int)) = z - 2 - (n1 : Int) := IntWalk.i64_in _ ⟨by omega, by omega⟩
  have hs3 : IntKind.i64.wrap (z - 2 - (n1 : Int) - T) = z - 2 - (n1 : Int) - T := IntWalk.i64_in _ ⟨by omega, by omega⟩
  clear hw1 hn1 hn2
  go_quiet ((go_at_call 63; exact Calls.quiet_of_same (HTB.out _)))
  clear hs1 hs2 hs3 f0 f2 HTB
  have HBQ := Lib.hid (show Below w.heap.size w (w1.drewN nq) from below_dn HB.out nq)
  go_wp2_with fail
  go_loop [3, 4] (fun v i => ∃ k : Nat, k ≤ n2 ∧ i = .int .i64 k ∧ v = .int .i64 (z - 2 - (n1 : Int) - T - (lateN r.nw k : Int))) (fun _ i => n2 - (intOf i).toNat)
  case atStart => exact ⟨0, by omega, rfl, by rw [show lateN r.nw 0 = 0 from rfl]; simp⟩
  case round =>
    obtain ⟨k, hk, rfl, rfl⟩ := hrel
    have hle := lateN_le r.nw k
    have k0 : (0 : Int) ≤ (k : Int) := by omega
    by_cases hlt : k < n2
    · have hkl : k < r.nw.length := by rw [HN2.out]; exact hlt
      obtain ⟨b, off, hna, hr⟩ := HAT.out.n k hkl
      have c6 : w1.cell? ⟨b, off + k * 7 + 6, none⟩ = some (.bool r.nw[k].late) := hr 6 _ rfl
      have HNX := Lib.hid (lateN_next hkl)
      rw [hna] at f1
      have k1 : (k : Int) < (n2 : Int) := by omega
      clear hr hna
      generalize r.nw[k].late = b' at c6 HNX
      have q0 : (0 : Int) ≤ (lateN r.nw k : Int) := by omega
      generalize hq : lateN r.nw k = Q at hle q0 HNX ⊢
      clear hq
      cases b' with
      | true =>
        go_wp2
        go_round
        case rel => exact ⟨k + 1, by omega, by go_num, by have := HNX.out; rw [this]; simp; omega⟩
        case measure => simp [intOf]; omega
      | false =>
        go_wp2
        go_round
        case rel => exact ⟨k + 1, by omega, by go_num, by have := HNX.out; rw [this]; simp⟩
        case measure => simp [intOf]; omega
    · obtain rfl : k = n2 := by omega
      go_wp2
      go_ret
      rw [HFR.out]
      exact ⟨rfl, HBQ.out⟩
end Go.Proofs.YtlfkkakohldgnaaGreatDoor
namespace Go.Proofs.YtlfkkakohldgnaaGreatDoor
open Go.RowKit

set_option maxRecDepth 100000 in
theorem abort_ref (r : Rf) (w : World) :
    Calls Tryz.prog 18 #[r.val] w fun e w' => e = .returned ({ r with nw := r.su, na := r.sa, nc := r.sc } : Rf).val ∧ Below w.heap.size w w' := by
  unfold Rf.val
  go_enter Tryz.func18, Tryz.ntmps18
  go_wp2
  refine bodyPost_ret (v := .agg #[.slice r.sa r.su.length r.sc, .slice r.sa r.su.length r.sc, .int .i64 r.size, .int .i64 r.ep]) (by simp [results, Tryz.results18, go_sem]) rfl ⟨rfl, ?_⟩
  exact ((Below.refl _ _).alloc (Nat.le_refl _) _).alloc (by simp) _
theorem row4_cells {w : World} {g : Nat} {v0 v1 v2 v3 : Value} {t : TypeId} (h : w.heap[g]? = some (.cells #[v0, v1, v2, v3] t (0, 0))) :
    (w.cell? ⟨g, 0, none⟩ = some v0 ∧ w.cell? ⟨g, 1, none⟩ = some v1 ∧ w.cell? ⟨g, 2, none⟩ = some v2 ∧ w.cell? ⟨g, 3, none⟩ = some v3) ∧ w.frozen? ⟨g, 0, none⟩ = false ∧ w.frozen? ⟨g, 1, none⟩ = false ∧ w.frozen? ⟨g, 2, none⟩ = false ∧ w.frozen? ⟨g, 3, none⟩ = false := by
  refine ⟨⟨?_, ?_, ?_, ?_⟩, frozen_of_row w g 0 _ _ h, frozen_of_row w g 1 _ _ h, frozen_of_row w g 2 _ _ h, frozen_of_row w g 3 _ _ h⟩ <;> (rw [cell_of_row w g _ _ _ _ h]; rfl)
theorem row_set4 {w : World} {g : Nat} {a0 a1 a2 a3 : Value} {t : TypeId} (h : w.heap[g]? = some (.cells #[a0, a1, a2, a3] t (0, 0))) (v0 v1 v2 v3 : Value) :
    ((((w.setCell ⟨g, 0, none⟩ v0).setCell ⟨g, 1, none⟩ v1).setCell ⟨g, 2, none⟩ v2).setCell ⟨g, 3, none⟩ v3).heap[g]? = some (.cells #[v0, v1, v2, v3] t (0, 0)) := by
  have h0 := heap_setCell_same w g 0 _ _ v0 h
  have h1 := heap_setCell_same _ g 1 _ _ v1 h0
  have h2 := heap_setCell_same _ g 2 _ _ v2 h1
  have h3 := heap_setCell_same _ g 3 _ _ v3 h2
  rw [h3]
  rfl
theorem heap_set4 (w : World) (g k : Nat) (v0 v1 v2 v3 : Value) (hk : k ≠ g) : ((((w.setCell ⟨g, 0, none⟩ v0).setCell ⟨g, 1, none⟩ v1).setCell ⟨g, 2, none⟩ v2).setCell ⟨g, 3, none⟩ v3).heap[k]? = w.heap[k]? := by
  rw [heap_setCell_other _ _ k _ hk, heap_setCell_other _ _ k _ hk, heap_setCell_other _ _ k _ hk, heap_setCell_other _ _ k _ hk]
theorem below_set4 {n : Nat} {w w1 : World} {g : Nat} (h : Below n w w1) (hg : n ≤ g) (v0 v1 v2 v3 : Value) : Below n w ((((w1.setCell ⟨g, 0, none⟩ v0).setCell ⟨g, 1, none⟩ v1).setCell ⟨g, 2, none⟩ v2).setCell ⟨g, 3, none⟩ v3) := (((h.setCell hg v0).setCell hg v1).setCell hg v2).setCell hg v3
theorem two_boxes {n : Nat} {w w3 : World} {g h : Nat} {T : TypeId} {a0 a1 a2 a3 z0 z1 z2 z3 : Value} (hb : Below n w w3) (hg : n ≤ g) (hh : n ≤ h) (hZ : w3.heap[h]? = some (.cells #[z0, z1, z2, z3] T (0, 0))) (hne : h ≠ g) (v : Value) :
    (((((w3.setCell ⟨g, 1, none⟩ v).setCell ⟨h, 0, none⟩ a0).setCell ⟨h, 1, none⟩ a1).setCell ⟨h, 2, none⟩ a2).setCell ⟨h, 3, none⟩ a3).heap[h]? = some (.cells #[a0, a1, a2, a3] T (0, 0)) ∧
    Below n w (((((w3.setCell ⟨g, 1, none⟩ v).setCell ⟨h, 0, none⟩ a0).setCell ⟨h, 1, none⟩ a1).setCell ⟨h, 2, none⟩ a2).setCell ⟨h, 3, none⟩ a3) ∧
    ∀ b, b ≠ g → b ≠ h → (((((w3.setCell ⟨g, 1, none⟩ v).setCell ⟨h, 0, none⟩ a0).setCell ⟨h, 1, none⟩ a1).setCell ⟨h, 2, none⟩ a2).setCell ⟨h, 3, none⟩ a3).heap[b]? = w3.heap[b]? := by
  have h1 : (w3.setCell ⟨g, 1, none⟩ v).heap[h]? = some (.cells #[z0, z1, z2, z3] T (0, 0)) := (Below.heap_setCell _ _ _ _ (fun e => hne e)).trans hZ
  exact ⟨row_set4 h1 _ _ _ _, below_set4 (hb.setCell hg v) hh _ _ _ _, fun b b1 b2 => (heap_set4 _ _ _ _ _ _ _ b2).trans (Below.heap_setCell _ _ _ _ (fun e => b1 e))⟩
set_option maxRecDepth 100000 in
theorem info_rs : (Tryz.prog.info? 36).map (·.size) = some 4 := by kernel_rfl
def drR (r : Rf) (k : Int) : Int := if k < 0 ∨ 15006 ≤ k then 4 else if k ∈ nums5 r.nw then 0 else 8
theorem plc_neg {xs : List Int} {x : Int} : plc xs x < 0 ↔ x ∉ xs := by
  unfold plc
  by_cases h : x ∈ xs
  · rw [if_pos h]; simp [h]
  · rw [if_neg h]; simp [h]
def DropR (w : World) (r : Rf) (k c : Int) (e : Ending) (w' : World) : Prop := ∃ r' : Rf, e = .returned (.tuple #[r'.val, .int .i64 c]) ∧ RfAt w' r' ∧ Below w.heap.size w w' ∧ r'.su = r.su ∧ r'.size = r.size ∧ r'.ep = r.ep ∧ (c ≠ 0 → r'.nw = r.nw) ∧ (c = 0 → r'.nw = wo r.nw k) ∧ (∀ b o, r'.sa = some ⟨b, o, none⟩ → r.sa = some ⟨b, o, none⟩) ∧ (∀ b o, r'.na = some ⟨b, o, none⟩ → r.na = some ⟨b, o, none⟩ ∨ w.heap.size ≤ b)
set_option maxRecDepth 100000 in
set_option maxHeartbeats 1000000 in
theorem drop_ref (r : Rf) (k : Int) (w : World) (h : RfAt w r) (ok : RfOk r) :
    Calls Tryz.prog 39 #[r.val, .int .i64 k] w (DropR w r k (drR r k)) := by
  have hb := Sm.alX w (.cells #[.slice r.sa r.su.length r.sc, .slice r.na r.nw.length r.nc, .int .i64 r.size, .int .i64 r.ep] 36)
  have HAT := Lib.hid (h.below hb)
  have HB := Lib.hid hb
  have HX := Lib.hid (boxR_new w r)
  have HOK := Lib.hid ok
  have HR0 := Lib.hid h
  clear ok hb h
  unfold Rf.val
  by_cases hk : k < 0 ∨ 15006 ≤ k
  · have HC := Lib.hid (show drR r k = 4 by unfold drR; rw [if_pos hk])
    rw [HC.out]
    have hfin : ∀ w', Below w.heap.size w w' → DropR w r k 4 (.returned (.tuple #[r.val, .int .i64 4])) w' := fun w' hb => ⟨r, rfl, HR0.out.below hb, hb, rfl, rfl, rfl, fun _ => rfl, fun q => absurd q (by decide), fun _ _ q => q, fun _ _ q => .inl q⟩
    have HFIN := Lib.hid hfin
    clear hfin HC
    by_cases h0 : k < 0
    · clear hk
      go_enter Tryz.func39, Tryz.ntmps39
      go_wp2
      refine bodyPost_ret (v := .tuple #[r.val, .int .i64 4]) (by simp [results, Tryz.results39, go_sem, Rf.val]) rfl (HFIN.out _ (((Below.refl _ _).alloc (Nat.le_refl _) _).alloc (by simp) _))
    · have h1 : 15006 ≤ k := by omega
      clear hk
      go_enter Tryz.func39, Tryz.ntmps39
      go_wp2
      refine bodyPost_ret (v := .tuple #[r.val, .int .i64 4]) (by simp [results, Tryz.results39, go_sem, Rf.val]) rfl (HFIN.out _ (((Below.refl _ _).alloc (Nat.le_refl _) _).alloc (by simp) _))
  · have h0 : ¬ k < 0 := by omega
    have h1 : ¬ 15006 ≤ k := by omega
    have f1 := HX.out.f1
    have hl2 := HOK.out.l2
    have HFD := Lib.hid (fun (w2 : World) (h2 : RfAt w2 r) => find_ref r.na r.nw.length r.nc r.nw k w2 h2.n rfl (by omega))
    have hb2 := HB.out.alloc HB.out.size (.cells #[.slice none 0 0, .slice none 0 0, .int .i64 0, .int .i64 0] 36)
    by_cases hm : k ∈ nums5 r.nw
    · have HC := Lib.hid (show drR r k = 0 by unfold drR; rw [if_neg hk, if_pos hm])
      rw [HC.out]
      have hp : ¬ plc (nums5 r.nw) k < 0 := fun q => plc_neg.1 q hm
      generalize plc (nums5 r.nw) k = P at HFD hp
      clear hk hm
      go_enter Tryz.func39, Tryz.ntmps39
      go_wp2_with (go_at_call 46; refine (HFD.out _ (HR0.out.below hb2)).mono ?_; rintro e w' ⟨rfl, rfl⟩)
      refine (without_ref r.na r.nw.length r.nc r.nw k _ (HR0.out.below hb2).n rfl (by omega)).mono ?_
      rintro e w3 ⟨v, rfl, hown, hb3⟩
      have hA := heap_alloc_new w (.cells #[.slice r.sa r.su.length r.sc, .slice r.na r.nw.length r.nc, .int .i64 r.size, .int .i64 r.ep] 36)
      have hZ := heap_alloc2_new w (.cells #[.slice r.sa r.su.length r.sc, .slice r.na r.nw.length r.nc, .int .i64 r.size, .int .i64 r.ep] 36) (.cells #[.slice none 0 0, .slice none 0 0, .int .i64 0, .int .i64 0] 36)
      have HA3 := Lib.hid ((hb3.block w.heap.size (by simp; omega)).trans ((Go.heap_alloc_old _ _ (by simp)).trans hA))
      have HZ3 := Lib.hid ((hb3.block (w.heap.size + 1) (by simp)).trans hZ)
      have HOW := Lib.hid hown
      have HB3 := Lib.hid (hb2.trans (hb3.mono hb2.size))
      have HRS := Lib.hid ((HR0.out.below hb2).below hb3)
      have HSZ := Lib.hid (show w.heap.size + 1 < w3.heap.size from Nat.lt_of_lt_of_le (by simp) hb3.size)
      have HOB := Lib.hid (show w.heap.size + 2 ≤ ((w.alloc (.cells #[.slice r.sa r.su.length r.sc, .slice r.na r.nw.length r.nc, .int .i64 r.size, .int .i64 r.ep] 36)).alloc (.cells #[.slice none 0 0, .slice none 0 0, .int .i64 0, .int .i64 0] 36)).heap.size by simp)
      obtain ⟨ao, cap, rfl, hen, _, _, hln, hlo⟩ := own_ents HOW.out
      have HEN := Lib.hid hen
      have HLO := Lib.hid hlo
      obtain ⟨⟨x0, x1, x2, x3⟩, y0, y1, y2, y3⟩ := row4_cells HA3.out
      obtain ⟨⟨z0, z1, z2, z3⟩, t0, t1, t2, t3⟩ := row4_cells HZ3.out
      clear hA hZ hown hb2 hb3 f1 hen hlo hln HAT HX HB HFD
      go_wp2
      obtain ⟨hrow, hbw, hbl⟩ := two_boxes (a0 := .slice r.sa r.su.length r.sc) (a1 := .slice ao (wo r.nw k).length cap) (a2 := .int .i64 r.size) (a3 := .int .i64 r.ep) HB3.out (Nat.le_refl _) (show w.heap.size ≤ w.heap.size + 1 by omega) HZ3.out (by omega) (.slice ao (wo r.nw k).length cap)
      refine Sm.post_row_tmp Tryz.results39 (w.heap.size + 1) 36 #[.slice r.sa r.su.length r.sc, .slice ao (wo r.nw k).length cap, .int .i64 r.size, .int .i64 r.ep] (0, 0) _ (.int .i64 0) Tryz.underlying36 rfl info_rs ?_ ?_ hrow ?_ ?_
      · rfl
      · rfl
      · rfl
      exact ⟨{ r with nw := wo r.nw k, na := ao, nc := cap }, rfl, ⟨HR0.out.s.below hbw, HEN.out.same fun b o e => hbl b (by have := (HLO.out b o e).1; have := HOB.out; omega) (by have := (HLO.out b o e).1; have := HOB.out; omega)⟩, hbw, rfl, rfl, rfl, fun q => absurd rfl q, fun _ => rfl, fun _ _ q => q, fun b o e => .inr (by have := (HLO.out b o e).1; have := HOB.out; omega)⟩
    · have HC := Lib.hid (show drR r k = 8 by unfold drR; rw [if_neg hk, if_neg hm])
      rw [HC.out]
      have hfin : ∀ w', Below w.heap.size w w' → DropR w r k 8 (.returned (.tuple #[r.val, .int .i64 8])) w' := fun w' hb => ⟨r, rfl, HR0.out.below hb, hb, rfl, rfl, rfl, fun _ => rfl, fun q => absurd q (by decide), fun _ _ q => q, fun _ _ q => .inl q⟩
      have HFIN := Lib.hid hfin
      have hp : plc (nums5 r.nw) k < 0 := plc_neg.2 hm
      generalize plc (nums5 r.nw) k = P at HFD hp
      clear hk hm hfin HC
      go_enter Tryz.func39, Tryz.ntmps39
      go_wp2_with (go_at_call 46; refine (HFD.out _ (HR0.out.below hb2)).mono ?_; rintro e w' ⟨rfl, rfl⟩)
      refine bodyPost_ret (v := .tuple #[r.val, .int .i64 8]) (by simp [results, Tryz.results39, go_sem, Rf.val]) rfl (HFIN.out _ (((Below.refl _ _).alloc (Nat.le_refl _) _).alloc (by simp) _))
end Go.Proofs.YtlfkkakohldgnaaGreatDoor
namespace Go.Proofs.YtlfkkakohldgnaaGreatDoor.Sm
open Go.RowKit Crc

abbrev inPg (ki nu ep si : Int) (a : Option Addr) (n c : Nat) : Obj := .cells #[.int .u8 ki, .int .u32 nu, .int .u64 ep, .int .i64 si, .slice a n c] 43
set_option maxRecDepth 100000 in
theorem refroom_any (s : Int) (w : World) (hs : s ≤ 9223372036854775807) :
    Calls Tryz.prog 106 #[.int .i64 s] w fun e w' => e = .returned (.int .i64 (room s)) ∧ w = w' := by
  by_cases h : s < 1
  · rw [room_small h]
    go_enter Tryz.func106, Tryz.ntmps106
    go_wp2
    go_ret
    exact ⟨rfl, rfl⟩
  · by_cases h2 : 492 < s
    · rw [room_out h2]
      have h1 : 1 ≤ s := by omega
      go_enter Tryz.func106, Tryz.ntmps106
      go_wp2
      go_ret
      exact ⟨rfl, rfl⟩
    · rw [room_big (by omega)]
      have h1 : 1 ≤ s := by omega
      have h3 : s ≤ 492 := by omega
      have e0 : 0 ≤ 492 / s := Int.ediv_nonneg (by omega) (by omega)
      go_enter Tryz.func106, Tryz.ntmps106
      go_wp2
      all_goals go_ret
      all_goals exact ⟨ret_int (by omega), rfl⟩
set_option maxRecDepth 100000 in
theorem quiet_room (s : Int) (w : World) (k : Nat) (hs : s ≤ 9223372036854775807) :
    Calls Tryz.prog 106 #[.int .i64 s] (w.drewN k) fun e w'' => e = .returned (.int .i64 (room s)) ∧ ∃ m, w'' = w.drewN m :=
  Calls.quiet_of_same ((refroom_any s (w.drewN k) hs).mono fun _ _ ⟨h, e⟩ => ⟨h, e.symm⟩)
set_option maxRecDepth 100000 in
set_option maxHeartbeats 1000000 in
theorem may_any (ki nu ep si : Int) (a : Option Addr) (n c : Nat) (rs : List (List Int)) (w : World) (hn : rs.length = n) (hm : n ≤ 9223372036854775807) (hs : si ≤ 9223372036854775807) (hr : Recs w a rs) :
    Calls Tryz.prog 80 #[.agg #[.int .u8 ki, .int .u32 nu, .int .u64 ep, .int .i64 si, .slice a n c]] w fun e w' => e = .returned (.bool (Pg.mkPg ki nu ep si rs).may) ∧ Below w.heap.size w w' := by
  rw [may_eq ki nu ep si rs n hn]
  have hb := alX w (inPg ki nu ep si a n c)
  have HR := Lib.hid (hr.below hb)
  have HB := Lib.hid hb
  have HN := Lib.hid hn
  have hq := fun (W : World) (k : Nat) => quiet_room si W k hs
  have rb := room_bd si
  clear hr hb hn
  by_cases h0 : room si = 0
  · have h0' : (room si == 0) = true := by rw [h0]; rfl
    have hf : fitsB si n = false := fits_no0 (by omega)
    rw [hf]
    clear h0 hf
    go_enter Tryz.func80, Tryz.ntmps80
    go_wp2
    go_quiet ((go_at_call 106; exact hq _ _))
    go_wp2
    go_ret
    exact ⟨rfl, below_dn HB.out _⟩
  · have h0' : (room si == 0) = false := by rw [beq_eq_false_iff_ne]; exact h0
    by_cases h1 : room si < (n : Int)
    · have hf : fitsB si n = false := by rw [fits_yes (by omega)]; exact decide_eq_false (by omega)
      rw [hf]
      clear h0 hf
      go_enter Tryz.func80, Tryz.ntmps80
      go_wp2
      go_quiet ((go_at_call 106; exact hq _ _))
      go_wp2
      go_ret
      exact ⟨rfl, below_dn HB.out _⟩
    · have hf : fitsB si n = true := by rw [fits_yes (by omega)]; exact decide_eq_true (by omega)
      rw [hf]
      have hd : decide (room si < (n : Int)) = false := decide_eq_false h1
      clear h0 hf
      go_enter Tryz.func80, Tryz.ntmps80
      go_wp2
      go_quiet ((go_at_call 106; exact hq _ _))
      go_wp2
      have HK3 := Lib.hid (show ((w.alloc (inPg ki nu ep si a n c)).drewN nq).cell? ⟨w.heap.size, 3, none⟩ = some (.int .i64 si) by simp)
      have HK4 := Lib.hid (show ((w.alloc (inPg ki nu ep si a n c)).drewN nq).cell? ⟨w.heap.size, 4, none⟩ = some (.slice a n c) by simp)
      have HRD : Hid (Recs ((w.alloc (inPg ki nu ep si a n c)).drewN nq) a rs) := HR
      have HBD := Lib.hid (below_dn HB.out nq)
      change Code.wp _ _ _ _ ((w.alloc (inPg ki nu ep si a n c)).drewN nq)
      generalize (w.alloc (inPg ki nu ep si a n c)).drewN nq = W2 at HK3 HK4 HRD HBD ⊢
      clear HR HB hq hd h0' h1 rb
      go_loopw [3] (fun i wr => ∃ k m : Nat, k ≤ n ∧ i = .int .i64 k ∧ Hid ((rs.take k).any (badB si) = false) ∧ Hid (wr = W2.drewN m)) (fun i _ => n - (intOf i).toNat)
      case atStart => exact ⟨0, 0, by omega, rfl, Lib.hid (by simp), Lib.hid rfl⟩
      case round =>
        obtain ⟨k, m, hk, rfl, HA, hwr⟩ := hrel
        have hwr' := hwr.out
        clear hwr
        subst hwr'
        have k3 := HK3.out
        have k4 := HK4.out
        by_cases hlt : k < n
        · have hkl : k < rs.length := by rw [HN.out]; exact hlt
          obtain ⟨b, off, ra, rc, rfl, hcell, _⟩ := HRD.out k hkl
          have hbb : badB si rs[k] = ((rs[k].length : Int) != si) := rfl
          have HBB := Lib.hid hbb
          clear hbb
          have hki : (k : Int) < (n : Int) := by omega
          generalize hL : rs[k].length = L at hcell HBB
          clear hL
          cases hne : ((L : Int) != si)
          · have HNE := Lib.hid hne
            go_wp2
            go_quiet (fail)
            go_wp2
            go_roundw
            case rel => exact ⟨k + 1, m + nq, by omega, by go_num, Lib.hid (any_take _ _ _ hkl HA.out (by rw [HBB.out, HNE.out])), Lib.hid rfl⟩
            case measure => simp [intOf]; omega
          · have HNE := Lib.hid hne
            go_wp2
            go_quiet (fail)
            go_wp2
            go_ret
            exact ⟨ret_bool (by rw [any_at (badB si) rs k hkl (by rw [HBB.out, HNE.out])]; rfl), below_dn (below_dn HBD.out _) _⟩
        · obtain rfl : k = n := by omega
          go_wp2
          go_ret
          exact ⟨ret_bool (by have := HA.out; rw [List.take_of_length_le (by rw [HN.out]; exact Nat.le_refl _)] at this; rw [this]; rfl), below_dn HBD.out _⟩
end Go.Proofs.YtlfkkakohldgnaaGreatDoor.Sm
namespace Go.Proofs.YtlfkkakohldgnaaGreatDoor
open Go.RowKit

def lateAt (L : List Ent) (k : Int) : Bool := ((L[(plc (nums5 L) k).toNat]?).map Ent.late).getD false
def wrR (r : Rf) (k : Int) (may : Bool) : Int := if k < 0 ∨ 15006 ≤ k then 4 else if may = false then 1 else if (k ∈ nums5 r.nw ∧ lateAt r.nw k = true) ∨ 1 ≤ freeR r then 0 else 5
def WriteR (w : World) (r : Rf) (k : Int) (x : Ent) (c : Int) (e : Ending) (w' : World) : Prop := ∃ r' : Rf, e = .returned (.tuple #[r'.val, .int .i64 c]) ∧ RfAt w' r' ∧ Below w.heap.size w w' ∧ r'.su = r.su ∧ r'.size = r.size ∧ r'.ep = r.ep ∧ (c ≠ 0 → r'.nw = r.nw) ∧ (c = 0 → r'.nw = ins (wo r.nw k) x) ∧ (∀ b o, r'.sa = some ⟨b, o, none⟩ → r.sa = some ⟨b, o, none⟩) ∧ (∀ b o, r'.na = some ⟨b, o, none⟩ → (c ≠ 0 ∧ r.na = some ⟨b, o, none⟩) ∨ w.heap.size ≤ b)
theorem box_back {n : Nat} {w w3 : World} {h : Nat} {T : TypeId} {a0 a1 a2 a3 z0 z1 z2 z3 : Value} (hb : Below n w w3) (hh : n ≤ h) (hZ : w3.heap[h]? = some (.cells #[z0, z1, z2, z3] T (0, 0))) :
    ((((w3.setCell ⟨h, 0, none⟩ a0).setCell ⟨h, 1, none⟩ a1).setCell ⟨h, 2, none⟩ a2).setCell ⟨h, 3, none⟩ a3).heap[h]? = some (.cells #[a0, a1, a2, a3] T (0, 0)) ∧ Below n w ((((w3.setCell ⟨h, 0, none⟩ a0).setCell ⟨h, 1, none⟩ a1).setCell ⟨h, 2, none⟩ a2).setCell ⟨h, 3, none⟩ a3) :=
  ⟨row_set4 hZ _ _ _ _, below_set4 hb hh _ _ _ _⟩
theorem write_same {w w' : World} {r : Rf} {k c : Int} {x : Ent} (h : RfAt w r) (hb : Below w.heap.size w w') (hc : c ≠ 0) : WriteR w r k x c (.returned (.tuple #[r.val, .int .i64 c])) w' := ⟨r, rfl, h.below hb, hb, rfl, rfl, rfl, fun _ => rfl, fun q => absurd q hc, fun _ _ q => q, fun _ _ q => .inl ⟨hc, q⟩⟩
/-- the three boxes that Write makes -/
abbrev bxS (r : Rf) : Obj := .cells #[.slice r.sa r.su.length r.sc, .slice r.na r.nw.length r.nc, .int .i64 r.size, .int .i64 r.ep] 36
abbrev bxZ : Obj := .cells #[.slice none 0 0, .slice none 0 0, .int .i64 0, .int .i64 0] 36
structure Bx3 (w w3 : World) (r : Rf) (ki nu ep si : Int) (a : Option Addr) (q c : Nat) : Prop where
  s : w3.heap[w.heap.size]? = some (bxS r)
  p : w3.heap[w.heap.size + 1]? = some (Sm.inPg ki nu ep si a q c)
  z : w3.heap[w.heap.size + 2]? = some bxZ
  b : Below w.heap.size w w3
  l : w.heap.size + 3 ≤ w3.heap.size
theorem bx3_new (w : World) (r : Rf) (ki nu ep si : Int) (a : Option Addr) (q c : Nat) : Bx3 w (((w.alloc (bxS r)).alloc (Sm.inPg ki nu ep si a q c)).alloc bxZ) r ki nu ep si a q c := by
  refine ⟨?_, ?_, ?_, (((Below.refl _ _).alloc (Nat.le_refl _) _).alloc (by simp) _).alloc (by simp; omega) _, by simp⟩
  · exact (Go.heap_alloc_old _ _ (by simp; omega)).trans ((Go.heap_alloc_old _ _ (by simp)).trans (heap_alloc_new w _))
  · exact (Go.heap_alloc_old _ _ (by simp)).trans (heap_alloc2_new w _ _)
  · have h := heap_alloc_new ((w.alloc (bxS r)).alloc (Sm.inPg ki nu ep si a q c)) bxZ
    rw [World.size_alloc, World.size_alloc] at h
    exact h
theorem Bx3.below {w w3 w' : World} {r : Rf} {ki nu ep si : Int} {a : Option Addr} {q c : Nat} (h : Bx3 w w3 r ki nu ep si a q c) (hb : Below w3.heap.size w3 w') : Bx3 w w' r ki nu ep si a q c := by
  have := h.l
  exact ⟨(hb.block _ (by omega)).trans h.s, (hb.block _ (by omega)).trans h.p, (hb.block _ (by omega)).trans h.z, h.b.trans (hb.mono h.b.size), Nat.le_trans h.l hb.size⟩
set_option maxRecDepth 100000 in
set_option maxHeartbeats 1000000 in
theorem write_ref4 (r : Rf) (k ki nu ep si : Int) (a : Option Addr) (q c : Nat) (x : Ent) (w : World) (h : RfAt w r) (hk : k < 0 ∨ 15006 ≤ k) :
    Calls Tryz.prog 40 #[r.val, .int .i64 k, .agg #[.int .u8 ki, .int .u32 nu, .int .u64 ep, .int .i64 si, .slice a q c]] w (WriteR w r k x 4) := by
  have HFIN := Lib.hid (fun (w' : World) (hb : Below w.heap.size w w') => write_same (k := k) (c := 4) (x := x) h hb (by decide))
  unfold Rf.val
  by_cases h0 : k < 0
  · clear hk h
    go_enter Tryz.func40, Tryz.ntmps40
    go_wp2
    refine bodyPost_ret (v := .tuple #[r.val, .int .i64 4]) (by simp [results, Tryz.results40, go_sem, Rf.val]) rfl (HFIN.out _ ((((Below.refl _ _).alloc (Nat.le_refl _) _).alloc (by simp) _).alloc (by simp; omega) _))
  · have h1 : 15006 ≤ k := by omega
    clear hk h
    go_enter Tryz.func40, Tryz.ntmps40
    go_wp2
    refine bodyPost_ret (v := .tuple #[r.val, .int .i64 4]) (by simp [results, Tryz.results40, go_sem, Rf.val]) rfl (HFIN.out _ ((((Below.refl _ _).alloc (Nat.le_refl _) _).alloc (by simp) _).alloc (by simp; omega) _))
set_option maxRecDepth 100000 in
set_option maxHeartbeats 1000000 in
theorem write_ref1 (r : Rf) (k ki nu ep si : Int) (a : Option Addr) (q c : Nat) (rs : List (List Int)) (x : Ent) (w : World) (h : RfAt w r) (h0 : ¬ k < 0) (h1 : ¬ 15006 ≤ k) (hq : rs.length = q) (hq2 : q ≤ 9223372036854775807) (hs : si ≤ 9223372036854775807) (hr : Sm.Recs w a rs) (hm : (Sm.Pg.mkPg ki nu ep si rs).may = false) :
    Calls Tryz.prog 40 #[r.val, .int .i64 k, .agg #[.int .u8 ki, .int .u32 nu, .int .u64 ep, .int .i64 si, .slice a q c]] w (WriteR w r k x 1) := by
  have HFIN := Lib.hid (fun (w' : World) (hb : Below w.heap.size w w') => write_same (k := k) (c := 1) (x := x) h hb (by decide))
  have HBX := Lib.hid (bx3_new w r ki nu ep si a q c)
  have hmy := Sm.may_any ki nu ep si a q c rs (((w.alloc (bxS r)).alloc (Sm.inPg ki nu ep si a q c)).alloc bxZ) hq hq2 hs (hr.below HBX.out.b)
  rw [hm] at hmy
  have HMY := Lib.hid hmy
  unfold Rf.val
  clear hq hr hm hmy h
  go_enter Tryz.func40, Tryz.ntmps40
  go_upto_region 4 with (go_at_call 80; refine HMY.out.mono ?_; rintro e w3 ⟨rfl, hb3⟩; have HB3 := Lib.hid (HBX.out.below hb3); clear hb3)
  obtain ⟨⟨x0, x1, x2, x3⟩, y0, y1, y2, y3⟩ := row4_cells HB3.out.s
  obtain ⟨⟨z0, z1, z2, z3⟩, t0, t1, t2, t3⟩ := row4_cells HB3.out.z
  go_wp2
  obtain ⟨hrow, hbw⟩ := box_back (a0 := .slice r.sa r.su.length r.sc) (a1 := .slice r.na r.nw.length r.nc) (a2 := .int .i64 r.size) (a3 := .int .i64 r.ep) HB3.out.b (show w.heap.size ≤ w.heap.size + 2 by omega) HB3.out.z
  refine Sm.post_row_tmp Tryz.results40 (w.heap.size + 2) 36 #[.slice r.sa r.su.length r.sc, .slice r.na r.nw.length r.nc, .int .i64 r.size, .int .i64 r.ep] (0, 0) _ (.int .i64 1) Tryz.underlying36 rfl info_rs ?_ ?_ hrow ?_ ?_
  · rfl
  · rfl
  · rfl
  exact HFIN.out _ hbw
end Go.Proofs.YtlfkkakohldgnaaGreatDoor
namespace Go.Proofs.YtlfkkakohldgnaaGreatDoor
open Go.RowKit

/-- what comes of the test of room: found and late, or by the free sectors -/
inductive Way (r : Rf) (k : Int) : Prop where
  | no (h : k ∉ nums5 r.nw)
  | late (h : k ∈ nums5 r.nw) (l : lateAt r.nw k = true)
  | old (h : k ∈ nums5 r.nw) (l : lateAt r.nw k = false)
theorem way (r : Rf) (k : Int) : Way r k := by
  by_cases h : k ∈ nums5 r.nw
  · cases l : lateAt r.nw k
    · exact .old h l
    · exact .late h l
  · exact .no h
theorem plc_at {L : List Ent} {k : Int} (h : k ∈ nums5 L) : ∃ i : Nat, i < L.length ∧ plc (nums5 L) k = (i : Int) ∧ ∀ (hi : i < L.length), lateAt L k = L[i].late := by
  have hm : (nums5 L).idxOf k < (nums5 L).length := List.idxOf_lt_length_of_mem h
  have hl : (nums5 L).length = L.length := by unfold nums5; rw [List.length_map]
  have hp : plc (nums5 L) k = ((nums5 L).idxOf k : Int) := by unfold plc; rw [if_pos h]
  refine ⟨(nums5 L).idxOf k, by omega, hp, fun hi => ?_⟩
  unfold lateAt
  rw [hp, Int.toNat_natCast, List.getElem?_eq_getElem hi]
  rfl
set_option maxRecDepth 100000 in
set_option maxHeartbeats 1000000 in
theorem write_ref5 (r : Rf) (k ki nu ep si : Int) (a : Option Addr) (q c : Nat) (rs : List (List Int)) (x : Ent) (w : World) (h : RfAt w r) (ok : RfOk r) (h0 : ¬ k < 0) (h1 : ¬ 15006 ≤ k) (hq : rs.length = q) (hq2 : q ≤ 9223372036854775807) (hs : si ≤ 9223372036854775807) (hr : Sm.Recs w a rs) (hm : (Sm.Pg.mkPg ki nu ep si rs).may = true) (hnl : ¬ (k ∈ nums5 r.nw ∧ lateAt r.nw k = true)) (hfr : freeR r < 1) :
    Calls Tryz.prog 40 #[r.val, .int .i64 k, .agg #[.int .u8 ki, .int .u32 nu, .int .u64 ep, .int .i64 si, .slice a q c]] w (WriteR w r k x 5) := by
  have HFIN := Lib.hid (fun (w' : World) (hb : Below w.heap.size w w') => write_same (k := k) (c := 5) (x := x) h hb (by decide))
  have HBX := Lib.hid (bx3_new w r ki nu ep si a q c)
  have hmy := Sm.may_any ki nu ep si a q c rs (((w.alloc (bxS r)).alloc (Sm.inPg ki nu ep si a q c)).alloc bxZ) hq hq2 hs (hr.below HBX.out.b)
  rw [hm] at hmy
  have HMY := Lib.hid hmy
  have HRA := Lib.hid h
  have HOK := Lib.hid ok
  have l2 := ok.l2
  have HFD := Lib.hid (fun (w2 : World) (h2 : RfAt w2 r) => find_ref r.na r.nw.length r.nc r.nw k w2 h2.n rfl (by omega))
  have HFE := Lib.hid (fun (w2 : World) (h2 : RfAt w2 r) => free_ref r w2 h2 ok)
  generalize freeR r = F at hfr HFE
  unfold Rf.val at HFE ⊢
  have hend : ∀ (i : Int) (_ : i < 0 ∨ ∃ (j : Nat) (hj : j < r.nw.length), i = (j : Int) ∧ r.nw[j].late = false), (∀ w2, RfAt w2 r → Calls Tryz.prog 46 #[.slice r.na r.nw.length r.nc, .int .i64 k] w2 fun e w' => e = .returned (.int .i64 i) ∧ w2 = w') → Calls Tryz.prog 40 #[.agg #[.slice r.sa r.su.length r.sc, .slice r.na r.nw.length r.nc, .int .i64 r.size, .int .i64 r.ep], .int .i64 k, .agg #[.int .u8 ki, .int .u32 nu, .int .u64 ep, .int .i64 si, .slice a q c]] w (WriteR w r k x 5) := by
    intro i hi hfd
    have HFD2 := Lib.hid hfd
    clear HFD hfd hnl hq hr hm hmy h ok
    rcases hi with hi | ⟨j, hj, rfl, hlt⟩
    · go_enter Tryz.func40, Tryz.ntmps40
      go_upto_region 5 with (go_at_call 80; refine HMY.out.mono ?_; rintro e w3 ⟨rfl, hb3⟩; have HB3 := Lib.hid (HBX.out.below hb3); clear hb3)
      have HR3 := Lib.hid (HRA.out.below HB3.out.b)
      obtain ⟨⟨x0, x1, x2, x3⟩, y0, y1, y2, y3⟩ := row4_cells HB3.out.s
      go_upto_region 7 with (first | (go_at_call 46; refine (HFD2.out _ HR3.out).mono ?_; rintro e w' ⟨rfl, rfl⟩) | (go_at_call 41; refine (HFE.out _ HR3.out).mono ?_; rintro e w4 ⟨rfl, hb4⟩; have HB4 := Lib.hid (HB3.out.below hb4); clear hb4))
      clear x0 x1 x2 x3
      obtain ⟨⟨x0, x1, x2, x3⟩, _⟩ := row4_cells HB4.out.s
      obtain ⟨⟨z0, z1, z2, z3⟩, t0, t1, t2, t3⟩ := row4_cells HB4.out.z
      go_wp2
      obtain ⟨hrow, hbw⟩ := box_back (a0 := .slice r.sa r.su.length r.sc) (a1 := .slice r.na r.nw.length r.nc) (a2 := .int .i64 r.size) (a3 := .int .i64 r.ep) HB4.out.b (show w.heap.size ≤ w.heap.size + 2 by omega) HB4.out.z
      refine Sm.post_row_tmp Tryz.results40 (w.heap.size + 2) 36 #[.slice r.sa r.su.length r.sc, .slice r.na r.nw.length r.nc, .int .i64 r.size, .int .i64 r.ep] (0, 0) _ (.int .i64 5) Tryz.underlying36 rfl info_rs ?_ ?_ hrow ?_ ?_
      · rfl
      · rfl
      · rfl
      exact HFIN.out _ hbw
    · have j0 : (0 : Int) ≤ (j : Int) := by omega
      have j1 : (j : Int) < (r.nw.length : Int) := by omega
      obtain ⟨b, off, hna, _⟩ := HRA.out.n j hj
      have HNA := Lib.hid hna
      have hmy2 := HMY.out
      have hbx2 := HBX.out
      unfold bxS at hmy2 hbx2
      rw [hna] at HFD2 HFE hmy2 hbx2 ⊢
      have HMY' := Lib.hid hmy2
      have HBX' := Lib.hid hbx2
      clear hna hmy2 hbx2
      go_enter Tryz.func40, Tryz.ntmps40
      go_upto_region 5 with (go_at_call 80; refine HMY'.out.mono ?_; rintro e w3 ⟨rfl, hb3⟩; have HB3 := Lib.hid (HBX'.out.below hb3); clear hb3)
      have HR3 := Lib.hid (HRA.out.below HB3.out.b)
      obtain ⟨⟨x0, x1, x2, x3⟩, y0, y1, y2, y3⟩ := row4_cells HB3.out.s
      have c6 : w3.cell? ⟨b, off + j * 7 + 6, none⟩ = some (.bool false) := by
        obtain ⟨b', off', hna', hcs⟩ := HR3.out.n j hj
        rw [HNA.out] at hna'
        obtain ⟨rfl, rfl⟩ : b = b' ∧ off = off' := by simpa using hna'
        rw [← hlt]; exact hcs 6 _ rfl
      rw [HNA.out] at x1
      clear hlt
      go_upto_region 7 with (first | (go_at_call 46; refine (HFD2.out _ HR3.out).mono ?_; rintro e w' ⟨rfl, rfl⟩) | (go_at_call 41; refine (HFE.out _ HR3.out).mono ?_; rintro e w4 ⟨rfl, hb4⟩; have HB4 := Lib.hid (HB3.out.below hb4); clear hb4))
      clear x0 x1 x2 x3 c6
      obtain ⟨⟨x0, x1, x2, x3⟩, _⟩ := row4_cells HB4.out.s
      obtain ⟨⟨z0, z1, z2, z3⟩, t0, t1, t2, t3⟩ := row4_cells HB4.out.z
      go_wp2
      obtain ⟨hrow, hbw⟩ := box_back (a0 := .slice r.sa r.su.length r.sc) (a1 := .slice r.na r.nw.length r.nc) (a2 := .int .i64 r.size) (a3 := .int .i64 r.ep) HB4.out.b (show w.heap.size ≤ w.heap.size + 2 by omega) HB4.out.z
      refine Sm.post_row_tmp Tryz.results40 (w.heap.size + 2) 36 #[.slice r.sa r.su.length r.sc, .slice r.na r.nw.length r.nc, .int .i64 r.size, .int .i64 r.ep] (0, 0) _ (.int .i64 5) Tryz.underlying36 rfl info_rs ?_ ?_ hrow ?_ ?_
      · rfl
      · rfl
      · rfl
      exact HFIN.out _ hbw
  cases way r k with
  | no hno => exact hend (plc (nums5 r.nw) k) (.inl (plc_neg.2 hno)) HFD.out
  | late hin hl => exact absurd ⟨hin, hl⟩ hnl
  | old hin hl =>
    obtain ⟨i, hi, hp, hla⟩ := plc_at hin
    exact hend (plc (nums5 r.nw) k) (.inr ⟨i, hi, hp, by rw [← hla hi]; exact hl⟩) HFD.out
end Go.Proofs.YtlfkkakohldgnaaGreatDoor
namespace Go.Proofs.YtlfkkakohldgnaaGreatDoor
open Go.RowKit

def wEnt (r : Rf) (k ki si : Int) (a : Option Addr) (q c : Nat) : Ent := ⟨k, ki, k, r.ep + 1, si, a, q, c, true⟩
theorem Bx3.pg {w wt : World} {r : Rf} {ki nu ep si : Int} {a : Option Addr} {q c : Nat} (h : Bx3 w wt r ki nu ep si a q c) (k e : Int) : Bx3 w (((wt.setCell ⟨w.heap.size + 1, 1, none⟩ (.int .u32 k)).setCell ⟨w.heap.size + 1, 2, none⟩ (.int .u64 e)).drew) r ki k e si a q c := by
  have ho : ∀ b, b ≠ w.heap.size + 1 → (((wt.setCell ⟨w.heap.size + 1, 1, none⟩ (.int .u32 k)).setCell ⟨w.heap.size + 1, 2, none⟩ (.int .u64 e)).drew).heap[b]? = wt.heap[b]? := fun b hb => (Below.heap_setCell _ _ _ _ hb).trans (Below.heap_setCell _ _ _ _ hb)
  have h1 := heap_setCell_same wt (w.heap.size + 1) 1 _ _ (.int .u32 k) h.p
  have h2 := heap_setCell_same _ (w.heap.size + 1) 2 _ _ (.int .u64 e) h1
  refine ⟨(ho _ (by omega)).trans h.s, ?_, (ho _ (by omega)).trans h.z, ((h.b.setCell (show w.heap.size ≤ w.heap.size + 1 by omega) _).setCell (show w.heap.size ≤ w.heap.size + 1 by omega) _).drew, ?_⟩
  · show ((wt.setCell ⟨w.heap.size + 1, 1, none⟩ (.int .u32 k)).setCell ⟨w.heap.size + 1, 2, none⟩ (.int .u64 e)).heap[w.heap.size + 1]? = _
    rw [h2]
    rfl
  · show w.heap.size + 3 ≤ ((wt.setCell ⟨w.heap.size + 1, 1, none⟩ (.int .u32 k)).setCell ⟨w.heap.size + 1, 2, none⟩ (.int .u64 e)).heap.size
    rw [World.size_setCell, World.size_setCell]
    exact h.l
set_option maxRecDepth 100000 in
set_option maxHeartbeats 4000000 in
theorem write_ref0 (r : Rf) (k ki nu ep si : Int) (a : Option Addr) (q c : Nat) (rs : List (List Int)) (w : World) (h : RfAt w r) (ok : RfOk r) (h0 : ¬ k < 0) (h1 : ¬ 15006 ≤ k) (hq : rs.length = q) (hq2 : q ≤ 9223372036854775807) (hs : si ≤ 9223372036854775807) (hr : Sm.Recs w a rs) (hm : (Sm.Pg.mkPg ki nu ep si rs).may = true) (i : Int)
    (hi : (i < 0 ∧ ¬ freeR r < 1) ∨ ∃ (j : Nat) (hj : j < r.nw.length), i = (j : Int) ∧ (r.nw[j].late = true ∨ (r.nw[j].late = false ∧ ¬ freeR r < 1))) (hfd : ∀ w2, RfAt w2 r → Calls Tryz.prog 46 #[.slice r.na r.nw.length r.nc, .int .i64 k] w2 fun e w' => e = .returned (.int .i64 i) ∧ w2 = w') :
    Calls Tryz.prog 40 #[r.val, .int .i64 k, .agg #[.int .u8 ki, .int .u32 nu, .int .u64 ep, .int .i64 si, .slice a q c]] w (WriteR w r k (wEnt r k ki si a q c) 0) := by
  have HBX := Lib.hid (bx3_new w r ki nu ep si a q c)
  have hmy := Sm.may_any ki nu ep si a q c rs (((w.alloc (bxS r)).alloc (Sm.inPg ki nu ep si a q c)).alloc bxZ) hq hq2 hs (hr.below HBX.out.b)
  rw [hm] at hmy
  have HMY := Lib.hid hmy
  have HRA := Lib.hid h
  have l2 := ok.l2
  have hep0 := ok.e0
  have hep1 := ok.e1
  have HFE := Lib.hid (fun (w2 : World) (h2 : RfAt w2 r) => free_ref r w2 h2 ok)
  generalize freeR r = F at hi HFE
  unfold Rf.val at HFE ⊢
  have HFD2 := Lib.hid hfd
  clear hfd hq hr hm hmy h ok
  rcases hi with ⟨hi, hF⟩ | ⟨j, hj, rfl, hlt⟩
  case' inl =>
    go_enter Tryz.func40, Tryz.ntmps40
    go_upto_region 5 with (go_at_call 80; refine HMY.out.mono ?_; rintro e w3 ⟨rfl, hb3⟩; have HB3 := Lib.hid (HBX.out.below hb3); clear hb3)
    have HR3 := Lib.hid (HRA.out.below HB3.out.b)
    obtain ⟨⟨x0, x1, x2, x3⟩, y0, y1, y2, y3⟩ := row4_cells HB3.out.s
    go_upto_region 8 with (first | (go_at_call 46; refine (HFD2.out _ HR3.out).mono ?_; rintro e w' ⟨rfl, rfl⟩) | (go_at_call 41; refine (HFE.out _ HR3.out).mono ?_; rintro e wt ⟨rfl, hb4⟩; have HB4 := Lib.hid (HB3.out.below hb4); clear hb4))
    clear x0 x1 x2 x3 y0 y1 y2 y3 HB3 HR3 hi
  case' inr =>
    have j0 : (0 : Int) ≤ (j : Int) := by omega
    have j1 : (j : Int) < (r.nw.length : Int) := by omega
    obtain ⟨b, off, hna, _⟩ := HRA.out.n j hj
    have HNA := Lib.hid hna
    have hmy2 := HMY.out
    have hbx2 := HBX.out
    unfold bxS at hmy2 hbx2
    rw [hna] at HFD2 HFE hmy2 hbx2 ⊢
    have HMY' := Lib.hid hmy2
    have HBX' := Lib.hid hbx2
    clear hna hmy2 hbx2
    go_enter Tryz.func40, Tryz.ntmps40
    go_upto_region 5 with (go_at_call 80; refine HMY'.out.mono ?_; rintro e w3 ⟨rfl, hb3⟩; have HB3 := Lib.hid (HBX'.out.below hb3); clear hb3)
    have HR3 := Lib.hid (HRA.out.below HB3.out.b)
    obtain ⟨⟨x0, x1, x2, x3⟩, y0, y1, y2, y3⟩ := row4_cells HB3.out.s
    have c6 : w3.cell? ⟨b, off + j * 7 + 6, none⟩ = some (.bool r.nw[j].late) := by
      obtain ⟨b', off', hna', hcs⟩ := HR3.out.n j hj
      rw [HNA.out] at hna'
      obtain ⟨rfl, rfl⟩ : b = b' ∧ off = off' := by simpa using hna'
      exact hcs 6 _ rfl
    rw [HNA.out] at x1
    rcases hlt with hl | ⟨hl, hF⟩
    case' inl =>
      rw [hl] at c6
      clear hl
      go_upto_region 8 with (go_at_call 46; refine (HFD2.out _ HR3.out).mono ?_; rintro e w' ⟨rfl, rfl⟩)
      have HB4 := HB3
      rw [← HNA.out]
      clear x0 x1 x2 x3 y0 y1 y2 y3 HB3 HR3 c6 HMY' HBX'
      generalize w3 = wt at HB4 ⊢
    case' inr =>
      rw [hl] at c6
      clear hl
      go_upto_region 8 with (first | (go_at_call 46; refine (HFD2.out _ HR3.out).mono ?_; rintro e w' ⟨rfl, rfl⟩) | (go_at_call 41; refine (HFE.out _ HR3.out).mono ?_; rintro e wt ⟨rfl, hb4⟩; have HB4 := Lib.hid (HB3.out.below hb4); clear hb4))
      rw [← HNA.out]
      clear x0 x1 x2 x3 y0 y1 y2 y3 HB3 HR3 c6 HMY' HBX'
  all_goals clear HFD2 HFE HMY HBX
  all_goals obtain ⟨⟨x0, x1, x2, x3⟩, y0, y1, y2, y3⟩ := row4_cells HB4.out.s
  all_goals obtain ⟨⟨p0, p1, p2, p3, p4⟩, q0, q1, q2, q3, q4⟩ := Sm.row_cells HB4.out.p
  all_goals have hw1 : wrap64 (r.ep + 1) = r.ep + 1 := IntWalk.wrap64_in _ ⟨by omega, by omega⟩
  all_goals have hw2 : IntKind.u64.wrap (r.ep + 1) = r.ep + 1 := by rw [IntKind.wrap_u64]; omega
  all_goals go_region
  all_goals have HB5 := Lib.hid (HB4.out.pg k (r.ep + 1))
  all_goals clear x0 x1 x2 x3 y0 y1 y2 y3 p0 p1 p2 p3 p4 q0 q1 q2 q3 q4 hw1 hw2 HB4
  all_goals generalize World.drew _ = w5 at HB5 ⊢
  all_goals obtain ⟨⟨x0, x1, x2, x3⟩, y0, y1, y2, y3⟩ := row4_cells HB5.out.s
  all_goals obtain ⟨⟨p0, p1, p2, p3, p4⟩, _⟩ := Sm.row_cells HB5.out.p
  all_goals have HWR := Lib.hid (with_ref r.na r.nw.length r.nc r.nw (wEnt r k ki si a q c) w5 (HRA.out.below HB5.out.b).n rfl (by omega))
  all_goals go_wp2_with fail
  all_goals refine HWR.out.mono ?_
  all_goals rintro e w6 ⟨v, rfl, hown, hb6⟩
  all_goals have HOW := Lib.hid hown
  all_goals have HB6 := Lib.hid (HB5.out.below hb6)
  all_goals have HLW := Lib.hid (show w.heap.size + 3 ≤ w5.heap.size from HB5.out.l)
  all_goals obtain ⟨ao, cap, rfl, hen, _, _, _, hlo⟩ := own_ents HOW.out
  all_goals have HEN := Lib.hid hen
  all_goals have HLO := Lib.hid hlo
  all_goals clear hown hb6 hen hlo x0 x1 x2 x3 y0 y1 y2 y3 p0 p1 p2 p3 p4 HWR HB5
  all_goals obtain ⟨⟨x0, x1, x2, x3⟩, y0, y1, y2, y3⟩ := row4_cells HB6.out.s
  all_goals obtain ⟨⟨z0, z1, z2, z3⟩, t0, t1, t2, t3⟩ := row4_cells HB6.out.z
  all_goals have hn12 : w.heap.size + 2 ≠ w.heap.size := by omega
  all_goals go_wp2
  all_goals obtain ⟨hrow, hbw, hbl⟩ := two_boxes (a0 := .slice r.sa r.su.length r.sc) (a1 := .slice ao (ins (wo r.nw k) (wEnt r k ki si a q c)).length cap) (a2 := .int .i64 r.size) (a3 := .int .i64 r.ep) HB6.out.b (Nat.le_refl _) (show w.heap.size ≤ w.heap.size + 2 by omega) HB6.out.z (by omega) (.slice ao (ins (wo r.nw k) (wEnt r k ki si a q c)).length cap)
  all_goals refine Sm.post_row_tmp Tryz.results40 (w.heap.size + 2) 36 #[.slice r.sa r.su.length r.sc, .slice ao (ins (wo r.nw k) (wEnt r k ki si a q c)).length cap, .int .i64 r.size, .int .i64 r.ep] (0, 0) _ (.int .i64 0) Tryz.underlying36 rfl info_rs (by rfl) (by rfl) hrow (by rfl) ?_
  all_goals exact ⟨{ r with nw := ins (wo r.nw k) (wEnt r k ki si a q c), na := ao, nc := cap }, rfl, ⟨HRA.out.s.below hbw, HEN.out.same fun b o e => hbl b (by have := (HLO.out b o e).1; have := HLW.out; omega) (by have := (HLO.out b o e).1; have := HLW.out; omega)⟩, hbw, rfl, rfl, rfl, fun q => absurd rfl q, fun _ => rfl, fun _ _ q => q, fun b o e => .inr (by have := (HLO.out b o e).1; have := HLW.out; omega)⟩
end Go.Proofs.YtlfkkakohldgnaaGreatDoor
namespace Go.Proofs.YtlfkkakohldgnaaGreatDoor
open Go.RowKit

def cl (L : List Ent) : List Ent := L.map fun x => { x with late := false }
def CommitR (w : World) (r : Rf) (c : Int) (e : Ending) (w' : World) : Prop := ∃ r' : Rf, e = .returned (.tuple #[r'.val, .int .i64 c]) ∧ RfAt w' r' ∧ Below w.heap.size w w' ∧ r'.size = r.size ∧ (c ≠ 0 → r'.nw = r.nw ∧ r'.su = r.su ∧ r'.ep = r.ep) ∧ (c = 0 → r'.nw = cl r.nw ∧ r'.su = cl r.nw ∧ r'.ep = r.ep + 1) ∧ (∀ b o, r'.sa = some ⟨b, o, none⟩ → (c ≠ 0 ∧ r.sa = some ⟨b, o, none⟩) ∨ w.heap.size ≤ b) ∧ (∀ b o, r'.na = some ⟨b, o, none⟩ → (c ≠ 0 ∧ r.na = some ⟨b, o, none⟩) ∨ w.heap.size ≤ b)
/-- the two boxes that Commit makes -/
structure Bx2 (w w3 : World) (r : Rf) : Prop where
  s : w3.heap[w.heap.size]? = some (bxS r)
  z : w3.heap[w.heap.size + 1]? = some bxZ
  b : Below w.heap.size w w3
  l : w.heap.size + 2 ≤ w3.heap.size
theorem bx2_new (w : World) (r : Rf) : Bx2 w ((w.alloc (bxS r)).alloc bxZ) r :=
  ⟨(Go.heap_alloc_old _ _ (by simp)).trans (heap_alloc_new w _), heap_alloc2_new w _ _, ((Below.refl _ _).alloc (Nat.le_refl _) _).alloc (by simp) _, by simp⟩
theorem Bx2.below {w w3 w' : World} {r : Rf} (h : Bx2 w w3 r) (hb : Below w3.heap.size w3 w') : Bx2 w w' r := by
  have := h.l
  exact ⟨(hb.block _ (by omega)).trans h.s, (hb.block _ (by omega)).trans h.z, h.b.trans (hb.mono h.b.size), Nat.le_trans h.l hb.size⟩
def Cells4 (w : World) (g : Nat) (r : Rf) : Prop := w.cell? ⟨g, 0, none⟩ = some (.slice r.sa r.su.length r.sc) ∧ w.cell? ⟨g, 1, none⟩ = some (.slice r.na r.nw.length r.nc) ∧ w.cell? ⟨g, 2, none⟩ = some (.int .i64 r.size) ∧ w.cell? ⟨g, 3, none⟩ = some (.int .i64 r.ep)
theorem Bx2.cells {w w3 : World} {r : Rf} (h : Bx2 w w3 r) : Cells4 w3 w.heap.size r := (row4_cells h.s).1
set_option maxRecDepth 100000 in
set_option maxHeartbeats 4000000 in
theorem commit_ref5 (r : Rf) (w : World) (h : RfAt w r) (ok : RfOk r) (hgt : freeR r < tblsE r.nw) :
    Calls Tryz.prog 26 #[r.val] w (CommitR w r 5) := by
  have HBX := Lib.hid (bx2_new w r)
  have HRA := Lib.hid h
  have HFE := Lib.hid (fun (w2 : World) (h2 : RfAt w2 r) => free_ref r w2 h2 ok)
  have HTB := Lib.hid (fun (w2 : World) (h2 : RfAt w2 r) => tables_ref r.na r.nw.length r.nc r.nw w2 h2.n rfl (by have := ok.l2; omega) ok.b2)
  generalize freeR r = F at hgt HFE
  generalize tblsE r.nw = T at hgt HTB
  unfold Rf.val at HFE ⊢
  clear h ok
  go_enter Tryz.func26, Tryz.ntmps26
  go_upto_region 1 with (fail)
  have HB2 := Lib.hid HBX.out
  generalize (w.alloc _).alloc _ = w2 at HB2 ⊢
  have KA := Lib.hid HB2.out.cells
  have KD := Lib.hid (show Cells4 w2.drew w.heap.size r from HB2.out.cells)
  have HR0 := Lib.hid (HRA.out.below HB2.out.b)
  have HRD := Lib.hid (show RfAt w2.drew r from HRA.out.below (HB2.out.b.drew))
  unfold Cells4 at KA KD
  go_region_held3 (fun w' => w'.cell? ⟨w.heap.size, 0, none⟩ = some (.slice r.sa r.su.length r.sc) ∧ w'.cell? ⟨w.heap.size, 1, none⟩ = some (.slice r.na r.nw.length r.nc) ∧ w'.cell? ⟨w.heap.size, 2, none⟩ = some (.int .i64 r.size) ∧ w'.cell? ⟨w.heap.size, 3, none⟩ = some (.int .i64 r.ep)) (first | with_reducible exact KD.out | with_reducible exact KA.out | with_reducible exact KF.out) (first | (go_at_call 63; refine (HTB.out _ (by first | with_reducible exact HRD.out | with_reducible exact HR0.out | with_reducible exact HRF.out)).mono ?_; rintro e w' ⟨rfl, rfl⟩) | (go_at_call 41; refine (HFE.out _ (by first | with_reducible exact HRD.out | with_reducible exact HR0.out)).mono ?_; rintro e wF ⟨rfl, hbF⟩; have HBF := Lib.hid (show Bx2 w wF r from (by first | exact HB2.out.below hbF | exact HB2.out.below ((show Below w2.heap.size w2 w2.drew from (Below.refl _ _).drew).trans hbF))); have KF := Lib.hid HBF.out.cells; have HRF := Lib.hid (HRA.out.below HBF.out.b); unfold Cells4 at KF))
  all_goals obtain ⟨⟨x0, x1, x2, x3⟩, y0, y1, y2, y3⟩ := row4_cells HBF.out.s
  all_goals obtain ⟨⟨z0, z1, z2, z3⟩, t0, t1, t2, t3⟩ := row4_cells HBF.out.z
  all_goals go_wp2
  all_goals obtain ⟨hrow, hbw⟩ := box_back (a0 := .slice r.sa r.su.length r.sc) (a1 := .slice r.na r.nw.length r.nc) (a2 := .int .i64 r.size) (a3 := .int .i64 r.ep) HBF.out.b (show w.heap.size ≤ w.heap.size + 1 by omega) HBF.out.z
  all_goals refine Sm.post_row_tmp Tryz.results26 (w.heap.size + 1) 36 #[.slice r.sa r.su.length r.sc, .slice r.na r.nw.length r.nc, .int .i64 r.size, .int .i64 r.ep] (0, 0) _ (.int .i64 5) Tryz.underlying36 rfl info_rs (by rfl) (by rfl) hrow (by rfl) ?_
  all_goals exact ⟨r, rfl, HRA.out.below hbw, hbw, rfl, fun _ => ⟨rfl, rfl, rfl⟩, fun q => absurd q (by decide), fun _ _ q => .inl ⟨by decide, q⟩, fun _ _ q => .inl ⟨by decide, q⟩⟩
/-- an entry that is read where the box tells its list -/
def EltAt (w : World) (g : Nat) (b o n c : Nat) (off : Nat) (y : Ent) : Prop := w.cell? ⟨g, 1, none⟩ = some (.slice (some ⟨b, off, none⟩) n c) ∧ w.cell? ⟨b, o, none⟩ = some (.int .i64 y.n) ∧ w.cell? ⟨b, o + 1, none⟩ = some (.int .u8 y.ki) ∧ w.cell? ⟨b, o + 1 + 1, none⟩ = some (.int .u32 y.nu) ∧ w.cell? ⟨b, o + 1 + 2, none⟩ = some (.int .u64 y.ep) ∧ w.cell? ⟨b, o + 1 + 3, none⟩ = some (.int .i64 y.si) ∧ w.cell? ⟨b, o + 1 + 4, none⟩ = some (.slice y.a y.q y.c)
theorem EltAt.below {w w' : World} {g b o n c off : Nat} {y : Ent} (h : EltAt w g b o n c off y) (hb : Below w.heap.size w w') : EltAt w' g b o n c off y := by
  obtain ⟨h0, h1, h2, h3, h4, h5, h6⟩ := h
  have l0 : g < w.heap.size := World.block_lt_of_cell? w _ h0
  have l1 : b < w.heap.size := World.block_lt_of_cell? w _ h1
  exact ⟨(World.cell?_of_block (hb.block _ l0)).trans h0, (World.cell?_of_block (hb.block _ l1)).trans h1, (World.cell?_of_block (hb.block _ l1)).trans h2, (World.cell?_of_block (hb.block _ l1)).trans h3, (World.cell?_of_block (hb.block _ l1)).trans h4, (World.cell?_of_block (hb.block _ l1)).trans h5, (World.cell?_of_block (hb.block _ l1)).trans h6⟩
theorem cl_len (L : List Ent) : (cl L).length = L.length := by unfold cl; rw [List.length_map]
theorem cl_take {L : List Ent} {k : Nat} (h : k < L.length) : cl (L.take (k + 1)) = cl (L.take k) ++ [{ L[k] with late := false }] := by
  unfold cl
  rw [List.take_succ_eq_append_getElem h, List.map_append]
  rfl
set_option maxRecDepth 100000 in
set_option maxHeartbeats 4000000 in
theorem commit_ref0 (r : Rf) (w : World) (h : RfAt w r) (ok : RfOk r) (hgt : ¬ freeR r < tblsE r.nw) :
    Calls Tryz.prog 26 #[r.val] w (CommitR w r 0) := by
  have HBX := Lib.hid (bx2_new w r)
  have HRA := Lib.hid h
  have HFE := Lib.hid (fun (w2 : World) (h2 : RfAt w2 r) => free_ref r w2 h2 ok)
  have HTB := Lib.hid (fun (w2 : World) (h2 : RfAt w2 r) => tables_ref r.na r.nw.length r.nc r.nw w2 h2.n rfl (by have := ok.l2; omega) ok.b2)
  have l2 := ok.l2
  have hep0 := ok.e0
  have hep1 := ok.e1
  obtain ⟨i0, hi, hz0, hz1, hz2⟩ := info_parts info_ent
  have HI := Lib.hid hi
  have HI0 := Lib.hid hz0
  have HI1 := Lib.hid hz1
  have HI2 := Lib.hid hz2
  generalize freeR r = F at hgt HFE
  generalize tblsE r.nw = T at hgt HTB
  unfold Rf.val at HFE ⊢
  clear h ok hi hz0 hz1 hz2
  go_enter Tryz.func26, Tryz.ntmps26
  go_upto_region 1 with (fail)
  have HB2 := Lib.hid HBX.out
  generalize (w.alloc _).alloc _ = w2 at HB2 ⊢
  have KA := Lib.hid HB2.out.cells
  have KD := Lib.hid (show Cells4 w2.drew w.heap.size r from HB2.out.cells)
  have HR0 := Lib.hid (HRA.out.below HB2.out.b)
  have HRD := Lib.hid (show RfAt w2.drew r from HRA.out.below (HB2.out.b.drew))
  unfold Cells4 at KA KD
  go_region_held3 (fun w' => w'.cell? ⟨w.heap.size, 0, none⟩ = some (.slice r.sa r.su.length r.sc) ∧ w'.cell? ⟨w.heap.size, 1, none⟩ = some (.slice r.na r.nw.length r.nc) ∧ w'.cell? ⟨w.heap.size, 2, none⟩ = some (.int .i64 r.size) ∧ w'.cell? ⟨w.heap.size, 3, none⟩ = some (.int .i64 r.ep)) (first | with_reducible exact KD.out | with_reducible exact KA.out | with_reducible exact KF.out) (first | (go_at_call 63; refine (HTB.out _ (by first | with_reducible exact HRD.out | with_reducible exact HR0.out | with_reducible exact HRF.out)).mono ?_; rintro e w' ⟨rfl, rfl⟩) | (go_at_call 41; refine (HFE.out _ (by first | with_reducible exact HRD.out | with_reducible exact HR0.out)).mono ?_; rintro e wF ⟨rfl, hbF⟩; have HBF := Lib.hid (show Bx2 w wF r from (by first | exact HB2.out.below hbF | exact HB2.out.below ((show Below w2.heap.size w2 w2.drew from (Below.refl _ _).drew).trans hbF))); have KF := Lib.hid HBF.out.cells; have HRF := Lib.hid (HRA.out.below HBF.out.b); unfold Cells4 at KF))
  clear KA KD KF HR0 HRD HRF HB2 HBX HFE HTB
  go_wp2_with fail
  go_loopw [4, 5] (fun v i wr => ∃ k : Nat, k ≤ r.nw.length ∧ i = .int .i64 k ∧ Hid (OwnE wr wF.heap.size v k (cl (r.nw.take k))) ∧ Hid (Below wF.heap.size wF wr)) (fun _ i _ => r.nw.length - (intOf i).toNat)
  case atStart => exact ⟨0, by omega, rfl, Lib.hid (World.ownsRow_nil _ _ _ _), Lib.hid (Below.refl _ _)⟩
  case round =>
    obtain ⟨k, hk, rfl, HO, HB⟩ := hrel
    have HBR := Lib.hid (HBF.out.below HB.out)
    have k0 : (0 : Int) ≤ (k : Int) := by omega
    by_cases hlt : k < r.nw.length
    · obtain ⟨b, off, hna, hr⟩ := (HRA.out.below HBF.out.b).n k hlt
      obtain ⟨⟨x0, x1, x2, x3⟩, _⟩ := row4_cells HBF.out.s
      rw [hna] at x1
      have HTK := Lib.hid (cl_take hlt)
      have k1 : (k : Int) < (r.nw.length : Int) := by omega
      have KW := Lib.hid (show EltAt wF w.heap.size b (off + k * 7) r.nw.length r.nc off r.nw[k] from ⟨x1, hr 0 _ rfl, hr 1 _ rfl, hr 2 _ rfl, hr 3 _ rfl, hr 4 _ rfl, hr 5 _ rfl⟩)
      clear hr hna x0 x1 x2 x3 HBR
      generalize r.nw[k] = y at KW HTK
      have hrr := KW.out.below HB.out
      unfold EltAt at hrr
      obtain ⟨x1, c0, c1, c2, c3, c4, c5⟩ := hrr
      go_upto_region 7 with (fail)
      have KA := Lib.hid (show EltAt wr w.heap.size b (off + k * 7) r.nw.length r.nc off y from KW.out.below HB.out)
      have KD := Lib.hid (show EltAt wr.drew w.heap.size b (off + k * 7) r.nw.length r.nc off y from KW.out.below HB.out.drew)
      have KG := Lib.hid (show EltAt (wr.alloc (.cells #[.int .i64 y.n, .int .u8 y.ki, .int .u32 y.nu, .int .u64 y.ep, .int .i64 y.si, .slice y.a y.q y.c, .bool false] 96)) w.heap.size b (off + k * 7) r.nw.length r.nc off y from KW.out.below (HB.out.alloc HB.out.size _))
      have KJ := Lib.hid (show EltAt ((wr.alloc (.cells #[.int .i64 y.n, .int .u8 y.ki, .int .u32 y.nu, .int .u64 y.ep, .int .i64 y.si, .slice y.a y.q y.c, .bool false] 96)).drew) w.heap.size b (off + k * 7) r.nw.length r.nc off y from KW.out.below (HB.out.alloc HB.out.size _).drew)
      have KL := Lib.hid (show EltAt (wr.drew.alloc (.cells #[.int .i64 y.n, .int .u8 y.ki, .int .u32 y.nu, .int .u64 y.ep, .int .i64 y.si, .slice y.a y.q y.c, .bool false] 96)) w.heap.size b (off + k * 7) r.nw.length r.nc off y from KW.out.below (HB.out.drew.alloc HB.out.drew.size _))
      unfold EltAt at KA KD KG KJ KL
      clear x1 c0 c1 c2 c3 c4 c5
      go_region_held3 (fun w' => w'.cell? ⟨w.heap.size, 1, none⟩ = some (.slice (some ⟨b, off, none⟩) r.nw.length r.nc) ∧ w'.cell? ⟨b, off + k * 7, none⟩ = some (.int .i64 y.n) ∧ w'.cell? ⟨b, off + k * 7 + 1, none⟩ = some (.int .u8 y.ki) ∧ w'.cell? ⟨b, off + k * 7 + 1 + 1, none⟩ = some (.int .u32 y.nu) ∧ w'.cell? ⟨b, off + k * 7 + 1 + 2, none⟩ = some (.int .u64 y.ep) ∧ w'.cell? ⟨b, off + k * 7 + 1 + 3, none⟩ = some (.int .i64 y.si) ∧ w'.cell? ⟨b, off + k * 7 + 1 + 4, none⟩ = some (.slice y.a y.q y.c)) (first | with_reducible exact KD.out | with_reducible exact KA.out | with_reducible exact KG.out | with_reducible exact KJ.out | with_reducible exact KL.out | with_reducible exact KE.out) ((refine step_appE rfl (.tmp 20) (.tmp 34) rfl wF.heap.size k _ (cl (r.nw.take k)) rfl ((show OwnE wr.drew wF.heap.size _ k (cl (r.nw.take k)) from HO.out).alloc _) (some ⟨wr.heap.size, 0, none⟩) 1 1 [{ y with late := false }] rfl rfl (fun q => by cases q) (cells7' wr.drew { y with late := false }) (by omega) (by have := HB.out.size; simp; omega) ?_; intro vA wA hoA hgA; have hbA := (HB.out.drew.alloc HB.out.drew.size (.cells #[.int .i64 y.n, .int .u8 y.ki, .int .u32 y.nu, .int .u64 y.ep, .int .i64 y.si, .slice y.a y.q y.c, .bool false] 96)).grown hgA (by have := HB.out.size; simp; omega) (fun k hk => (HO.out.lt k hk).1); have KE := Lib.hid (KW.out.below hbA); unfold EltAt at KE))
      clear KA KD KG KJ KL
      have HOA := Lib.hid (show OwnE wA wF.heap.size vA (k + 1) (cl (r.nw.take (k + 1))) by rw [HTK.out]; exact hoA)
      have HBA := Lib.hid hbA
      clear hoA hgA hbA KE HO HB KW HTK
      go_wp2
      go_roundw
      case rel => exact ⟨k + 1, by omega, by go_num, HOA, HBA⟩
      case measure => simp [intOf]; omega
    · have hkl : k = r.nw.length := by omega
      have HO1 := HO.out
      rw [hkl, List.take_length] at HO1
      have HO2 := Lib.hid HO1
      clear HO1
      obtain ⟨ao, cap, rfl, hen, _, _, hll, hlo⟩ := own_ents HO2.out
      have HEN := Lib.hid hen
      have HLO := Lib.hid hlo
      have HLL := Lib.hid hll
      have HLF := Lib.hid (show w.heap.size + 2 ≤ wF.heap.size from HBF.out.l)
      obtain ⟨⟨x0, x1, x2, x3⟩, y0, y1, y2, y3⟩ := row4_cells HBR.out.s
      obtain ⟨⟨z0, z1, z2, z3⟩, t0, t1, t2, t3⟩ := row4_cells HBR.out.z
      have hw1 : wrap64 (r.ep + 1) = r.ep + 1 := IntWalk.wrap64_in _ ⟨by omega, by omega⟩
      have hnn : ¬ (k : Int) < (r.nw.length : Int) := by omega
      clear hen hlo hll HO HO2
      go_wp2
      obtain ⟨hrow, hbw⟩ := box_back (a0 := .slice ao r.nw.length cap) (a1 := .slice ao r.nw.length cap) (a2 := .int .i64 r.size) (a3 := .int .i64 (r.ep + 1)) HBR.out.b (show w.heap.size ≤ w.heap.size + 1 by omega) HBR.out.z
      have HSA := Lib.hid (fun b (hb : b ≠ w.heap.size + 1) => heap_set4 wr (w.heap.size + 1) b (.slice ao r.nw.length cap) (.slice ao r.nw.length cap) (.int .i64 r.size) (.int .i64 (r.ep + 1)) hb)
      refine Sm.post_row_tmp Tryz.results26 (w.heap.size + 1) 36 #[.slice ao r.nw.length cap, .slice ao r.nw.length cap, .int .i64 r.size, .int .i64 (r.ep + 1)] (0, 0) _ (.int .i64 0) Tryz.underlying36 rfl info_rs (by rfl) (by rfl) hrow (by rfl) ?_
      have HEE := HEN.out.same (fun b o e => HSA.out b (by have := (HLO.out b o e).1; have := HLF.out; omega))
      exact ⟨⟨cl r.nw, cl r.nw, ao, cap, ao, cap, r.size, r.ep + 1⟩, by show _ = Ending.returned (.tuple #[.agg #[.slice ao (cl r.nw).length cap, .slice ao (cl r.nw).length cap, _, _], _]); rw [HLL.out], ⟨HEE, HEE⟩, hbw, rfl, fun q => absurd rfl q, fun _ => ⟨rfl, rfl, rfl⟩, fun b o e => .inr (by have := (HLO.out b o e).1; have := HLF.out; omega), fun b o e => .inr (by have := (HLO.out b o e).1; have := HLF.out; omega)⟩
end Go.Proofs.YtlfkkakohldgnaaGreatDoor
namespace Go.Proofs.YtlfkkakohldgnaaGreatDoor
open Go.RowKit

def cmR (r : Rf) : Int := if freeR r < tblsE r.nw then 5 else 0
theorem commit_ref (r : Rf) (w : World) (h : RfAt w r) (ok : RfOk r) : Calls Tryz.prog 26 #[r.val] w (CommitR w r (cmR r)) := by
  unfold cmR
  by_cases q : freeR r < tblsE r.nw
  · rw [if_pos q]; exact commit_ref5 r w h ok q
  · rw [if_neg q]; exact commit_ref0 r w h ok q
theorem write_ref (r : Rf) (k ki nu ep si : Int) (a : Option Addr) (q c : Nat) (rs : List (List Int)) (w : World) (h : RfAt w r) (ok : RfOk r) (hq : rs.length = q) (hq2 : q ≤ 9223372036854775807) (hs : si ≤ 9223372036854775807) (hr : Sm.Recs w a rs) :
    Calls Tryz.prog 40 #[r.val, .int .i64 k, .agg #[.int .u8 ki, .int .u32 nu, .int .u64 ep, .int .i64 si, .slice a q c]] w (WriteR w r k (wEnt r k ki si a q c) (wrR r k (Sm.Pg.mkPg ki nu ep si rs).may)) := by
  unfold wrR
  by_cases hk : k < 0 ∨ 15006 ≤ k
  · rw [if_pos hk]; exact write_ref4 r k ki nu ep si a q c _ w h hk
  · rw [if_neg hk]
    have h0 : ¬ k < 0 := fun e => hk (.inl e)
    have h1 : ¬ 15006 ≤ k := fun e => hk (.inr e)
    cases hm : (Sm.Pg.mkPg ki nu ep si rs).may
    · rw [if_pos rfl]; exact write_ref1 r k ki nu ep si a q c rs _ w h h0 h1 hq hq2 hs hr hm
    · rw [if_neg (by decide)]
      have hfd : ∀ (i : Int), plc (nums5 r.nw) k = i → ∀ w2, RfAt w2 r → Calls Tryz.prog 46 #[.slice r.na r.nw.length r.nc, .int .i64 k] w2 fun e w' => e = .returned (.int .i64 i) ∧ w2 = w' := fun i hi w2 h2 => by
        rw [← hi]
        exact find_ref r.na r.nw.length r.nc r.nw k w2 h2.n rfl (by have := ok.l2; omega)
      by_cases hd : (k ∈ nums5 r.nw ∧ lateAt r.nw k = true) ∨ 1 ≤ freeR r
      · rw [if_pos hd]
        by_cases hmem : k ∈ nums5 r.nw
        · obtain ⟨j, hj, hp, hl⟩ := plc_at hmem
          refine write_ref0 r k ki nu ep si a q c rs w h ok h0 h1 hq hq2 hs hr hm (j : Int) (.inr ⟨j, hj, rfl, ?_⟩) (hfd _ hp)
          have hlj := hl hj
          cases hb : r.nw[j].late
          · refine .inr ⟨rfl, fun e => ?_⟩
            rcases hd with ⟨_, d⟩ | d
            · rw [hlj, hb] at d; cases d
            · omega
          · exact .inl rfl
        · refine write_ref0 r k ki nu ep si a q c rs w h ok h0 h1 hq hq2 hs hr hm (plc (nums5 r.nw) k) (.inl ⟨plc_neg.2 hmem, fun e => ?_⟩) (hfd _ rfl)
          rcases hd with ⟨d, _⟩ | d
          · exact hmem d
          · omega
      · rw [if_neg hd]
        exact write_ref5 r k ki nu ep si a q c rs _ w h ok h0 h1 hq hq2 hs hr hm (fun e => hd (.inl e)) (by have : ¬ 1 ≤ freeR r := fun e => hd (.inr e); omega)
end Go.Proofs.YtlfkkakohldgnaaGreatDoor

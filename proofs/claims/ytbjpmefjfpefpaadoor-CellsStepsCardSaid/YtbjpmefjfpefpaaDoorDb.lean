/-
  A CELL PUT into a sorted list, as the document does. Conditions: those that each lemma names.
-/
import Derived.Test.YtbjpmefjfpefpaaDoorDa
import Derived.Deep.RegionLaw
import Derived.Deep.RegionHeld3
import Derived.BigQuiet
namespace Go.Proofs.YtbjpmefjfpefpaaDoor
open Go.RowKit Ru Ce

theorem put_at : ∀ (L : List Cel) (k : Nat) (x : Cel), k ≤ L.length → (∀ i (h : i < L.length), i < k → lt L[i] x = true) → (k = L.length ∨ ∃ h : k < L.length, lt L[k] x = false ∧ ¬ L[k] = x) → put L x = L.take k ++ [x] ++ L.drop k
  | [], k, x, hk, _, _ => by
    obtain rfl : k = 0 := by simpa using hk
    rfl
  | y :: r, 0, x, _, _, h => by
    rcases h with h | ⟨_, h1, h2⟩
    · simp at h
    · show (if lt y x = true then _ else _) = _
      have h1' : lt y x = false := h1
      rw [if_neg (by rw [h1']; decide), if_neg (show ¬ y = x from h2)]
      rfl
  | y :: r, k + 1, x, hk, h1, h => by
    show (if lt y x = true then _ else _) = _
    rw [if_pos (show lt y x = true from h1 0 (by simp) (by omega)), put_at r k x (by simpa using hk) (fun i hi hik => h1 (i + 1) (by simpa using hi) (by omega)) (by
      rcases h with h | ⟨h3, h4⟩
      · exact .inl (by simpa using h)
      · exact .inr ⟨by simpa using h3, h4⟩)]
    rfl
theorem put_is : ∀ (L : List Cel) (k : Nat) (x : Cel) (hk : k < L.length), (∀ i (h : i < L.length), i < k → lt L[i] x = true) → L[k] = x → put L x = L
  | [], _, _, hk, _, _ => absurd hk (by simp)
  | y :: r, 0, x, _, _, h => by
    obtain rfl : y = x := h
    show (if lt y y = true then _ else _) = _
    rw [if_neg (lt_irrefl y), if_pos rfl]
  | y :: r, k + 1, x, hk, h1, h => by
    show (if lt y x = true then _ else _) = _
    rw [if_pos (show lt y x = true from h1 0 (by simp) (by omega)), put_is r k x (by simpa using hk) (fun i hi hik => h1 (i + 1) (by simpa using hi) (by omega)) h]
set_option maxRecDepth 100000 in
theorem step_appC {ops : Array Oper} {o : Oper} {a : Act} {w : World} {K : Act → World → Prop} {Q : Exit → Act → World → Prop} {E : Prop} (hgd : o.guard = none) (s x : Operand)
    (ho : o.op = .call { callee := .builtin .append, args := #[s, x], argTypes := #[22, 22] }) (B n : Nat) (v : Value) (L : List Cel) (hs : a.eval s = v) (hown : OwnC 24 w B v n L) (A : Option Addr) (m c : Nat) (M : List Cel) (hx : a.eval x = .slice A m c) (hl : M.length = m) (hA : A = none → m = 0)
    (hc : ∀ ad, A = some ad → ∀ j u, (cl M)[j]? = some u → w.cell? (ad.add j) = some u) (hm : n + m ≤ 1000000) (hbase : B ≤ w.heap.size)
    (h : ∀ v' w', OwnC 24 w' B v' (n + m) (L ++ M) → w.grownBy w' v.ownBlock → K (a.put o.dst v') w') : if Region.wanted o (yielded ops a.tmps) = true then Oper.wp Tryd.prog o a w K Q else E := by
  have hw : Region.wanted o (yielded ops a.tmps) = true := by simp [Region.wanted, hgd]
  rw [if_pos hw]
  obtain ⟨i, hi, hz0, hz1, hz2⟩ := info_parts info_q
  have key : ∃ v' w', (Builtin.append_ #[22, 22] o.type #[v, .slice A m c]).run Tryd.prog w = .ok v' w' ∧ OwnC 24 w' B v' (n + m) (L ++ M) ∧ w.grownBy w' v.ownBlock := by
    cases A with
    | some ad =>
      obtain ⟨v', w', hr, h2, h3, _⟩ := run_append_own (P := Tryd.prog) w B 22 o.type 24 i (cv (0, 0)) 2 16 Tryd.underlying22 hi hz0 hz1 hz2 rfl (by decide) v n (cl L) hown ad m c (cl M) (by rw [cl_len, hl]) (hc ad rfl) (cl_one M) (by unfold maxLen; omega) (by omega) hbase
      exact ⟨v', w', hr, by show World.ownsRow _ _ _ _ _ _ (cl (L ++ M)); rw [cl_app]; exact h2, h3⟩
    | none =>
      have h0 := hA rfl
      subst h0
      have hM : M = [] := List.length_eq_zero_iff.1 hl
      subst hM
      refine ⟨v, w, ?_, by simpa using hown, ⟨rfl, rfl, rfl, Nat.le_refl _, fun _ _ _ => rfl⟩⟩
      have hu := Tryd.underlying22
      rcases hown.2 with ⟨rfl, _⟩ | ⟨g, cap, cur, rfl, _, _, hnc, _⟩
      · simp [Builtin.append_, run_underlying hu, sizeOf, typeInfo, hi, Builtin.lenOf, Builtin.firstCells]
      · simp [Builtin.append_, run_underlying hu, sizeOf, typeInfo, hi, Builtin.lenOf, Builtin.firstCells, hnc, storeCells]
  obtain ⟨v', w', hr, h2, h3⟩ := key
  unfold Oper.wp execOp
  simp only [ho, resolve, invoke, builtin, Sem.run_bind, Sem.run_pure, Result.andThen_ok, List.map_toArray, List.map_cons, List.map_nil, hs, hx, hr]
  exact h v' w' h2 h3
theorem Cls.drop {w : World} {b off : Nat} {L : List Cel} (h : Cls w (some ⟨b, off, none⟩) L) (k : Nat) : Cls w (some ⟨b, off + k * 2, none⟩) (L.drop k) := fun i hi => by
  rw [List.length_drop] at hi
  obtain ⟨b', o', ha, h0, h1⟩ := h (k + i) (by omega)
  obtain ⟨rfl, rfl⟩ : b = b' ∧ off = o' := by simpa using ha
  rw [show off + (k + i) * 2 = off + k * 2 + i * 2 by omega] at h0 h1
  exact ⟨b, _, rfl, by rw [h0, List.getElem_drop], by rw [h1, List.getElem_drop]⟩
def tailQ (b c k : Nat) : Addr := if c = k then ⟨b, 0, none⟩ else ⟨b, 0 + k * 2, none⟩
set_option maxRecDepth 100000 in
theorem tail_q (b n c k : Nat) (hk : k ≤ n) (W : World) : (Instr.sliceAt 22 (.slice (some ⟨b, 0, none⟩) n c) (some (.int .i64 (k : Int))) none none).run Tryd.prog W = .ok (.slice (some (tailQ b c k)) (n - k) (c - k)) W := by
  have e := run_sliceAt_slice (P := Tryd.prog) (w := W) 22 (.slice (some ⟨b, 0, none⟩) n c) (some (.int .i64 (k : Int))) none none Tryd.underlying22
  rw [e]
  have i0 : (0 : Int) ≤ (k : Int) := by omega
  have i1 : (k : Int) ≤ (n : Int) := by omega
  have hu := Tryd.underlying22
  have hs : (Tryd.prog.info? 24).map (·.size) = some 2 := by kernel_rfl
  obtain ⟨ie, hie, hsz⟩ := Option.map_eq_some_iff.1 hs
  unfold tailQ
  by_cases h : c = k
  · simp [Instr.slice, Instr.sliceBounds, run_underlying hu, i0, i1, h, sizeOf, typeInfo, hie, hsz, go_sem]
  · simp [Instr.slice, Instr.sliceBounds, run_underlying hu, i0, i1, h, sizeOf, typeInfo, hie, hsz, go_sem]
set_option maxRecDepth 100000 in
theorem head_q (b n c k : Nat) (hk : k ≤ c) (W : World) : (Instr.sliceAt 22 (.slice (some ⟨b, 0, none⟩) n c) none (some (.int .i64 (k : Int))) none).run Tryd.prog W = .ok (.slice (some ⟨b, 0, none⟩) k c) W := by
  have e := run_sliceAt_slice (P := Tryd.prog) (w := W) 22 (.slice (some ⟨b, 0, none⟩) n c) none (some (.int .i64 (k : Int))) none Tryd.underlying22
  rw [e]
  have i0 : (0 : Int) ≤ (k : Int) := by omega
  have i1 : (k : Int) ≤ (c : Int) := by omega
  have hu := Tryd.underlying22
  have hs : (Tryd.prog.info? 24).map (·.size) = some 2 := by kernel_rfl
  obtain ⟨ie, hie, _⟩ := Option.map_eq_some_iff.1 hs
  simp [Instr.slice, Instr.sliceBounds, run_underlying hu, i0, i1, sizeOf, typeInfo, hie, go_sem]
set_option maxRecDepth 100000 in
theorem none_q (W : World) : (Instr.sliceAt 22 (.slice none 0 0) none (some (.int .i64 ((0 : Nat) : Int))) none).run Tryd.prog W = .ok (.slice none 0 0) W ∧ (Instr.sliceAt 22 (.slice none 0 0) (some (.int .i64 ((0 : Nat) : Int))) none none).run Tryd.prog W = .ok (.slice none 0 0) W := by
  have e1 := run_sliceAt_slice (P := Tryd.prog) (w := W) 22 (.slice none 0 0) none (some (.int .i64 ((0 : Nat) : Int))) none Tryd.underlying22
  have e2 := run_sliceAt_slice (P := Tryd.prog) (w := W) 22 (.slice none 0 0) (some (.int .i64 ((0 : Nat) : Int))) none none Tryd.underlying22
  rw [e1, e2]
  have hu := Tryd.underlying22
  have hs : (Tryd.prog.info? 24).map (·.size) = some 2 := by kernel_rfl
  obtain ⟨ie, hie, _⟩ := Option.map_eq_some_iff.1 hs
  constructor <;> simp [Instr.slice, Instr.sliceBounds, run_underlying hu, sizeOf, typeInfo, hie, go_sem]
/-- a list, cut in two -/
structure Cut (w : World) (ao : Option Addr) (n cap k : Nat) (L : List Cel) (A1 : Option Addr) (c1 : Nat) (A2 : Option Addr) (c2 : Nat) : Prop where
  s1 : ∀ V, (Instr.sliceAt 22 (.slice ao n cap) none (some (.int .i64 (k : Int))) none).run Tryd.prog V = .ok (.slice A1 k c1) V
  s2 : ∀ V, (Instr.sliceAt 22 (.slice ao n cap) (some (.int .i64 (k : Int))) none none).run Tryd.prog V = .ok (.slice A2 (n - k) c2) V
  n1 : A1 = none → k = 0
  n2 : A2 = none → n - k = 0
  m1 : ∀ w', Below w.heap.size w w' → ∀ ad, A1 = some ad → ∀ j u, (cl (L.take k))[j]? = some u → w'.cell? (ad.add j) = some u
  m2 : ∀ w', Below w.heap.size w w' → ∀ ad, A2 = some ad → ∀ j u, (cl (L.drop k))[j]? = some u → w'.cell? (ad.add j) = some u
  l1 : (L.take k).length = k
  l2 : (L.drop k).length = n - k
theorem cut_any {w : World} {B n cap : Nat} {ao : Option Addr} {L : List Cel} (h : OwnC 24 w B (.slice ao n cap) n L) (k : Nat) (hk : k ≤ n) : ∃ A1 c1 A2 c2, Cut w ao n cap k L A1 c1 A2 c2 := by
  obtain ⟨ao', cap', e, hcls, hnc, _, hl, _, hnone⟩ := own_cls h
  obtain ⟨rfl, rfl⟩ : ao = ao' ∧ cap = cap' := by simpa using e
  rcases h.2 with ⟨e, h0⟩ | ⟨g, c2, cur, e, _⟩
  · obtain ⟨rfl, rfl, rfl⟩ : ao = none ∧ n = 0 ∧ cap = 0 := by simpa using e
    obtain rfl : k = 0 := by omega
    obtain rfl : L = [] := List.eq_nil_of_length_eq_zero hl
    exact ⟨none, 0, none, 0, ⟨fun V => (none_q V).1, fun V => (none_q V).2, fun _ => rfl, fun _ => rfl, (fun _ _ ad e => by cases e), (fun _ _ ad e => by cases e), rfl, rfl⟩⟩
  · obtain ⟨rfl, _⟩ : ao = some ⟨g, 0, none⟩ ∧ cap = c2 := by simpa using e
    refine ⟨some ⟨g, 0, none⟩, cap, some (tailQ g cap k), cap - k, ⟨head_q g n cap k (by omega), tail_q g n cap k hk, (fun e => by cases e), (fun e => by cases e), ?_, ?_, by rw [List.length_take]; omega, by rw [List.length_drop]; omega⟩⟩
    · intro w' hb ad e j u hu
      cases e
      exact cls_cells (hcls.take k) hb j u hu
    · intro w' hb ad e j u hu
      obtain rfl : tailQ g cap k = ad := Option.some.inj e
      unfold tailQ
      by_cases q : cap = k
      · have : L.drop k = [] := List.drop_of_length_le (by omega)
        rw [this] at hu
        cases hu
      · rw [if_neg q]
        exact cls_cells (hcls.drop k) hb j u hu
end Go.Proofs.YtbjpmefjfpefpaaDoor

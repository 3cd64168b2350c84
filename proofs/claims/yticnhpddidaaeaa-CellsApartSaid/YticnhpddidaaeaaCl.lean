/-
  A MAP FROM CELLS TO NUMBERS as a function, 0 where nothing is: looked up, counted up in two steps, cleared. Conditions: those that each lemma names.
-/

import Derived.Test.YticnhpddidaaeaaCk
namespace Go.Proofs.Yticnhpddidaaeaa
open Go.RowKit Ru Ce Go.Maps Go.WideMaps Go.ChangeMaps Go.MapKept
open Go.WideElems (Fit)

abbrev OwnsC (w : World) (b n : Nat) (D : DataW Unit) := w.ownsMap Try.prog 31 (plainElem Try.prog 3) b n D
theorem ky_ne {a b : Cel} (ha : I6 a) (hb : I6 b) (h : ¬ a = b) : ¬ ky a = ky b := fun e => h (by
  have h1 := ky_of ha
  have h2 := ky_of hb
  rw [e] at h1
  have := klaw.inj h1 h2
  simp at this
  exact Prod.ext this.1 this.2)
theorem ky_key (c : Cel) : WideAt.IsKeyLit (ky c) := trivial
/-- a map as a function, 0 where nothing is -/
structure MpC (f : Cel → Nat) (D : DataW Unit) : Prop where
  has : ∀ c, I6 c → (Maps.has D (ky c) = true ↔ ¬ f c = 0)
  at' : ∀ c, I6 c → D.atKey (ky c) (.lit (.int .i64 0)) = .lit (.int .i64 (f c : Int))
/-- another number at a cell -/
def upd (f : Cel → Nat) (c : Cel) (k : Nat) (x : Cel) : Nat := if x = c then k else f x
theorem MpC.put {f : Cel → Nat} {D : DataW Unit} (h : MpC f D) {c : Cel} (hc : I6 c) {k : Nat} (hk : ¬ k = 0) (hT : Tidy D) : MpC (upd f c k) (D.put (ky c) (.lit (.int .i64 (k : Int)))) := by
  constructor
  · intro x hx
    unfold upd
    by_cases e : x = c
    · subst e
      rw [if_pos rfl]
      rw [Maps.has_put_same hT.isMap (ky_key x)]
      simp [hk]
    · rw [if_neg e, Maps.has_put_other (ky_ne hx hc e)]
      exact h.has x hx
  · intro x hx
    unfold upd
    by_cases e : x = c
    · subst e
      rw [if_pos rfl, Maps.atKey_put_same hT.isMap (ky_key x)]
    · rw [if_neg e, Maps.atKey_put_other (ky_ne hx hc e)]
      exact h.at' x hx
theorem mpC_zero : MpC (fun _ => 0) (.map []) := ⟨fun c _ => by simp [Maps.has], fun c _ => rfl⟩
abbrev cvl (c : Cel) : Value := .agg #[.int .i64 c.1, .int .i64 c.2]
theorem lit_inj {x y : Int} (h : (DataW.lit (Lit.int .i64 x) : DataW Unit) = .lit (.int .i64 y)) : x = y := by
  injection h with h
  injection h
theorem ok_world {α : Type} {a b : α} {w w' : World} (h : (Result.ok a w : Result α) = .ok b w') : w = w' := by
  injection h
theorem ok_int {a b : Int} {w w' : World} (h : (Result.ok (Value.int .i64 a) w : Result Value) = .ok (.int .i64 b) w') : a = b := by
  injection h with h
  injection h
theorem zeroI (w : World) : (zeroValue 3).run Try.prog w = .ok (.int .i64 0) w := Try.zeroValue3 w
theorem owns_heap {w w' : World} {b n : Nat} {D : DataW Unit} (h : OwnsC w b n D) (e : w'.heap[b]? = w.heap[b]?) : OwnsC w' b n D := by
  obtain ⟨es, clock, hb, F, hs, hD⟩ := h
  exact ⟨es, clock, e.trans hb, F, hs, hD⟩
set_option maxRecDepth 100000 in
theorem look_run {w : World} {b n : Nat} {f : Cel → Nat} {D : DataW Unit} (h : OwnsC w b n D) (hf : MpC f D) {c : Cel} (hc : I6 c) :
    (Instr.lookup 43 (.map (some b)) (cvl c) false).run Try.prog w = .ok (.int .i64 (f c : Int)) w := by
  obtain ⟨x, hr, hat, _⟩ := h.lookup_int klaw Try.underlying43 Try.underlying3 (zeroI w) (ky_of hc)
  rw [hf.at' c hc] at hat
  rw [hr, lit_inj hat]
theorem grown_set {w : World} {b : Nat} (o : Obj) : w.grownBy (setBlock w b o) (some b) :=
  ⟨rfl, rfl, rfl, by simp [setBlock], fun k hk hne => by
    unfold setBlock
    simp only
    have : ¬ b = k := fun e => hne (by rw [e])
    simp [this]⟩
set_option maxRecDepth 100000 in
set_option maxHeartbeats 1000000 in
/-- counted up in two steps: the entry, then the number -/
theorem inc_run {w : World} {b n : Nat} {f : Cel → Nat} {D : DataW Unit} (h : OwnsC w b n D) (hf : MpC f D) {c : Cel} (hc : I6 c) (hn : n < maxLen) {k : Nat} (hk : ¬ k = 0) (hk2 : k ≤ 1000000) {x : Int} (hx : x = (k : Int)) :
    ∃ (v0 : Value) (st : Nat) (w1 w2 : World) (D2 : DataW Unit), (Instr.mapEntry 43 (.map (some b)) (cvl c)).run Try.prog w = .ok (.tuple #[v0, .int .i64 (st : Int)]) w1 ∧
      (Instr.lookup 43 (.map (some b)) (cvl c) false).run Try.prog w1 = .ok (.int .i64 (f c : Int)) w1 ∧
      (Instr.entryStore 43 (.map (some b)) (.int .i64 (st : Int)) (.int .i64 x)).run Try.prog w1 = .ok () w2 ∧
      OwnsC w2 b (n + 1) D2 ∧ MpC (upd f c k) D2 ∧ w.grownBy w1 (some b) ∧ w.grownBy w2 (some b) := by
  subst hx
  have hkey := ky_of hc
  have hblt := h.lt
  have ht := Try.underlying43
  have hval : plainElem (H := Unit) Try.prog 3 (.int .i64 (k : Int)) = some (.lit (.int .i64 (k : Int)), []) := plainElem_int Try.underlying3 (wf_of (by omega))
  obtain ⟨w', hu, hown', hg'⟩ := h.update klaw ht hn (val := .int .i64 (k : Int)) hkey hval
  have hT := h.tidy klaw
  have hlk := look_run h hf hc
  have hzv : plainElem (H := Unit) Try.prog 3 (.int .i64 0) = some (.lit (.int .i64 0), []) := plainElem_int Try.underlying3 (by decide)
  obtain ⟨wz, huz, hownz, _⟩ := h.update klaw ht hn (val := .int .i64 0) hkey hzv
  have hcopy := h
  obtain ⟨es, clock, hb, F, hs, hD⟩ := h
  obtain ⟨v0, st, es1, clock1, hme, _, hst⟩ := Go.WideElems.entry_then_store klawS ht (fun u => zeroI u) hb F hkey
  have hb1 : (setBlock w b (.map es1 clock1)).heap[b]? = some (.map es1 clock1) := heap_setBlock_same hb _
  obtain ⟨es', clock', hs1, hs2⟩ := hst (setBlock w b (.map es1 clock1)) (.int .i64 (k : Int)) hb1
  have hw' : w' = setBlock w b (.map es' clock') := by
    exact ok_world (hu.symm.trans hs2)
  have hb2 : (setBlock (setBlock w b (.map es1 clock1)) b (.map es' clock')).heap[b]? = some (.map es' clock') := heap_setBlock_same hb1 _
  have hb3 : w'.heap[b]? = some (.map es' clock') := by rw [hw']; exact heap_setBlock_same hb _
  refine ⟨v0, st, setBlock w b (.map es1 clock1), _, D.put (ky c) (.lit (.int .i64 (k : Int))), hme, ?_, hs1, owns_heap hown' (hb2.trans hb3.symm), hf.put hc hk hT, grown_set _, ?_⟩
  · rcases klawS.find w hkey es.toList F.keys with ⟨h1, h2⟩ | ⟨j, e0, h1, h2, h3⟩
    · have r1 : (Instr.mapEntry 43 (.map (some b)) (cvl c)).run Try.prog w = .ok (.tuple #[.int .i64 0, goInt clock]) (setBlock w b (.map (es.push ⟨cvl c, .int .i64 0, clock⟩) (clock + 1))) := by
        simp [Instr.mapEntry, run_underlying ht, MapKept.run_getObj_map hb, klawS.check w false hkey, h1, Try.zeroValue3, MapKept.run_setObj_map _ hb, Result.andThen, setBlock]
      have r2 : (Instr.mapUpdate 43 (.map (some b)) (cvl c) (.int .i64 0)).run Try.prog w = .ok () (setBlock w b (.map (es.push ⟨cvl c, .int .i64 0, clock⟩) (clock + 1))) := by
        simp [Instr.mapUpdate, run_underlying ht, MapKept.run_getObj_map hb, klawS.check w false hkey, h1, MapKept.run_setObj_map _ hb, Result.andThen, setBlock]
      have e1 : setBlock w b (.map es1 clock1) = wz := by
        exact (ok_world (hme.symm.trans r1)).trans (ok_world (huz.symm.trans r2)).symm
      rw [e1]
      obtain ⟨x, hr, hat, _⟩ := hownz.lookup_int klaw ht Try.underlying3 (zeroI wz) hkey
      rw [Maps.atKey_put_same hT.isMap (ky_key c)] at hat
      have hat := lit_inj hat
      have h0 : f c = 0 := by
        have r3 : (Instr.lookup 43 (.map (some b)) (cvl c) false).run Try.prog w = .ok (.int .i64 0) w := by
          simp [Instr.lookup, run_underlying ht, MapKept.run_getObj_map hb, klawS.check w es.isEmpty hkey, h1, Try.zeroValue3, Result.andThen]
        have r4 := ok_int (hlk.symm.trans r3)
        omega
      rw [hr, h0, ← hat]
      rfl
    · have hj : es[j]? = some e0 := by simpa using h2
      have hsame : es.modify j (fun e => { e with key := cvl c }) = es := by
        apply Array.ext'
        rw [Array.toList_modify, modify_eq_set _ _ _ _ h2]
        have : ({ e0 with key := cvl c } : MapEntry) = e0 := by
          have h4 : e0.key = cvl c := h3
          rw [← h4]
        rw [this]
        exact Go.WideElems.set_self _ _ _ h2
      have r1 : (Instr.mapEntry 43 (.map (some b)) (cvl c)).run Try.prog w = .ok (.tuple #[e0.val, goInt e0.born]) (setBlock w b (.map es clock)) := by
        simp [Instr.mapEntry, run_underlying ht, MapKept.run_getObj_map hb, klawS.check w false hkey, h1, hj, h3, klawS.stays w hkey, hsame, MapKept.run_setObj_map _ hb, Result.andThen, setBlock]
      rw [ok_world (hme.symm.trans r1)]
      exact look_run (owns_heap hcopy (by rw [heap_setBlock_same hb]; exact hb.symm)) hf hc
  · refine ⟨rfl, rfl, rfl, by simp [setBlock], fun k hk2 hne => ?_⟩
    rw [(grown_set _).block k (by simpa [setBlock] using hk2) hne, (grown_set _).block k hk2 hne]
set_option maxRecDepth 100000 in
theorem clear_run {w : World} {b n : Nat} {D : DataW Unit} (h : OwnsC w b n D) : ∃ w', (∀ ty, (Builtin.clear_ #[43] ty #[.map (some b)]).run Try.prog w = .ok (.tuple #[]) w') ∧ OwnsC w' b 0 (.map []) ∧ w.grownBy w' (some b) := by
  obtain ⟨es, clock, hb, F, hs, hD⟩ := h
  refine ⟨setBlock w b (.map #[] clock), fun ty => ?_, ⟨#[], clock, heap_setBlock_same hb _, ⟨by simp, ⟨by simp, by simp, by simp⟩, by simp⟩, Nat.le_refl _, rfl⟩, grown_set _⟩
  simp [Builtin.clear_, run_underlying Try.underlying43, MapKept.run_getObj_map hb, MapKept.run_setObj_map _ hb, Result.andThen, setBlock]
theorem MpC.congr {f g : Cel → Nat} {D : DataW Unit} (h : MpC f D) (e : ∀ x, f x = g x) : MpC g D := ⟨fun c hc => by rw [← e]; exact h.has c hc, fun c hc => by rw [← e]; exact h.at' c hc⟩
theorem gtrans {a b c : World} {r : Nat} (h : a.grownBy b (some r)) (k : b.grownBy c (some r)) : a.grownBy c (some r) :=
  ⟨k.os.trans h.os, k.tape.trans h.tape, k.output.trans h.output, Nat.le_trans h.size k.size, fun i hi hne => (k.block i (Nat.lt_of_lt_of_le hi h.size) hne).trans (h.block i hi hne)⟩
theorem grefl (a : World) (r : Nat) : a.grownBy a (some r) := ⟨rfl, rfl, rfl, Nat.le_refl _, fun _ _ _ => rfl⟩
theorem galloc (a : World) (o : Obj) (r : Nat) : a.grownBy (a.alloc o) (some r) := World.grownBy_alloc a o _
theorem gdrew {a b : World} {r : Nat} (h : a.grownBy b (some r)) (q : Nat) : a.grownBy (b.drewN q) (some r) := ⟨h.os, h.tape, h.output, h.size, h.block⟩
theorem owns_cell_ne {w : World} {b n g o : Nat} {D : DataW Unit} {v : Value} (h : OwnsC w b n D) (hc : w.cell? ⟨g, o, none⟩ = some v) : ¬ g = b := by
  rintro rfl
  obtain ⟨es, clock, hb, _⟩ := h
  simp [World.cell?, hb] at hc
theorem cls_kept {w wr : World} {b n : Nat} {D : DataW Unit} {a : Option Addr} {S : List Cel} (h : OwnsC w b n D) (hS : Cls w a S) (hg : w.grownBy wr (some b)) : Cls wr a S := fun i hi => by
  obtain ⟨g, off, ha, h0, h1⟩ := hS i hi
  have hne := owns_cell_ne h h0
  have hb := hg.block g (World.block_lt_of_cell? w _ h0) (fun e => hne (Option.some.inj e))
  exact ⟨g, off, ha, (World.cell?_of_block hb).trans h0, (World.cell?_of_block hb).trans h1⟩
theorem cell_kp {w wr : World} {b g o : Nat} {v : Value} (hc : w.cell? ⟨g, o, none⟩ = some v) (hg : w.grownBy wr (some b)) (hne : ¬ g = b) : wr.cell? ⟨g, o, none⟩ = some v :=
  (World.cell?_of_block (hg.block g (World.block_lt_of_cell? w _ hc) (fun e => hne (Option.some.inj e)))).trans hc
/-- the map counts so, and nothing else has turned -/
def CS (b : Nat) (w wr : World) (f : Cel → Nat) (N : Nat) : Prop := ∃ nn D, OwnsC wr b nn D ∧ MpC f D ∧ nn ≤ N ∧ w.grownBy wr (some b) ∧ b < w.heap.size
theorem CS.alloc {b : Nat} {w wr : World} {f : Cel → Nat} {N : Nat} (h : CS b w wr f N) (o : Obj) : CS b w (wr.alloc o) f N := by
  obtain ⟨nn, D, h1, h2, h3, h4, h5⟩ := h
  exact ⟨nn, D, h1.alloc o, h2, h3, gtrans h4 (galloc _ _ _), h5⟩
theorem CS.drewN {b : Nat} {w wr : World} {f : Cel → Nat} {N : Nat} (h : CS b w wr f N) (q : Nat) : CS b w (wr.drewN q) f N := by
  obtain ⟨nn, D, h1, h2, h3, h4, h5⟩ := h
  exact ⟨nn, D, h1, h2, h3, gdrew h4 q, h5⟩
theorem CS.congr {b : Nat} {w wr : World} {f g : Cel → Nat} {N M : Nat} (h : CS b w wr f N) (e : ∀ x, f x = g x) (k : N ≤ M) : CS b w wr g M := by
  obtain ⟨nn, D, h1, h2, h3, h4, h5⟩ := h
  exact ⟨nn, D, h1, h2.congr e, by omega, h4, h5⟩
/-- what a region needs that counts up -/
def Inc (b : Nat) (w wr : World) (f : Cel → Nat) (N : Nat) (c : Cel) (x : Int) (k : Nat) : Prop :=
  (Instr.lookup 43 (.map (some b)) (cvl c) false).run Try.prog wr = .ok (.int .i64 (f c : Int)) wr ∧
  ∃ (v0 : Value) (st : Nat) (w1 w2 : World), (Instr.mapEntry 43 (.map (some b)) (cvl c)).run Try.prog wr = .ok (.tuple #[v0, .int .i64 (st : Int)]) w1 ∧
      (Instr.lookup 43 (.map (some b)) (cvl c) false).run Try.prog w1 = .ok (.int .i64 (f c : Int)) w1 ∧
      (Instr.entryStore 43 (.map (some b)) (.int .i64 (st : Int)) (.int .i64 x)).run Try.prog w1 = .ok () w2 ∧
      CS b w w2 (upd f c k) (N + 1) ∧ wr.grownBy w1 (some b) ∧ wr.grownBy w2 (some b)
theorem CS.inc {b : Nat} {w wr : World} {f : Cel → Nat} {N : Nat} (h : CS b w wr f N) (hN : N ≤ 100000000) {c : Cel} (hc : I6 c) {k : Nat} (hk : ¬ k = 0) (hk2 : k ≤ 1000000) {x : Int} (hx : x = (k : Int)) : Inc b w wr f N c x k := by
  obtain ⟨nn, D, h1, h2, h3, h4, h5⟩ := h
  obtain ⟨v0, st, w1, w2, D2, r1, r2, r3, o2, m2, g1, g2⟩ := inc_run h1 h2 hc (by unfold maxLen; omega) hk hk2 hx
  exact ⟨look_run h1 h2 hc, v0, st, w1, w2, r1, r2, r3, ⟨nn + 1, D2, o2, m2, by omega, gtrans h4 g2, h5⟩, g1, g2⟩
end Go.Proofs.Yticnhpddidaaeaa

/-
  A FRAME THAT HOLDS A NEW SECTOR: its cells, and its entry in the map. Conditions: those that each lemma names.
-/
import Derived.Test.YtkmedlbokneegaaDoorGi
import Derived.Laws.IdiomCopy
namespace Go.Proofs.YtkmedlbokneegaaDoor
open Go.RowKit Go.Maps

theorem keyLit (i : Int) : WideAt.IsKeyLit (.int .i64 i) := by unfold WideAt.IsKeyLit; trivial
def Px.cut (X : Px) (c : Nat) : Px := { X with c := c }
theorem MapOk.new {X : Px} {D0 : DataW Unit} {k c : Nat} {i : Int} (hk : k < c) (ht : Tidy D0) (hhas : ∀ j : Int, Maps.has D0 (.int .i64 j) = true ↔ ∃ q, q < c ∧ q ≠ k ∧ (X.fr q).i = j)
    (hat : ∀ q, q < c → q ≠ k → D0.atKey (.int .i64 (X.fr q).i) (.lit (.int .i64 0)) = .lit (.int .i64 (q : Int))) (hsz : Maps.size D0 + 1 = c) (hni : ∀ q, q < c → q ≠ k → (X.fr q).i ≠ i) : MapOk ((X.cut c).put k (Fr.new i)) (D0.put (.int .i64 i) (.lit (.int .i64 (k : Int)))) := by
  have hfr : ∀ q, (((X.cut c).put k (Fr.new i)).fr q).i = if q = k then i else (X.fr q).i := fun q => by
    rw [put_fr]
    split
    · rfl
    · rfl
  have hni0 : Maps.has D0 (.int .i64 i) = false := by
    cases hh : Maps.has D0 (.int .i64 i)
    · rfl
    · obtain ⟨q, h1, h2, h3⟩ := (hhas i).1 hh
      exact absurd h3 (hni q h1 h2)
  refine ⟨ht.put (keyLit i) _, fun j => ?_, fun q hq => ?_, ?_⟩
  · by_cases e : j = i
    · subst e
      rw [has_put_same ht.isMap (keyLit j)]
      exact ⟨fun _ => ⟨k, hk, by rw [hfr, if_pos rfl]⟩, fun _ => rfl⟩
    · rw [has_put_other (key_ne e), hhas j]
      constructor
      · rintro ⟨q, h1, h2, h3⟩; exact ⟨q, h1, by rw [hfr, if_neg h2]; exact h3⟩
      · rintro ⟨q, h1, h3⟩
        rw [hfr] at h3
        by_cases e2 : q = k
        · rw [if_pos e2] at h3; exact absurd h3.symm e
        · rw [if_neg e2] at h3; exact ⟨q, h1, e2, h3⟩
  · have hq' : q < c := hq
    rw [hfr]
    by_cases e2 : q = k
    · subst e2
      rw [if_pos rfl, atKey_put_same ht.isMap (keyLit i)]
    · rw [if_neg e2, atKey_put_other (key_ne (hni q hq' e2))]
      exact hat q hq' e2
  · rw [size_put ht, hni0]
    exact hsz
theorem MapOk.fresh {X : Px} {D : DataW Unit} (h : MapOk X D) {i : Int} (ha : X.at i = none) : MapOk ((X.cut (X.c + 1)).put X.c (Fr.new i)) (D.put (.int .i64 i) (.lit (.int .i64 (X.c : Int)))) := by
  refine MapOk.new (by omega) h.tidy (fun j => ?_) (fun q h1 h2 => h.at' q (by omega)) (by rw [h.size]) (fun q h1 h2 => at_none ha q (by omega))
  rw [h.has j]
  constructor
  · rintro ⟨q, h1, h2⟩; exact ⟨q, by omega, by omega, h2⟩
  · rintro ⟨q, h1, h2, h3⟩; exact ⟨q, by omega, h3⟩
theorem MapOk.over {N : Nat} {X : Px} {D : DataW Unit} (h : MapOk X D) (o : X.Ok N) {i : Int} {k : Nat} (hk : k < X.c) (ha : X.at i = none) : MapOk ((X.cut X.c).put k (Fr.new i)) ((D.del (.int .i64 (X.fr k).i)).put (.int .i64 i) (.lit (.int .i64 (k : Int)))) := by
  have hne : ∀ q, q < X.c → q ≠ k → (X.fr q).i ≠ (X.fr k).i := fun q h1 h2 e => h2 (o.inj q k h1 hk e)
  refine MapOk.new hk (h.tidy.del _) (fun j => ?_) (fun q h1 h2 => ?_) ?_ (fun q h1 h2 => at_none ha q h1)
  · by_cases e : j = (X.fr k).i
    · subst e
      rw [has_del_same]
      exact ⟨fun q => absurd q (by decide), fun ⟨q, h1, h2, h3⟩ => absurd h3 (hne q h1 h2)⟩
    · rw [has_del_other (key_ne e), h.has j]
      constructor
      · rintro ⟨q, h1, h2⟩; exact ⟨q, h1, fun e2 => e (by rw [← h2, e2]), h2⟩
      · rintro ⟨q, h1, _, h3⟩; exact ⟨q, h1, h3⟩
  · rw [atKey_del_other (key_ne (hne q h1 h2))]
    exact h.at' q h1
  · have := size_del h.tidy (k := .int .i64 (X.fr k).i)
    rw [(h.has _).2 ⟨k, hk, rfl⟩, h.size] at this
    exact this
/-- the map's block turns, and a frame's cells -/
theorem Core.newF {B N M : Nat} {w w1 w2 : World} {μ : Mp} (h : Core B N w μ) {k c : Nat} (i : Int) (hF : OnF w w1 μ.F k (fv (Fr.new i) none 0)) (hM : μ.M < w.heap.size) (hT : w1.mapTurned w2 μ.M) (D : DataW Unit) (ho : ((μ.X.cut c).put k (Fr.new i)).Ok M) :
    Core B M w2 { μ with X := (μ.X.cut c).put k (Fr.new i), a := updA μ.a k none, cp := updC μ.cp k 0, D := D } := by
  have hg := hT.grown
  have hb : ∀ b, b < w.heap.size → b ≠ μ.M → w2.heap[b]? = w1.heap[b]? := fun b hb hn => hg.block b (by rw [hF.size]; exact hb) (fun e => hn (Option.some.inj e))
  have hs : w.heap.size ≤ w2.heap.size := Nat.le_trans (Nat.le_of_eq hF.size.symm) hg.size
  have lt := h.lt hM
  have fx := h.fx
  have hbo : ∀ b, b < w.heap.size → b ≠ μ.M → b ≠ μ.F → w2.heap[b]? = w.heap[b]? := fun b h1 h2 h3 => (hb b h1 h2).trans (hF.block b h3)
  have hcF : ∀ o, w2.cell? ⟨μ.F, o, none⟩ = w1.cell? ⟨μ.F, o, none⟩ := fun o => World.cell?_of_block (hb _ h.row.lt fx.FM)
  refine ⟨h.d.same hs fun b q => hbo b (h.d.lt b q).2 (fun e => fx.sM (e ▸ q)) (fun e => fx.sF (e ▸ q)), h.t, ⟨fx.bP, fx.bF, fx.bM, fx.PF, fx.PM, fx.FM, fx.sP, fx.sF, fx.sM⟩, h.hd.same (hbo _ (lt _ (.inl (.inl rfl))).2 fx.PM fx.PF), ⟨fun j hj i2 hi => ?_, fun i2 => ((World.frozen?_of_block (hb _ h.row.lt fx.FM)).trans (hF.froz i2)).trans (h.row.fz i2), Nat.lt_of_lt_of_le h.row.lt hs⟩, ⟨fun j hj => ?_, fun j hj b off e => ?_, fun j hj => ?_⟩, ho⟩
  · show w2.cell? ⟨μ.F, j * 5 + i2, none⟩ = some (fv (((μ.X.cut c).put k (Fr.new i)).fr j) (updA μ.a k none j) (updC μ.cp k 0 j) i2)
    unfold updA updC
    rw [put_fr, hcF]
    by_cases e : j = k
    · subst e
      rw [if_pos rfl, if_pos rfl, if_pos rfl]
      exact hF.new i2 hi
    · rw [if_neg e, if_neg e, if_neg e, hF.old _ (by omega)]
      exact h.row.c j hj i2 hi
  · show Lies w2 (updA μ.a k none j) (nums (((μ.X.cut c).put k (Fr.new i)).fr j).t)
    unfold updA
    rw [put_fr]
    by_cases e : j = k
    · rw [if_pos e, if_pos e]
      exact (Fit.nil B w2 μ 0).1
    · rw [if_neg e, if_neg e]
      exact lies_same (h.by'.l j hj) fun b off q => by
        have := h.by'.b j hj b off q
        exact hbo b this.2.1 (fun x => this.2.2 (.inr (.inr (.inl x)))) (fun x => this.2.2 (.inr (.inl x)))
  · change updA μ.a k none j = _ at e
    unfold updA at e
    split at e
    · cases e
    · have := h.by'.b j hj b off e; exact ⟨this.1, Nat.lt_of_lt_of_le this.2.1 hs, this.2.2⟩
  · show (((μ.X.cut c).put k (Fr.new i)).fr j).t.size ≤ updC μ.cp k 0 j
    unfold updC
    rw [put_fr]
    split
    · exact Nat.zero_le _
    · exact h.by'.c j hj
theorem stp_newF {w w1 w2 : World} {μ : Mp} {k c : Nat} {i : Int} {D : DataW Unit} (hF : OnF w w1 μ.F k (fv (Fr.new i) none 0)) (hT : w1.mapTurned w2 μ.M) : Stp w μ.all w2 ({ μ with X := (μ.X.cut c).put k (Fr.new i), a := updA μ.a k none, cp := updC μ.cp k 0, D := D } : Mp).all := by
  have hg := hT.grown
  refine ⟨hg.os.trans hF.os, hg.tape.trans hF.tape, hg.output.trans hF.output, Nat.le_trans (Nat.le_of_eq hF.size.symm) hg.size, fun b h1 h2 => (hg.block b (by rw [hF.size]; exact h1) (fun e => h2 (.inl (.inr (.inr (.inl (Option.some.inj e))))))).trans (hF.block b (fun e => h2 (.inl (.inr (.inl e))))), fun b hb => ?_⟩
  rcases hb with q | ⟨j, off, hj, e⟩
  · exact .inl (.inl q)
  · change updA μ.a k none j = _ at e
    unfold updA at e
    split at e
    · cases e
    · exact .inl (.inr ⟨j, off, hj, e⟩)
/-- five cells stored one by one -/
theorem onF_new {w : World} {F m : Nat} {fr : Nat → Fr} {a : Nat → Option Addr} {cp : Nat → Nat} (h : Row w F m fr a cp) {k : Nat} (hk : k < m) (i : Int) :
    OnF w (((((w.setCell ⟨F, k * 5 + 0, none⟩ (.int .i64 i)).setCell ⟨F, k * 5 + 1, none⟩ (.slice none 0 0)).setCell ⟨F, k * 5 + 2, none⟩ (.bool false)).setCell ⟨F, k * 5 + 3, none⟩ (.bool false)).setCell ⟨F, k * 5 + 4, none⟩ (.int .i64 0)) F k (fv (Fr.new i) none 0) := by
  refine ((((((OnF.refl (h.c k hk)).set 0 (by omega) _).set 1 (by omega) _).set 2 (by omega) _).set 3 (by omega) _).set 4 (by omega) _).congr fun j hj => ?_
  match j, hj with
  | 0, _ => rfl
  | 1, _ => rfl
  | 2, _ => rfl
  | 3, _ => rfl
  | 4, _ => rfl
theorem onF_cells {w : World} {F m : Nat} {fr : Nat → Fr} {a : Nat → Option Addr} {cp : Nat → Nat} (h : Row w F m fr a cp) {k : Nat} (hk : k < m) (i : Int) :
    OnF w (w.setCells F (k * 5) [.int .i64 i, .slice none 0 0, .bool false, .bool false, .int .i64 0]) F k (fv (Fr.new i) none 0) := onF_new h hk i
set_option maxRecDepth 100000 in
theorem info_fr : (Tryd.prog.info? 73).map (·.size) = some 5 := by kernel_rfl
/-- a whole frame is stored -/
theorem wpList_store_frame {ops : Array Oper} {rest : List Oper} {o : Oper} {a : Act} {w : World} {Q : Exit → Act → World → Prop} (hgd : o.guard = none) (x y : Operand) (ho : o.op = .store 73 x y)
    {F m : Nat} {fr : Nat → Fr} {ad : Nat → Option Addr} {cp : Nat → Nat} (hr : Row w F m fr ad cp) {k : Nat} (hk : k < m) (i : Int) (hx : a.eval x = .pointer (some ⟨F, k * 5, none⟩)) (hy : a.eval y = .agg #[.int .i64 i, .slice none 0 0, .bool false, .bool false, .int .i64 0])
    (h : ∀ w', OnF w w' F k (fv (Fr.new i) none 0) → wpList Tryd.prog ops Q rest (a.put o.dst undef) w') : wpList Tryd.prog ops Q (o :: rest) a w := by
  refine wpList_plain hgd fun _ hK => ?_
  have hs := run_storeCells_cells (P := Tryd.prog) F (k * 5) [.int .i64 i, .slice none 0 0, .bool false, .bool false, .int .i64 0] 0 w (fun j hj => by rw [Nat.add_zero]; rw [hr.c k hk j hj]; rfl) (fun j _ => hr.fz _) (by intro v hv; simp at hv; rcases hv with rfl | rfl | rfl | rfl <;> rfl)
  rw [Nat.add_zero] at hs
  unfold Oper.wp execOp
  cases hq : Tryd.prog.info? 73 with
  | none => have := info_fr; rw [hq] at this; cases this
  | some q =>
    have hi : q.size = 5 := by have := info_fr; rw [hq] at this; exact Option.some.inj this
    simp [ho, hx, hy, Instr.storeAt, Instr.sureAddr, Result.andThen_ok, storeVar, sizeOf, typeInfo, hq, hi, Value.cells, hs]
    exact hK _ _ (h _ (onF_cells hr hk i))
end Go.Proofs.YtkmedlbokneegaaDoor

/-
  A FRAME THAT HOLDS A NEW SECTOR: its cells, and its entry in the map. Conditions: those that each lemma names.
  THE WALK of the pool's find. Conditions: a pool lies in memory, and there is such a sector.
-/
import Derived.Laws.IdiomCopy
import Derived.Test.YtokikeenfpligaaGreatDoorU24
namespace Go.Proofs.YtokikeenfpligaaGreatDoor
open Go.RowKit Go.Maps

theorem keyLit (i : Int) : WideAt.IsKeyLit (.int .i64 i) := by unfold WideAt.IsKeyLit; trivial
def Px.cut (X : Px) (c : Nat) : Px := { X with c := c }
theorem MapOk.new {X : Px} {D0 : DataW Unit} {k c : Nat} {i : Int} (hk : k < c) (ht : Tidy D0) (hhas : ∀ j : Int, Maps.has D0 (.int .i64 j) = true ↔ ∃ q, q < c ∧ q ≠ k ∧ (X.fr q).i = j)
    (hat : ∀ q, q < c → q ≠ k → D0.atKey (.int .i64 (X.fr q).i) (.lit (.int .i64 0)) = .lit (.int .i64 (q : Int))) (hsz : Maps.size D0 + 1 = c) (hni : ∀ q, q < c → q ≠ k → (X.fr q).i ≠ i) : MapOk ((X.cut c).put k (Fr.new i)) (D0.put (.int .i64 i) (.lit (.int .i64 (k : Int)))) := by
  have hfr : ∀ q, (((X.cut c).put k (Fr.new i)).fr q).i = if q = k then i else (X.fr q).i := fun q => by
    rw [put_fr]
    split
    · rfl
    · rfl
  have hni0 : Maps.has D0 (.int .i64 i) = false := by
    cases hh : Maps.has D0 (.int .i64 i)
    · rfl
    · obtain ⟨q, h1, h2, h3⟩ := (hhas i).1 hh
      exact absurd h3 (hni q h1 h2)
  refine ⟨ht.put (keyLit i) _, fun j => ?_, fun q hq => ?_, ?_⟩
  · by_cases e : j = i
    · subst e
      rw [has_put_same ht.isMap (keyLit j)]
      exact ⟨fun _ => ⟨k, hk, by rw [hfr, if_pos rfl]⟩, fun _ => rfl⟩
    · rw [has_put_other (key_ne e), hhas j]
      constructor
      · rintro ⟨q, h1, h2, h3⟩; exact ⟨q, h1, by rw [hfr, if_neg h2]; exact h3⟩
      · rintro ⟨q, h1, h3⟩
        rw [hfr] at h3
        by_cases e2 : q = k
        · rw [if_pos e2] at h3; exact absurd h3.symm e
        · rw [if_neg e2] at h3; exact ⟨q, h1, e2, h3⟩
  · have hq' : q < c := hq
    rw [hfr]
    by_cases e2 : q = k
    · subst e2
      rw [if_pos rfl, atKey_put_same ht.isMap (keyLit i)]
    · rw [if_neg e2, atKey_put_other (key_ne (hni q hq' e2))]
      exact hat q hq' e2
  · rw [size_put ht, hni0]
    exact hsz
theorem MapOk.fresh {X : Px} {D : DataW Unit} (h : MapOk X D) {i : Int} (ha : X.at i = none) : MapOk ((X.cut (X.c + 1)).put X.c (Fr.new i)) (D.put (.int .i64 i) (.lit (.int .i64 (X.c : Int)))) := by
  refine MapOk.new (by omega) h.tidy (fun j => ?_) (fun q h1 h2 => h.at' q (by omega)) (by rw [h.size]) (fun q h1 h2 => at_none ha q (by omega))
  rw [h.has j]
  constructor
  · rintro ⟨q, h1, h2⟩; exact ⟨q, by omega, by omega, h2⟩
  · rintro ⟨q, h1, h2, h3⟩; exact ⟨q, by omega, h3⟩
theorem MapOk.over {N : Nat} {X : Px} {D : DataW Unit} (h : MapOk X D) (o : X.Ok N) {i : Int} {k : Nat} (hk : k < X.c) (ha : X.at i = none) : MapOk ((X.cut X.c).put k (Fr.new i)) ((D.del (.int .i64 (X.fr k).i)).put (.int .i64 i) (.lit (.int .i64 (k : Int)))) := by
  have hne : ∀ q, q < X.c → q ≠ k → (X.fr q).i ≠ (X.fr k).i := fun q h1 h2 e => h2 (o.inj q k h1 hk e)
  refine MapOk.new hk (h.tidy.del _) (fun j => ?_) (fun q h1 h2 => ?_) ?_ (fun q h1 h2 => at_none ha q h1)
  · by_cases e : j = (X.fr k).i
    · subst e
      rw [has_del_same]
      exact ⟨fun q => absurd q (by decide), fun ⟨q, h1, h2, h3⟩ => absurd h3 (hne q h1 h2)⟩
    · rw [has_del_other (key_ne e), h.has j]
      constructor
      · rintro ⟨q, h1, h2⟩; exact ⟨q, h1, fun e2 => e (by rw [← h2, e2]), h2⟩
      · rintro ⟨q, h1, _, h3⟩; exact ⟨q, h1, h3⟩
  · rw [atKey_del_other (key_ne (hne q h1 h2))]
    exact h.at' q h1
  · have := size_del h.tidy (k := .int .i64 (X.fr k).i)
    rw [(h.has _).2 ⟨k, hk, rfl⟩, h.size] at this
    exact this
/-- the map's block turns, and a frame's cells -/
theorem Core.newF {B N M : Nat} {w w1 w2 : World} {μ : Mp} (h : Core B N w μ) {k c : Nat} (i : Int) (hF : OnF w w1 μ.F k (fv (Fr.new i) none 0)) (hM : μ.M < w.heap.size) (hT : w1.mapTurned w2 μ.M) (D : DataW Unit) (ho : ((μ.X.cut c).put k (Fr.new i)).Ok M) :
    Core B M w2 { μ with X := (μ.X.cut c).put k (Fr.new i), a := updA μ.a k none, cp := updC μ.cp k 0, D := D } := by
  have hg := hT.grown
  have hb : ∀ b, b < w.heap.size → b ≠ μ.M → w2.heap[b]? = w1.heap[b]? := fun b hb hn => hg.block b (by rw [hF.size]; exact hb) (fun e => hn (Option.some.inj e))
  have hs : w.heap.size ≤ w2.heap.size := Nat.le_trans (Nat.le_of_eq hF.size.symm) hg.size
  have lt := h.lt hM
  have fx := h.fx
  have hbo : ∀ b, b < w.heap.size → b ≠ μ.M → b ≠ μ.F → w2.heap[b]? = w.heap[b]? := fun b h1 h2 h3 => (hb b h1 h2).trans (hF.block b h3)
  have hcF : ∀ o, w2.cell? ⟨μ.F, o, none⟩ = w1.cell? ⟨μ.F, o, none⟩ := fun o => World.cell?_of_block (hb _ h.row.lt fx.FM)
  refine ⟨h.d.same hs fun b q => hbo b (h.d.lt b q).2 (fun e => fx.sM (e ▸ q)) (fun e => fx.sF (e ▸ q)), h.t, ⟨fx.bP, fx.bF, fx.bM, fx.PF, fx.PM, fx.FM, fx.sP, fx.sF, fx.sM⟩, h.hd.same (hbo _ (lt _ (.inl (.inl rfl))).2 fx.PM fx.PF), ⟨fun j hj i2 hi => ?_, fun i2 => ((World.frozen?_of_block (hb _ h.row.lt fx.FM)).trans (hF.froz i2)).trans (h.row.fz i2), Nat.lt_of_lt_of_le h.row.lt hs⟩, ⟨fun j hj => ?_, fun j hj b off e => ?_, fun j hj => ?_⟩, ho⟩
  · show w2.cell? ⟨μ.F, j * 5 + i2, none⟩ = some (fv (((μ.X.cut c).put k (Fr.new i)).fr j) (updA μ.a k none j) (updC μ.cp k 0 j) i2)
    unfold updA updC
    rw [put_fr, hcF]
    by_cases e : j = k
    · subst e
      rw [if_pos rfl, if_pos rfl, if_pos rfl]
      exact hF.new i2 hi
    · rw [if_neg e, if_neg e, if_neg e, hF.old _ (by omega)]
      exact h.row.c j hj i2 hi
  · show Lies w2 (updA μ.a k none j) (nums (((μ.X.cut c).put k (Fr.new i)).fr j).t)
    unfold updA
    rw [put_fr]
    by_cases e : j = k
    · rw [if_pos e, if_pos e]
      exact (Fit.nil B w2 μ 0).1
    · rw [if_neg e, if_neg e]
      exact lies_same (h.by'.l j hj) fun b off q => by
        have := h.by'.b j hj b off q
        exact hbo b this.2.1 (fun x => this.2.2 (.inr (.inr (.inl x)))) (fun x => this.2.2 (.inr (.inl x)))
  · change updA μ.a k none j = _ at e
    unfold updA at e
    split at e
    · cases e
    · have := h.by'.b j hj b off e; exact ⟨this.1, Nat.lt_of_lt_of_le this.2.1 hs, this.2.2⟩
  · show (((μ.X.cut c).put k (Fr.new i)).fr j).t.size ≤ updC μ.cp k 0 j
    unfold updC
    rw [put_fr]
    split
    · exact Nat.zero_le _
    · exact h.by'.c j hj
theorem stp_newF {w w1 w2 : World} {μ : Mp} {k c : Nat} {i : Int} {D : DataW Unit} (hF : OnF w w1 μ.F k (fv (Fr.new i) none 0)) (hT : w1.mapTurned w2 μ.M) : Stp w μ.all w2 ({ μ with X := (μ.X.cut c).put k (Fr.new i), a := updA μ.a k none, cp := updC μ.cp k 0, D := D } : Mp).all := by
  have hg := hT.grown
  refine ⟨hg.os.trans hF.os, hg.tape.trans hF.tape, hg.output.trans hF.output, Nat.le_trans (Nat.le_of_eq hF.size.symm) hg.size, fun b h1 h2 => (hg.block b (by rw [hF.size]; exact h1) (fun e => h2 (.inl (.inr (.inr (.inl (Option.some.inj e))))))).trans (hF.block b (fun e => h2 (.inl (.inr (.inl e))))), fun b hb => ?_⟩
  rcases hb with q | ⟨j, off, hj, e⟩
  · exact .inl (.inl q)
  · change updA μ.a k none j = _ at e
    unfold updA at e
    split at e
    · cases e
    · exact .inl (.inr ⟨j, off, hj, e⟩)
/-- five cells stored one by one -/
theorem onF_new {w : World} {F m : Nat} {fr : Nat → Fr} {a : Nat → Option Addr} {cp : Nat → Nat} (h : Row w F m fr a cp) {k : Nat} (hk : k < m) (i : Int) :
    OnF w (((((w.setCell ⟨F, k * 5 + 0, none⟩ (.int .i64 i)).setCell ⟨F, k * 5 + 1, none⟩ (.slice none 0 0)).setCell ⟨F, k * 5 + 2, none⟩ (.bool false)).setCell ⟨F, k * 5 + 3, none⟩ (.bool false)).setCell ⟨F, k * 5 + 4, none⟩ (.int .i64 0)) F k (fv (Fr.new i) none 0) := by
  refine ((((((OnF.refl (h.c k hk)).set 0 (by omega) _).set 1 (by omega) _).set 2 (by omega) _).set 3 (by omega) _).set 4 (by omega) _).congr fun j hj => ?_
  match j, hj with
  | 0, _ => rfl
  | 1, _ => rfl
  | 2, _ => rfl
  | 3, _ => rfl
  | 4, _ => rfl
theorem onF_cells {w : World} {F m : Nat} {fr : Nat → Fr} {a : Nat → Option Addr} {cp : Nat → Nat} (h : Row w F m fr a cp) {k : Nat} (hk : k < m) (i : Int) :
    OnF w (w.setCells F (k * 5) [.int .i64 i, .slice none 0 0, .bool false, .bool false, .int .i64 0]) F k (fv (Fr.new i) none 0) := onF_new h hk i
set_option maxRecDepth 100000 in
theorem info_fr : (Tryz.prog.info? 173).map (·.size) = some 5 := by kernel_rfl
/-- a whole frame is stored -/
theorem wpList_store_frame {ops : Array Oper} {rest : List Oper} {o : Oper} {a : Act} {w : World} {Q : Exit → Act → World → Prop} (hgd : o.guard = none) (x y : Operand) (ho : o.op = .store 173 x y)
    {F m : Nat} {fr : Nat → Fr} {ad : Nat → Option Addr} {cp : Nat → Nat} (hr : Row w F m fr ad cp) {k : Nat} (hk : k < m) (i : Int) (hx : a.eval x = .pointer (some ⟨F, k * 5, none⟩)) (hy : a.eval y = .agg #[.int .i64 i, .slice none 0 0, .bool false, .bool false, .int .i64 0])
    (h : ∀ w', OnF w w' F k (fv (Fr.new i) none 0) → wpList Tryz.prog ops Q rest (a.put o.dst undef) w') : wpList Tryz.prog ops Q (o :: rest) a w := by
  refine wpList_plain hgd fun _ hK => ?_
  have hs := run_storeCells_cells (P := Tryz.prog) F (k * 5) [.int .i64 i, .slice none 0 0, .bool false, .bool false, .int .i64 0] 0 w (fun j hj => by rw [Nat.add_zero]; rw [hr.c k hk j hj]; rfl) (fun j _ => hr.fz _) (by intro v hv; simp at hv; rcases hv with rfl | rfl | rfl | rfl <;> rfl)
  rw [Nat.add_zero] at hs
  unfold Oper.wp execOp
  cases hq : Tryz.prog.info? 173 with
  | none => have := info_fr; rw [hq] at this; cases this
  | some q =>
    have hi : q.size = 5 := by have := info_fr; rw [hq] at this; exact Option.some.inj this
    simp [ho, hx, hy, Instr.storeAt, Instr.sureAddr, Result.andThen_ok, storeVar, sizeOf, typeInfo, hq, hi, Value.cells, hs]
    exact hK _ _ (h _ (onF_cells hr hk i))
end Go.Proofs.YtokikeenfpligaaGreatDoor
namespace Go.Proofs.YtokikeenfpligaaGreatDoor
open Go.RowKit Go.Maps

def frp (F : Nat) (r : Px × Nat × Int) : Value := if r.2.2 = 0 then framePtr F r.2.1 else .pointer none
def FoundAt (B N : Nat) (w : World) (μ : Mp) (r : Px × Nat × Int) (e : Ending) (w' : World) : Prop :=
  e = .returned (.tuple #[frp μ.F r, errv r.2.2]) ∧ Goes B N w μ r.1 w'
theorem findP_some {X : Px} {i : Int} {k : Nat} (h : X.at i = some k) : findP X i = (X, k, 0) := by unfold findP; rw [h]
theorem findP_fresh {X : Px} {i : Int} (h : X.at i = none) (hc : X.c < X.m) : findP X i = (X.more.put X.c (Fr.new i), X.c, 0) := by unfold findP; rw [h]; simp only; rw [if_pos hc]
theorem findP_give {X : Px} {i : Int} (h : X.at i = none) (hc : ¬ X.c < X.m) : findP X i = (if (giveP X).2.2 = 0 then ((giveP X).1.put (giveP X).2.1 (Fr.new i), (giveP X).2.1, 0) else ((giveP X).1, 0, (giveP X).2.2)) := by unfold findP; rw [h]; simp only; rw [if_neg hc]
theorem ret_found {F : Nat} {r : Px × Nat × Int} {k : Nat} (h0 : r.2.2 = 0) (hk : r.2.1 = k) : Ending.returned (.tuple #[.pointer (some ⟨F, k * 5, none⟩), .nilIface]) = .returned (.tuple #[frp F r, errv r.2.2]) := by
  unfold frp framePtr
  rw [if_pos h0, h0, hk, errv0]
theorem ret_none {F : Nat} {r : Px × Nat × Int} {c : Int} (hc : r.2.2 = c) (h0 : c ≠ 0) : Ending.returned (.tuple #[.pointer none, .iface 78 (.int .i64 c)]) = .returned (.tuple #[frp F r, errv r.2.2]) := by
  unfold frp
  rw [if_neg (by rw [hc]; exact h0), hc, errv1 h0]
set_option maxRecDepth 100000 in
set_option maxHeartbeats 1000000 in
theorem find_some {B N : Nat} (μ : Mp) (i : Int) (k : Nat) (w : World) (h : PoolAt B N w μ) (hi : 0 ≤ i ∧ i < μ.X.d.n) (ha : μ.X.at i = some k) :
    Calls Tryz.prog 119 #[.pointer (some ⟨μ.P, 0, none⟩), .int .i64 i] w (FoundAt B (N + 1) w μ (findP μ.X i)) := by
  rw [findP_some ha]
  obtain ⟨hk, hki⟩ := at_some ha
  have c1 := h.core.hd.c1
  have c2 := h.core.hd.c2
  have hn1 := h.core.ok.n1
  have hkey := key_of (x := i) (by omega)
  have hkm : k < μ.X.m := by have := h.core.ok.cm; omega
  have hm1 := h.core.ok.m1
  have i0 : (0 : Int) ≤ (k : Int) := by omega
  have i1 : (k : Int) < (μ.X.m : Int) := by omega
  have HO := Lib.hid (show Owns w μ.M μ.X.c μ.D from h.mo)
  have HH := Lib.hid ((h.mp.has i).2 ⟨k, hk, hki⟩)
  have HA := Lib.hid (show μ.D.atKey (.int .i64 i) (.lit (.int .i64 0)) = .lit (.int .i64 (k : Int)) by rw [← hki]; exact h.mp.at' k hk)
  have HP := Lib.hid h
  clear h ha hki
  go_enter Tryz.func119, Tryz.ntmps119
  go_wp2_with (at_lookup; refine wpList_lookup_own_ok_int _ rfl _ _ 100 rfl 3 3 .i64 klaw Tryz.underlying100 Tryz.underlying3 (zeroI _) μ.M μ.X.c μ.D rfl HO.out _ _ rfl hkey ?_; intro c hat hwc; rw [HA.out] at hat; obtain rfl : (k : Int) = c := (by injection hat with e; injection e); rw [HH.out]; clear hat hwc)
  go_ret2
  exact ⟨ret_found rfl rfl, μ, HP.out.mono (by omega), Stp.refl _ _, rfl, rfl, rfl, rfl⟩
set_option maxRecDepth 100000 in
set_option maxHeartbeats 1000000 in
theorem find_fresh {B N : Nat} (μ : Mp) (i : Int) (w : World) (h : PoolAt B N w μ) (hi : 0 ≤ i ∧ i < μ.X.d.n) (ha : μ.X.at i = none) (hc : μ.X.c < μ.X.m) :
    Calls Tryz.prog 119 #[.pointer (some ⟨μ.P, 0, none⟩), .int .i64 i] w (FoundAt B (N + 1) w μ (findP μ.X i)) := by
  rw [findP_fresh ha hc]
  have c1 := h.core.hd.c1
  have c2 := h.core.hd.c2
  have hn1 := h.core.ok.n1
  have hkey := key_of (x := i) (by omega)
  have hm1 := h.core.ok.m1
  have i0 : (0 : Int) ≤ (μ.X.c : Int) := by omega
  have i1 : (μ.X.c : Int) < (μ.X.m : Int) := by omega
  have hne : ((μ.X.c : Int) == (μ.X.m : Int)) = false := by simp; omega
  have HO := Lib.hid (show Owns w μ.M μ.X.c μ.D from h.mo)
  have HH := Lib.hid (show Maps.has μ.D (.int .i64 i) = false by
    cases hh : Maps.has μ.D (.int .i64 i)
    · rfl
    · obtain ⟨k, h1, h2⟩ := (h.mp.has i).1 hh
      exact absurd h2 (at_none ha k h1))
  have HSZ := Lib.hid h.mp.size
  have HP := Lib.hid h
  have HC := Lib.hid hc
  have HAT := Lib.hid ha
  have PF := h.core.fx.PF
  have HPM := Lib.hid h.core.fx.PM
  have HFM := Lib.hid (show μ.M ≠ μ.F from fun e => h.core.fx.FM e.symm)
  have HPL := Lib.hid (World.block_lt_of_cell? w _ h.core.hd.c0)
  have HI := Lib.hid hi
  clear h ha hi
  have hwc := WalkArith.wf_i64 (n := (μ.X.c : Int)) (by omega)
  have hcm : μ.X.c < maxLen := by unfold maxLen; omega
  have HM := Lib.hid HP.out.mo.lt
  go_enter Tryz.func119, Tryz.ntmps119
  go_upto_region 10 with (first | (at_lookup; refine wpList_lookup_own_ok_int _ rfl _ _ 100 rfl 3 3 .i64 klaw Tryz.underlying100 Tryz.underlying3 (zeroI _) μ.M μ.X.c μ.D rfl HO.out _ _ rfl hkey ?_; intro c hat hwc; rw [HH.out]; clear hat hwc) | (at_len; refine wpList_len_own _ rfl _ 100 rfl 3 3 Tryz.underlying100 _ μ.M μ.X.c μ.D rfl HO.out ?_; rw [HSZ.out]))
  go_wp2_with (first | (refine wpList_store_frame rfl (.tmp 52) (.tmp 51) rfl HP.out.core.row HC.out i rfl rfl ?_; intro w1 hF; have d2 := (World.cell?_of_block (hF.block μ.P PF)).trans c2; have d1 := (World.cell?_of_block (hF.block μ.P PF)).trans c1; have HO1 := Lib.hid (owns_same HO.out (hF.block μ.M HFM.out)); have HF := Lib.hid hF; clear hF) | (at_mapUpdate; refine wpList_mapUpdate_in _ rfl _ _ _ 100 rfl 3 3 klaw Tryz.underlying100 _ μ.M μ.X.c μ.D rfl HO1.out hcm _ _ _ rfl rfl hkey _ [] (plainElem_int Tryz.underlying3 hwc) ?_; intro w2 hown2 hturn2; have e1 := (World.cell?_of_block (hturn2.grown.block μ.P (by rw [HF.out.size]; exact HPL.out) (fun e => HPM.out (Option.some.inj e)))).trans d1; have HO2 := Lib.hid hown2; have HT := Lib.hid hturn2; clear hown2 hturn2))
  go_ret2
  have hok := HP.out.core.ok.fill HI.out HC.out HAT.out
  exact ⟨ret_found rfl rfl, _, ⟨HP.out.core.newF (M := N + 1) (c := μ.X.c + 1) i HF.out HM.out HT.out _ (hok.mono (by omega)), HO2.out, HP.out.mp.fresh HAT.out⟩, stp_newF HF.out HT.out, rfl, rfl, rfl, rfl⟩
end Go.Proofs.YtokikeenfpligaaGreatDoor

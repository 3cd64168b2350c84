/-
  PARTS AS KEYS OF A MAP, and what is remembered of them. Conditions: those that each lemma names.
-/
import Derived.Test.YtifkhmcdgmnipaaGreatDoorR10
import Derived.Test.YtifkhmcdgmnipaaGreatDoorR38
namespace Go.Proofs.YtifkhmcdgmnipaaGreatDoor
open Go.RowKit Ti Qd Ce Cl Go.Maps Go.WideMaps

/-- a part -/
def pv (k : K5) : Value := .agg #[.int .i64 k.1, .int .i64 k.2.1.1, .int .i64 k.2.1.2, .int .i64 k.2.2.1, .int .i64 k.2.2.2]
def kyP (k : K5) : Lit := .string (keyBytes [.int .i64 k.1, .int .i64 k.2.1.1, .int .i64 k.2.1.2, .int .i64 k.2.2.1, .int .i64 k.2.2.2])
structure I5 (k : K5) : Prop where
  i : I1 k.1
  a : I1 k.2.1.1
  b : I1 k.2.1.2
  c : I1 k.2.2.1
  d : I1 k.2.2.2
theorem rowP : (66 : TypeId) < Tryz.prog.types.size := of_decide_eq_true (by kernel_rfl)
theorem cellsP : Tryz.prog.cellsOf 66 = 5 := by kernel_rfl
theorem cellsC : Tryz.prog.cellsOf 30 = 2 := by kernel_rfl
theorem wideP : (match Tryz.prog.underlying 66 with | some (.array _ _) | some (.struct _) => true | _ => false) = true := by rw [Tryz.underlying66]
set_option maxRecDepth 100000 in
theorem plawS : KeyLaw Tryz.prog 66 := deep_law_laid laidOutQ (m := 4) (by omega) rowP (by kernel_rfl) wideP
theorem plaw : Keyed Tryz.prog 66 := Keyed.of_law plawS
theorem ktP : Tryz.prog.keyType 66 = true := by kernel_rfl
set_option maxRecDepth 100000 in
theorem lit_c {k : Nat} {a b : Int} (ha : I1 a) (hb : I1 b) : Tryz.prog.keyLits (k + 1 + 1) 30 [.int .i64 a, .int .i64 b] = some [.int .i64 a, .int .i64 b] := by
  unfold Program.keyLits
  simp only [Tryz.underlying30]
  rw [if_pos (by rw [cellsC]; exact ⟨rfl, by decide +kernel⟩)]
  simp [cellsI, lit_i ha, lit_i hb]
set_option maxRecDepth 100000 in
set_option maxHeartbeats 1000000 in
theorem kyP_of {k : K5} (h : I5 k) : keyOf Tryz.prog 66 (pv k) = some (kyP k) := by
  obtain ⟨m, hm⟩ := size3
  unfold keyOf pv
  simp only [Tryz.underlying66]
  rw [if_pos (by simp [ktP, Value.formed, Tryz.underlying66, cellsP]), hm]
  unfold Program.keyLits
  simp only [Tryz.underlying66, Value.cells]
  rw [if_pos (by rw [cellsP]; exact ⟨rfl, by decide +kernel⟩)]
  simp [cellsI, cellsC, lit_i h.i, lit_c h.a h.b, lit_c h.c h.d, kyP]
theorem kyP_inj {a b : K5} (ha : I5 a) (hb : I5 b) (e : kyP a = kyP b) : a = b := by
  have h1 := kyP_of ha
  have h2 := kyP_of hb
  rw [e] at h1
  have h3 := plaw.inj h1 h2
  simp only [pv, Value.agg.injEq] at h3
  simp at h3
  obtain ⟨e1, e2, e3, e4, e5⟩ := h3
  exact Prod.ext e1 (Prod.ext (Prod.ext e2 e3) (Prod.ext e4 e5))
theorem kyP_key (k : K5) : WideAt.IsKeyLit (kyP k) := trivial
abbrev OwnsP (w : World) (b n : Nat) (D : DataW Unit) := w.ownsMap Tryz.prog 66 (plainElem Tryz.prog 3) b n D
/-- what is remembered, as a map -/
structure MpP (L : List Sq) (ks : List K5) (D : DataW Unit) : Prop where
  has : ∀ k, I5 k → (Maps.has D (kyP k) = true ↔ k ∈ ks)
  at' : ∀ k, I5 k → k ∈ ks → D.atKey (kyP k) (.lit (.int .i64 0)) = .lit (.int .i64 (vl L k))
theorem mpP_nil (L : List Sq) : MpP L [] (.map []) := ⟨fun _ _ => by simp [Maps.has], fun _ _ h => by cases h⟩
theorem MpP.put {L : List Sq} {ks : List K5} {D : DataW Unit} (h : MpP L ks D) {k : K5} (hi : I5 k) (hT : Tidy D) : MpP L (k :: ks) (D.put (kyP k) (.lit (.int .i64 (vl L k)))) := by
  constructor
  · intro a ha
    by_cases e : a = k
    · subst e
      rw [Maps.has_put_same hT.isMap (kyP_key a)]
      simp
    · rw [Maps.has_put_other (fun e2 => e (kyP_inj ha hi e2)), h.has a ha]
      simp [e]
  · intro a ha hm
    by_cases e : a = k
    · subst e
      rw [Maps.atKey_put_same hT.isMap (kyP_key a)]
    · rw [Maps.atKey_put_other (fun e2 => e (kyP_inj ha hi e2))]
      rcases List.mem_cons.1 hm with h1 | h1
      · exact absurd h1 e
      · exact h.at' a ha h1
theorem MpP.sub {L : List Sq} {ks : List K5} {k : K5} {D : DataW Unit} (h : MpP L (k :: ks) D) (hm : k ∈ ks) : MpP L ks D := by
  refine ⟨fun a ha => ?_, fun a ha q => h.at' a ha (List.mem_cons_of_mem _ q)⟩
  rw [h.has a ha]
  refine ⟨fun q => ?_, fun q => List.mem_cons_of_mem _ q⟩
  rcases List.mem_cons.1 q with q | q
  · exact q ▸ hm
  · exact q
/-- what is remembered lies in a block -/
def KAtP (L : List Sq) (E : Cnr) (w : World) (M : Nat) : Prop := ∃ (D : DataW Unit) (ks : List K5), OwnsP w M ks.length D ∧ MpP L ks D ∧ ks.Nodup ∧ ∀ k ∈ ks, KeyOk L E k
theorem owns_sameP {w w' : World} {M n : Nat} {D : DataW Unit} (h : OwnsP w M n D) (hb : w'.heap[M]? = w.heap[M]?) : OwnsP w' M n D := by
  obtain ⟨es, clock, hm, r⟩ := h
  exact ⟨es, clock, hb.trans hm, r⟩
theorem KAtP.moved {L : List Sq} {E : Cnr} {w w' : World} {M : Nat} (h : KAtP L E w M) (hb : w'.heap[M]? = w.heap[M]?) : KAtP L E w' M := by
  obtain ⟨D, ks, h1, r⟩ := h
  exact ⟨D, ks, owns_sameP h1 hb, r⟩
theorem KAtP.lt {L : List Sq} {E : Cnr} {w : World} {M : Nat} (h : KAtP L E w M) : M < w.heap.size := by
  obtain ⟨D, ks, h1, _⟩ := h
  exact h1.lt
set_option maxRecDepth 100000 in
/-- a part looked up: what it has, or that it is not there -/
theorem part_look {L : List Sq} {E : Cnr} {w : World} {M : Nat} (h : KAtP L E w M) {k : K5} (hi : I5 k) :
    ∃ (c : Int) (b : Bool), (b = true → c = vl L k) ∧ ∀ W : World, W.heap[M]? = w.heap[M]? → (Instr.lookup 61 (.map (some M)) (pv k) true).run Tryz.prog W = .ok (.tuple #[.int .i64 c, .bool b]) W := by
  obtain ⟨D, ks, h1, hf, _⟩ := h
  obtain ⟨v, ps, hr, hat⟩ := h1.look_ok plaw Tryz.underlying61 (zeroI w) (plainElem_int Tryz.underlying3 (by decide)) (kyP_of hi)
  obtain ⟨c, rfl, hc, _⟩ := plainElem_int_inv Tryz.underlying3 hat
  refine ⟨c, Maps.has D (kyP k), fun e => ?_, fun W hW => ?_⟩
  · simp only [Prod.mk.injEq] at hc
    have e := (hf.at' k hi ((hf.has k hi).1 e)).symm.trans hc.1
    injection e with e
    injection e with _ e
    exact e.symm
  · obtain ⟨v2, ps2, hr2, hat2⟩ := (owns_sameP h1 hW).look_ok plaw Tryz.underlying61 (zeroI W) (plainElem_int Tryz.underlying3 (by decide)) (kyP_of hi)
    obtain ⟨c2, rfl, hc2, _⟩ := plainElem_int_inv Tryz.underlying3 hat2
    have e : c2 = c := by
      simp only [Prod.mk.injEq] at hc hc2
      have e := hc.1.symm.trans hc2.1
      injection e with e
      injection e with _ e
      exact e.symm
    rw [hr2, e]
set_option maxRecDepth 100000 in
theorem part_note {L : List Sq} {E : Cnr} {w : World} {M : Nat} (h : KAtP L E w M) (hL : L.length ≤ 65536) {k : K5} (hk : KeyOk L E k) (hi : I5 k) (hv : I1 (vl L k)) :
    ∃ w', (Instr.mapUpdate 61 (.map (some M)) (pv k) (.int .i64 (vl L k))).run Tryz.prog w = .ok () w' ∧ KAtP L E w' M ∧ w.grownBy w' (some M) := by
  obtain ⟨D, ks, h1, hf, hd, hb⟩ := h
  have hl := keys_len hL hd hb
  have hval : plainElem (H := Unit) Tryz.prog 3 (.int .i64 (vl L k)) = some (.lit (.int .i64 (vl L k)), []) := plainElem_int Tryz.underlying3 (wf_of hv)
  obtain ⟨w', hu, hown', hg'⟩ := h1.update plaw Tryz.underlying61 (by unfold maxLen; omega) (kyP_of hi) hval
  have hput := hf.put hi (h1.tidy plaw)
  by_cases hm : k ∈ ks
  · have hs : Maps.size (D.put (kyP k) (.lit (.int .i64 (vl L k)))) ≤ ks.length := by
      have hh : Maps.has D (kyP k) = true := (hf.has k hi).2 hm
      have hsz := h1.size_le
      obtain ⟨es, hD, hnd⟩ := h1.tidy plaw
      subst hD
      obtain ⟨x, hx, hxk⟩ := List.any_eq_true.1 (show es.any (fun p => p.1.sameKey (kyP k)) = true from hh)
      have e1 : Maps.size ((DataW.map es : DataW Unit).put (kyP k) (.lit (.int .i64 (vl L k)))) = (DataW.insert (kyP k, (.lit (.int .i64 (vl L k)) : DataW Unit)) (es.filter fun p => !p.1.sameKey (kyP k))).length := rfl
      have e2 := length_insert (kyP k, (.lit (.int .i64 (vl L k)) : DataW Unit)) (es.filter fun p => !p.1.sameKey (kyP k))
      have e3 : (es.filter fun p => !p.1.sameKey (kyP k)).length < es.length := by
        refine List.length_filter_lt_length_iff_exists.2 ⟨x, hx, by simp [hxk]⟩
      have e4 : Maps.size (DataW.map es : DataW Unit) = es.length := rfl
      rw [e1, e2]
      omega
    obtain ⟨es, clock, hb', F, _, hD⟩ := hown'
    refine ⟨w', hu, ⟨_, ks, ⟨es, clock, hb', F, ?_, hD⟩, hput.sub hm, hd, hb⟩, hg'⟩
    have e1 : Maps.size (D.put (kyP k) (.lit (.int .i64 (vl L k)))) = es.size := by rw [hD]; simp [Maps.size, length_sorted]
    omega
  · refine ⟨w', hu, ⟨_, k :: ks, by simpa using hown', hput, List.nodup_cons.2 ⟨hm, hd⟩, fun x hx => ?_⟩, hg'⟩
    rcases List.mem_cons.1 hx with rfl | hx
    · exact hk
    · exact hb x hx
end Go.Proofs.YtifkhmcdgmnipaaGreatDoor

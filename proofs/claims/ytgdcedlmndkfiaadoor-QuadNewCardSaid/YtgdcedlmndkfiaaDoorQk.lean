/-
  SQUARES AS KEYS OF A MAP: what one reads as. Conditions: those that each lemma names.
-/
import Derived.Test.YtgdcedlmndkfiaaDoorQb
import Derived.Test.YtgdcedlmndkfiaaDoorTd
import Derived.DeepKeys4
import Derived.Maps.OwnSet
import Derived.Maps.AppendAt
namespace Go.Proofs.YtgdcedlmndkfiaaDoor
open Go.RowKit Ti Qd Go.Maps Go.WideMaps

/-- a square's cells -/
def qc (q : Sq) : List Value := [.int .i64 q.lev, .int .i64 q.cnt, .int .u64 (rg q.til), .int .i64 q.k0, .int .i64 q.k1, .int .i64 q.k2, .int .i64 q.k3]
def qv (q : Sq) : Value := .agg #[.int .i64 q.lev, .int .i64 q.cnt, .int .u64 (rg q.til), .int .i64 q.k0, .int .i64 q.k1, .int .i64 q.k2, .int .i64 q.k3]
theorem laidOutQ : laidOutB Tryd.prog = true := by kernel_rfl
theorem rowQ : (51 : TypeId) < Tryd.prog.types.size := of_decide_eq_true (by kernel_rfl)
theorem cellsQ : Tryd.prog.cellsOf 51 = 7 := by kernel_rfl
theorem cellsK : Tryd.prog.cellsOf 30 = 4 := by kernel_rfl
theorem cellsI : Tryd.prog.cellsOf 3 = 1 := by kernel_rfl
theorem cellsT : Tryd.prog.cellsOf 28 = 1 := by kernel_rfl
theorem wideQ : (match Tryd.prog.underlying 51 with | some (.array _ _) | some (.struct _) => true | _ => false) = true := by rw [Tryd.underlying51]
set_option maxRecDepth 100000 in
theorem qlawS : KeyLaw Tryd.prog 51 := deep_law_laid laidOutQ (m := 4) (by omega) rowQ (by kernel_rfl) wideQ
theorem qlaw : Keyed Tryd.prog 51 := Keyed.of_law qlawS
theorem ktQ : Tryd.prog.keyType 51 = true := by kernel_rfl
/-- what a square reads as -/
def ql (q : Sq) : List Lit := [.int .i64 q.lev, .int .i64 q.cnt, .int .u64 (rg q.til), .int .i64 q.k0, .int .i64 q.k1, .int .i64 q.k2, .int .i64 q.k3]
def ky (q : Sq) : Lit := .string (keyBytes (ql q))
/-- numbers of 64 bits -/
def I1 (a : Int) : Prop := -9223372036854775808 ≤ a ∧ a ≤ 9223372036854775807
structure I7 (q : Sq) : Prop where
  l : I1 q.lev
  c : I1 q.cnt
  a0 : I1 q.k0
  a1 : I1 q.k1
  a2 : I1 q.k2
  a3 : I1 q.k3
theorem Qd.Bd.i7 {L : List Sq} {q : Sq} (h : Bd L q) (hL : L.length ≤ 65536) : I7 q := by
  have := h.l0
  have := h.l1
  have := h.c0
  have := h.c1
  have := h.a0
  have := h.a1
  have := h.a2
  have := h.a3
  constructor <;> unfold I1 <;> omega
theorem wf_of {a : Int} (h : I1 a) : (Lit.int .i64 a).wf = true := by
  have e0 : IntKind.i64.min = -9223372036854775808 := rfl
  have e1 : IntKind.i64.max = 9223372036854775807 := rfl
  have h1 : IntKind.i64.min ≤ a ∧ a ≤ IntKind.i64.max := by rw [e0, e1]; exact h
  simpa [Lit.wf] using h1
theorem wf_rg (t : T6) : (Lit.int .u64 (rg t)).wf = true := by
  have e0 : IntKind.u64.min = 0 := rfl
  have e1 : IntKind.u64.max = 18446744073709551615 := rfl
  have h1 : IntKind.u64.min ≤ rg t ∧ rg t ≤ IntKind.u64.max := by
    rw [e0, e1]
    have := rg_lo t
    have := rg_lt t
    omega
  simpa [Lit.wf] using h1
theorem pos_succ {n : Nat} (h : 0 < n) : ∃ m, n = m + 1 := ⟨n - 1, by omega⟩
theorem size3 : ∃ m, Tryd.prog.types.size + 1 = m + 1 + 1 + 1 := by
  have h : 2 ≤ Tryd.prog.types.size := of_decide_eq_true (by kernel_rfl)
  exact ⟨Tryd.prog.types.size - 2, by omega⟩
theorem lit_i {k : Nat} {a : Int} (h : I1 a) : Tryd.prog.keyLits (k + 1) 3 [.int .i64 a] = some [.int .i64 a] := by
  unfold Program.keyLits
  simp [Tryd.underlying3, wf_of h]
theorem lit_t {k : Nat} (t : T6) : Tryd.prog.keyLits (k + 1) 28 [.int .u64 (rg t)] = some [.int .u64 (rg t)] := by
  unfold Program.keyLits
  simp [Tryd.underlying28, wf_rg t]
set_option maxRecDepth 100000 in
theorem lit_k {k : Nat} {a b c d : Int} (ha : I1 a) (hb : I1 b) (hc : I1 c) (hd : I1 d) : Tryd.prog.keyLits (k + 1 + 1) 30 [.int .i64 a, .int .i64 b, .int .i64 c, .int .i64 d] = some [.int .i64 a, .int .i64 b, .int .i64 c, .int .i64 d] := by
  unfold Program.keyLits
  simp only [Tryd.underlying30]
  rw [if_pos (by rw [cellsK]; rfl)]
  simp [cellsI, List.range_succ, lit_i ha, lit_i hb, lit_i hc, lit_i hd]
set_option maxRecDepth 100000 in
set_option maxHeartbeats 1000000 in
theorem ky_of {q : Sq} (h : I7 q) : keyOf Tryd.prog 51 (qv q) = some (ky q) := by
  obtain ⟨m, hm⟩ := size3
  unfold keyOf qv
  simp only [Tryd.underlying51]
  rw [if_pos (by simp [ktQ, Value.formed, Tryd.underlying51, cellsQ]), hm]
  unfold Program.keyLits
  simp only [Tryd.underlying51, Value.cells]
  rw [if_pos (by rw [cellsQ]; exact ⟨rfl, by decide +kernel⟩)]
  simp [cellsI, cellsT, cellsK, lit_i h.l, lit_i h.c, lit_t q.til, lit_k h.a0 h.a1 h.a2 h.a3, ky, ql]
theorem ky_inj {a b : Sq} (ha : I7 a) (hb : I7 b) (e : ky a = ky b) : a = b := by
  have h1 := ky_of ha
  have h2 := ky_of hb
  rw [e] at h1
  have h3 := qlaw.inj h1 h2
  simp only [qv, Value.agg.injEq] at h3
  simp at h3
  obtain ⟨e1, e2, e3, e4, e5, e6, e7⟩ := h3
  exact Sq.ext' e1 e2 (rg_inj e3) e4 e5 e6 e7
theorem ky_key (q : Sq) : WideAt.IsKeyLit (ky q) := trivial
theorem zeroI (w : World) : (zeroValue 3).run Tryd.prog w = .ok (.int .i64 0) w := Tryd.zeroValue3 w
abbrev OwnsQ (w : World) (b n : Nat) (D : DataW Unit) := w.ownsMap Tryd.prog 51 (plainElem Tryd.prog 3) b n D
/-- the numbers of a list's squares -/
structure MpQ (L : List Sq) (D : DataW Unit) : Prop where
  has : ∀ q, I7 q → (Maps.has D (ky q) = true ↔ q ∈ L)
  at' : ∀ q, I7 q → q ∈ L → D.atKey (ky q) (.lit (.int .i64 0)) = .lit (.int .i64 (nr L q))
theorem mpQ_nil : MpQ [] (.map []) := ⟨fun q _ => by simp [Maps.has], fun q _ h => by cases h⟩
theorem nr_app {L : List Sq} {q p : Sq} (h : q ∈ L) : nr (L ++ [p]) q = nr L q := by
  unfold nr
  rw [List.idxOf_append, if_pos h]
theorem nr_new {L : List Sq} {q : Sq} (h : ¬ q ∈ L) : nr L q = L.length + 1 := by
  unfold nr
  rw [List.idxOf_eq_length h]
theorem MpQ.put {L : List Sq} {D : DataW Unit} (h : MpQ L D) {q : Sq} (hq : I7 q) (hn : ¬ q ∈ L) (hT : Tidy D) : MpQ (L ++ [q]) (D.put (ky q) (.lit (.int .i64 (L.length + 1)))) := by
  constructor
  · intro x hx
    by_cases e : x = q
    · subst e
      rw [Maps.has_put_same hT.isMap (ky_key x)]
      simp
    · rw [Maps.has_put_other (fun e2 => e (ky_inj hx hq e2)), h.has x hx]
      simp [e]
  · intro x hx hm
    by_cases e : x = q
    · subst e
      rw [Maps.atKey_put_same hT.isMap (ky_key x)]
      have : nr (L ++ [x]) x = L.length + 1 := by
        have h1 : Qd.put L x = L ++ [x] := if_neg hn
        unfold nr
        rw [List.idxOf_append, if_neg hn]
        simp
      rw [this]
    · rw [Maps.atKey_put_other (fun e2 => e (ky_inj hx hq e2))]
      have hL : x ∈ L := by
        rcases List.mem_append.1 hm with h1 | h1
        · exact h1
        · exact absurd (List.mem_singleton.1 h1) e
      rw [h.at' x hx hL, nr_app hL]
set_option maxRecDepth 100000 in
/-- a square that is there -/
theorem look_in {w : World} {b n : Nat} {L : List Sq} {D : DataW Unit} (h : OwnsQ w b n D) (hf : MpQ L D) {q : Sq} (hq : I7 q) (hm : q ∈ L) :
    (Instr.lookup 63 (.map (some b)) (qv q) true).run Tryd.prog w = .ok (.tuple #[.int .i64 (nr L q), .bool true]) w := by
  obtain ⟨v, ps, hr, hat⟩ := h.look_ok qlaw Tryd.underlying63 (zeroI w) (plainElem_int Tryd.underlying3 (by decide)) (ky_of hq)
  rw [hf.at' q hq hm] at hat
  rw [(hf.has q hq).2 hm] at hr
  obtain ⟨c, rfl, hc, _⟩ := plainElem_int_inv Tryd.underlying3 hat
  simp only [Prod.mk.injEq] at hc
  have e := hc.1
  injection e with e
  injection e with _ e
  rw [hr, e]
theorem has_no {D : DataW Unit} {l : Lit} (h : ¬ Maps.has D l = true) : Maps.has D l = false := by simpa using h
set_option maxRecDepth 100000 in
/-- a square that is not there -/
theorem look_out {w : World} {b n : Nat} {L : List Sq} {D : DataW Unit} (h : OwnsQ w b n D) (hf : MpQ L D) {q : Sq} (hq : I7 q) (hm : ¬ q ∈ L) :
    ∃ c, (Instr.lookup 63 (.map (some b)) (qv q) true).run Tryd.prog w = .ok (.tuple #[.int .i64 c, .bool false]) w := by
  obtain ⟨v, ps, hr, hat⟩ := h.look_ok qlaw Tryd.underlying63 (zeroI w) (plainElem_int Tryd.underlying3 (by decide)) (ky_of hq)
  rw [has_no (fun e => hm ((hf.has q hq).1 e))] at hr
  obtain ⟨c, rfl, _⟩ := plainElem_int_inv Tryd.underlying3 hat
  exact ⟨c, hr⟩
set_option maxRecDepth 100000 in
/-- a new one noted -/
theorem note_run {w : World} {b n : Nat} {L : List Sq} {D : DataW Unit} (h : OwnsQ w b n D) (hf : MpQ L D) {q : Sq} (hq : I7 q) (hm : ¬ q ∈ L) (hn : n < maxLen) (hL : L.length ≤ 65536) {x : Int} (hx : x = L.length + 1) :
    ∃ w' D', (Instr.mapUpdate 63 (.map (some b)) (qv q) (.int .i64 x)).run Tryd.prog w = .ok () w' ∧ OwnsQ w' b (n + 1) D' ∧ MpQ (L ++ [q]) D' ∧ w.grownBy w' (some b) := by
  subst hx
  have hval : plainElem (H := Unit) Tryd.prog 3 (.int .i64 (L.length + 1)) = some (.lit (.int .i64 (L.length + 1)), []) := plainElem_int Tryd.underlying3 (wf_of (by unfold I1; omega))
  obtain ⟨w', hu, hown', hg'⟩ := h.update qlaw Tryd.underlying63 hn (ky_of hq) hval
  exact ⟨w', _, hu, hown', hf.put hq hm (h.tidy qlaw), hg'⟩
end Go.Proofs.YtgdcedlmndkfiaaDoor

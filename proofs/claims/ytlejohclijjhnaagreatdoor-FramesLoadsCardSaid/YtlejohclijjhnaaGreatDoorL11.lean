/-
  SQUARES AS KEYS OF A MAP: what one reads as. Conditions: those that each lemma names.
  THE WALKS of OnesCount64, Count, moved, Turn, Flip. No condition.
-/
import Derived.DeepKeys4
import Derived.Maps.OwnSet
import Derived.Maps.AppendAt
import Derived.Test.YtlejohclijjhnaaGreatDoorL03
import Derived.Test.YtlejohclijjhnaaGreatDoorL10
namespace Go.Proofs.YtlejohclijjhnaaGreatDoor
open Go.RowKit Ti Qd Go.Maps Go.WideMaps

/-- a square's cells -/
def qc (q : Sq) : List Value := [.int .i64 q.lev, .int .i64 q.cnt, .int .u64 (rg q.til), .int .i64 q.k0, .int .i64 q.k1, .int .i64 q.k2, .int .i64 q.k3]
def qv (q : Sq) : Value := .agg #[.int .i64 q.lev, .int .i64 q.cnt, .int .u64 (rg q.til), .int .i64 q.k0, .int .i64 q.k1, .int .i64 q.k2, .int .i64 q.k3]
theorem laidOutQ : laidOutB Tryz.prog = true := by kernel_rfl
theorem rowQ : (95 : TypeId) < Tryz.prog.types.size := of_decide_eq_true (by kernel_rfl)
theorem cellsQ : Tryz.prog.cellsOf 95 = 7 := by kernel_rfl
theorem cellsK : Tryz.prog.cellsOf 93 = 4 := by kernel_rfl
theorem cellsI : Tryz.prog.cellsOf 3 = 1 := by kernel_rfl
theorem cellsT : Tryz.prog.cellsOf 92 = 1 := by kernel_rfl
theorem wideQ : (match Tryz.prog.underlying 95 with | some (.array _ _) | some (.struct _) => true | _ => false) = true := by rw [Tryz.underlying95]
set_option maxRecDepth 100000 in
theorem qlawS : KeyLaw Tryz.prog 95 := deep_law_laid laidOutQ (m := 4) (by omega) rowQ (by kernel_rfl) wideQ
theorem qlaw : Keyed Tryz.prog 95 := Keyed.of_law qlawS
theorem ktQ : Tryz.prog.keyType 95 = true := by kernel_rfl
/-- what a square reads as -/
def ql (q : Sq) : List Lit := [.int .i64 q.lev, .int .i64 q.cnt, .int .u64 (rg q.til), .int .i64 q.k0, .int .i64 q.k1, .int .i64 q.k2, .int .i64 q.k3]
def ky (q : Sq) : Lit := .string (keyBytes (ql q))
/-- numbers of 64 bits -/
def I1 (a : Int) : Prop := -9223372036854775808 ≤ a ∧ a ≤ 9223372036854775807
structure I7 (q : Sq) : Prop where
  l : I1 q.lev
  c : I1 q.cnt
  a0 : I1 q.k0
  a1 : I1 q.k1
  a2 : I1 q.k2
  a3 : I1 q.k3
theorem Qd.Bd.i7 {L : List Sq} {q : Sq} (h : Bd L q) (hL : L.length ≤ 65536) : I7 q := by
  have := h.l0
  have := h.l1
  have := h.c0
  have := h.c1
  have := h.a0
  have := h.a1
  have := h.a2
  have := h.a3
  constructor <;> unfold I1 <;> omega
theorem wf_of {a : Int} (h : I1 a) : (Lit.int .i64 a).wf = true := by
  have e0 : IntKind.i64.min = -9223372036854775808 := rfl
  have e1 : IntKind.i64.max = 9223372036854775807 := rfl
  have h1 : IntKind.i64.min ≤ a ∧ a ≤ IntKind.i64.max := by rw [e0, e1]; exact h
  simpa [Lit.wf] using h1
theorem wf_rg (t : T6) : (Lit.int .u64 (rg t)).wf = true := by
  have e0 : IntKind.u64.min = 0 := rfl
  have e1 : IntKind.u64.max = 18446744073709551615 := rfl
  have h1 : IntKind.u64.min ≤ rg t ∧ rg t ≤ IntKind.u64.max := by
    rw [e0, e1]
    have := rg_lo t
    have := rg_lt t
    omega
  simpa [Lit.wf] using h1
theorem pos_succ {n : Nat} (h : 0 < n) : ∃ m, n = m + 1 := ⟨n - 1, by omega⟩
theorem size3 : ∃ m, Tryz.prog.types.size + 1 = m + 1 + 1 + 1 := by
  have h : 2 ≤ Tryz.prog.types.size := of_decide_eq_true (by kernel_rfl)
  exact ⟨Tryz.prog.types.size - 2, by omega⟩
theorem lit_i {k : Nat} {a : Int} (h : I1 a) : Tryz.prog.keyLits (k + 1) 3 [.int .i64 a] = some [.int .i64 a] := by
  unfold Program.keyLits
  simp [Tryz.underlying3, wf_of h]
theorem lit_t {k : Nat} (t : T6) : Tryz.prog.keyLits (k + 1) 92 [.int .u64 (rg t)] = some [.int .u64 (rg t)] := by
  unfold Program.keyLits
  simp [Tryz.underlying92, wf_rg t]
set_option maxRecDepth 100000 in
theorem lit_k {k : Nat} {a b c d : Int} (ha : I1 a) (hb : I1 b) (hc : I1 c) (hd : I1 d) : Tryz.prog.keyLits (k + 1 + 1) 93 [.int .i64 a, .int .i64 b, .int .i64 c, .int .i64 d] = some [.int .i64 a, .int .i64 b, .int .i64 c, .int .i64 d] := by
  unfold Program.keyLits
  simp only [Tryz.underlying93]
  rw [if_pos (by rw [cellsK]; rfl)]
  simp [cellsI, List.range_succ, lit_i ha, lit_i hb, lit_i hc, lit_i hd]
set_option maxRecDepth 100000 in
set_option maxHeartbeats 1000000 in
theorem ky_of {q : Sq} (h : I7 q) : keyOf Tryz.prog 95 (qv q) = some (ky q) := by
  obtain ⟨m, hm⟩ := size3
  unfold keyOf qv
  simp only [Tryz.underlying95]
  rw [if_pos (by simp [ktQ, Value.formed, Tryz.underlying95, cellsQ]), hm]
  unfold Program.keyLits
  simp only [Tryz.underlying95, Value.cells]
  rw [if_pos (by rw [cellsQ]; exact ⟨rfl, by decide +kernel⟩)]
  simp [cellsI, cellsT, cellsK, lit_i h.l, lit_i h.c, lit_t q.til, lit_k h.a0 h.a1 h.a2 h.a3, ky, ql]
theorem ky_inj {a b : Sq} (ha : I7 a) (hb : I7 b) (e : ky a = ky b) : a = b := by
  have h1 := ky_of ha
  have h2 := ky_of hb
  rw [e] at h1
  have h3 := qlaw.inj h1 h2
  simp only [qv, Value.agg.injEq] at h3
  simp at h3
  obtain ⟨e1, e2, e3, e4, e5, e6, e7⟩ := h3
  exact Sq.ext' e1 e2 (rg_inj e3) e4 e5 e6 e7
theorem ky_key (q : Sq) : WideAt.IsKeyLit (ky q) := trivial
theorem zeroI (w : World) : (zeroValue 3).run Tryz.prog w = .ok (.int .i64 0) w := Tryz.zeroValue3 w
abbrev OwnsQ (w : World) (b n : Nat) (D : DataW Unit) := w.ownsMap Tryz.prog 95 (plainElem Tryz.prog 3) b n D
/-- the numbers of a list's squares -/
structure MpQ (L : List Sq) (D : DataW Unit) : Prop where
  has : ∀ q, I7 q → (Maps.has D (ky q) = true ↔ q ∈ L)
  at' : ∀ q, I7 q → q ∈ L → D.atKey (ky q) (.lit (.int .i64 0)) = .lit (.int .i64 (nr L q))
theorem mpQ_nil : MpQ [] (.map []) := ⟨fun q _ => by simp [Maps.has], fun q _ h => by cases h⟩
theorem nr_app {L : List Sq} {q p : Sq} (h : q ∈ L) : nr (L ++ [p]) q = nr L q := by
  unfold nr
  rw [List.idxOf_append, if_pos h]
theorem nr_new {L : List Sq} {q : Sq} (h : ¬ q ∈ L) : nr L q = L.length + 1 := by
  unfold nr
  rw [List.idxOf_eq_length h]
theorem MpQ.put {L : List Sq} {D : DataW Unit} (h : MpQ L D) {q : Sq} (hq : I7 q) (hn : ¬ q ∈ L) (hT : Tidy D) : MpQ (L ++ [q]) (D.put (ky q) (.lit (.int .i64 (L.length + 1)))) := by
  constructor
  · intro x hx
    by_cases e : x = q
    · subst e
      rw [Maps.has_put_same hT.isMap (ky_key x)]
      simp
    · rw [Maps.has_put_other (fun e2 => e (ky_inj hx hq e2)), h.has x hx]
      simp [e]
  · intro x hx hm
    by_cases e : x = q
    · subst e
      rw [Maps.atKey_put_same hT.isMap (ky_key x)]
      have : nr (L ++ [x]) x = L.length + 1 := by
        have h1 : Qd.put L x = L ++ [x] := if_neg hn
        unfold nr
        rw [List.idxOf_append, if_neg hn]
        simp
      rw [this]
    · rw [Maps.atKey_put_other (fun e2 => e (ky_inj hx hq e2))]
      have hL : x ∈ L := by
        rcases List.mem_append.1 hm with h1 | h1
        · exact h1
        · exact absurd (List.mem_singleton.1 h1) e
      rw [h.at' x hx hL, nr_app hL]
set_option maxRecDepth 100000 in
/-- a square that is there -/
theorem look_in {w : World} {b n : Nat} {L : List Sq} {D : DataW Unit} (h : OwnsQ w b n D) (hf : MpQ L D) {q : Sq} (hq : I7 q) (hm : q ∈ L) :
    (Instr.lookup 85 (.map (some b)) (qv q) true).run Tryz.prog w = .ok (.tuple #[.int .i64 (nr L q), .bool true]) w := by
  obtain ⟨v, ps, hr, hat⟩ := h.look_ok qlaw Tryz.underlying85 (zeroI w) (plainElem_int Tryz.underlying3 (by decide)) (ky_of hq)
  rw [hf.at' q hq hm] at hat
  rw [(hf.has q hq).2 hm] at hr
  obtain ⟨c, rfl, hc, _⟩ := plainElem_int_inv Tryz.underlying3 hat
  simp only [Prod.mk.injEq] at hc
  have e := hc.1
  injection e with e
  injection e with _ e
  rw [hr, e]
theorem has_no {D : DataW Unit} {l : Lit} (h : ¬ Maps.has D l = true) : Maps.has D l = false := by simpa using h
set_option maxRecDepth 100000 in
/-- a square that is not there -/
theorem look_out {w : World} {b n : Nat} {L : List Sq} {D : DataW Unit} (h : OwnsQ w b n D) (hf : MpQ L D) {q : Sq} (hq : I7 q) (hm : ¬ q ∈ L) :
    ∃ c, (Instr.lookup 85 (.map (some b)) (qv q) true).run Tryz.prog w = .ok (.tuple #[.int .i64 c, .bool false]) w := by
  obtain ⟨v, ps, hr, hat⟩ := h.look_ok qlaw Tryz.underlying85 (zeroI w) (plainElem_int Tryz.underlying3 (by decide)) (ky_of hq)
  rw [has_no (fun e => hm ((hf.has q hq).1 e))] at hr
  obtain ⟨c, rfl, _⟩ := plainElem_int_inv Tryz.underlying3 hat
  exact ⟨c, hr⟩
set_option maxRecDepth 100000 in
/-- a new one noted -/
theorem note_run {w : World} {b n : Nat} {L : List Sq} {D : DataW Unit} (h : OwnsQ w b n D) (hf : MpQ L D) {q : Sq} (hq : I7 q) (hm : ¬ q ∈ L) (hn : n < maxLen) (hL : L.length ≤ 65536) {x : Int} (hx : x = L.length + 1) :
    ∃ w' D', (Instr.mapUpdate 85 (.map (some b)) (qv q) (.int .i64 x)).run Tryz.prog w = .ok () w' ∧ OwnsQ w' b (n + 1) D' ∧ MpQ (L ++ [q]) D' ∧ w.grownBy w' (some b) := by
  subst hx
  have hval : plainElem (H := Unit) Tryz.prog 3 (.int .i64 (L.length + 1)) = some (.lit (.int .i64 (L.length + 1)), []) := plainElem_int Tryz.underlying3 (wf_of (by unfold I1; omega))
  obtain ⟨w', hu, hown', hg'⟩ := h.update qlaw Tryz.underlying85 hn (ky_of hq) hval
  exact ⟨w', _, hu, hown', hf.put hq hm (h.tidy qlaw), hg'⟩
end Go.Proofs.YtlejohclijjhnaaGreatDoor
namespace Go.Proofs.YtlejohclijjhnaaGreatDoor
open Go.RowKit Ti

theorem w64n (n : Nat) (h : n < 18446744073709551616) : IntKind.u64.wrap (n : Int) = (n : Int) := by
  rw [IntKind.wrap_u64]; omega
theorem e1 (x : Nat) (h : x < 18446744073709551616) : IntKind.u64.wrap (bits .and .u64 ((x : Int) / 2) 6148914691236517205 + bits .and .u64 (x : Int) 6148914691236517205) = ((s1 x : Nat) : Int) := by
  have k := s1_lt x
  have d1 := u64_and_nat (x / 2) 6148914691236517205 (by omega) (by decide)
  have d2 := u64_and_nat x 6148914691236517205 h (by decide)
  rw [show (((x / 2 : Nat) : Int)) = (x : Int) / 2 by simp] at d1
  erw [d1, d2]
  unfold s1
  rw [← Int.natCast_add]
  exact w64n _ (by omega)
theorem e2 (x : Nat) (h : x < 18446744073709551616) : IntKind.u64.wrap (bits .and .u64 ((x : Int) / 4) 3689348814741910323 + bits .and .u64 (x : Int) 3689348814741910323) = ((s2 x : Nat) : Int) := by
  have k := s2_lt x
  have d1 := u64_and_nat (x / 4) 3689348814741910323 (by omega) (by decide)
  have d2 := u64_and_nat x 3689348814741910323 h (by decide)
  rw [show (((x / 4 : Nat) : Int)) = (x : Int) / 4 by simp] at d1
  erw [d1, d2]
  unfold s2
  rw [← Int.natCast_add]
  exact w64n _ (by omega)
theorem e3 (x : Nat) (h : x < 8000000000000000000) : bits .and .u64 (IntKind.u64.wrap ((x : Int) / 16 + (x : Int))) 1085102592571150095 = ((s3 x : Nat) : Int) := by
  have d1 := u64_and_nat (x / 16 + x) 1085102592571150095 (by omega) (by decide)
  have e : IntKind.u64.wrap ((x : Int) / 16 + (x : Int)) = ((x / 16 + x : Nat) : Int) := by rw [IntKind.wrap_u64]; omega
  rw [e]
  exact d1
theorem e4 (x d : Nat) (h : x < 4000000000000000000) : IntKind.u64.wrap ((x : Int) + (x : Int) / (d : Int)) = ((x + x / d : Nat) : Int) := by
  have h1 : x / d ≤ x := Nat.div_le_self _ _
  rw [show ((x : Int) + (x : Int) / (d : Int)) = ((x + x / d : Nat) : Int) by simp, w64n _ (by omega)]
theorem s1_top (x : Nat) (_h : x < 18446744073709551616) : s1 x < 18446744073709551616 := by
  have k := s1_lt x
  unfold s1
  omega
theorem s2_top (x : Nat) : s2 x < 8000000000000000000 := by
  have k := s2_lt x
  unfold s2
  omega
theorem e7 (d : Nat) (h : d < 8000000000000000000) : bits .and .i64 (wrap64 (d : Int)) 127 = ((d % 128 : Nat) : Int) := by
  have e : wrap64 (d : Int) = (d : Int) := by unfold wrap64; omega
  rw [e]
  show IntKind.i64.wrap ((BitVec.ofInt 64 (d : Int) &&& BitVec.ofInt 64 127).toNat : Int) = _
  rw [BitVec.ofInt_natCast, BitVec.toNat_and, show (BitVec.ofInt 64 127).toNat = 2 ^ 7 - 1 from rfl, BitVec.toNat_ofNat, Nat.mod_eq_of_lt (by omega), Nat.and_two_pow_sub_one_eq_mod]
  rw [show (2 : Nat) ^ 7 = 128 from rfl]
  have hq : d % 128 < 128 := by omega
  generalize d % 128 = q at hq ⊢
  have hd : ∀ q < 128, IntKind.i64.wrap ((q : Nat) : Int) = (q : Int) := by decide +kernel
  exact hd q hq
set_option maxRecDepth 100000 in
theorem ones_any (t : T6) (w : World) :
    Calls Tryz.prog 74 #[.int .u64 (rg t)] w fun e w' => e = .returned (.int .i64 ((liv t : Nat) : Int)) ∧ w = w' := by
  have hlt : t.toNat < 18446744073709551616 := t.isLt
  obtain ⟨x, hx⟩ : ∃ x, x = t.toNat := ⟨_, rfl⟩
  have HL := Lib.hid (show pcN x 64 = liv t by rw [hx]; rfl)
  unfold rg
  rw [← hx] at hlt ⊢
  generalize liv t = n at HL ⊢
  clear hx t
  have HS := Lib.hid (ones_is x hlt)
  have x0 : (0 : Int) ≤ (x : Int) := by omega
  have E1 := Lib.hid (e1 x hlt)
  have E2 := Lib.hid (e2 (s1 x) (s1_top x hlt))
  have E3 := Lib.hid (e3 (s2 (s1 x)) (s2_top _))
  generalize s3 (s2 (s1 x)) = a at HS E3
  obtain ⟨b, hb⟩ : ∃ b, b = a + a / 256 := ⟨_, rfl⟩
  obtain ⟨c, hc⟩ : ∃ c, c = b + b / 65536 := ⟨_, rfl⟩
  obtain ⟨d, hd⟩ : ∃ d, d = c + c / 4294967296 := ⟨_, rfl⟩
  have HT : a < 1000000000000000000 ∧ b < 2000000000000000000 ∧ c < 4000000000000000000 ∧ d < 8000000000000000000 ∧ d % 128 = n := by
    rw [hd, hc, hb, ← HL.out]; exact HS.out
  have E4 := Lib.hid (show IntKind.u64.wrap ((a : Int) + (a : Int) / 256) = (b : Int) by rw [hb]; exact e4 a 256 (by omega))
  have E5 := Lib.hid (show IntKind.u64.wrap ((b : Int) + (b : Int) / 65536) = (c : Int) by rw [hc]; exact e4 b 65536 (by omega))
  have E6 := Lib.hid (show IntKind.u64.wrap ((c : Int) + (c : Int) / 4294967296) = (d : Int) by rw [hd]; exact e4 c 4294967296 (by omega))
  have HT2 := Lib.hid HT
  clear HT hb hc hd HS HL hlt
  go_enter Tryz.func74, Tryz.ntmps74
  go_wp2
  go_ret
  refine ⟨?_, rfl⟩
  rw [E1.out, E2.out, E3.out, E4.out, E5.out, E6.out]
  have h := e7 d HT2.out.2.2.2.1
  rw [HT2.out.2.2.2.2] at h
  rw [h]
  rfl
theorem count_any (t : T6) (w : World) :
    Calls Tryz.prog 65 #[.int .u64 (rg t)] w fun e w' => e = .returned (.int .i64 ((liv t : Nat) : Int)) ∧ w = w' := by
  have HO := Lib.hid (fun w => ones_any t w)
  go_enter Tryz.func65, Tryz.ntmps65
  go_wp2_with (go_at_call 74; with_reducible refine (HO.out _).mono ?_; rintro e w' ⟨rfl, rfl⟩)
  go_ret
  exact ⟨rfl, rfl⟩
end Go.Proofs.YtlejohclijjhnaaGreatDoor

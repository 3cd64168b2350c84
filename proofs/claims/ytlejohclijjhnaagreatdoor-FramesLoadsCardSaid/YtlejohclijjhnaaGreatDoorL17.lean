/-
  THE WALK of Set at a cell that is there, where there is room. Conditions: the store lies in memory.
  A GROWER IN MEMORY: its struct, the store, the map of what is remembered; blocks of one's own beside it. Conditions: those that each lemma names.
-/
import Derived.Test.YtlejohclijjhnaaGreatDoorL16
import Derived.Test.YtlejohclijjhnaaGreatDoorL04
namespace Go.Proofs.YtlejohclijjhnaaGreatDoor
open Go.RowKit Ti Qd Go.Maps Go.WideMaps

theorem rep_row {w : World} {g : Nat} {q : Sq} {T : TypeId} (h : w.heap[g]? = some (.cells #[.int .i64 q.lev, .int .i64 q.cnt, .int .u64 (rg q.til), .int .i64 q.k0, .int .i64 q.k1, .int .i64 q.k2, .int .i64 q.k3] T (0, 0))) (i : Nat) (hi : i < 4) (k : Int) :
    (w.setCell ⟨g, 3 + i, none⟩ (.int .i64 k)).heap[g]? = some (.cells #[.int .i64 q.lev, .int .i64 q.cnt, .int .u64 (rg q.til), .int .i64 (rep q i k 0), .int .i64 (rep q i k 1), .int .i64 (rep q i k 2), .int .i64 (rep q i k 3)] T (0, 0)) := by
  rw [heap_setCell_same w g (3 + i) _ _ _ h]
  match i, hi with
  | 0, _ => rfl
  | 1, _ => rfl
  | 2, _ => rfl
  | 3, _ => rfl
theorem Goes.off {B : Nat} {w W w' : World} {P : Nat} {L : List Sq} {room : Nat} {H : Nat → Prop} {L0 : List Sq} (hs : St B w P L0 room H) (hb : Below w.heap.size w W) (hg : Goes B W P room H L w') {g : Nat} (h1 : w.heap.size ≤ g) (h2 : g < W.heap.size) :
    ∃ H', St B w' P L room H' ∧ Stp w H w' H' ∧ ¬ H' g ∧ w'.heap[g]? = W.heap[g]? := by
  obtain ⟨H', k1, k2⟩ := hg
  have hn : ¬ H g := fun e => by have := (hs.lt g e).2; omega
  exact ⟨H', k1, (Stp.of_below hb).trans k2, fun e => by rcases k2.own g e with q | q; exact hn q; omega, k2.block g h2 hn⟩
set_option maxRecDepth 100000 in
set_option maxHeartbeats 4000000 in
theorem set_is {B : Nat} {P : Nat} {room : Nat} (c : Bool) : ∀ (n : Nat) (L : List Sq) (H : Nat → Prop) (id : Int) (x y : Nat) (w : World), St B w P L room H → Lv L n id → n ≤ 37 → x < 2 ^ (n + 3) → y < 2 ^ (n + 3) → (setQ L n id x y c).1.length ≤ room →
    Calls Tryz.prog 30 #[.pointer (some ⟨P, 0, none⟩), .int .i64 id, .int .i64 x, .int .i64 y, .bool c] w fun e w' => e = .returned (.tuple #[.int .i64 (setQ L n id x y c).2, .nilIface]) ∧ Goes B w P room H (setQ L n id x y c).1 w'
  | 0, L, H, id, x, y, w, h, hl, hn, hx, hy, hr => by
    have HA := Lib.hid (about_ok h 0 id x y hl hn hx hy)
    have HT := Lib.hid (Go.Proofs.YtlejohclijjhnaaGreatDoor.set_ok (at' L id).til x y c hx hy)
    have hlev := hl.2
    have HS := Lib.hid h
    have HLF := Lib.hid (fun (w' : World) (h' : St B w' P L room H) => leaf_ok h' (setB (at' L id).til x y c) hr)
    rw [show setQ L 0 id x y c = (put L (leafQ (setB (at' L id).til x y c)), nr L (leafQ (setB (at' L id).til x y c))) from rfl]
    clear h hl hx hy hr
    unfold qv at *
    generalize at' L id = q at *
    generalize setB q.til x y c = t at *
    generalize nr L (leafQ t) = k at *
    generalize put L (leafQ t) = L' at *
    have e3 : (q.lev == 3) = true := by rw [beq_iff_eq]; exact hlev
    clear hlev
    go_enter Tryz.func30, Tryz.ntmps30
    go_wp2_with fail
    refine HA.out.mono ?_
    rintro e w1 ⟨rfl, hb⟩
    have HB := Lib.hid (hb.trans ((alX w1 (.cells #[.int .i64 q.lev, .int .i64 q.cnt, .int .u64 (rg q.til), .int .i64 q.k0, .int .i64 q.k1, .int .i64 q.k2, .int .i64 q.k3] 95)).mono hb.size))
    clear hb
    go_wp2_with fail
    refine (HT.out _).mono ?_
    rintro e w2 ⟨rfl, rfl⟩
    go_wp2_with fail
    refine (HLF.out _ (HS.out.below HB.out (Nat.le_refl _))).mono ?_
    rintro e w3 ⟨rfl, hg⟩
    have HG := Lib.hid (Goes.trans (.of_below HB.out) hg)
    clear hg
    go_wp2
    go_ret2
    exact ⟨rfl, HG.out⟩
  | n + 1, L, H, id, x, y, w, h, hl, hn, hx, hy, hr => by
    have hi := h.inv
    have HA := Lib.hid (about_ok h (n + 1) id x y hl hn hx hy)
    have hlev := hl.2
    have hp := Nat.two_pow_pos (n + 3)
    have hq : qd (2 ^ (n + 3)) x y < 4 := qd_lt (by rw [show n + 3 + 1 = n + 1 + 3 by omega]; exact hx) (by rw [show n + 3 + 1 = n + 1 + 3 by omega]; exact hy)
    have HL := Lib.hid (lead_ok n (at' L id) x y (by rw [hlev]; omega) (by omega) (by rw [show n + 4 = n + 1 + 3 by omega]; exact hx) (by rw [show n + 4 = n + 1 + 3 by omega]; exact hy))
    have HS := Lib.hid h
    have hso := Qd.set_ok hi n (kid (at' L id) (qd (2 ^ (n + 3)) x y)) (x % 2 ^ (n + 3)) (y % 2 ^ (n + 3)) c (hi.kid hl _) (by omega) (Nat.mod_lt _ hp) (Nat.mod_lt _ hp)
    have HR := Lib.hid (show setQ L (n + 1) id x y c = (put (setQ L n (kid (at' L id) (qd (2 ^ (n + 3)) x y)) (x % 2 ^ (n + 3)) (y % 2 ^ (n + 3)) c).1 _, nr _ _) from rfl)
    have hrl : (setQ L n (kid (at' L id) (qd (2 ^ (n + 3)) x y)) (x % 2 ^ (n + 3)) (y % 2 ^ (n + 3)) c).1.length ≤ room := by
      rw [HR.out] at hr
      exact Nat.le_trans (put_len _ _).1 hr
    have HG := Lib.hid (fun (w' : World) (h' : St B w' P L room H) => set_is c n L H (kid (at' L id) (qd (2 ^ (n + 3)) x y)) (x % 2 ^ (n + 3)) (y % 2 ^ (n + 3)) w' h' (hi.kid hl _) (by omega) (Nat.mod_lt _ hp) (Nat.mod_lt _ hp) hrl)
    rw [HR.out] at hr ⊢
    have fr := fun j => four_rep hi hso.ext hl hso.lv (qd (2 ^ (n + 3)) x y) j
    generalize setQ L n (kid (at' L id) (qd (2 ^ (n + 3)) x y)) (x % 2 ^ (n + 3)) (y % 2 ^ (n + 3)) c = r at *
    have HN := Lib.hid (fun (w' : World) (H' : Nat → Prop) (h' : St B w' P r.1 room H') => node_ok h' _ _ _ _ (n + 3) ⟨(fr 0).1, (fr 1).1, (fr 2).1, (fr 3).1, (fr 0).2, (fr 1).2, (fr 2).2, (fr 3).2⟩ (by omega) hr)
    clear h hl hx hy hi HR hso fr hr hrl
    generalize at' L id = q at *
    generalize hi : qd (2 ^ (n + 3)) x y = i at *
    generalize x % 2 ^ (n + 3) = x' at *
    generalize y % 2 ^ (n + 3) = y' at *
    clear hi hp
    generalize nr r.1 (joinQ r.1 (rep q i r.2 0) (rep q i r.2 1) (rep q i r.2 2) (rep q i r.2 3)) = k9 at *
    generalize put r.1 (joinQ r.1 (rep q i r.2 0) (rep q i r.2 1) (rep q i r.2 2) (rep q i r.2 3)) = L9 at *
    obtain ⟨L1, k1⟩ := r
    simp only at *
    have e3 : (q.lev == 3) = false := by rw [beq_eq_false_iff_ne, hlev]; omega
    clear hlev
    have HI := Lib.hid hq
    have i0 : (0 : Int) ≤ (i : Int) := by omega
    have i4 : (i : Int) < 4 := by omega
    have i5 : i < 4 := hq
    unfold qv at *
    go_enter Tryz.func30, Tryz.ntmps30
    go_wp2_with fail
    refine HA.out.mono ?_
    rintro e w1 ⟨rfl, hb⟩
    have hg := heap_alloc_new w1 (.cells #[.int .i64 q.lev, .int .i64 q.cnt, .int .u64 (rg q.til), .int .i64 q.k0, .int .i64 q.k1, .int .i64 q.k2, .int .i64 q.k3] 95)
    have HB := Lib.hid (hb.trans ((alX w1 (.cells #[.int .i64 q.lev, .int .i64 q.cnt, .int .u64 (rg q.til), .int .i64 q.k0, .int .i64 q.k1, .int .i64 q.k2, .int .i64 q.k3] 95)).mono hb.size))
    have HW1 := Lib.hid hb.size
    clear hb
    go_upto_region 2 with (fail)
    obtain ⟨g, hgg⟩ : ∃ g, g = w1.heap.size := ⟨_, rfl⟩
    rw [← hgg] at hg HW1 ⊢
    generalize w1.alloc (.cells #[.int .i64 q.lev, .int .i64 q.cnt, .int .u64 (rg q.til), .int .i64 q.k0, .int .i64 q.k1, .int .i64 q.k2, .int .i64 q.k3] 95) = W at HB hg ⊢
    have HGG := Lib.hid hg
    obtain ⟨⟨c0, c1, c2, c3, c4, c5, c6⟩, _, _, _, _, _, _, _⟩ := row7 hg
    clear hg hgg
    go_wp2_with fail
    refine (HL.out _).mono ?_
    rintro e w2 ⟨rfl, hb⟩
    have HB2 := Lib.hid (HB.out.trans (hb.mono HB.out.size))
    have HG2 := Lib.hid ((hb.block g (lt_of_block HGG.out)).trans HGG.out)
    have ck := kid_cell HG2.out i HI.out
    clear c0 c1 c2 c3 c4 c5 c6 hb
    go_wp2_with fail
    refine (HG.out _ (HS.out.below HB2.out (Nat.le_refl _))).mono ?_
    rintro e w3 ⟨rfl, hgo⟩
    obtain ⟨H', hs3, ht3, hn3, hg3⟩ := hgo.off HS.out HB2.out HW1.out (lt_of_block HG2.out)
    have HG3 := Lib.hid (hg3.trans HG2.out)
    have HS3 := Lib.hid (And.intro hs3 (And.intro ht3 hn3))
    clear hgo hs3 ht3 hn3 hg3 ck
    have ck := kid_cell HG3.out i HI.out
    have cf := frozen_of_row _ _ (3 + i) _ _ HG3.out
    go_upto_region 14 with (fail)
    have HG4 := Lib.hid (rep_row HG3.out i HI.out k1)
    have HS4 := Lib.hid (HS3.out.1.moved (w' := w3.setCell ⟨g, 3 + i, none⟩ (.int .i64 k1)) fun b hb => heap_setCell_other w3 ⟨g, 3 + i, none⟩ b _ (fun e => HS3.out.2.2 (by have e2 : b = g := e; rw [← e2]; exact hb)))
    have HT4 := Lib.hid (show Stp w H (w3.setCell ⟨g, 3 + i, none⟩ (.int .i64 k1)) H' from ⟨HS3.out.2.1.os, HS3.out.2.1.tape, HS3.out.2.1.output, by have := HS3.out.2.1.size; simpa using this, fun b hb hn => (heap_setCell_other w3 ⟨g, 3 + i, none⟩ b _ (by have := HW1.out; intro e; simp only at e; omega)).trans (HS3.out.2.1.block b hb hn), HS3.out.2.1.own⟩)
    clear ck cf
    generalize w3.setCell ⟨g, 3 + i, none⟩ (.int .i64 k1) = W4 at HG4 HS4 HT4 ⊢
    obtain ⟨⟨c0, c1, c2, c3, c4, c5, c6⟩, _, _, _, _, _, _, _⟩ := row7 HG4.out
    go_wp2_with fail
    refine (HN.out _ _ HS4.out).mono ?_
    rintro e w5 ⟨rfl, hgo⟩
    have HG5 := Lib.hid (Goes.trans HT4.out hgo)
    clear hgo
    go_wp2
    go_ret2
    exact ⟨rfl, HG5.out⟩
end Go.Proofs.YtlejohclijjhnaaGreatDoor
namespace Go.Proofs.YtlejohclijjhnaaGreatDoor
open Go.RowKit Ti Qd Go.Maps Go.WideMaps

/-- a question -/
def av (id j : Int) : Value := .agg #[.int .i64 id, .int .i64 j]
def kyA (id j : Int) : Lit := .string (keyBytes [.int .i64 id, .int .i64 j])
theorem rowA : (229 : TypeId) < Tryz.prog.types.size := of_decide_eq_true (by kernel_rfl)
theorem cellsA : Tryz.prog.cellsOf 229 = 2 := by kernel_rfl
theorem wideA : (match Tryz.prog.underlying 229 with | some (.array _ _) | some (.struct _) => true | _ => false) = true := by rw [Tryz.underlying229]
set_option maxRecDepth 100000 in
theorem alawS : KeyLaw Tryz.prog 229 := deep_law_laid laidOutQ (m := 2) (by omega) rowA (by kernel_rfl) wideA
theorem alaw : Keyed Tryz.prog 229 := Keyed.of_law alawS
theorem ktA : Tryz.prog.keyType 229 = true := by kernel_rfl
set_option maxRecDepth 100000 in
theorem kyA_of {id j : Int} (hi : I1 id) (hj : I1 j) : keyOf Tryz.prog 229 (av id j) = some (kyA id j) := by
  obtain ⟨m, hm⟩ := size3
  unfold keyOf av
  simp only [Tryz.underlying229]
  rw [if_pos (by simp [ktA, Value.formed, Tryz.underlying229, cellsA]), hm]
  unfold Program.keyLits
  simp only [Tryz.underlying229, Value.cells]
  rw [if_pos (by rw [cellsA]; exact ⟨rfl, by decide +kernel⟩)]
  simp [cellsI, lit_i hi, lit_i hj, kyA]
theorem kyA_inj {a b c d : Int} (ha : I1 a) (hb : I1 b) (hc : I1 c) (hd : I1 d) (e : kyA a b = kyA c d) : a = c ∧ b = d := by
  have h1 := kyA_of ha hb
  have h2 := kyA_of hc hd
  rw [e] at h1
  have h3 := alaw.inj h1 h2
  simpa [av] using h3
theorem kyA_key (id j : Int) : WideAt.IsKeyLit (kyA id j) := trivial
abbrev OwnsA (w : World) (b n : Nat) (D : DataW Unit) := w.ownsMap Tryz.prog 229 (plainElem Tryz.prog 3) b n D
/-- what is remembered, as a map -/
structure MpA (K : Kn) (D : DataW Unit) : Prop where
  has : ∀ id j, I1 id → I1 j → (Maps.has D (kyA id j) = true ↔ K id j ≠ none)
  at' : ∀ id j o, I1 id → I1 j → K id j = some o → D.atKey (kyA id j) (.lit (.int .i64 0)) = .lit (.int .i64 o)
theorem mpA_nil : MpA (fun _ _ => none) (.map []) := ⟨fun _ _ _ _ => by simp [Maps.has], fun _ _ _ _ _ h => by cases h⟩
theorem MpA.put {K : Kn} {D : DataW Unit} (h : MpA K D) {id j : Int} (hi : I1 id) (hj : I1 j) (o : Int) (hT : Tidy D) : MpA (K.note id j o) (D.put (kyA id j) (.lit (.int .i64 o))) := by
  constructor
  · intro a c ha hc
    unfold Kn.note
    by_cases e : a = id ∧ c = j
    · obtain ⟨rfl, rfl⟩ := e
      rw [Maps.has_put_same hT.isMap (kyA_key a c), if_pos ⟨rfl, rfl⟩]
      simp
    · rw [Maps.has_put_other (fun e2 => e (kyA_inj ha hc hi hj e2)), if_neg e]
      exact h.has a c ha hc
  · intro a c x ha hc hk
    unfold Kn.note at hk
    by_cases e : a = id ∧ c = j
    · rw [if_pos e] at hk
      obtain ⟨rfl, rfl⟩ := e
      obtain rfl := Option.some.inj hk
      rw [Maps.atKey_put_same hT.isMap (kyA_key a c)]
    · rw [if_neg e] at hk
      rw [Maps.atKey_put_other (fun e2 => e (kyA_inj ha hc hi hj e2))]
      exact h.at' a c x ha hc hk
/-- no more different numbers below a bound than that -/
theorem pig : ∀ (n : Nat) (l : List Nat), l.Nodup → (∀ x ∈ l, x < n) → l.length ≤ n
  | 0, l, _, h => by
    cases l with
    | nil => exact Nat.le_refl _
    | cons a t => exact absurd (h a (by simp)) (by omega)
  | n + 1, l, hd, h => by
    have h1 := pig n (l.erase n) (hd.erase n) fun x hx => by
      have h2 := (List.Nodup.mem_erase_iff hd).1 hx
      have := h x h2.2
      have := h2.1
      omega
    by_cases hm : n ∈ l
    · rw [List.length_erase_of_mem hm] at h1
      omega
    · rw [List.erase_of_not_mem hm] at h1
      omega
theorem nodup_map {α : Type} (f : α → Nat) : ∀ (l : List α), l.Nodup → (∀ a ∈ l, ∀ b ∈ l, f a = f b → a = b) → (l.map f).Nodup
  | [], _, _ => List.nodup_nil
  | x :: l, hd, h => by
    rw [List.nodup_cons] at hd
    rw [List.map_cons, List.nodup_cons]
    refine ⟨fun hm => ?_, nodup_map f l hd.2 fun a ha b hb e => h a (List.mem_cons_of_mem _ ha) b (List.mem_cons_of_mem _ hb) e⟩
    obtain ⟨y, hy, e⟩ := List.mem_map.1 hm
    exact hd.1 (h x (by simp) y (List.mem_cons_of_mem _ hy) e.symm ▸ hy)
/-- what is remembered lies in a block -/
def KAt (w : World) (M : Nat) (K : Kn) : Prop := ∃ (D : DataW Unit) (ks : List (Int × Int)), OwnsA w M ks.length D ∧ MpA K D ∧ ks.Nodup ∧ (∀ x ∈ ks, 1 ≤ x.1 ∧ x.1 ≤ 65536 ∧ 0 ≤ x.2 ∧ x.2 ≤ 40) ∧ ∀ id j, K id j ≠ none ↔ (id, j) ∈ ks
theorem owns_sameA {w w' : World} {M n : Nat} {D : DataW Unit} (h : OwnsA w M n D) (hb : w'.heap[M]? = w.heap[M]?) : OwnsA w' M n D := by
  obtain ⟨es, clock, hm, r⟩ := h
  exact ⟨es, clock, hb.trans hm, r⟩
theorem KAt.moved {w w' : World} {M : Nat} {K : Kn} (h : KAt w M K) (hb : w'.heap[M]? = w.heap[M]?) : KAt w' M K := by
  obtain ⟨D, ks, h1, r⟩ := h
  exact ⟨D, ks, owns_sameA h1 hb, r⟩
theorem KAt.lt {w : World} {M : Nat} {K : Kn} (h : KAt w M K) : M < w.heap.size := by
  obtain ⟨D, ks, h1, _⟩ := h
  exact h1.lt
theorem i1_small {a : Int} (h0 : 0 ≤ a) (h1 : a ≤ 65536) : I1 a := by unfold I1; omega
set_option maxRecDepth 100000 in
theorem ask_in {w : World} {M : Nat} {K : Kn} (h : KAt w M K) {id j o : Int} (hi : I1 id) (hj : I1 j) (hk : K id j = some o) :
    (Instr.lookup 98 (.map (some M)) (av id j) true).run Tryz.prog w = .ok (.tuple #[.int .i64 o, .bool true]) w := by
  obtain ⟨D, ks, h1, hf, _⟩ := h
  obtain ⟨v, ps, hr, hat⟩ := h1.look_ok alaw Tryz.underlying98 (zeroI w) (plainElem_int Tryz.underlying3 (by decide)) (kyA_of hi hj)
  rw [hf.at' id j o hi hj hk] at hat
  rw [(hf.has id j hi hj).2 (by rw [hk]; simp)] at hr
  obtain ⟨c, rfl, hc, _⟩ := plainElem_int_inv Tryz.underlying3 hat
  simp only [Prod.mk.injEq] at hc
  have e := hc.1
  injection e with e
  injection e with _ e
  rw [hr, e]
set_option maxRecDepth 100000 in
theorem ask_out {w : World} {M : Nat} {K : Kn} (h : KAt w M K) {id j : Int} (hi : I1 id) (hj : I1 j) (hk : K id j = none) :
    ∃ c, (Instr.lookup 98 (.map (some M)) (av id j) true).run Tryz.prog w = .ok (.tuple #[.int .i64 c, .bool false]) w := by
  obtain ⟨D, ks, h1, hf, _⟩ := h
  obtain ⟨v, ps, hr, hat⟩ := h1.look_ok alaw Tryz.underlying98 (zeroI w) (plainElem_int Tryz.underlying3 (by decide)) (kyA_of hi hj)
  rw [has_no (fun e => (hf.has id j hi hj).1 e hk)] at hr
  obtain ⟨c, rfl, _⟩ := plainElem_int_inv Tryz.underlying3 hat
  exact ⟨c, hr⟩
theorem ks_len {ks : List (Int × Int)} (hd : ks.Nodup) (hb : ∀ x ∈ ks, 1 ≤ x.1 ∧ x.1 ≤ 65536 ∧ 0 ≤ x.2 ∧ x.2 ≤ 40) : ks.length ≤ 65536 * 41 := by
  have h1 := pig (65536 * 41) (ks.map fun x => ((x.1 - 1) * 41 + x.2).toNat) (nodup_map _ ks hd fun a ha b hb' e => by
    have h1 := hb a ha
    have h2 := hb b hb'
    refine Prod.ext ?_ ?_ <;> omega) (fun x hx => by
    obtain ⟨y, hy, rfl⟩ := List.mem_map.1 hx
    have := hb y hy
    omega)
  rwa [List.length_map] at h1
set_option maxRecDepth 100000 in
theorem ask_note {w : World} {M : Nat} {K : Kn} (h : KAt w M K) {id j o : Int} (hi : 1 ≤ id ∧ id ≤ 65536) (hj : 0 ≤ j ∧ j ≤ 40) (ho : I1 o) :
    ∃ w', (Instr.mapUpdate 98 (.map (some M)) (av id j) (.int .i64 o)).run Tryz.prog w = .ok () w' ∧ KAt w' M (K.note id j o) ∧ w.grownBy w' (some M) := by
  obtain ⟨D, ks, h1, hf, hd, hb, hk⟩ := h
  have i1 : I1 id := by unfold I1; omega
  have i2 : I1 j := by unfold I1; omega
  have hl := ks_len hd hb
  have hval : plainElem (H := Unit) Tryz.prog 3 (.int .i64 o) = some (.lit (.int .i64 o), []) := plainElem_int Tryz.underlying3 (wf_of ho)
  obtain ⟨w', hu, hown', hg'⟩ := h1.update alaw Tryz.underlying98 (by unfold maxLen; omega) (kyA_of i1 i2) hval
  by_cases hm : (id, j) ∈ ks
  · -- there already: the bound alone grows, by what the map's own size says
    have hs : Maps.size (D.put (kyA id j) (.lit (.int .i64 o))) ≤ ks.length := by
      have hh : Maps.has D (kyA id j) = true := (hf.has id j i1 i2).2 ((hk id j).2 hm)
      have hsz := h1.size_le
      obtain ⟨es, hD, hnd⟩ := h1.tidy alaw
      subst hD
      obtain ⟨x, hx, hxk⟩ := List.any_eq_true.1 (show es.any (fun p => p.1.sameKey (kyA id j)) = true from hh)
      have e1 : Maps.size ((DataW.map es : DataW Unit).put (kyA id j) (.lit (.int .i64 o))) = (DataW.insert (kyA id j, (.lit (.int .i64 o) : DataW Unit)) (es.filter fun p => !p.1.sameKey (kyA id j))).length := rfl
      have e2 := length_insert (kyA id j, (.lit (.int .i64 o) : DataW Unit)) (es.filter fun p => !p.1.sameKey (kyA id j))
      have e3 : (es.filter fun p => !p.1.sameKey (kyA id j)).length < es.length := by
        refine List.length_filter_lt_length_iff_exists.2 ⟨x, hx, by simp [hxk]⟩
      have e4 : Maps.size (DataW.map es : DataW Unit) = es.length := rfl
      rw [e1, e2]
      omega
    obtain ⟨es, clock, hb', F, _, hD⟩ := hown'
    refine ⟨w', hu, ⟨_, ks, ⟨es, clock, hb', F, ?_, hD⟩, hf.put i1 i2 o (h1.tidy alaw), hd, hb, fun a c => ?_⟩, hg'⟩
    · have e1 : Maps.size (D.put (kyA id j) (.lit (.int .i64 o))) = es.size := by rw [hD]; simp [Maps.size, length_sorted]
      omega
    · unfold Kn.note
      by_cases e : a = id ∧ c = j
      · obtain ⟨rfl, rfl⟩ := e
        rw [if_pos ⟨rfl, rfl⟩]
        simp [hm]
      · rw [if_neg e]
        exact hk a c
  · refine ⟨w', hu, ⟨_, (id, j) :: ks, by simpa using hown', hf.put i1 i2 o (h1.tidy alaw), List.nodup_cons.2 ⟨hm, hd⟩, fun x hx => ?_, fun a c => ?_⟩, hg'⟩
    · rcases List.mem_cons.1 hx with rfl | hx
      · exact ⟨hi.1, hi.2, hj.1, hj.2⟩
      · exact hb x hx
    · unfold Kn.note
      by_cases e : a = id ∧ c = j
      · obtain ⟨rfl, rfl⟩ := e
        rw [if_pos ⟨rfl, rfl⟩]
        simp
      · rw [if_neg e, hk a c, List.mem_cons]
        constructor
        · exact .inr
        · rintro (h | h)
          · exact absurd ⟨congrArg Prod.fst h, congrArg Prod.snd h⟩ e
          · exact h
end Go.Proofs.YtlejohclijjhnaaGreatDoor

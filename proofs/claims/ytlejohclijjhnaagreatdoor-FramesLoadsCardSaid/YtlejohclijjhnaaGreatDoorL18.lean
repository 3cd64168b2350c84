/-
  A GROWER IN MEMORY: its struct, the store, the map of what is remembered; blocks of one's own beside it. Conditions: those that each lemma names.
  THE WALKS of a store that is none, and of four of which the first is not there; New, Empty where they can't be; Kids. Conditions: those that each names.
-/
import Derived.Test.YtlejohclijjhnaaGreatDoorL17
namespace Go.Proofs.YtlejohclijjhnaaGreatDoor.Fk
open Go.RowKit Ti Qd Go.Maps Go.WideMaps

/-- a question -/
def av (id j : Int) : Value := .agg #[.int .i64 id, .int .i64 j]
def kyA (id j : Int) : Lit := .string (keyBytes [.int .i64 id, .int .i64 j])
theorem rowA : (113 : TypeId) < Tryz.prog.types.size := of_decide_eq_true (by kernel_rfl)
theorem cellsA : Tryz.prog.cellsOf 113 = 2 := by kernel_rfl
theorem wideA : (match Tryz.prog.underlying 113 with | some (.array _ _) | some (.struct _) => true | _ => false) = true := by rw [Tryz.underlying113]
set_option maxRecDepth 100000 in
theorem alawS : KeyLaw Tryz.prog 113 := deep_law_laid laidOutQ (m := 2) (by omega) rowA (by kernel_rfl) wideA
theorem alaw : Keyed Tryz.prog 113 := Keyed.of_law alawS
theorem ktA : Tryz.prog.keyType 113 = true := by kernel_rfl
set_option maxRecDepth 100000 in
theorem kyA_of {id j : Int} (hi : I1 id) (hj : I1 j) : keyOf Tryz.prog 113 (av id j) = some (kyA id j) := by
  obtain ⟨m, hm⟩ := size3
  unfold keyOf av
  simp only [Tryz.underlying113]
  rw [if_pos (by simp [ktA, Value.formed, Tryz.underlying113, cellsA]), hm]
  unfold Program.keyLits
  simp only [Tryz.underlying113, Value.cells]
  rw [if_pos (by rw [cellsA]; exact ⟨rfl, by decide +kernel⟩)]
  simp [cellsI, lit_i hi, lit_i hj, kyA]
theorem kyA_inj {a b c d : Int} (ha : I1 a) (hb : I1 b) (hc : I1 c) (hd : I1 d) (e : kyA a b = kyA c d) : a = c ∧ b = d := by
  have h1 := kyA_of ha hb
  have h2 := kyA_of hc hd
  rw [e] at h1
  have h3 := alaw.inj h1 h2
  simpa [av] using h3
theorem kyA_key (id j : Int) : WideAt.IsKeyLit (kyA id j) := trivial
abbrev OwnsA (w : World) (b n : Nat) (D : DataW Unit) := w.ownsMap Tryz.prog 113 (plainElem Tryz.prog 3) b n D
/-- what is remembered, as a map -/
structure MpA (K : Kn) (D : DataW Unit) : Prop where
  has : ∀ id j, I1 id → I1 j → (Maps.has D (kyA id j) = true ↔ K id j ≠ none)
  at' : ∀ id j o, I1 id → I1 j → K id j = some o → D.atKey (kyA id j) (.lit (.int .i64 0)) = .lit (.int .i64 o)
theorem mpA_nil : MpA (fun _ _ => none) (.map []) := ⟨fun _ _ _ _ => by simp [Maps.has], fun _ _ _ _ _ h => by cases h⟩
theorem MpA.put {K : Kn} {D : DataW Unit} (h : MpA K D) {id j : Int} (hi : I1 id) (hj : I1 j) (o : Int) (hT : Tidy D) : MpA (K.note id j o) (D.put (kyA id j) (.lit (.int .i64 o))) := by
  constructor
  · intro a c ha hc
    unfold Kn.note
    by_cases e : a = id ∧ c = j
    · obtain ⟨rfl, rfl⟩ := e
      rw [Maps.has_put_same hT.isMap (kyA_key a c), if_pos ⟨rfl, rfl⟩]
      simp
    · rw [Maps.has_put_other (fun e2 => e (kyA_inj ha hc hi hj e2)), if_neg e]
      exact h.has a c ha hc
  · intro a c x ha hc hk
    unfold Kn.note at hk
    by_cases e : a = id ∧ c = j
    · rw [if_pos e] at hk
      obtain ⟨rfl, rfl⟩ := e
      obtain rfl := Option.some.inj hk
      rw [Maps.atKey_put_same hT.isMap (kyA_key a c)]
    · rw [if_neg e] at hk
      rw [Maps.atKey_put_other (fun e2 => e (kyA_inj ha hc hi hj e2))]
      exact h.at' a c x ha hc hk
/-- no more different numbers below a bound than that -/
theorem pig : ∀ (n : Nat) (l : List Nat), l.Nodup → (∀ x ∈ l, x < n) → l.length ≤ n
  | 0, l, _, h => by
    cases l with
    | nil => exact Nat.le_refl _
    | cons a t => exact absurd (h a (by simp)) (by omega)
  | n + 1, l, hd, h => by
    have h1 := pig n (l.erase n) (hd.erase n) fun x hx => by
      have h2 := (List.Nodup.mem_erase_iff hd).1 hx
      have := h x h2.2
      have := h2.1
      omega
    by_cases hm : n ∈ l
    · rw [List.length_erase_of_mem hm] at h1
      omega
    · rw [List.erase_of_not_mem hm] at h1
      omega
theorem nodup_map {α : Type} (f : α → Nat) : ∀ (l : List α), l.Nodup → (∀ a ∈ l, ∀ b ∈ l, f a = f b → a = b) → (l.map f).Nodup
  | [], _, _ => List.nodup_nil
  | x :: l, hd, h => by
    rw [List.nodup_cons] at hd
    rw [List.map_cons, List.nodup_cons]
    refine ⟨fun hm => ?_, nodup_map f l hd.2 fun a ha b hb e => h a (List.mem_cons_of_mem _ ha) b (List.mem_cons_of_mem _ hb) e⟩
    obtain ⟨y, hy, e⟩ := List.mem_map.1 hm
    exact hd.1 (h x (by simp) y (List.mem_cons_of_mem _ hy) e.symm ▸ hy)
/-- what is remembered lies in a block -/
def KAt (w : World) (M : Nat) (K : Kn) : Prop := ∃ (D : DataW Unit) (ks : List (Int × Int)), OwnsA w M ks.length D ∧ MpA K D ∧ ks.Nodup ∧ (∀ x ∈ ks, 1 ≤ x.1 ∧ x.1 ≤ 65536 ∧ 0 ≤ x.2 ∧ x.2 ≤ 40) ∧ ∀ id j, K id j ≠ none ↔ (id, j) ∈ ks
theorem owns_sameA {w w' : World} {M n : Nat} {D : DataW Unit} (h : OwnsA w M n D) (hb : w'.heap[M]? = w.heap[M]?) : OwnsA w' M n D := by
  obtain ⟨es, clock, hm, r⟩ := h
  exact ⟨es, clock, hb.trans hm, r⟩
theorem KAt.moved {w w' : World} {M : Nat} {K : Kn} (h : KAt w M K) (hb : w'.heap[M]? = w.heap[M]?) : KAt w' M K := by
  obtain ⟨D, ks, h1, r⟩ := h
  exact ⟨D, ks, owns_sameA h1 hb, r⟩
theorem KAt.lt {w : World} {M : Nat} {K : Kn} (h : KAt w M K) : M < w.heap.size := by
  obtain ⟨D, ks, h1, _⟩ := h
  exact h1.lt
theorem i1_small {a : Int} (h0 : 0 ≤ a) (h1 : a ≤ 65536) : I1 a := by unfold I1; omega
set_option maxRecDepth 100000 in
theorem ask_in {w : World} {M : Nat} {K : Kn} (h : KAt w M K) {id j o : Int} (hi : I1 id) (hj : I1 j) (hk : K id j = some o) :
    (Instr.lookup 64 (.map (some M)) (av id j) true).run Tryz.prog w = .ok (.tuple #[.int .i64 o, .bool true]) w := by
  obtain ⟨D, ks, h1, hf, _⟩ := h
  obtain ⟨v, ps, hr, hat⟩ := h1.look_ok alaw Tryz.underlying64 (zeroI w) (plainElem_int Tryz.underlying3 (by decide)) (kyA_of hi hj)
  rw [hf.at' id j o hi hj hk] at hat
  rw [(hf.has id j hi hj).2 (by rw [hk]; simp)] at hr
  obtain ⟨c, rfl, hc, _⟩ := plainElem_int_inv Tryz.underlying3 hat
  simp only [Prod.mk.injEq] at hc
  have e := hc.1
  injection e with e
  injection e with _ e
  rw [hr, e]
set_option maxRecDepth 100000 in
theorem ask_out {w : World} {M : Nat} {K : Kn} (h : KAt w M K) {id j : Int} (hi : I1 id) (hj : I1 j) (hk : K id j = none) :
    ∃ c, (Instr.lookup 64 (.map (some M)) (av id j) true).run Tryz.prog w = .ok (.tuple #[.int .i64 c, .bool false]) w := by
  obtain ⟨D, ks, h1, hf, _⟩ := h
  obtain ⟨v, ps, hr, hat⟩ := h1.look_ok alaw Tryz.underlying64 (zeroI w) (plainElem_int Tryz.underlying3 (by decide)) (kyA_of hi hj)
  rw [has_no (fun e => (hf.has id j hi hj).1 e hk)] at hr
  obtain ⟨c, rfl, _⟩ := plainElem_int_inv Tryz.underlying3 hat
  exact ⟨c, hr⟩
theorem ks_len {ks : List (Int × Int)} (hd : ks.Nodup) (hb : ∀ x ∈ ks, 1 ≤ x.1 ∧ x.1 ≤ 65536 ∧ 0 ≤ x.2 ∧ x.2 ≤ 40) : ks.length ≤ 65536 * 41 := by
  have h1 := pig (65536 * 41) (ks.map fun x => ((x.1 - 1) * 41 + x.2).toNat) (nodup_map _ ks hd fun a ha b hb' e => by
    have h1 := hb a ha
    have h2 := hb b hb'
    refine Prod.ext ?_ ?_ <;> omega) (fun x hx => by
    obtain ⟨y, hy, rfl⟩ := List.mem_map.1 hx
    have := hb y hy
    omega)
  rwa [List.length_map] at h1
set_option maxRecDepth 100000 in
theorem ask_note {w : World} {M : Nat} {K : Kn} (h : KAt w M K) {id j o : Int} (hi : 1 ≤ id ∧ id ≤ 65536) (hj : 0 ≤ j ∧ j ≤ 40) (ho : I1 o) :
    ∃ w', (Instr.mapUpdate 64 (.map (some M)) (av id j) (.int .i64 o)).run Tryz.prog w = .ok () w' ∧ KAt w' M (K.note id j o) ∧ w.grownBy w' (some M) := by
  obtain ⟨D, ks, h1, hf, hd, hb, hk⟩ := h
  have i1 : I1 id := by unfold I1; omega
  have i2 : I1 j := by unfold I1; omega
  have hl := ks_len hd hb
  have hval : plainElem (H := Unit) Tryz.prog 3 (.int .i64 o) = some (.lit (.int .i64 o), []) := plainElem_int Tryz.underlying3 (wf_of ho)
  obtain ⟨w', hu, hown', hg'⟩ := h1.update alaw Tryz.underlying64 (by unfold maxLen; omega) (kyA_of i1 i2) hval
  by_cases hm : (id, j) ∈ ks
  · -- there already: the bound alone grows, by what the map's own size says
    have hs : Maps.size (D.put (kyA id j) (.lit (.int .i64 o))) ≤ ks.length := by
      have hh : Maps.has D (kyA id j) = true := (hf.has id j i1 i2).2 ((hk id j).2 hm)
      have hsz := h1.size_le
      obtain ⟨es, hD, hnd⟩ := h1.tidy alaw
      subst hD
      obtain ⟨x, hx, hxk⟩ := List.any_eq_true.1 (show es.any (fun p => p.1.sameKey (kyA id j)) = true from hh)
      have e1 : Maps.size ((DataW.map es : DataW Unit).put (kyA id j) (.lit (.int .i64 o))) = (DataW.insert (kyA id j, (.lit (.int .i64 o) : DataW Unit)) (es.filter fun p => !p.1.sameKey (kyA id j))).length := rfl
      have e2 := length_insert (kyA id j, (.lit (.int .i64 o) : DataW Unit)) (es.filter fun p => !p.1.sameKey (kyA id j))
      have e3 : (es.filter fun p => !p.1.sameKey (kyA id j)).length < es.length := by
        refine List.length_filter_lt_length_iff_exists.2 ⟨x, hx, by simp [hxk]⟩
      have e4 : Maps.size (DataW.map es : DataW Unit) = es.length := rfl
      rw [e1, e2]
      omega
    obtain ⟨es, clock, hb', F, _, hD⟩ := hown'
    refine ⟨w', hu, ⟨_, ks, ⟨es, clock, hb', F, ?_, hD⟩, hf.put i1 i2 o (h1.tidy alaw), hd, hb, fun a c => ?_⟩, hg'⟩
    · have e1 : Maps.size (D.put (kyA id j) (.lit (.int .i64 o))) = es.size := by rw [hD]; simp [Maps.size, length_sorted]
      omega
    · unfold Kn.note
      by_cases e : a = id ∧ c = j
      · obtain ⟨rfl, rfl⟩ := e
        rw [if_pos ⟨rfl, rfl⟩]
        simp [hm]
      · rw [if_neg e]
        exact hk a c
  · refine ⟨w', hu, ⟨_, (id, j) :: ks, by simpa using hown', hf.put i1 i2 o (h1.tidy alaw), List.nodup_cons.2 ⟨hm, hd⟩, fun x hx => ?_, fun a c => ?_⟩, hg'⟩
    · rcases List.mem_cons.1 hx with rfl | hx
      · exact ⟨hi.1, hi.2, hj.1, hj.2⟩
      · exact hb x hx
    · unfold Kn.note
      by_cases e : a = id ∧ c = j
      · obtain ⟨rfl, rfl⟩ := e
        rw [if_pos ⟨rfl, rfl⟩]
        simp
      · rw [if_neg e, hk a c, List.mem_cons]
        constructor
        · exact .inr
        · rintro (h | h)
          · exact absurd ⟨congrArg Prod.fst h, congrArg Prod.snd h⟩ e
          · exact h
end Go.Proofs.YtlejohclijjhnaaGreatDoor.Fk
namespace Go.Proofs.YtlejohclijjhnaaGreatDoor
open Go.RowKit Ti Qd Go.Maps Go.WideMaps

set_option maxRecDepth 100000 in
set_option maxHeartbeats 2000000 in
theorem joined_first (ad : Option Addr) (e : Int) (ka kb kc kd : Int) (w : World) (hq : ∀ W, Below w.heap.size w W → Calls Tryz.prog 31 #[.pointer ad, .int .i64 ka] W fun e' w' => e' = .returned (.tuple #[zv, .iface 63 (.int .i64 e)]) ∧ Below W.heap.size W w') :
    Calls Tryz.prog 56 #[.pointer ad, .agg #[.int .i64 ka, .int .i64 kb, .int .i64 kc, .int .i64 kd]] w fun e' w' => e' = .returned (.tuple #[zv, .iface 63 (.int .i64 e)]) ∧ Below w.heap.size w w' := by
  have HQ := Lib.hid hq
  have HJ := Lib.hid (jr_start w ka kb kc kd dead dead dead dead)
  clear hq
  unfold zv at *
  go_enter Tryz.func56, Tryz.ntmps56
  go_wp2
  go_loopw [5, 15] (fun v i wr => v = .nilIface ∧ i = .int .i64 0 ∧ Hid (JR w ka kb kc kd dead dead dead dead wr 0)) (fun _ i _ => 4 - (intOf i).toNat)
  case atStart => exact ⟨rfl, rfl, HJ⟩
  case round =>
    clear HJ
    obtain ⟨rfl, rfl, HR⟩ := hrel
    have hx := idx4_0 ka kb kc kd
    go_wp2_with fail
    refine (HQ.out _ HR.out.bel).mono ?_
    rintro e' w1 ⟨rfl, hb⟩
    have HR1 := Lib.hid (HR.out.below (hb.trans ((alX w1 zq).mono hb.size)))
    clear hb HR hx
    go_upto_region 6 with (fail)
    generalize w1.alloc (.cells #[.int .i64 0, .int .i64 0, .int .u64 0, .int .i64 0, .int .i64 0, .int .i64 0, .int .i64 0] 95) = W1 at HR1 ⊢
    obtain ⟨⟨b0, b1, b2, b3, b4, b5, b6⟩, f0, f1, f2, f3, f4, f5, f6⟩ := row7 HR1.out.h1
    go_wp2
    refine post_row_tmp Tryz.results56 (w.heap.size + 1) 95 #[.int .i64 0, .int .i64 0, .int .u64 0, .int .i64 0, .int .i64 0, .int .i64 0, .int .i64 0] (0, 0) _ (.iface 63 (.int .i64 e)) Tryz.underlying95 rfl info_q7 ?_ ?_ (row_set7 HR1.out.h1 _ _ _ _ _ _ _) ?_ ?_
    · rfl
    · rfl
    · rfl
    exact ⟨rfl, below_set7 HR1.out.bel (show w.heap.size ≤ w.heap.size + 1 by omega) _ _ _ _ _ _ _⟩
set_option maxRecDepth 100000 in
theorem node_first (ad : Option Addr) (e : Int) (ka kb kc kd : Int) (w : World) (hq : ∀ W, Below w.heap.size w W → Calls Tryz.prog 31 #[.pointer ad, .int .i64 ka] W fun e' w' => e' = .returned (.tuple #[zv, .iface 63 (.int .i64 e)]) ∧ Below W.heap.size W w') :
    Calls Tryz.prog 36 #[.pointer ad, .agg #[.int .i64 ka, .int .i64 kb, .int .i64 kc, .int .i64 kd]] w fun e' w' => e' = .returned (.tuple #[.int .i64 0, .iface 63 (.int .i64 e)]) ∧ Below w.heap.size w w' := by
  have HJ := Lib.hid (joined_first ad e ka kb kc kd (w.alloc (.cells #[.int .i64 ka, .int .i64 kb, .int .i64 kc, .int .i64 kd] 93)) (fun W hW => hq W ((alX _ _).trans (hW.mono (by simp)))))
  clear hq
  unfold zv at *
  go_enter Tryz.func36, Tryz.ntmps36
  go_wp2_with fail
  refine HJ.out.mono ?_
  rintro e' w1 ⟨rfl, hb⟩
  have HB := Lib.hid (((alX _ _).trans (hb.mono (by simp))).trans ((alX w1 zq).mono (Nat.le_trans (by simp) hb.size)))
  clear hb
  go_wp2
  go_ret2
  exact ⟨rfl, HB.out⟩
theorem node_nil (ka kb kc kd : Int) (w : World) : Calls Tryz.prog 36 #[.pointer none, .agg #[.int .i64 ka, .int .i64 kb, .int .i64 kc, .int .i64 kd]] w fun e' w' => e' = .returned (.tuple #[.int .i64 0, .iface 63 (.int .i64 1)]) ∧ Below w.heap.size w w' :=
  node_first none 1 ka kb kc kd w fun W _ => square_nil ka W
theorem node_none {B : Nat} {w : World} {P : Nat} {L : List Sq} {room : Nat} {H : Nat → Prop} (h : St B w P L room H) (ka kb kc kd : Int) (ho : ¬ Ok L ka) : Calls Tryz.prog 36 #[.pointer (some ⟨P, 0, none⟩), .agg #[.int .i64 ka, .int .i64 kb, .int .i64 kc, .int .i64 kd]] w fun e' w' => e' = .returned (.tuple #[.int .i64 0, .iface 63 (.int .i64 8)]) ∧ Below w.heap.size w w' :=
  node_first _ 8 ka kb kc kd w fun _ hW => square_none (h.below hW (Nat.le_refl _)) ka ho
set_option maxRecDepth 100000 in
theorem leaf_nil (t : Int) (w : World) : Calls Tryz.prog 47 #[.pointer none, .int .u64 t] w fun e' w' => e' = .returned (.tuple #[.int .i64 0, .iface 63 (.int .i64 1)]) ∧ w = w' := by
  go_enter Tryz.func47, Tryz.ntmps47
  go_wp2
  go_ret2
  exact ⟨rfl, rfl⟩
set_option maxRecDepth 100000 in
theorem count_nil (id : Int) (w : World) : Calls Tryz.prog 18 #[.pointer none, .int .i64 id] w fun e' w' => e' = .returned (.tuple #[.int .i64 0, .iface 63 (.int .i64 1)]) ∧ Below w.heap.size w w' := by
  have HQ := Lib.hid (square_nil id w)
  unfold zv at *
  go_enter Tryz.func18, Tryz.ntmps18
  go_wp2_with fail
  refine HQ.out.mono ?_
  rintro e' w1 ⟨rfl, hb⟩
  have HB := Lib.hid (hb.trans ((alX w1 zq).mono hb.size))
  clear hb
  go_wp2
  go_ret2
  exact ⟨rfl, HB.out⟩
set_option maxRecDepth 100000 in
theorem level_nil (id : Int) (w : World) : Calls Tryz.prog 21 #[.pointer none, .int .i64 id] w fun e' w' => e' = .returned (.tuple #[.int .i64 0, .iface 63 (.int .i64 1)]) ∧ Below w.heap.size w w' := by
  have HQ := Lib.hid (square_nil id w)
  unfold zv at *
  go_enter Tryz.func21, Tryz.ntmps21
  go_wp2_with fail
  refine HQ.out.mono ?_
  rintro e' w1 ⟨rfl, hb⟩
  have HB := Lib.hid (hb.trans ((alX w1 zq).mono hb.size))
  clear hb
  go_wp2
  go_ret2
  exact ⟨rfl, HB.out⟩
set_option maxRecDepth 100000 in
theorem tile_nil (id : Int) (w : World) : Calls Tryz.prog 75 #[.pointer none, .int .i64 id] w fun e' w' => e' = .returned (.tuple #[.int .u64 0, .iface 63 (.int .i64 1)]) ∧ Below w.heap.size w w' := by
  have HQ := Lib.hid (square_nil id w)
  unfold zv at *
  go_enter Tryz.func75, Tryz.ntmps75
  go_wp2_with fail
  refine HQ.out.mono ?_
  rintro e' w1 ⟨rfl, hb⟩
  have HB := Lib.hid (hb.trans ((alX w1 zq).mono hb.size))
  clear hb
  go_wp2
  go_ret2
  exact ⟨rfl, HB.out⟩
abbrev z4 : Obj := .cells #[.int .i64 0, .int .i64 0, .int .i64 0, .int .i64 0] 93
set_option maxRecDepth 100000 in
theorem info_4 : (Tryz.prog.info? 93).map (·.size) = some 4 := by kernel_rfl
abbrev set4 (w : World) (g : Nat) (v0 v1 v2 v3 : Value) : World := (((w.setCell ⟨g, 0, none⟩ v0).setCell ⟨g, 1, none⟩ v1).setCell ⟨g, 2, none⟩ v2).setCell ⟨g, 3, none⟩ v3
theorem row_set4 {w : World} {g : Nat} {a0 a1 a2 a3 : Value} {t : TypeId} (h : w.heap[g]? = some (.cells #[a0, a1, a2, a3] t (0, 0))) (v0 v1 v2 v3 : Value) :
    (set4 w g v0 v1 v2 v3).heap[g]? = some (.cells #[v0, v1, v2, v3] t (0, 0)) := by
  have h0 := heap_setCell_same w g 0 _ _ v0 h
  have h1 := heap_setCell_same _ g 1 _ _ v1 h0
  have h2 := heap_setCell_same _ g 2 _ _ v2 h1
  have h3 := heap_setCell_same _ g 3 _ _ v3 h2
  rw [h3]
  rfl
theorem below_set4 {w w' : World} {B g : Nat} (h : Below B w w') (hg : B ≤ g) (v0 v1 v2 v3 : Value) : Below B w (set4 w' g v0 v1 v2 v3) :=
  (((h.setCell (p := ⟨g, 0, none⟩) hg v0).setCell (p := ⟨g, 1, none⟩) hg v1).setCell (p := ⟨g, 2, none⟩) hg v2).setCell (p := ⟨g, 3, none⟩) hg v3
set_option maxRecDepth 100000 in
theorem kids_nil (id : Int) (w : World) : Calls Tryz.prog 64 #[.pointer none, .int .i64 id] w fun e' w' => e' = .returned (.tuple #[.agg #[.int .i64 0, .int .i64 0, .int .i64 0, .int .i64 0], .iface 63 (.int .i64 1)]) ∧ Below w.heap.size w w' := by
  have HQ := Lib.hid (square_nil id (w.alloc z4))
  have HZ := Lib.hid (heap_alloc_new w z4)
  unfold zv at *
  go_enter Tryz.func64, Tryz.ntmps64
  go_wp2_with fail
  refine HQ.out.mono ?_
  rintro e' w1 ⟨rfl, hb⟩
  have HB := Lib.hid ((alX w z4).trans ((hb.trans ((alX w1 zq).mono hb.size)).mono (by simp)))
  have HZ2 := Lib.hid (((hb.trans ((alX w1 zq).mono hb.size)).block _ (lt_of_block HZ.out)).trans HZ.out)
  clear hb
  go_upto_region 2 with (fail)
  generalize w1.alloc (.cells #[.int .i64 0, .int .i64 0, .int .u64 0, .int .i64 0, .int .i64 0, .int .i64 0, .int .i64 0] 95) = W1 at HB HZ2 ⊢
  obtain ⟨b0, b1, b2, b3⟩ := row4 HZ2.out
  have f0 := frozen_of_row _ _ 0 _ _ HZ2.out
  have f1 := frozen_of_row _ _ 1 _ _ HZ2.out
  have f2 := frozen_of_row _ _ 2 _ _ HZ2.out
  have f3 := frozen_of_row _ _ 3 _ _ HZ2.out
  go_wp2
  refine post_row_tmp Tryz.results64 w.heap.size 93 #[.int .i64 0, .int .i64 0, .int .i64 0, .int .i64 0] (0, 0) _ (.iface 63 (.int .i64 1)) Tryz.underlying93 rfl info_4 ?_ ?_ (row_set4 HZ2.out _ _ _ _) ?_ ?_
  · rfl
  · rfl
  · rfl
  exact ⟨rfl, below_set4 HB.out (Nat.le_refl _) _ _ _ _⟩
set_option maxRecDepth 100000 in
/-- the four of a square above a tile -/
theorem kids_ok {B : Nat} {w : World} {P : Nat} {L : List Sq} {room : Nat} {H : Nat → Prop} (h : St B w P L room H) (n : Nat) (id : Int) (hl : Lv L (n + 1) id) (q : Sq) (hq : at' L id = q) :
    Calls Tryz.prog 64 #[.pointer (some ⟨P, 0, none⟩), .int .i64 id] w fun e' w' => e' = .returned (.tuple #[.agg #[.int .i64 q.k0, .int .i64 q.k1, .int .i64 q.k2, .int .i64 q.k3], .nilIface]) ∧ Below w.heap.size w w' := by
  have HQ := Lib.hid (square_is (h.below (alX w z4) (Nat.le_refl _)) id hl.1 hq)
  have e3 : (q.lev == 3) = false := by rw [beq_eq_false_iff_ne, ← hq, hl.2]; omega
  have HZ := Lib.hid (heap_alloc_new w z4)
  clear h hl hq
  unfold qv at *
  go_enter Tryz.func64, Tryz.ntmps64
  go_wp2_with fail
  refine HQ.out.mono ?_
  rintro e' w1 ⟨rfl, hb⟩
  have HB := Lib.hid ((alX w z4).trans ((hb.trans ((alX w1 (bq q)).mono hb.size)).mono (by simp)))
  have HZ2 := Lib.hid (((hb.trans ((alX w1 (bq q)).mono hb.size)).block _ (lt_of_block HZ.out)).trans HZ.out)
  have hg := heap_alloc_new w1 (bq q)
  clear hb
  unfold bq at *
  go_upto_region 2 with (fail)
  have hlt : w.heap.size < w1.heap.size ∨ True := .inr trivial
  generalize w1.alloc (.cells #[.int .i64 q.lev, .int .i64 q.cnt, .int .u64 (rg q.til), .int .i64 q.k0, .int .i64 q.k1, .int .i64 q.k2, .int .i64 q.k3] 95) = W1 at HB HZ2 hg ⊢
  obtain ⟨⟨c0, c1, c2, c3, c4, c5, c6⟩, _, _, _, _, _, _, _⟩ := row7 hg
  obtain ⟨b0, b1, b2, b3⟩ := row4 HZ2.out
  have f0 := frozen_of_row _ _ 0 _ _ HZ2.out
  have f1 := frozen_of_row _ _ 1 _ _ HZ2.out
  have f2 := frozen_of_row _ _ 2 _ _ HZ2.out
  have f3 := frozen_of_row _ _ 3 _ _ HZ2.out
  clear hg hlt
  go_wp2
  refine post_row_tmp Tryz.results64 w.heap.size 93 #[.int .i64 q.k0, .int .i64 q.k1, .int .i64 q.k2, .int .i64 q.k3] (0, 0) _ .nilIface Tryz.underlying93 rfl info_4 ?_ ?_ (row_set4 HZ2.out _ _ _ _) ?_ ?_
  · rfl
  · rfl
  · rfl
  exact ⟨rfl, below_set4 HB.out (Nat.le_refl _) _ _ _ _⟩
set_option maxRecDepth 100000 in
theorem empty_bad (ad : Option Addr) (lv : Int) (h : lv < 3 ∨ 40 < lv) (w : World) : Calls Tryz.prog 29 #[.pointer ad, .int .i64 lv] w fun e' w' => e' = .returned (.tuple #[.int .i64 0, .iface 63 (.int .i64 1)]) ∧ w = w' := by
  by_cases h1 : lv < 3
  · clear h
    go_enter Tryz.func29, Tryz.ntmps29
    go_wp2
    go_ret2
    exact ⟨rfl, rfl⟩
  · have h2 : 40 < lv := by omega
    clear h
    go_enter Tryz.func29, Tryz.ntmps29
    go_wp2
    go_ret2
    exact ⟨rfl, rfl⟩
set_option maxRecDepth 100000 in
theorem empty_nil (w : World) : Calls Tryz.prog 29 #[.pointer none, .int .i64 3] w fun e' w' => e' = .returned (.tuple #[.int .i64 0, .iface 63 (.int .i64 1)]) ∧ w = w' := by
  have HQ := Lib.hid (leaf_nil 0 w)
  go_enter Tryz.func29, Tryz.ntmps29
  go_wp2_with fail
  refine HQ.out.mono ?_
  rintro e' w1 ⟨rfl, rfl⟩
  go_wp2
  go_ret2
  exact ⟨rfl, rfl⟩
set_option maxRecDepth 100000 in
theorem new_bad (room : Int) (h : room < 1 ∨ 65536 < room) (w : World) : Calls Tryz.prog 14 #[.int .i64 room] w fun e' w' => e' = .returned (.tuple #[.pointer none, .iface 63 (.int .i64 1)]) ∧ w = w' := by
  by_cases h1 : room < 1
  · clear h
    go_enter Tryz.func14, Tryz.ntmps14
    go_wp2
    go_ret2
    exact ⟨rfl, rfl⟩
  · have h2 : 65536 < room := by omega
    clear h
    go_enter Tryz.func14, Tryz.ntmps14
    go_wp2
    go_ret2
    exact ⟨rfl, rfl⟩
set_option maxRecDepth 100000 in
theorem about_nil (id x y : Int) (w : World) : Calls Tryz.prog 48 #[.pointer none, .int .i64 id, .int .i64 x, .int .i64 y] w fun e' w' => e' = .returned (.tuple #[zv, .iface 63 (.int .i64 1)]) ∧ Below w.heap.size w w' := by
  have HQ := Lib.hid (square_nil id (w.alloc zq))
  have HZ := Lib.hid (heap_alloc_new w zq)
  unfold zv at *
  go_enter Tryz.func48, Tryz.ntmps48
  go_wp2_with fail
  refine HQ.out.mono ?_
  rintro e' w1 ⟨rfl, hb⟩
  have HB := Lib.hid ((alX w zq).trans ((hb.trans ((alX w1 zq).mono hb.size)).mono (by simp)))
  have HZ2 := Lib.hid (((hb.trans ((alX w1 zq).mono hb.size)).block _ (lt_of_block HZ.out)).trans HZ.out)
  clear hb
  go_upto_region 2 with (fail)
  generalize w1.alloc (.cells #[.int .i64 0, .int .i64 0, .int .u64 0, .int .i64 0, .int .i64 0, .int .i64 0, .int .i64 0] 95) = W1 at HB HZ2 ⊢
  obtain ⟨⟨b0, b1, b2, b3, b4, b5, b6⟩, f0, f1, f2, f3, f4, f5, f6⟩ := row7 HZ2.out
  go_wp2
  refine post_row_tmp Tryz.results48 w.heap.size 95 #[.int .i64 0, .int .i64 0, .int .u64 0, .int .i64 0, .int .i64 0, .int .i64 0, .int .i64 0] (0, 0) _ (.iface 63 (.int .i64 1)) Tryz.underlying95 rfl info_q7 ?_ ?_ (row_set7 HZ2.out _ _ _ _ _ _ _) ?_ ?_
  · rfl
  · rfl
  · rfl
  exact ⟨rfl, below_set7 HB.out (Nat.le_refl _) _ _ _ _ _ _ _⟩
set_option maxRecDepth 100000 in
theorem set_nil (id x y : Int) (c : Bool) (w : World) : Calls Tryz.prog 30 #[.pointer none, .int .i64 id, .int .i64 x, .int .i64 y, .bool c] w fun e' w' => e' = .returned (.tuple #[.int .i64 0, .iface 63 (.int .i64 1)]) ∧ Below w.heap.size w w' := by
  have HQ := Lib.hid (about_nil id x y w)
  unfold zv at *
  go_enter Tryz.func30, Tryz.ntmps30
  go_wp2_with fail
  refine HQ.out.mono ?_
  rintro e' w1 ⟨rfl, hb⟩
  have HB := Lib.hid (hb.trans ((alX w1 zq).mono hb.size))
  clear hb
  go_wp2
  go_ret2
  exact ⟨rfl, HB.out⟩
end Go.Proofs.YtlejohclijjhnaaGreatDoor

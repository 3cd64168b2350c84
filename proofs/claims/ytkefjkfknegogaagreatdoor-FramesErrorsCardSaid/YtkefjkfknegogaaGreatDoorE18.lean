/-
  A GROWER IN MEMORY: its struct, the store, the map of what is remembered; blocks of one's own beside it. Conditions: those that each lemma names.
  A GROWER IN MEMORY: its struct, the store, the map of what is remembered; blocks of one's own beside it. Conditions: those that each lemma names.
-/
import Derived.Test.YtkefjkfknegogaaGreatDoorE03
import Derived.Test.YtkefjkfknegogaaGreatDoorE17
namespace Go.Proofs.YtkefjkfknegogaaGreatDoor
open Go.RowKit Ti Qd Go.Maps Go.WideMaps

/-- a question -/
def av (id j : Int) : Value := .agg #[.int .i64 id, .int .i64 j]
def kyA (id j : Int) : Lit := .string (keyBytes [.int .i64 id, .int .i64 j])
theorem rowA : (155 : TypeId) < Tryz.prog.types.size := of_decide_eq_true (by kernel_rfl)
theorem cellsA : Tryz.prog.cellsOf 155 = 2 := by kernel_rfl
theorem wideA : (match Tryz.prog.underlying 155 with | some (.array _ _) | some (.struct _) => true | _ => false) = true := by rw [Tryz.underlying155]
set_option maxRecDepth 100000 in
theorem alawS : KeyLaw Tryz.prog 155 := deep_law_laid laidOutQ (m := 2) (by omega) rowA (by kernel_rfl) wideA
theorem alaw : Keyed Tryz.prog 155 := Keyed.of_law alawS
theorem ktA : Tryz.prog.keyType 155 = true := by kernel_rfl
set_option maxRecDepth 100000 in
theorem kyA_of {id j : Int} (hi : I1 id) (hj : I1 j) : keyOf Tryz.prog 155 (av id j) = some (kyA id j) := by
  obtain ⟨m, hm⟩ := size3
  unfold keyOf av
  simp only [Tryz.underlying155]
  rw [if_pos (by simp [ktA, Value.formed, Tryz.underlying155, cellsA]), hm]
  unfold Program.keyLits
  simp only [Tryz.underlying155, Value.cells]
  rw [if_pos (by rw [cellsA]; exact ⟨rfl, by decide +kernel⟩)]
  simp [cellsI, lit_i hi, lit_i hj, kyA]
theorem kyA_inj {a b c d : Int} (ha : I1 a) (hb : I1 b) (hc : I1 c) (hd : I1 d) (e : kyA a b = kyA c d) : a = c ∧ b = d := by
  have h1 := kyA_of ha hb
  have h2 := kyA_of hc hd
  rw [e] at h1
  have h3 := alaw.inj h1 h2
  simpa [av] using h3
theorem kyA_key (id j : Int) : WideAt.IsKeyLit (kyA id j) := trivial
abbrev OwnsA (w : World) (b n : Nat) (D : DataW Unit) := w.ownsMap Tryz.prog 155 (plainElem Tryz.prog 3) b n D
/-- what is remembered, as a map -/
structure MpA (K : Kn) (D : DataW Unit) : Prop where
  has : ∀ id j, I1 id → I1 j → (Maps.has D (kyA id j) = true ↔ K id j ≠ none)
  at' : ∀ id j o, I1 id → I1 j → K id j = some o → D.atKey (kyA id j) (.lit (.int .i64 0)) = .lit (.int .i64 o)
theorem mpA_nil : MpA (fun _ _ => none) (.map []) := ⟨fun _ _ _ _ => by simp [Maps.has], fun _ _ _ _ _ h => by cases h⟩
theorem MpA.put {K : Kn} {D : DataW Unit} (h : MpA K D) {id j : Int} (hi : I1 id) (hj : I1 j) (o : Int) (hT : Tidy D) : MpA (K.note id j o) (D.put (kyA id j) (.lit (.int .i64 o))) := by
  constructor
  · intro a c ha hc
    unfold Kn.note
    by_cases e : a = id ∧ c = j
    · obtain ⟨rfl, rfl⟩ := e
      rw [Maps.has_put_same hT.isMap (kyA_key a c), if_pos ⟨rfl, rfl⟩]
      simp
    · rw [Maps.has_put_other (fun e2 => e (kyA_inj ha hc hi hj e2)), if_neg e]
      exact h.has a c ha hc
  · intro a c x ha hc hk
    unfold Kn.note at hk
    by_cases e : a = id ∧ c = j
    · rw [if_pos e] at hk
      obtain ⟨rfl, rfl⟩ := e
      obtain rfl := Option.some.inj hk
      rw [Maps.atKey_put_same hT.isMap (kyA_key a c)]
    · rw [if_neg e] at hk
      rw [Maps.atKey_put_other (fun e2 => e (kyA_inj ha hc hi hj e2))]
      exact h.at' a c x ha hc hk
/-- no more different numbers below a bound than that -/
theorem pig : ∀ (n : Nat) (l : List Nat), l.Nodup → (∀ x ∈ l, x < n) → l.length ≤ n
  | 0, l, _, h => by
    cases l with
    | nil => exact Nat.le_refl _
    | cons a t => exact absurd (h a (by simp)) (by omega)
  | n + 1, l, hd, h => by
    have h1 := pig n (l.erase n) (hd.erase n) fun x hx => by
      have h2 := (List.Nodup.mem_erase_iff hd).1 hx
      have := h x h2.2
      have := h2.1
      omega
    by_cases hm : n ∈ l
    · rw [List.length_erase_of_mem hm] at h1
      omega
    · rw [List.erase_of_not_mem hm] at h1
      omega
theorem nodup_map {α : Type} (f : α → Nat) : ∀ (l : List α), l.Nodup → (∀ a ∈ l, ∀ b ∈ l, f a = f b → a = b) → (l.map f).Nodup
  | [], _, _ => List.nodup_nil
  | x :: l, hd, h => by
    rw [List.nodup_cons] at hd
    rw [List.map_cons, List.nodup_cons]
    refine ⟨fun hm => ?_, nodup_map f l hd.2 fun a ha b hb e => h a (List.mem_cons_of_mem _ ha) b (List.mem_cons_of_mem _ hb) e⟩
    obtain ⟨y, hy, e⟩ := List.mem_map.1 hm
    exact hd.1 (h x (by simp) y (List.mem_cons_of_mem _ hy) e.symm ▸ hy)
/-- what is remembered lies in a block -/
def KAt (w : World) (M : Nat) (K : Kn) : Prop := ∃ (D : DataW Unit) (ks : List (Int × Int)), OwnsA w M ks.length D ∧ MpA K D ∧ ks.Nodup ∧ (∀ x ∈ ks, 1 ≤ x.1 ∧ x.1 ≤ 65536 ∧ 0 ≤ x.2 ∧ x.2 ≤ 40) ∧ ∀ id j, K id j ≠ none ↔ (id, j) ∈ ks
theorem owns_sameA {w w' : World} {M n : Nat} {D : DataW Unit} (h : OwnsA w M n D) (hb : w'.heap[M]? = w.heap[M]?) : OwnsA w' M n D := by
  obtain ⟨es, clock, hm, r⟩ := h
  exact ⟨es, clock, hb.trans hm, r⟩
theorem KAt.moved {w w' : World} {M : Nat} {K : Kn} (h : KAt w M K) (hb : w'.heap[M]? = w.heap[M]?) : KAt w' M K := by
  obtain ⟨D, ks, h1, r⟩ := h
  exact ⟨D, ks, owns_sameA h1 hb, r⟩
theorem KAt.lt {w : World} {M : Nat} {K : Kn} (h : KAt w M K) : M < w.heap.size := by
  obtain ⟨D, ks, h1, _⟩ := h
  exact h1.lt
theorem i1_small {a : Int} (h0 : 0 ≤ a) (h1 : a ≤ 65536) : I1 a := by unfold I1; omega
set_option maxRecDepth 100000 in
theorem ask_in {w : World} {M : Nat} {K : Kn} (h : KAt w M K) {id j o : Int} (hi : I1 id) (hj : I1 j) (hk : K id j = some o) :
    (Instr.lookup 90 (.map (some M)) (av id j) true).run Tryz.prog w = .ok (.tuple #[.int .i64 o, .bool true]) w := by
  obtain ⟨D, ks, h1, hf, _⟩ := h
  obtain ⟨v, ps, hr, hat⟩ := h1.look_ok alaw Tryz.underlying90 (zeroI w) (plainElem_int Tryz.underlying3 (by decide)) (kyA_of hi hj)
  rw [hf.at' id j o hi hj hk] at hat
  rw [(hf.has id j hi hj).2 (by rw [hk]; simp)] at hr
  obtain ⟨c, rfl, hc, _⟩ := plainElem_int_inv Tryz.underlying3 hat
  simp only [Prod.mk.injEq] at hc
  have e := hc.1
  injection e with e
  injection e with _ e
  rw [hr, e]
set_option maxRecDepth 100000 in
theorem ask_out {w : World} {M : Nat} {K : Kn} (h : KAt w M K) {id j : Int} (hi : I1 id) (hj : I1 j) (hk : K id j = none) :
    ∃ c, (Instr.lookup 90 (.map (some M)) (av id j) true).run Tryz.prog w = .ok (.tuple #[.int .i64 c, .bool false]) w := by
  obtain ⟨D, ks, h1, hf, _⟩ := h
  obtain ⟨v, ps, hr, hat⟩ := h1.look_ok alaw Tryz.underlying90 (zeroI w) (plainElem_int Tryz.underlying3 (by decide)) (kyA_of hi hj)
  rw [has_no (fun e => (hf.has id j hi hj).1 e hk)] at hr
  obtain ⟨c, rfl, _⟩ := plainElem_int_inv Tryz.underlying3 hat
  exact ⟨c, hr⟩
theorem ks_len {ks : List (Int × Int)} (hd : ks.Nodup) (hb : ∀ x ∈ ks, 1 ≤ x.1 ∧ x.1 ≤ 65536 ∧ 0 ≤ x.2 ∧ x.2 ≤ 40) : ks.length ≤ 65536 * 41 := by
  have h1 := pig (65536 * 41) (ks.map fun x => ((x.1 - 1) * 41 + x.2).toNat) (nodup_map _ ks hd fun a ha b hb' e => by
    have h1 := hb a ha
    have h2 := hb b hb'
    refine Prod.ext ?_ ?_ <;> omega) (fun x hx => by
    obtain ⟨y, hy, rfl⟩ := List.mem_map.1 hx
    have := hb y hy
    omega)
  rwa [List.length_map] at h1
set_option maxRecDepth 100000 in
theorem ask_note {w : World} {M : Nat} {K : Kn} (h : KAt w M K) {id j o : Int} (hi : 1 ≤ id ∧ id ≤ 65536) (hj : 0 ≤ j ∧ j ≤ 40) (ho : I1 o) :
    ∃ w', (Instr.mapUpdate 90 (.map (some M)) (av id j) (.int .i64 o)).run Tryz.prog w = .ok () w' ∧ KAt w' M (K.note id j o) ∧ w.grownBy w' (some M) := by
  obtain ⟨D, ks, h1, hf, hd, hb, hk⟩ := h
  have i1 : I1 id := by unfold I1; omega
  have i2 : I1 j := by unfold I1; omega
  have hl := ks_len hd hb
  have hval : plainElem (H := Unit) Tryz.prog 3 (.int .i64 o) = some (.lit (.int .i64 o), []) := plainElem_int Tryz.underlying3 (wf_of ho)
  obtain ⟨w', hu, hown', hg'⟩ := h1.update alaw Tryz.underlying90 (by unfold maxLen; omega) (kyA_of i1 i2) hval
  by_cases hm : (id, j) ∈ ks
  · -- there already: the bound alone grows, by what the map's own size says
    have hs : Maps.size (D.put (kyA id j) (.lit (.int .i64 o))) ≤ ks.length := by
      have hh : Maps.has D (kyA id j) = true := (hf.has id j i1 i2).2 ((hk id j).2 hm)
      have hsz := h1.size_le
      obtain ⟨es, hD, hnd⟩ := h1.tidy alaw
      subst hD
      obtain ⟨x, hx, hxk⟩ := List.any_eq_true.1 (show es.any (fun p => p.1.sameKey (kyA id j)) = true from hh)
      have e1 : Maps.size ((DataW.map es : DataW Unit).put (kyA id j) (.lit (.int .i64 o))) = (DataW.insert (kyA id j, (.lit (.int .i64 o) : DataW Unit)) (es.filter fun p => !p.1.sameKey (kyA id j))).length := rfl
      have e2 := length_insert (kyA id j, (.lit (.int .i64 o) : DataW Unit)) (es.filter fun p => !p.1.sameKey (kyA id j))
      have e3 : (es.filter fun p => !p.1.sameKey (kyA id j)).length < es.length := by
        refine List.length_filter_lt_length_iff_exists.2 ⟨x, hx, by simp [hxk]⟩
      have e4 : Maps.size (DataW.map es : DataW Unit) = es.length := rfl
      rw [e1, e2]
      omega
    obtain ⟨es, clock, hb', F, _, hD⟩ := hown'
    refine ⟨w', hu, ⟨_, ks, ⟨es, clock, hb', F, ?_, hD⟩, hf.put i1 i2 o (h1.tidy alaw), hd, hb, fun a c => ?_⟩, hg'⟩
    · have e1 : Maps.size (D.put (kyA id j) (.lit (.int .i64 o))) = es.size := by rw [hD]; simp [Maps.size, length_sorted]
      omega
    · unfold Kn.note
      by_cases e : a = id ∧ c = j
      · obtain ⟨rfl, rfl⟩ := e
        rw [if_pos ⟨rfl, rfl⟩]
        simp [hm]
      · rw [if_neg e]
        exact hk a c
  · refine ⟨w', hu, ⟨_, (id, j) :: ks, by simpa using hown', hf.put i1 i2 o (h1.tidy alaw), List.nodup_cons.2 ⟨hm, hd⟩, fun x hx => ?_, fun a c => ?_⟩, hg'⟩
    · rcases List.mem_cons.1 hx with rfl | hx
      · exact ⟨hi.1, hi.2, hj.1, hj.2⟩
      · exact hb x hx
    · unfold Kn.note
      by_cases e : a = id ∧ c = j
      · obtain ⟨rfl, rfl⟩ := e
        rw [if_pos ⟨rfl, rfl⟩]
        simp
      · rw [if_neg e, hk a c, List.mem_cons]
        constructor
        · exact .inr
        · rintro (h | h)
          · exact absurd ⟨congrArg Prod.fst h, congrArg Prod.snd h⟩ e
          · exact h
end Go.Proofs.YtkefjkfknegogaaGreatDoor
namespace Go.Proofs.YtkefjkfknegogaaGreatDoor.Fk
open Go.RowKit Ti Qd Go.Maps Go.WideMaps

/-- a question -/
def av (id j : Int) : Value := .agg #[.int .i64 id, .int .i64 j]
def kyA (id j : Int) : Lit := .string (keyBytes [.int .i64 id, .int .i64 j])
theorem rowA : (135 : TypeId) < Tryz.prog.types.size := of_decide_eq_true (by kernel_rfl)
theorem cellsA : Tryz.prog.cellsOf 135 = 2 := by kernel_rfl
theorem wideA : (match Tryz.prog.underlying 135 with | some (.array _ _) | some (.struct _) => true | _ => false) = true := by rw [Tryz.underlying135]
set_option maxRecDepth 100000 in
theorem alawS : KeyLaw Tryz.prog 135 := deep_law_laid laidOutQ (m := 2) (by omega) rowA (by kernel_rfl) wideA
theorem alaw : Keyed Tryz.prog 135 := Keyed.of_law alawS
theorem ktA : Tryz.prog.keyType 135 = true := by kernel_rfl
set_option maxRecDepth 100000 in
theorem kyA_of {id j : Int} (hi : I1 id) (hj : I1 j) : keyOf Tryz.prog 135 (av id j) = some (kyA id j) := by
  obtain ⟨m, hm⟩ := size3
  unfold keyOf av
  simp only [Tryz.underlying135]
  rw [if_pos (by simp [ktA, Value.formed, Tryz.underlying135, cellsA]), hm]
  unfold Program.keyLits
  simp only [Tryz.underlying135, Value.cells]
  rw [if_pos (by rw [cellsA]; exact ⟨rfl, by decide +kernel⟩)]
  simp [cellsI, lit_i hi, lit_i hj, kyA]
theorem kyA_inj {a b c d : Int} (ha : I1 a) (hb : I1 b) (hc : I1 c) (hd : I1 d) (e : kyA a b = kyA c d) : a = c ∧ b = d := by
  have h1 := kyA_of ha hb
  have h2 := kyA_of hc hd
  rw [e] at h1
  have h3 := alaw.inj h1 h2
  simpa [av] using h3
theorem kyA_key (id j : Int) : WideAt.IsKeyLit (kyA id j) := trivial
abbrev OwnsA (w : World) (b n : Nat) (D : DataW Unit) := w.ownsMap Tryz.prog 135 (plainElem Tryz.prog 3) b n D
/-- what is remembered, as a map -/
structure MpA (K : Kn) (D : DataW Unit) : Prop where
  has : ∀ id j, I1 id → I1 j → (Maps.has D (kyA id j) = true ↔ K id j ≠ none)
  at' : ∀ id j o, I1 id → I1 j → K id j = some o → D.atKey (kyA id j) (.lit (.int .i64 0)) = .lit (.int .i64 o)
theorem mpA_nil : MpA (fun _ _ => none) (.map []) := ⟨fun _ _ _ _ => by simp [Maps.has], fun _ _ _ _ _ h => by cases h⟩
theorem MpA.put {K : Kn} {D : DataW Unit} (h : MpA K D) {id j : Int} (hi : I1 id) (hj : I1 j) (o : Int) (hT : Tidy D) : MpA (K.note id j o) (D.put (kyA id j) (.lit (.int .i64 o))) := by
  constructor
  · intro a c ha hc
    unfold Kn.note
    by_cases e : a = id ∧ c = j
    · obtain ⟨rfl, rfl⟩ := e
      rw [Maps.has_put_same hT.isMap (kyA_key a c), if_pos ⟨rfl, rfl⟩]
      simp
    · rw [Maps.has_put_other (fun e2 => e (kyA_inj ha hc hi hj e2)), if_neg e]
      exact h.has a c ha hc
  · intro a c x ha hc hk
    unfold Kn.note at hk
    by_cases e : a = id ∧ c = j
    · rw [if_pos e] at hk
      obtain ⟨rfl, rfl⟩ := e
      obtain rfl := Option.some.inj hk
      rw [Maps.atKey_put_same hT.isMap (kyA_key a c)]
    · rw [if_neg e] at hk
      rw [Maps.atKey_put_other (fun e2 => e (kyA_inj ha hc hi hj e2))]
      exact h.at' a c x ha hc hk
/-- no more different numbers below a bound than that -/
theorem pig : ∀ (n : Nat) (l : List Nat), l.Nodup → (∀ x ∈ l, x < n) → l.length ≤ n
  | 0, l, _, h => by
    cases l with
    | nil => exact Nat.le_refl _
    | cons a t => exact absurd (h a (by simp)) (by omega)
  | n + 1, l, hd, h => by
    have h1 := pig n (l.erase n) (hd.erase n) fun x hx => by
      have h2 := (List.Nodup.mem_erase_iff hd).1 hx
      have := h x h2.2
      have := h2.1
      omega
    by_cases hm : n ∈ l
    · rw [List.length_erase_of_mem hm] at h1
      omega
    · rw [List.erase_of_not_mem hm] at h1
      omega
theorem nodup_map {α : Type} (f : α → Nat) : ∀ (l : List α), l.Nodup → (∀ a ∈ l, ∀ b ∈ l, f a = f b → a = b) → (l.map f).Nodup
  | [], _, _ => List.nodup_nil
  | x :: l, hd, h => by
    rw [List.nodup_cons] at hd
    rw [List.map_cons, List.nodup_cons]
    refine ⟨fun hm => ?_, nodup_map f l hd.2 fun a ha b hb e => h a (List.mem_cons_of_mem _ ha) b (List.mem_cons_of_mem _ hb) e⟩
    obtain ⟨y, hy, e⟩ := List.mem_map.1 hm
    exact hd.1 (h x (by simp) y (List.mem_cons_of_mem _ hy) e.symm ▸ hy)
/-- what is remembered lies in a block -/
def KAt (w : World) (M : Nat) (K : Kn) : Prop := ∃ (D : DataW Unit) (ks : List (Int × Int)), OwnsA w M ks.length D ∧ MpA K D ∧ ks.Nodup ∧ (∀ x ∈ ks, 1 ≤ x.1 ∧ x.1 ≤ 65536 ∧ 0 ≤ x.2 ∧ x.2 ≤ 40) ∧ ∀ id j, K id j ≠ none ↔ (id, j) ∈ ks
theorem owns_sameA {w w' : World} {M n : Nat} {D : DataW Unit} (h : OwnsA w M n D) (hb : w'.heap[M]? = w.heap[M]?) : OwnsA w' M n D := by
  obtain ⟨es, clock, hm, r⟩ := h
  exact ⟨es, clock, hb.trans hm, r⟩
theorem KAt.moved {w w' : World} {M : Nat} {K : Kn} (h : KAt w M K) (hb : w'.heap[M]? = w.heap[M]?) : KAt w' M K := by
  obtain ⟨D, ks, h1, r⟩ := h
  exact ⟨D, ks, owns_sameA h1 hb, r⟩
theorem KAt.lt {w : World} {M : Nat} {K : Kn} (h : KAt w M K) : M < w.heap.size := by
  obtain ⟨D, ks, h1, _⟩ := h
  exact h1.lt
theorem i1_small {a : Int} (h0 : 0 ≤ a) (h1 : a ≤ 65536) : I1 a := by unfold I1; omega
set_option maxRecDepth 100000 in
theorem ask_in {w : World} {M : Nat} {K : Kn} (h : KAt w M K) {id j o : Int} (hi : I1 id) (hj : I1 j) (hk : K id j = some o) :
    (Instr.lookup 72 (.map (some M)) (av id j) true).run Tryz.prog w = .ok (.tuple #[.int .i64 o, .bool true]) w := by
  obtain ⟨D, ks, h1, hf, _⟩ := h
  obtain ⟨v, ps, hr, hat⟩ := h1.look_ok alaw Tryz.underlying72 (zeroI w) (plainElem_int Tryz.underlying3 (by decide)) (kyA_of hi hj)
  rw [hf.at' id j o hi hj hk] at hat
  rw [(hf.has id j hi hj).2 (by rw [hk]; simp)] at hr
  obtain ⟨c, rfl, hc, _⟩ := plainElem_int_inv Tryz.underlying3 hat
  simp only [Prod.mk.injEq] at hc
  have e := hc.1
  injection e with e
  injection e with _ e
  rw [hr, e]
set_option maxRecDepth 100000 in
theorem ask_out {w : World} {M : Nat} {K : Kn} (h : KAt w M K) {id j : Int} (hi : I1 id) (hj : I1 j) (hk : K id j = none) :
    ∃ c, (Instr.lookup 72 (.map (some M)) (av id j) true).run Tryz.prog w = .ok (.tuple #[.int .i64 c, .bool false]) w := by
  obtain ⟨D, ks, h1, hf, _⟩ := h
  obtain ⟨v, ps, hr, hat⟩ := h1.look_ok alaw Tryz.underlying72 (zeroI w) (plainElem_int Tryz.underlying3 (by decide)) (kyA_of hi hj)
  rw [has_no (fun e => (hf.has id j hi hj).1 e hk)] at hr
  obtain ⟨c, rfl, _⟩ := plainElem_int_inv Tryz.underlying3 hat
  exact ⟨c, hr⟩
theorem ks_len {ks : List (Int × Int)} (hd : ks.Nodup) (hb : ∀ x ∈ ks, 1 ≤ x.1 ∧ x.1 ≤ 65536 ∧ 0 ≤ x.2 ∧ x.2 ≤ 40) : ks.length ≤ 65536 * 41 := by
  have h1 := pig (65536 * 41) (ks.map fun x => ((x.1 - 1) * 41 + x.2).toNat) (nodup_map _ ks hd fun a ha b hb' e => by
    have h1 := hb a ha
    have h2 := hb b hb'
    refine Prod.ext ?_ ?_ <;> omega) (fun x hx => by
    obtain ⟨y, hy, rfl⟩ := List.mem_map.1 hx
    have := hb y hy
    omega)
  rwa [List.length_map] at h1
set_option maxRecDepth 100000 in
theorem ask_note {w : World} {M : Nat} {K : Kn} (h : KAt w M K) {id j o : Int} (hi : 1 ≤ id ∧ id ≤ 65536) (hj : 0 ≤ j ∧ j ≤ 40) (ho : I1 o) :
    ∃ w', (Instr.mapUpdate 72 (.map (some M)) (av id j) (.int .i64 o)).run Tryz.prog w = .ok () w' ∧ KAt w' M (K.note id j o) ∧ w.grownBy w' (some M) := by
  obtain ⟨D, ks, h1, hf, hd, hb, hk⟩ := h
  have i1 : I1 id := by unfold I1; omega
  have i2 : I1 j := by unfold I1; omega
  have hl := ks_len hd hb
  have hval : plainElem (H := Unit) Tryz.prog 3 (.int .i64 o) = some (.lit (.int .i64 o), []) := plainElem_int Tryz.underlying3 (wf_of ho)
  obtain ⟨w', hu, hown', hg'⟩ := h1.update alaw Tryz.underlying72 (by unfold maxLen; omega) (kyA_of i1 i2) hval
  by_cases hm : (id, j) ∈ ks
  · -- there already: the bound alone grows, by what the map's own size says
    have hs : Maps.size (D.put (kyA id j) (.lit (.int .i64 o))) ≤ ks.length := by
      have hh : Maps.has D (kyA id j) = true := (hf.has id j i1 i2).2 ((hk id j).2 hm)
      have hsz := h1.size_le
      obtain ⟨es, hD, hnd⟩ := h1.tidy alaw
      subst hD
      obtain ⟨x, hx, hxk⟩ := List.any_eq_true.1 (show es.any (fun p => p.1.sameKey (kyA id j)) = true from hh)
      have e1 : Maps.size ((DataW.map es : DataW Unit).put (kyA id j) (.lit (.int .i64 o))) = (DataW.insert (kyA id j, (.lit (.int .i64 o) : DataW Unit)) (es.filter fun p => !p.1.sameKey (kyA id j))).length := rfl
      have e2 := length_insert (kyA id j, (.lit (.int .i64 o) : DataW Unit)) (es.filter fun p => !p.1.sameKey (kyA id j))
      have e3 : (es.filter fun p => !p.1.sameKey (kyA id j)).length < es.length := by
        refine List.length_filter_lt_length_iff_exists.2 ⟨x, hx, by simp [hxk]⟩
      have e4 : Maps.size (DataW.map es : DataW Unit) = es.length := rfl
      rw [e1, e2]
      omega
    obtain ⟨es, clock, hb', F, _, hD⟩ := hown'
    refine ⟨w', hu, ⟨_, ks, ⟨es, clock, hb', F, ?_, hD⟩, hf.put i1 i2 o (h1.tidy alaw), hd, hb, fun a c => ?_⟩, hg'⟩
    · have e1 : Maps.size (D.put (kyA id j) (.lit (.int .i64 o))) = es.size := by rw [hD]; simp [Maps.size, length_sorted]
      omega
    · unfold Kn.note
      by_cases e : a = id ∧ c = j
      · obtain ⟨rfl, rfl⟩ := e
        rw [if_pos ⟨rfl, rfl⟩]
        simp [hm]
      · rw [if_neg e]
        exact hk a c
  · refine ⟨w', hu, ⟨_, (id, j) :: ks, by simpa using hown', hf.put i1 i2 o (h1.tidy alaw), List.nodup_cons.2 ⟨hm, hd⟩, fun x hx => ?_, fun a c => ?_⟩, hg'⟩
    · rcases List.mem_cons.1 hx with rfl | hx
      · exact ⟨hi.1, hi.2, hj.1, hj.2⟩
      · exact hb x hx
    · unfold Kn.note
      by_cases e : a = id ∧ c = j
      · obtain ⟨rfl, rfl⟩ := e
        rw [if_pos ⟨rfl, rfl⟩]
        simp
      · rw [if_neg e, hk a c, List.mem_cons]
        constructor
        · exact .inr
        · rintro (h | h)
          · exact absurd ⟨congrArg Prod.fst h, congrArg Prod.snd h⟩ e
          · exact h
end Go.Proofs.YtkefjkfknegogaaGreatDoor.Fk

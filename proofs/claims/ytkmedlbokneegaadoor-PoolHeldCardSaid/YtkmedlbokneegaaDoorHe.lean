/-
  WHICH FRAMES HOLD: the first i sectors are held once each, all others are not. No program in it. Conditions: those that each lemma names.
-/
import Derived.Test.YtkmedlbokneegaaDoorPn
namespace Go.Proofs.YtkmedlbokneegaaDoor
open Go.RowKit Go.Maps

structure Hold (m i : Nat) (X : Px) : Prop where
  mE : X.m = m
  nE : X.d.n = m + 4
  left : X.d.left = -1
  h : ∀ k, (X.fr k).h = if 0 ≤ (X.fr k).i ∧ (X.fr k).i < (i : Int) then 1 else 0
  ex : ∀ q : Nat, q < i → ∃ k, k < X.c ∧ (X.fr k).i = (q : Int)
theorem hold_fresh (m : Nat) : Hold m 0 (Px.fresh (Dk.new (m + 4)) m) := ⟨rfl, rfl, rfl, fun k => by
  rw [if_neg (by omega)]
  rfl, fun q hq => absurd hq (Nat.not_lt_zero _)⟩
theorem Hold.lt {N m i : Nat} {X : Px} (h : Hold m i X) (o : X.Ok N) {k : Nat} (hk : 0 < (X.fr k).h) : k < X.c := by
  by_cases hc : k < X.c
  · exact hc
  · have := h.h k
    rw [o.emp k (by omega)] at this hk
    exact absurd hk (by decide)
/-- with fewer sectors held than frames there is room -/
theorem Hold.room {N m i : Nat} {X : Px} (h : Hold m i X) (o : X.Ok N) (hi : i < m) : X.c < X.m ∨ X.held = false := by
  by_cases hc : X.c < X.m
  · exact .inl hc
  · right
    cases hh : X.held
    · rfl
    · exfalso
      unfold Px.held at hh
      rw [List.all_eq_true] at hh
      have hs : ∀ j, j < X.m → 0 ≤ (X.fr j).i ∧ (X.fr j).i < (i : Int) := fun j hj => by
        have h1 : 0 < (X.fr j).h := by simpa using hh j (by simpa using hj)
        rw [h.h j] at h1
        by_cases e : 0 ≤ (X.fr j).i ∧ (X.fr j).i < (i : Int)
        · exact e
        · rw [if_neg e] at h1; exact absurd h1 (by decide)
      have hcm : X.c = X.m := by have := o.cm; omega
      have hl : ((List.range X.m).map fun j => (X.fr j).i.toNat).Nodup := by
        rw [List.nodup_iff_pairwise_ne, List.pairwise_map]
        refine List.Pairwise.imp_of_mem (fun {a b} h1 h2 hne e => ?_) (List.nodup_iff_pairwise_ne.1 List.nodup_range)
        have h1' : a < X.m := by simpa using h1
        have h2' : b < X.m := by simpa using h2
        exact hne (o.inj a b (by omega) (by omega) (by have := (hs a h1').1; have := (hs b h2').1; omega))
      have := nodup_le i _ hl (fun x hx => by
        obtain ⟨j, hj, rfl⟩ := List.mem_map.1 hx
        have hj' : j < X.m := by simpa using hj
        have := hs j hj'
        omega)
      simp at this
      have := h.mE
      omega
/-- with as many held as frames there is none -/
theorem Hold.full {N m : Nat} {X : Px} (h : Hold m m X) (o : X.Ok N) : ¬ X.c < X.m ∧ X.held = true := by
  have hat : ∀ q : Nat, q < m → ∃ k, X.at (q : Int) = some k ∧ k < X.c ∧ (X.fr k).i = (q : Int) := fun q hq => by
    obtain ⟨k, h1, h2⟩ := h.ex q hq
    exact ⟨k, at_of o h1 h2, h1, h2⟩
  have hnd : ((List.range m).map fun q : Nat => (X.at (q : Int)).getD 0).Nodup := by
    rw [List.nodup_iff_pairwise_ne, List.pairwise_map]
    refine List.Pairwise.imp_of_mem (fun {a b} h1 h2 hne e => ?_) (List.nodup_iff_pairwise_ne.1 List.nodup_range)
    obtain ⟨ka, a1, _, a3⟩ := hat a (by simpa using h1)
    obtain ⟨kb, b1, _, b3⟩ := hat b (by simpa using h2)
    rw [a1, b1] at e
    have e' : ka = kb := e
    subst e'
    exact hne (by have := a3.symm.trans b3; omega)
  have hcm := o.cm
  have hm := h.mE
  have hc : X.c = X.m := by
    have := nodup_le X.c _ hnd (fun x hx => by
      obtain ⟨q, hq, rfl⟩ := List.mem_map.1 hx
      obtain ⟨k, h1, h2, _⟩ := hat q (by simpa using hq)
      rw [h1]; exact h2)
    simp at this
    omega
  refine ⟨by omega, ?_⟩
  unfold Px.held
  rw [List.all_eq_true]
  intro j hj
  have hj' : j < X.m := by simpa using hj
  by_cases h0 : 0 < (X.fr j).h
  · simpa using h0
  · exfalso
    have hno : j ∉ (List.range m).map fun q : Nat => (X.at (q : Int)).getD 0 := fun hm2 => by
      obtain ⟨q, hq, e⟩ := List.mem_map.1 hm2
      obtain ⟨k, h1, _, h3⟩ := hat q (by simpa using hq)
      rw [h1] at e
      have e' : k = j := e
      subst e'
      have hq' : q < m := by simpa using hq
      rw [h.h k, h3, if_pos (by omega)] at h0
      exact h0 (by decide)
    have := nodup_le X.m (j :: _) (List.nodup_cons.2 ⟨hno, hnd⟩) (fun x hx => by
      rcases List.mem_cons.1 hx with rfl | hx
      · exact hj'
      · obtain ⟨q, hq, rfl⟩ := List.mem_map.1 hx
        obtain ⟨k, h1, h2, _⟩ := hat q (by simpa using hq)
        rw [h1]; show k < X.m; omega)
    simp at this
    omega
/-- a sector that is not held is laid -/
theorem Hold.lay {N m i q : Nat} {X : Px} (h : Hold m i X) (o : X.Ok N) (hi : i < m) (hq : i ≤ q) (hqn : q < m + 4) {t : ByteArray} (hz : t.size = 512) (hg : goodT t = true) :
    ∃ Y, writeP X (q : Int) t = (Y, 0) ∧ Hold m i Y ∧ (∀ k, 0 < (X.fr k).h → (Y.fr k).i = (X.fr k).i) ∧ Y.at (q : Int) ≠ none := by
  have hr : ¬ ((q : Int) < 0 ∨ (X.d.n : Int) ≤ (q : Int)) := by have := h.nE; omega
  have hf := find_zero o (i := (q : Int)) (.inr (h.room o hi)) (by rw [h.left]; decide)
  rw [writeP_ok hr hz hg, if_pos hf]
  refine ⟨_, rfl, ?_⟩
  cases ha : X.at (q : Int) with
  | some k =>
    rw [findP_some ha]
    obtain ⟨hk, hki⟩ := at_some ha
    have hfi : ∀ j, ((X.put k { X.fr k with t := t, d := true, u := true }).fr j).i = (X.fr j).i := fun j => by
      rw [put_fr]; split
      · rename_i e; rw [e]
      · rfl
    have hfh : ∀ j, ((X.put k { X.fr k with t := t, d := true, u := true }).fr j).h = (X.fr j).h := fun j => by
      rw [put_fr]; split
      · rename_i e; rw [e]
      · rfl
    refine ⟨⟨h.mE, h.nE, h.left, fun j => ?_, fun p hp => ?_⟩, fun j _ => hfi j, fun e => ?_⟩
    · show ((X.put k _).fr j).h = if 0 ≤ ((X.put k _).fr j).i ∧ ((X.put k _).fr j).i < (i : Int) then 1 else 0
      rw [hfi, hfh]; exact h.h j
    · obtain ⟨j, h1, h2⟩ := h.ex p hp
      exact ⟨j, h1, (hfi j).trans h2⟩
    · exact at_none e k hk ((hfi k).trans hki)
  | none =>
    have F := find_found o ha hf
    generalize (findP X (q : Int)).1 = Z at F ⊢
    generalize (findP X (q : Int)).2.1 = k at F ⊢
    have hk0 : (X.fr k).h = 0 := by
      rcases F.c with ⟨_, e, _⟩ | ⟨_, _, e, _⟩
      · rw [o.emp k (by omega)]; rfl
      · exact e
    have hcle : X.c ≤ Z.c := by rcases F.c with ⟨e, _⟩ | ⟨e, _⟩ <;> omega
    have ho : ∀ j, j ≠ k → ((Z.put k { Z.fr k with t := t, d := true, u := true }).fr j).i = (X.fr j).i ∧ ((Z.put k { Z.fr k with t := t, d := true, u := true }).fr j).h = (X.fr j).h := fun j hj => by
      rw [put_other _ _ _ hj]; exact ⟨F.oi j hj, F.oh j hj⟩
    have hk : ((Z.put k { Z.fr k with t := t, d := true, u := true }).fr k).i = (q : Int) ∧ ((Z.put k { Z.fr k with t := t, d := true, u := true }).fr k).h = 0 := by
      rw [put_same, F.fk]; exact ⟨rfl, rfl⟩
    refine ⟨⟨F.m.trans h.mE, F.n.trans h.nE, (found_left F h.left : Z.d.left = -1), fun j => ?_, fun p hp => ?_⟩, fun j hj => ?_, fun e => ?_⟩
    · by_cases e : j = k
      · subst e
        rw [hk.1, hk.2, if_neg (by omega)]
      · rw [(ho j e).1, (ho j e).2]; exact h.h j
    · obtain ⟨j, h1, h2⟩ := h.ex p hp
      have hne : j ≠ k := fun e => by
        subst e
        have := h.h j
        rw [h2, if_pos (by omega), hk0] at this
        exact absurd this (by decide)
      exact ⟨j, Nat.lt_of_lt_of_le h1 hcle, (ho j hne).1.trans h2⟩
    · exact (ho j (fun e => by subst e; omega)).1
    · exact at_none e k F.lt hk.1
/-- .. and is not, where all are -/
theorem Hold.pins {N m q : Nat} {X : Px} (h : Hold m m X) (o : X.Ok N) (hq : m ≤ q) (hqn : q < m + 4) {t : ByteArray} (hz : t.size = 512) (hg : goodT t = true) : writeP X (q : Int) t = (X, 10) := by
  have hr : ¬ ((q : Int) < 0 ∨ (X.d.n : Int) ≤ (q : Int)) := by have := h.nE; omega
  obtain ⟨h1, h2⟩ := h.full o
  have ha : X.at (q : Int) = none := by
    cases ha : X.at (q : Int) with
    | none => rfl
    | some k =>
      exfalso
      obtain ⟨hk, hki⟩ := at_some ha
      unfold Px.held at h2
      rw [List.all_eq_true] at h2
      have h3 : 0 < (X.fr k).h := by simpa using h2 k (by have := o.cm; simp; omega)
      rw [h.h k, hki, if_neg (by omega)] at h3
      exact absurd h3 (by decide)
  obtain ⟨e1, e2⟩ := find_pins ha h1 h2
  rw [writeP_ok hr hz hg, e1, e2, if_neg (by decide)]
/-- the next sector is held -/
theorem Hold.pin {N m i : Nat} {X : Px} (h : Hold m i X) (o : X.Ok N) (hi : i < m) (ha : X.at (i : Int) ≠ none) : ∃ Y, pinP X (i : Int) = (Y, 0) ∧ Hold m (i + 1) Y := by
  have hr : ¬ ((i : Int) < 0 ∨ (X.d.n : Int) ≤ (i : Int)) := by have := h.nE; omega
  cases hat : X.at (i : Int) with
  | none => exact absurd hat ha
  | some k =>
    obtain ⟨hk, hki⟩ := at_some hat
    rw [pinP_eq, handP_some hr hat]
    unfold pinE
    rw [if_pos rfl]
    refine ⟨_, rfl, ?_⟩
    have hfi : ∀ j, (((X.put k { X.fr k with u := true }).put k { (X.put k { X.fr k with u := true }).fr k with h := ((X.put k { X.fr k with u := true }).fr k).h + 1 }).fr j).i = (X.fr j).i := fun j => by
      by_cases e : j = k
      · subst e; rw [put_same, put_same]
      · rw [put_other _ _ _ e, put_other _ _ _ e]
    have hfh : ∀ j, (((X.put k { X.fr k with u := true }).put k { (X.put k { X.fr k with u := true }).fr k with h := ((X.put k { X.fr k with u := true }).fr k).h + 1 }).fr j).h = if j = k then (X.fr j).h + 1 else (X.fr j).h := fun j => by
      by_cases e : j = k
      · subst e; rw [put_same, put_same, if_pos rfl]
      · rw [put_other _ _ _ e, put_other _ _ _ e, if_neg e]
    refine ⟨h.mE, h.nE, h.left, fun j => ?_, fun p hp => ?_⟩
    · show (Px.fr _ j).h = if 0 ≤ (Px.fr _ j).i ∧ (Px.fr _ j).i < ((i + 1 : Nat) : Int) then 1 else 0
      rw [hfi, hfh]
      by_cases e : j = k
      · subst e
        rw [if_pos rfl, h.h j, hki, if_neg (by omega), if_pos (by omega)]
      · rw [if_neg e, h.h j]
        have hne : (X.fr j).i ≠ (i : Int) := fun q => by
          by_cases hc : j < X.c
          · exact e (o.inj j k hc hk (q.trans hki.symm))
          · rw [o.emp j (by omega)] at q
            exact absurd (show (-1 : Int) = (i : Int) from q) (by omega)
        by_cases h2 : 0 ≤ (X.fr j).i ∧ (X.fr j).i < (i : Int)
        · rw [if_pos h2, if_pos (by omega)]
        · rw [if_neg h2, if_neg (by omega)]
    · by_cases e : p = i
      · subst e; exact ⟨k, hk, (hfi k).trans hki⟩
      · obtain ⟨j, h1, h2⟩ := h.ex p (by omega)
        exact ⟨j, h1, (hfi j).trans h2⟩
/-- the first is let go, once -/
theorem Hold.unpin {N m : Nat} {X : Px} (h : Hold m m X) (o : X.Ok N) (hm : 1 ≤ m) : ∃ Y, unpinP X 0 = (Y, 0) ∧ unpinP Y 0 = (Y, 8) ∧ Y.d = X.d ∧ Y.m = X.m ∧ Y.held = false := by
  have hr : ¬ ((0 : Int) < 0 ∨ (X.d.n : Int) ≤ (0 : Int)) := by have := h.nE; omega
  obtain ⟨k, hk, hki⟩ := h.ex 0 hm
  have hki' : (X.fr k).i = 0 := hki
  have ha := at_of o hk hki'
  have h1 : (X.fr k).h = 1 := by rw [h.h k, hki', if_pos (by omega)]
  refine ⟨X.put k { X.fr k with h := (X.fr k).h - 1 }, unpinP_some hr ha (by omega), ?_, rfl, rfl, ?_⟩
  · have oY : (X.put k { X.fr k with h := (X.fr k).h - 1 }).Ok N := o.put hk rfl (o.siz k) (by show (X.fr k).h - 1 ≤ N; have := o.hN k; omega) (Nat.le_refl _)
    refine unpinP_zero (k := k) hr (at_of oY hk (by rw [put_same]; exact hki')) ?_
    rw [put_same]
    show (X.fr k).h - 1 = 0
    omega
  · refine held_not (j := k) (by show k < X.m; have := o.cm; omega) ?_
    rw [put_same]
    show (X.fr k).h - 1 = 0
    omega
end Go.Proofs.YtkmedlbokneegaaDoor

/-
  TWO HEAPS OF CELLS FAR FROM EACH OTHER go on as each alone. Conditions: those that each lemma names.
-/

import Derived.Test.YticnhpddidaaeaaCb
namespace Go.Proofs.Yticnhpddidaaeaa.Ce

/-- cells within a square about a cell, so far at most -/
def Inb (x y d : Int) (S : List Cel) : Prop := ∀ s ∈ S, x - d ≤ s.1 ∧ s.1 ≤ x + d ∧ y - d ≤ s.2 ∧ s.2 ≤ y + d
theorem nxt_in {r : Rul} {S : List Cel} {x y d : Int} (h : Inb x y d S) : Inb x y (d + 1) (nxt r S) := fun c hc => by
  have hc1 := (nxt_mem r S c).1 hc
  obtain ⟨s, hs, hn⟩ := hc1.1
  have := (near_iff s c).1 hn
  have := h s hs
  omega
/-- as many as a square holds -/
theorem in_len {S : List Cel} (hn : S.Nodup) {x y : Int} {d : Nat} (h : Inb x y d S) : S.length ≤ (2 * d + 1) * (2 * d + 1) := by
  have hsub := len_le_of_sub S ((List.range ((2 * d + 1) * (2 * d + 1))).map fun i => ((x - d + ((i % (2 * d + 1) : Nat) : Int), y - d + ((i / (2 * d + 1) : Nat) : Int)) : Cel)) hn (fun s hs => by
    obtain ⟨h1, h2, h3, h4⟩ := h s hs
    obtain ⟨a, ha⟩ : ∃ a : Nat, s.1 = x - d + a := ⟨(s.1 - (x - d)).toNat, by omega⟩
    obtain ⟨b, hb⟩ : ∃ b : Nat, s.2 = y - d + b := ⟨(s.2 - (y - d)).toNat, by omega⟩
    have ha2 : a < 2 * d + 1 := by omega
    have hb2 : b < 2 * d + 1 := by omega
    refine List.mem_map.2 ⟨b * (2 * d + 1) + a, List.mem_range.2 ?_, ?_⟩
    · calc b * (2 * d + 1) + a < b * (2 * d + 1) + (2 * d + 1) := by omega
        _ = (b + 1) * (2 * d + 1) := by rw [Nat.add_mul, Nat.one_mul]
        _ ≤ (2 * d + 1) * (2 * d + 1) := Nat.mul_le_mul_right _ (by omega)
    · rw [Nat.mul_comm, Nat.mul_add_mod, Nat.mod_eq_of_lt ha2, Nat.mul_add_div (by omega), Nat.div_eq_of_lt ha2, Nat.add_zero]
      exact Prod.ext ha.symm hb.symm)
  simpa using hsub
theorem in_fine {S : List Cel} (hn : S.Nodup) {x y : Int} {d : Nat} (h : Inb x y d S) (hd : d ≤ 20) (hx : -1000 ≤ x ∧ x ≤ 1000) (hy : -1000 ≤ y ∧ y ≤ 1000) : fine S = true := by
  rw [fine_iff]
  refine ⟨?_, fun s hs => ?_⟩
  · have h1 := in_len hn h
    have h2 : (2 * d + 1) * (2 * d + 1) ≤ 41 * 41 := Nat.mul_le_mul (by omega) (by omega)
    omega
  · rw [okc_iff]
    have := h s hs
    omega
theorem cnt_none {S : List Cel} {c : Cel} (h : ∀ s ∈ S, near s c = false) : cnt S c = 0 := by
  unfold cnt
  rw [List.length_eq_zero_iff, List.filter_eq_nil_iff]
  intro s hs
  unfold adj
  rw [h s hs]
  simp
theorem far_none {S : List Cel} {x y d : Int} (h : Inb x y d S) {c : Cel} (hc : c.1 < x - d - 1 ∨ x + d + 1 < c.1) : (∀ s ∈ S, near s c = false) ∧ ¬ c ∈ S := by
  refine ⟨fun s hs => ?_, fun hm => ?_⟩
  · cases hn : near s c
    · rfl
    · have := (near_iff s c).1 hn
      have := h s hs
      omega
  · have := h c hm
    omega
/-- two heaps and both together -/
structure Two (d : Nat) (A B S : List Cel) : Prop where
  a : Inb 0 0 d A
  b : Inb 100 0 d B
  sa : Srt A
  sb : Srt B
  ss : Srt S
  m : ∀ c, c ∈ S ↔ c ∈ A ∨ c ∈ B
theorem Two.perm {d : Nat} {A B S : List Cel} (h : Two d A B S) (hd : d ≤ 20) : S.Perm (A ++ B) := by
  refine (List.perm_ext_iff_of_nodup h.ss.nodup ?_).2 (fun c => by rw [h.m c, List.mem_append])
  rw [List.nodup_append]
  refine ⟨h.sa.nodup, h.sb.nodup, fun p hp q hq e => ?_⟩
  subst e
  have := h.a p hp
  have := h.b p hq
  omega
theorem cnt_app (A B : List Cel) (c : Cel) : cnt (A ++ B) c = cnt A c + cnt B c := by
  unfold cnt
  rw [List.filter_append, List.length_append]
theorem Two.left {r : Rul} {d : Nat} {A B S : List Cel} (h : Two d A B S) (hd : d ≤ 20) {c : Cel} (hc : c.1 ≤ 50) : alive r S c = alive r A c ∧ ((∃ s ∈ S, near s c = true) ↔ ∃ s ∈ A, near s c = true) := by
  obtain ⟨f1, f2⟩ := far_none h.b (c := c) (.inl (by omega))
  refine ⟨?_, ?_⟩
  · unfold alive
    rw [cnt_perm (h.perm hd), cnt_app, cnt_none f1, Nat.add_zero, decide_eq_decide.2 (show c ∈ S ↔ c ∈ A from by rw [h.m c]; exact ⟨fun q => q.resolve_right f2, Or.inl⟩)]
  · constructor
    · rintro ⟨s, hs, hn⟩
      rcases (h.m s).1 hs with q | q
      · exact ⟨s, q, hn⟩
      · rw [f1 s q] at hn; cases hn
    · rintro ⟨s, hs, hn⟩
      exact ⟨s, (h.m s).2 (.inl hs), hn⟩
theorem Two.right {r : Rul} {d : Nat} {A B S : List Cel} (h : Two d A B S) (hd : d ≤ 20) {c : Cel} (hc : 50 < c.1) : alive r S c = alive r B c ∧ ((∃ s ∈ S, near s c = true) ↔ ∃ s ∈ B, near s c = true) := by
  obtain ⟨f1, f2⟩ := far_none h.a (c := c) (.inr (by omega))
  refine ⟨?_, ?_⟩
  · unfold alive
    rw [cnt_perm (h.perm hd), cnt_app, cnt_none f1, Nat.zero_add, decide_eq_decide.2 (show c ∈ S ↔ c ∈ B from by rw [h.m c]; exact ⟨fun q => q.resolve_left f2, Or.inr⟩)]
  · constructor
    · rintro ⟨s, hs, hn⟩
      rcases (h.m s).1 hs with q | q
      · rw [f1 s q] at hn; cases hn
      · exact ⟨s, q, hn⟩
    · rintro ⟨s, hs, hn⟩
      exact ⟨s, (h.m s).2 (.inr hs), hn⟩
theorem Two.next {r : Rul} {d : Nat} {A B S : List Cel} (h : Two d A B S) (hd : d ≤ 20) : Two (d + 1) (nxt r A) (nxt r B) (nxt r S) := by
  have ha : Inb 0 0 ((d + 1 : Nat) : Int) (nxt r A) := nxt_in h.a
  have hb : Inb 100 0 ((d + 1 : Nat) : Int) (nxt r B) := nxt_in h.b
  refine ⟨ha, hb, nxt_srt _ _, nxt_srt _ _, nxt_srt _ _, fun c => ?_⟩
  by_cases hc : c.1 ≤ 50
  · obtain ⟨h1, h2⟩ := h.left (r := r) hd hc
    rw [nxt_mem, h1, h2, ← nxt_mem]
    refine ⟨Or.inl, fun q => q.resolve_right fun hm => ?_⟩
    have := hb c hm
    omega
  · obtain ⟨h1, h2⟩ := h.right (r := r) hd (by omega : 50 < c.1)
    rw [nxt_mem, h1, h2, ← nxt_mem]
    refine ⟨Or.inr, fun q => q.resolve_left fun hm => ?_⟩
    have := ha c hm
    omega
theorem Two.fine {d : Nat} {A B S : List Cel} (h : Two d A B S) (hd : d ≤ 20) : Ce.fine A = true ∧ Ce.fine B = true ∧ Ce.fine S = true := by
  have fa := in_fine h.sa.nodup h.a hd (by omega) (by omega)
  have fb := in_fine h.sb.nodup h.b hd (by omega) (by omega)
  refine ⟨fa, fb, ?_⟩
  rw [fine_iff] at fa fb ⊢
  refine ⟨?_, fun c hc => ?_⟩
  · have h1 := in_len h.sa.nodup h.a
    have h2 := in_len h.sb.nodup h.b
    have h3 : (2 * d + 1) * (2 * d + 1) ≤ 41 * 41 := Nat.mul_le_mul (by omega) (by omega)
    rw [(h.perm hd).length_eq, List.length_append]
    omega
  · rcases (h.m c).1 hc with q | q
    · exact fa.2 c q
    · exact fb.2 c q
theorem Two.go {r : Rul} : ∀ (n d : Nat) {A B S : List Cel}, Two d A B S → d + n ≤ 19 → ∃ X Y Z, stp r A n = some X ∧ stp r B n = some Y ∧ stp r S n = some Z ∧ Two (d + n) X Y Z
  | 0, d, A, B, S, h, _ => ⟨A, B, S, rfl, rfl, rfl, h⟩
  | n + 1, d, A, B, S, h, hd => by
    have h1 := h.next (r := r) (by omega)
    obtain ⟨f1, f2, f3⟩ := h1.fine (by omega)
    obtain ⟨X, Y, Z, e1, e2, e3, h2⟩ := Two.go (r := r) n (d + 1) h1 (by omega)
    refine ⟨X, Y, Z, ?_, ?_, ?_, ?_⟩
    · unfold stp; rw [if_pos f1]; exact e1
    · unfold stp; rw [if_pos f2]; exact e2
    · unfold stp; rw [if_pos f3]; exact e3
    · rw [show d + (n + 1) = d + 1 + n by omega]; exact h2
/-- each cell is of one of both -/
theorem Two.one {d : Nat} {A B S : List Cel} (h : Two d A B S) (hd : d ≤ 20) : S.length = A.length + B.length ∧ ∀ c ∈ S, decide (c ∈ A) = !decide (c ∈ B) := by
  refine ⟨by rw [(h.perm hd).length_eq, List.length_append], fun c hc => ?_⟩
  by_cases ha : c ∈ A
  · have hb : ¬ c ∈ B := fun hb => by
      have := h.a c ha
      have := h.b c hb
      omega
    simp [ha, hb]
  · have hb : c ∈ B := ((h.m c).1 hc).resolve_left ha
    simp [ha, hb]
/-- two lists as they come, sorted -/
theorem two_of {A B S : List Cel} {d : Nat} (ha : Inb 0 0 d A) (hb : Inb 100 0 d B) (hm : ∀ c, c ∈ S ↔ c ∈ A ∨ c ∈ B) : Two d (srt A) (srt B) (srt S) :=
  ⟨fun s hs => ha s ((srt_mem A s).1 hs), fun s hs => hb s ((srt_mem B s).1 hs), srt_srt _, srt_srt _, srt_srt _, fun c => by rw [srt_mem, srt_mem, srt_mem, hm]⟩
end Go.Proofs.Yticnhpddidaaeaa.Ce

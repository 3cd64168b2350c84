/-
  RULES AS PLAIN DATA: a rule of a text, two ways; there and back. No condition.
-/

import Derived.Test.YticnhpddidaaeaaRv
namespace Go.Proofs.Yticnhpddidaaeaa.Ru

theorem R3 (b : Nat) : ∀ (t : List Nat) (l : Nat), R t 3 b l = P3 b (nums t l)
  | [], l => rfl
  | c :: t, l => by
    unfold R nums
    have hg : sgn c 3 = false := rfl
    rw [hg]
    by_cases hd : isDig c = true
    · cases hh : hs l (c - 48)
      · have hn : nw c l = true := by simp [nw, hd, hh]
        simp [hn, hd, R3 b t]
      · have hn : nw c l = false := by simp [nw, hh]
        simp [hn, hd, P3]
    · have hn : nw c l = false := by simp [nw, hd]
      simp [hn, hd, P3]
theorem R2 (b : Nat) (t : List Nat) : R t 2 b 0 = P2 b t := by
  cases t with
  | nil => rfl
  | cons c t =>
    unfold R
    rw [show P2 b (c :: t) = (if c = 83 ∨ c = 115 then P3 b (nums t 0) else none) from rfl]
    have hg : sgn c 2 = (c == 83 || c == 115) := rfl
    rw [hg]
    by_cases hc : c = 83 ∨ c = 115
    · have h1 : (c == 83 || c == 115) = true := by simpa using hc
      rw [if_pos h1, if_pos hc]; exact R3 b t 0
    · have h1 : (c == 83 || c == 115) = false := by simp only [not_or] at hc; simp [hc]
      simp [h1, hc]
theorem R1 : ∀ (t : List Nat) (b : Nat), R t 1 b 0 = P1 (nums t b)
  | [], b => rfl
  | c :: t, b => by
    unfold R nums
    have hg : sgn c 1 = (c == 47) := rfl
    rw [hg]
    by_cases hc : c = 47
    · subst hc
      have hd : isDig 47 = false := rfl
      simp [hd, P1, R2]
    · have h1 : (c == 47) = false := by simpa using hc
      by_cases hd : isDig c = true
      · cases hh : hs b (c - 48)
        · have hn : nw c b = true := by simp [nw, hd, hh]
          simp [h1, hn, hd, R1 t]
        · have hn : nw c b = false := by simp [nw, hh]
          simp [h1, hn, hd, P1]
      · have hn : nw c b = false := by simp [nw, hd]
        simp [h1, hn, hd, P1, hc]
theorem R_eq (t : List Nat) : R t 0 0 0 = P t := by
  cases t with
  | nil => rfl
  | cons c t =>
    unfold R
    rw [show P (c :: t) = (if c = 66 ∨ c = 98 then P1 (nums t 0) else none) from rfl]
    have hg : sgn c 0 = (c == 66 || c == 98) := rfl
    rw [hg]
    by_cases hc : c = 66 ∨ c = 98
    · have h1 : (c == 66 || c == 98) = true := by simpa using hc
      rw [if_pos h1, if_pos hc]; exact R1 t 0
    · have h1 : (c == 66 || c == 98) = false := by simp only [not_or] at hc; simp [hc]
      simp [h1, hc]

theorem born_ok (b : Nat) (hb : b < 65536) : (b &&& 65025 = 0) ↔ (b < 512 ∧ b % 2 = 0) := by
  have h := may_b (b / 512) (by omega) (b % 512) (by omega)
  have e : b / 512 * 512 + b % 512 = b := by omega
  rw [e] at h
  rw [h]
  omega
theorem live_ok (b : Nat) (hb : b < 65536) : (b &&& 65024 = 0) ↔ b < 512 := by
  have h := may_l (b / 512) (by omega) (b % 512) (by omega)
  have e : b / 512 * 512 + b % 512 = b := by omega
  rw [e] at h
  rw [h]
  omega

theorem nums_app {c : Nat} (hc : isDig c = false) (t : List Nat) : ∀ (l : List Nat) (a x : Nat), nums l a = some (x, []) → nums (l ++ c :: t) a = some (x, c :: t)
  | [], a, x, h => by
    simp only [nums, Option.some.injEq, Prod.mk.injEq, and_true] at h
    subst h
    simp [nums, hc]
  | d :: l, a, x, h => by
    unfold nums at h
    by_cases hd : isDig d = true
    · cases hh : hs a (d - 48)
      · simp only [hd, hh, if_true] at h
        show nums (d :: (l ++ c :: t)) a = _
        unfold nums
        simp only [hd, hh, if_true]
        exact nums_app hc t l _ x (by simpa using h)
      · simp [hd, hh] at h
    · simp [hd] at h
theorem nums_none (t : List Nat) : ∀ (l : List Nat) (a : Nat), nums l a = none → nums (l ++ t) a = none
  | [], a, h => by simp [nums] at h
  | d :: l, a, h => by
    unfold nums at h
    show nums (d :: (l ++ t)) a = none
    unfold nums
    by_cases hd : isDig d = true
    · cases hh : hs a (d - 48)
      · simp only [hd, hh, if_true] at h ⊢
        simpa using nums_none t l _ (by simpa using h)
      · simp [hd]
    · simp [hd] at h
theorem nums_len : ∀ (l : List Nat) (a x : Nat) (r : List Nat), a < 512 → nums l a = some (x, r) → x < 512 ∧ l.length + (dg a).length = r.length + (dg x).length
  | [], a, x, r, ha, h => by
    simp only [nums, Option.some.injEq, Prod.mk.injEq] at h
    obtain ⟨rfl, rfl⟩ := h
    exact ⟨ha, rfl⟩
  | d :: l, a, x, r, ha, h => by
    unfold nums at h
    by_cases hd : isDig d = true
    · have hd' : d - 48 < 9 := by simp [isDig] at hd; omega
      cases hh : hs a (d - 48)
      · simp only [hd, hh, if_true] at h
        have g := nums_len l _ x r (add_lt a ha _ hd' hh) (by simpa using h)
        rw [dg_add a ha _ hd' hh] at g
        exact ⟨g.1, by simp only [List.length_cons]; omega⟩
      · simp [hd, hh] at h
    · simp [hd] at h
      obtain ⟨rfl, rfl⟩ := h
      exact ⟨ha, rfl⟩
theorem P_len (s : List Nat) (b l : Nat) (h : P s = some (b, l)) : b < 512 ∧ l < 512 ∧ s.length = (txt b l).length := by
  cases s with
  | nil => simp [P] at h
  | cons c t =>
    rw [show P (c :: t) = (if c = 66 ∨ c = 98 then P1 (nums t 0) else none) from rfl] at h
    split at h
    · rename_i hc
      cases hn : nums t 0 with
      | none => rw [hn] at h; simp [P1] at h
      | some y =>
        obtain ⟨b', r⟩ := y
        rw [hn] at h
        have g := nums_len t 0 b' r (by decide) hn
        cases r with
        | nil => simp [P1] at h
        | cons d u =>
          rw [show P1 (some (b', d :: u)) = (if d = 47 then P2 b' u else none) from rfl] at h
          split at h
          · cases u with
            | nil => simp [P2] at h
            | cons e v =>
              rw [show P2 b' (e :: v) = (if e = 83 ∨ e = 115 then P3 b' (nums v 0) else none) from rfl] at h
              split at h
              · cases hm : nums v 0 with
                | none => rw [hm] at h; simp [P3] at h
                | some z =>
                  obtain ⟨l', r'⟩ := z
                  rw [hm] at h
                  have g2 := nums_len v 0 l' r' (by decide) hm
                  cases r' with
                  | nil =>
                    simp [P3] at h
                    obtain ⟨rfl, rfl⟩ := h
                    rw [dg_zero] at g g2
                    refine ⟨g.1, g2.1, ?_⟩
                    unfold txt
                    simp at g g2 ⊢
                    omega
                  | cons _ _ => simp [P3] at h
              · simp at h
          · simp at h
    · simp at h
theorem P_of (f s : Nat) (hf : f = 66 ∨ f = 98) (hs : s = 83 ∨ s = 115) (b l : Nat) (x y : List Nat) (hx : nums x 0 = some (b, [])) (hy : nums y 0 = some (l, [])) :
    P (f :: (x ++ 47 :: s :: y)) = some (b, l) := by
  rw [show P (f :: (x ++ 47 :: s :: y)) = (if f = 66 ∨ f = 98 then P1 (nums (x ++ 47 :: s :: y) 0) else none) from rfl]
  rw [if_pos hf, nums_app rfl _ x 0 b hx]
  show (if s = 83 ∨ s = 115 then P3 b (nums y 0) else none) = _
  rw [if_pos hs, hy]
  rfl
theorem P_txt (b l : Nat) (hb : b < 512) (hl : l < 512) : P (txt b l) = some (b, l) :=
  P_of 66 83 (.inl rfl) (.inl rfl) b l _ _ (nums_dg b hb) (nums_dg l hl)
theorem P_none (f : Nat) (x y : List Nat) (hx : nums x 0 = none) : P (f :: (x ++ y)) = none := by
  rw [show P (f :: (x ++ y)) = (if f = 66 ∨ f = 98 then P1 (nums (x ++ y) 0) else none) from rfl]
  split
  · rw [nums_none y x 0 hx]; rfl
  · rfl
/-- small letters -/
def lowc (c : Nat) : Nat := if c = 83 then 115 else c
theorem dg_low (b : Nat) : (dg b).map lowc = dg b := by
  rw [List.map_congr_left (g := id)]
  · simp
  · intro c hc
    have := dgs_lt b 9 (by decide) c hc
    unfold lowc
    rw [if_neg (by omega)]; rfl
theorem P_low (b l : Nat) (hb : b < 512) (hl : l < 512) : P (98 :: (dg b ++ 47 :: 83 :: dg l).map lowc) = some (b, l) := by
  have e : (dg b ++ 47 :: 83 :: dg l).map lowc = dg b ++ 47 :: 115 :: dg l := by
    rw [List.map_append, dg_low, List.map_cons, List.map_cons, dg_low]; rfl
  rw [e]
  exact P_of 98 115 (.inr rfl) (.inr rfl) b l _ _ (nums_dg b hb) (nums_dg l hl)
end Go.Proofs.Yticnhpddidaaeaa.Ru

/-
  RLE, the plain side of RleNotes: notes ahead, and what stands behind the end.
-/
import Derived.Test.YtangbokcdgganaaGreatDoorRp
namespace Go.Proofs.YtangbokcdgganaaGreatDoor
open Go.Lib Go.Proofs.YtangbokcdgganaaGreatDoor.Ce Go.Proofs.YtangbokcdgganaaGreatDoor.Ru

namespace Rl
theorem ib_app (c : UInt8) (s : List UInt8) : ∀ (a : List UInt8), c ∉ a → indexByte (a ++ c :: s) c = a.length
  | [], _ => by simp [indexByte]
  | b :: t, h => by
    have hb : ¬ b = c := fun e => h (by simp [e])
    have ht := ib_app c s t (fun hc => h (by simp [hc]))
    show (if b == c then (0 : Int) else if indexByte (t ++ c :: s) c == -1 then -1 else indexByte (t ++ c :: s) c + 1) = _
    rw [ht, if_neg (by simpa using hb), if_neg (by simp)]; rfl
theorem ib_ge (l : List UInt8) (c : UInt8) : -1 ≤ indexByte l c := indexByte_ge l c
theorem ib_mono (c : UInt8) (b : List UInt8) : ∀ (l : List UInt8), 0 ≤ indexByte l c → indexByte (l ++ b) c = indexByte l c
  | [], h => by simp [indexByte] at h
  | a :: t, h => by
    show (if a == c then (0 : Int) else if indexByte (t ++ b) c == -1 then -1 else indexByte (t ++ b) c + 1) = (if a == c then (0 : Int) else if indexByte t c == -1 then -1 else indexByte t c + 1)
    by_cases ha : a = c
    · simp [ha]
    · have hn : ¬ (a == c) = true := by simpa using ha
      have h' : 0 ≤ (if a == c then (0 : Int) else if indexByte t c == -1 then -1 else indexByte t c + 1) := h
      rw [if_neg hn] at h'
      have ht : 0 ≤ indexByte t c := by
        by_cases e : indexByte t c = -1
        · rw [e] at h'; simp at h'
        · have := ib_ge t c; omega
      rw [if_neg hn, if_neg hn, ib_mono c b t ht]
theorem ib_lt (c : UInt8) : ∀ (l : List UInt8), indexByte l c < l.length
  | [] => by simp [indexByte]
  | a :: t => by
    show (if a == c then (0 : Int) else if indexByte t c == -1 then -1 else indexByte t c + 1) < _
    have := ib_lt c t
    rw [List.length_cons]; push_cast
    split
    · omega
    · split <;> omega
theorem cut_app (l b : List UInt8) (c : UInt8) (h : 0 ≤ indexByte l c) : cutL (l ++ b) c = ((cutL l c).1, (cutL l c).2.1 ++ b, true) := by
  have hl := ib_lt c l
  unfold cutL
  rw [ib_mono c b l h, if_pos h, if_pos h, List.take_append_of_le_length (by omega), List.drop_append_of_le_length (by omega)]
theorem cut_none (l : List UInt8) (c : UInt8) (h : ¬ 0 ≤ indexByte l c) : (cutL l c).1 = l := by unfold cutL; rw [if_neg h]
theorem cut_of (a s : List UInt8) (c : UInt8) (h : c ∉ a) : cutL (a ++ c :: s) c = (a, s, true) := by
  unfold cutL
  rw [ib_app c s a h, if_pos (by omega)]
  simp
theorem cut_len (l : List UInt8) (c : UInt8) : (cutL l c).1.length ≤ l.length := by
  unfold cutL; split
  · simp; omega
  · exact Nat.le_refl _

theorem beh_eq (l : List UInt8) : behL l = if l.head? = some 35 then (if 0 ≤ indexByte l 10 then (indexByte l 10).toNat + 1 + behL (l.drop ((indexByte l 10).toNat + 1)) else l.length) else 0 := by
  rw [behL]; split <;> rfl
theorem beh_le : ∀ (n : Nat) (l : List UInt8), l.length ≤ n → behL l ≤ l.length
  | 0, l, h => by
    have : l = [] := List.length_eq_zero_iff.1 (by omega)
    subst this; rw [beh_eq]; simp
  | n + 1, l, h => by
    rw [beh_eq]
    split
    · split
      · rename_i h1 h2
        have := ib_lt 10 l
        have := beh_le n (l.drop ((indexByte l 10).toNat + 1)) (by rw [List.length_drop]; omega)
        rw [List.length_drop] at this; omega
      · exact Nat.le_refl _
    · omega
theorem beh_note (note s : List UInt8) (h : (10 : UInt8) ∉ note) : behL (35 :: (note ++ 10 :: s)) = note.length + 2 + behL s := by
  have hi : indexByte (35 :: (note ++ 10 :: s)) 10 = ((35 :: note).length : Int) := ib_app 10 s (35 :: note) (by simp [h])
  rw [beh_eq, hi, if_pos (show (35 :: (note ++ 10 :: s)).head? = some 35 from rfl), if_pos (by omega)]
  have : (35 :: (note ++ 10 :: s)).drop ((((35 :: note).length : Nat) : Int).toNat + 1) = s := by simp
  rw [this]; simp
theorem beh_app (b : List UInt8) : ∀ (n : Nat) (l : List UInt8), l.length ≤ n → l.drop (behL l) ≠ [] → behL (l ++ b) = behL l
  | 0, l, h, k => by
    have : l = [] := List.length_eq_zero_iff.1 (by omega)
    subst this; simp at k
  | n + 1, l, h, k => by
    have hne : l ≠ [] := fun e => by subst e; simp at k
    have hh : (l ++ b).head? = l.head? := by cases l with
      | nil => exact absurd rfl hne
      | cons a t => rfl
    rw [beh_eq (l ++ b), hh]
    rw [beh_eq l] at k ⊢
    by_cases h1 : l.head? = some 35
    · rw [if_pos h1] at k ⊢
      rw [if_pos h1]
      by_cases h2 : 0 ≤ indexByte l 10
      · have hlt := ib_lt 10 l
        rw [if_pos h2] at k ⊢
        rw [ib_mono 10 b l h2, if_pos h2, List.drop_append_of_le_length (by omega), beh_app b n _ (by rw [List.length_drop]; omega)]
        intro e; apply k
        rw [← e, List.drop_drop]
      · rw [if_neg h2] at k; simp at k
    · rw [if_neg h1, if_neg h1]

def Out.up (c : Nat) : Out → Out
  | .ok cs => .ok cs
  | .err k e => .err (k + c) e
theorem runs_eq (l : List UInt8) (a x y : Nat) (cs : List Cel) : runsL l a x y cs =
    if (tl l).head? = some 33 then .ok cs
    else if (runL (tl l)).2.2 = true then
      match layR x y cs (tl l) with
      | none => .err (a + (l.length - (tl l).length)) 6
      | some (x', y', cs') => runsL ((tl l).drop ((runL (tl l)).2.1 + 1)) (a + (l.length - (tl l).length) + (runL (tl l)).2.1 + 1) x' y' cs'
    else .err (a + (l.length - (tl l).length) + (runL (tl l)).2.1) 3 := by
  rw [runsL]; split <;> rfl
theorem runs_up (c : Nat) : ∀ (n : Nat) (l : List UInt8) (a x y : Nat) (cs : List Cel), l.length ≤ n → runsL l (a + c) x y cs = (runsL l a x y cs).up c
  | n, l, a, x, y, cs, h => by
    rw [runs_eq l (a + c), runs_eq l a]
    by_cases h1 : (tl l).head? = some 33
    · rw [if_pos h1, if_pos h1]; rfl
    · rw [if_neg h1, if_neg h1]
      by_cases h2 : (runL (tl l)).2.2 = true
      · rw [if_pos h2, if_pos h2]
        have hlt := runL_lt h2
        have hle := tl_len l
        match hl : layR x y cs (tl l) with
        | none => show Out.err _ _ = Out.err _ _; congr 1; omega
        | some (x', y', cs') =>
          show runsL _ _ x' y' cs' = (runsL _ _ x' y' cs').up c
          match n, h with
          | 0, h => omega
          | n + 1, h =>
            rw [← runs_up c n _ _ x' y' cs' (by rw [List.length_drop]; omega)]
            congr 1; omega
      · rw [if_neg h2, if_neg h2]; show Out.err _ _ = Out.err _ _; congr 1; omega
theorem numL_app (b : List UInt8) : ∀ (l : List UInt8) (n k : Nat), (numL l n k).2 < k + l.length → numL (l ++ b) n k = numL l n k
  | [], n, k, h => by simp [numL] at h
  | c :: t, n, k, h => by
    rw [List.cons_append]
    unfold numL at h ⊢
    by_cases hc : isNum c = true
    · rw [if_pos hc] at h ⊢
      rw [if_pos hc]
      exact numL_app b t _ _ (by rw [List.length_cons] at h; omega)
    · rw [if_neg hc, if_neg hc]
theorem runL_true {l : List UInt8} (h : (runL l).2.2 = true) : ¬ l.head? = some 48 ∧ (l[(numL l 0 0).2]?).any isTag = true ∧ runL l = (max (numL l 0 0).1 1, (numL l 0 0).2, true) := by
  unfold runL at h ⊢
  by_cases h1 : l.head? = some 48
  · rw [if_pos h1] at h; simp at h
  · rw [if_neg h1] at h ⊢
    by_cases h2 : (l[(numL l 0 0).2]?).any isTag = true
    · rw [if_pos h2]; exact ⟨h1, h2, rfl⟩
    · rw [if_neg h2] at h; simp at h
theorem runL_app (b : List UInt8) {l : List UInt8} (h : (runL l).2.2 = true) : runL (l ++ b) = runL l := by
  obtain ⟨h1, h2, h3⟩ := runL_true h
  have hlt := runL_lt h
  rw [h3] at hlt ⊢
  have hn := numL_app b l 0 0 (by simpa using hlt)
  have hne : l ≠ [] := fun e => by subst e; simp at hlt
  have hh : (l ++ b).head? = l.head? := by cases l with
    | nil => exact absurd rfl hne
    | cons a t => rfl
  unfold runL
  rw [hh, if_neg h1, hn, List.getElem?_append_left hlt, if_pos h2]
theorem tl_app (b : List UInt8) : ∀ (l : List UInt8), tl l ≠ [] → tl (l ++ b) = tl l ++ b
  | [], h => by simp [tl, trimLeftS] at h
  | c :: t, h => by
    show List.dropWhile (fun x => btw.contains x) (c :: (t ++ b)) = List.dropWhile (fun x => btw.contains x) (c :: t) ++ b
    by_cases hc : btw.contains c = true
    · have e1 : tl (c :: t) = tl t := by show List.dropWhile _ (c :: t) = _; rw [List.dropWhile_cons_of_pos hc]; rfl
      rw [e1] at h
      rw [List.dropWhile_cons_of_pos hc, List.dropWhile_cons_of_pos hc]
      exact tl_app b t h
    · rw [List.dropWhile_cons_of_neg hc, List.dropWhile_cons_of_neg hc]; rfl
theorem runs_app (b : List UInt8) (out : List Cel) : ∀ (n : Nat) (l : List UInt8) (a x y : Nat) (cs : List Cel), l.length ≤ n → runsL l a x y cs = .ok out → runsL (l ++ b) a x y cs = .ok out
  | n, l, a, x, y, cs, h, k => by
    rw [runs_eq] at k ⊢
    by_cases h1 : (tl l).head? = some 33
    · have hne : tl l ≠ [] := fun e => by rw [e] at h1; simp at h1
      rw [tl_app b l hne]
      have : (tl l ++ b).head? = some 33 := by
        revert h1; cases tl l with
        | nil => exact fun h => by simp at h
        | cons a t => exact fun h => h
      rw [if_pos this]; rw [if_pos h1] at k; exact k
    · rw [if_neg h1] at k
      by_cases h2 : (runL (tl l)).2.2 = true
      · rw [if_pos h2] at k
        have hlt := runL_lt h2
        have hle := tl_len l
        have hne : tl l ≠ [] := fun e => by rw [e] at hlt; simp at hlt
        rw [tl_app b l hne, runL_app b h2]
        have hh : ¬ (tl l ++ b).head? = some 33 := by
          revert h1 hne; cases tl l with
          | nil => exact fun _ h => absurd rfl h
          | cons a t => exact fun h _ => h
        have hr : layR x y cs (tl l ++ b) = layR x y cs (tl l) := by
          unfold layR
          rw [runL_app b h2]
          have : (tl l ++ b).getD (runL (tl l)).2.1 0 = (tl l).getD (runL (tl l)).2.1 0 := by
            rw [List.getD_eq_getElem?_getD, List.getD_eq_getElem?_getD, List.getElem?_append_left hlt]
          rw [this]
        rw [if_neg hh, if_pos h2, hr]
        match hl : layR x y cs (tl l) with
        | none => rw [hl] at k; simp at k
        | some (x', y', cs') =>
          rw [hl] at k
          show runsL _ _ x' y' cs' = _
          have k' : runsL ((tl l).drop ((runL (tl l)).2.1 + 1)) (a + (l.length - (tl l).length) + (runL (tl l)).2.1 + 1) x' y' cs' = .ok out := k
          rw [List.drop_append_of_le_length (by omega)]
          have e : (l ++ b).length - (tl l ++ b).length = l.length - (tl l).length := by simp only [List.length_append]; omega
          rw [e]
          match n, h with
          | 0, h => omega
          | n + 1, h => exact runs_app b out n _ _ x' y' cs' (by rw [List.length_drop]; omega) k'
      · rw [if_neg h2] at k; simp at k

theorem runs_err : ∀ (n : Nat) (l : List UInt8) (a x y : Nat) (cs : List Cel) (k : Nat) (e : Int), l.length ≤ n → runsL l a x y cs = .err k e → (e = 3 ∨ e = 6) ∧ a ≤ k ∧ k ≤ a + l.length
  | n, l, a, x, y, cs, k, e, h, q => by
    rw [runs_eq] at q
    have hle := tl_len l
    by_cases h1 : (tl l).head? = some 33
    · rw [if_pos h1] at q; simp at q
    · rw [if_neg h1] at q
      by_cases h2 : (runL (tl l)).2.2 = true
      · rw [if_pos h2] at q
        have hlt := runL_lt h2
        match hl : layR x y cs (tl l) with
        | none => rw [hl] at q; simp only [Out.err.injEq] at q; omega
        | some (x', y', cs') =>
          rw [hl] at q
          match n, h with
          | 0, h => omega
          | n + 1, h =>
            have := runs_err n _ _ x' y' cs' k e (by rw [List.length_drop]; omega) q
            rw [List.length_drop] at this; omega
      · rw [if_neg h2] at q; simp only [Out.err.injEq] at q
        have : (runL (tl l)).2.1 ≤ (tl l).length := by
          have hn := (numL_le (tl l) 0 0).2
          unfold runL; split
          · exact Nat.zero_le _
          · split
            · simpa using hn
            · simpa using hn
        omega
theorem head_nil : (headL []).2 = 3 := by decide
theorem parse_good (l : List UInt8) (h0 : ¬ 65536 < l.length) (h1 : (headL (lineL (l.drop (behL l)))).2 = 0) : parseL l =
    bodyL (headL (lineL (l.drop (behL l)))).1 (runsL (l.drop (behL l + (lineL (l.drop (behL l))).length)) (behL l + (lineL (l.drop (behL l))).length) 0 0 []) := by
  unfold parseL; rw [if_neg h0, if_pos h1]
theorem parse_bad (l : List UInt8) (h0 : ¬ 65536 < l.length) (h1 : ¬ (headL (lineL (l.drop (behL l)))).2 = 0) : parseL l = ⟨(0, 0), [], behL l, (headL (lineL (l.drop (behL l)))).2⟩ := by
  unfold parseL; rw [if_neg h0, if_neg h1]
theorem parse_note (note s : List UInt8) (h : (10 : UInt8) ∉ note) (hl : note.length + 2 + s.length ≤ 65536) :
    parseL (35 :: (note ++ 10 :: s)) = ⟨(parseL s).r, (parseL s).cs, if (parseL s).e = 0 then (parseL s).k else (parseL s).k + (note.length + 2), (parseL s).e⟩ := by
  have hlen : (35 :: (note ++ 10 :: s)).length = note.length + 2 + s.length := by simp; omega
  have hb := beh_note note s h
  have hd : ∀ m, (35 :: (note ++ 10 :: s)).drop (note.length + 2 + m) = s.drop m := fun m => by
    rw [← List.drop_drop]
    congr 1
    have : 35 :: (note ++ 10 :: s) = (35 :: note ++ [10]) ++ s := by simp
    rw [this, List.drop_append_of_le_length (by simp)]
    simp
  by_cases h1 : (headL (lineL (s.drop (behL s)))).2 = 0
  · rw [parse_good s (by omega) h1, parse_good _ (by rw [hlen]; omega) (by rw [hb, hd]; exact h1), hb, hd, Nat.add_assoc, hd]
    rw [show note.length + 2 + (behL s + (lineL (s.drop (behL s))).length) = behL s + (lineL (s.drop (behL s))).length + (note.length + 2) by omega, runs_up _ _ _ _ _ _ _ (Nat.le_refl _)]
    match hr : runsL (s.drop (behL s + (lineL (s.drop (behL s))).length)) (behL s + (lineL (s.drop (behL s))).length) 0 0 [] with
    | .ok cs => simp [Out.up, bodyL]
    | .err k e =>
      have he : ¬ e = 0 := by have := (runs_err _ _ _ _ _ _ _ _ (Nat.le_refl _) hr).1; omega
      simp [Out.up, bodyL, he]
  · rw [parse_bad s (by omega) h1, parse_bad _ (by rw [hlen]; omega) (by rw [hb, hd]; exact h1), hb, hd]
    simp [h1]; omega
theorem parse_ok {s : List UInt8} (h : (parseL s).e = 0) : s.length ≤ 65536 ∧ (headL (lineL (s.drop (behL s)))).2 = 0 ∧ ∃ cs,
    runsL (s.drop (behL s + (lineL (s.drop (behL s))).length)) (behL s + (lineL (s.drop (behL s))).length) 0 0 [] = .ok cs ∧ parseL s = ⟨(headL (lineL (s.drop (behL s)))).1, cs, 0, 0⟩ := by
  unfold parseL at h ⊢
  by_cases h0 : 65536 < s.length
  · rw [if_pos h0] at h; simp at h
  · rw [if_neg h0] at h ⊢
    by_cases h1 : (headL (lineL (s.drop (behL s)))).2 = 0
    · rw [if_pos h1] at h ⊢
      refine ⟨by omega, h1, ?_⟩
      match hr : runsL (s.drop (behL s + (lineL (s.drop (behL s))).length)) (behL s + (lineL (s.drop (behL s))).length) 0 0 [] with
      | .ok cs => exact ⟨cs, rfl, rfl⟩
      | .err k e =>
        rw [hr] at h
        have := (runs_err _ _ _ _ _ _ _ _ (Nat.le_refl _) hr).1
        simp only [bodyL] at h; omega
    · rw [if_neg h1] at h; exact absurd h h1
theorem parse_app (s b : List UInt8) (hl : s.length + b.length ≤ 65536) (h : (parseL s).e = 0) : parseL (s ++ b) = parseL s := by
  obtain ⟨h0, h1, cs, h2, h3⟩ := parse_ok h
  have hble := beh_le _ s (Nat.le_refl _)
  have hne : s.drop (behL s) ≠ [] := fun e => by
    rw [e] at h1
    have : lineL [] = [] := rfl
    rw [this, head_nil] at h1; exact absurd h1 (by decide)
  have hi : 0 ≤ indexByte (s.drop (behL s)) 10 := Decidable.byContradiction fun hn => by
    have e : lineL (s.drop (behL s)) = s.drop (behL s) := cut_none _ _ hn
    rw [e, List.length_drop, List.drop_eq_nil_of_le (by omega), runs_eq] at h2
    simp [tl, trimLeftS, runL, numL] at h2
  have hline : lineL (s.drop (behL s) ++ b) = lineL (s.drop (behL s)) := by unfold lineL; rw [cut_app _ _ _ hi]
  have hll : (lineL (s.drop (behL s))).length ≤ (s.drop (behL s)).length := cut_len _ _
  rw [List.length_drop] at hll
  rw [h3]
  unfold parseL
  rw [if_neg (by rw [List.length_append]; omega), beh_app b _ s (Nat.le_refl _) hne, List.drop_append_of_le_length hble, hline, if_pos h1, List.drop_append_of_le_length (by omega), runs_app b cs _ _ _ _ _ _ (Nat.le_refl _) h2]
  rfl
end Rl
end Go.Proofs.YtangbokcdgganaaGreatDoor

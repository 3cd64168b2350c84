/-
  RLE, the plain side: what is written is read: numbers, the head, runs.
-/
import Derived.Test.YtangbokcdgganaaGreatDoorMh
namespace Go.Proofs.YtangbokcdgganaaGreatDoor
open Go.RowKit Ru Ce
open Go.Lib (decDigits decDigits_length nDigits indexByte)

namespace Rl
theorem dig_nat (d : Nat) (h : d < 10) : (UInt8.ofNat (48 + d)).toNat = 48 + d := by
  show (48 + d) % 256 = 48 + d
  omega
theorem dig_num (d : Nat) (h : d < 10) : isNum (UInt8.ofNat (48 + d)) = true := by
  unfold isNum; rw [dig_nat d h]; simp; omega
theorem dd_eq (u : Nat) : decDigits u = if u < 10 then [UInt8.ofNat (48 + u)] else decDigits (u / 10) ++ [UInt8.ofNat (48 + u % 10)] := by
  rw [decDigits]; split <;> rfl
theorem numL_dd : ∀ (k u : Nat), u ≤ k → u ≤ 274877906945 → ∀ rest, numL (decDigits u ++ rest) 0 0 = numL rest u (decDigits u).length
  | k, u, hk, hu, rest => by
    rw [dd_eq u]
    by_cases h : u < 10
    · rw [if_pos h]
      show numL (UInt8.ofNat (48 + u) :: rest) 0 0 = numL rest u 1
      conv => lhs; unfold numL
      rw [if_pos (dig_num u h), dig_nat u h, show min (0 * 10 + (48 + u - 48)) 274877906945 = u by omega]
    · rw [if_neg h]
      match k, hk with
      | 0, hk => omega
      | k + 1, hk =>
        rw [List.append_assoc, numL_dd k (u / 10) (by omega) (by omega)]
        show numL (UInt8.ofNat (48 + u % 10) :: rest) (u / 10) _ = _
        conv => lhs; unfold numL
        rw [if_pos (dig_num _ (by omega)), dig_nat _ (by omega), List.length_append, show min (u / 10 * 10 + (48 + u % 10 - 48)) 274877906945 = u by omega]
        rfl
theorem dd_all : ∀ (k u : Nat), u ≤ k → ∀ c ∈ decDigits u, isNum c = true
  | k, u, hk, c, hc => by
    rw [dd_eq] at hc
    by_cases h : u < 10
    · rw [if_pos h, List.mem_singleton] at hc; rw [hc]; exact dig_num u h
    · rw [if_neg h, List.mem_append] at hc
      match k, hk with
      | 0, hk => omega
      | k + 1, hk =>
        rcases hc with hc | hc
        · exact dd_all k (u / 10) (by omega) c hc
        · rw [List.mem_singleton] at hc; rw [hc]; exact dig_num _ (by omega)
theorem dd_head : ∀ (k u : Nat), u ≤ k → ∃ c t, decDigits u = c :: t ∧ (1 ≤ u → ¬ c = 48)
  | k, u, hk => by
    rw [dd_eq]
    by_cases h : u < 10
    · rw [if_pos h]
      refine ⟨_, [], rfl, fun h1 e => ?_⟩
      have := congrArg UInt8.toNat e
      rw [dig_nat u h] at this
      have : 48 + u = 48 := this
      omega
    · rw [if_neg h]
      match k, hk with
      | 0, hk => omega
      | k + 1, hk =>
        obtain ⟨c, t, e, hc⟩ := dd_head k (u / 10) (by omega)
        exact ⟨c, t ++ [UInt8.ofNat (48 + u % 10)], by rw [e]; rfl, fun _ => hc (by omega)⟩
theorem num_not {c : UInt8} (h : isNum c = true) {d : UInt8} (hd : isNum d = false) : ¬ c = d := fun e => by rw [e, hd] at h; cases h
theorem dd_not (u : Nat) {d : UInt8} (hd : isNum d = false) : d ∉ decDigits u := fun h => by
  have := dd_all u u (Nat.le_refl _) d h
  rw [hd] at this; cases this
theorem dd_pos (u : Nat) : 0 < (decDigits u).length := by
  obtain ⟨c, t, e, _⟩ := dd_head u u (Nat.le_refl _)
  rw [e]; simp
/-- a number bare of a blank ahead -/
theorem bare_dd (u : Nat) : bareL (32 :: decDigits u) = decDigits u := by
  obtain ⟨c, t, e, _⟩ := dd_head u u (Nat.le_refl _)
  have hall := dd_all u u (Nat.le_refl _)
  have hb : ∀ x ∈ decDigits u, ([32, 9, 13] : List UInt8).contains x = false := fun x hx => by
    have h := hall x hx
    have h1 := num_not h (d := 32) (by decide)
    have h2 := num_not h (d := 9) (by decide)
    have h3 := num_not h (d := 13) (by decide)
    simp [h1, h2, h3]
  unfold bareL Lib.trimS Lib.trimRightS Lib.trimLeftS
  have hr : ∀ (l : List UInt8), (∀ x ∈ l, ([32, 9, 13] : List UInt8).contains x = false) → l ≠ [] → List.dropWhile (fun x => ([32, 9, 13] : List UInt8).contains x) l = l := fun l hl hne => by
    cases l with
    | nil => exact absurd rfl hne
    | cons a r => rw [List.dropWhile_cons_of_neg (by rw [hl a (by simp)]; decide)]
  have hrev : List.dropWhile (fun x => ([32, 9, 13] : List UInt8).contains x) (32 :: decDigits u).reverse = (32 :: decDigits u).reverse := by
    rw [List.reverse_cons]
    have hne : (decDigits u).reverse ≠ [] := by rw [e]; simp
    cases hq : (decDigits u).reverse with
    | nil => exact absurd hq hne
    | cons a r =>
      have ha : a ∈ decDigits u := by rw [← List.mem_reverse, hq]; simp
      show List.dropWhile _ (a :: (r ++ [32])) = a :: (r ++ [32])
      rw [List.dropWhile_cons_of_neg (by rw [hb a ha]; decide)]
  rw [hrev, List.reverse_reverse]
  show List.dropWhile _ (32 :: decDigits u) = decDigits u
  rw [List.dropWhile_cons_of_pos (by decide)]
  exact hr _ hb (by rw [e]; simp)
theorem isNumber_dd (u : Nat) (h : u ≤ 274877906944) : isNumberL (decDigits u) = true := by
  have hn := numL_dd u u (Nat.le_refl _) (by omega) []
  rw [List.append_nil] at hn
  have hn' : numL (decDigits u) 0 0 = (u, (decDigits u).length) := hn
  have hp := dd_pos u
  obtain ⟨c, t, e, hc⟩ := dd_head u u (Nat.le_refl _)
  unfold isNumberL
  rw [hn']
  by_cases h0 : u = 0
  · subst h0
    rw [show decDigits 0 = [48] from by rw [dd_eq]; rfl]; decide
  · have hh : ¬ (decDigits u).head? = some 48 := by rw [e]; simp; exact hc (by omega)
    simp [hp, h, hh]
theorem isSize_x (W : Nat) (h : W ≤ 274877906944) : isSizeL ([120, 32, 61, 32] ++ decDigits W) [120] = true := by
  have hc : cutL ([120, 32, 61, 32] ++ decDigits W) 61 = ([120, 32], 32 :: decDigits W, true) := cut_of [120, 32] (32 :: decDigits W) 61 (by decide)
  unfold isSizeL
  rw [hc]
  show (true && decide (bareL [120, 32] = [120]) && isNumberL (bareL (32 :: decDigits W))) = true
  rw [bare_dd, isNumber_dd W h]; decide
theorem isSize_y (H : Nat) (h : H ≤ 274877906944) : isSizeL ([32, 121, 32, 61, 32] ++ decDigits H) [121] = true := by
  have hc : cutL ([32, 121, 32, 61, 32] ++ decDigits H) 61 = ([32, 121, 32], 32 :: decDigits H, true) := cut_of [32, 121, 32] (32 :: decDigits H) 61 (by decide)
  unfold isSizeL
  rw [hc]
  show (true && decide (bareL [32, 121, 32] = [121]) && isNumberL (bareL (32 :: decDigits H))) = true
  rw [bare_dd, isNumber_dd H h]; decide
def lawB3 : List UInt8 := [66, 51, 47, 83, 50, 51]
theorem head_hd (W H : Nat) (hW : W ≤ 274877906944) (hH : H ≤ 274877906944) : headL (hdL W H lawB3) = ((8, 12), 0) := by
  have e1 : hdL W H lawB3 = ([120, 32, 61, 32] ++ decDigits W) ++ 44 :: ([32, 121, 32, 61, 32] ++ decDigits H ++ 44 :: ([32, 114, 117, 108, 101, 32, 61, 32] ++ lawB3)) := by
    unfold hdL; simp
  have c1 : cutL (hdL W H lawB3) 44 = ([120, 32, 61, 32] ++ decDigits W, [32, 121, 32, 61, 32] ++ decDigits H ++ 44 :: ([32, 114, 117, 108, 101, 32, 61, 32] ++ lawB3), true) := by
    rw [e1]; exact cut_of _ _ 44 (fun h => (List.mem_append.1 h).elim (fun h => by revert h; decide) (fun h => dd_not W (by decide) h))
  have c2 : cutL ([32, 121, 32, 61, 32] ++ decDigits H ++ 44 :: ([32, 114, 117, 108, 101, 32, 61, 32] ++ lawB3)) 44 = ([32, 121, 32, 61, 32] ++ decDigits H, [32, 114, 117, 108, 101, 32, 61, 32] ++ lawB3, true) :=
    cut_of _ _ 44 (fun h => (List.mem_append.1 h).elim (fun h => by revert h; decide) (fun h => dd_not H (by decide) h))
  have hl : lawL (hdL W H lawB3) = some lawB3 := by
    unfold lawL
    rw [c1]
    simp only
    rw [isSize_x W hW]
    simp only [Bool.and_self, if_true]
    unfold lawB
    rw [c2]
    simp only
    rw [isSize_y H hH]
    simp only [Bool.and_self, if_true]
    decide +kernel
  unfold headL
  rw [hl]
  decide +kernel
/-- a piece that the parser passes -/
def Adv (X : List UInt8) (x y : Nat) (cs : List Cel) (x' y' : Nat) (cs' : List Cel) : Prop := ∀ tail a, runsL (X ++ tail) a x y cs = runsL tail (a + X.length) x' y' cs'
theorem Adv.nil (x y : Nat) (cs : List Cel) : Adv [] x y cs x y cs := fun _ _ => rfl
theorem Adv.app {X Y : List UInt8} {x y x1 y1 x2 y2 : Nat} {cs cs1 cs2 : List Cel} (h : Adv X x y cs x1 y1 cs1) (k : Adv Y x1 y1 cs1 x2 y2 cs2) : Adv (X ++ Y) x y cs x2 y2 cs2 := fun tail a => by
  rw [List.append_assoc, h, k, List.length_append]
  congr 1; omega
theorem tl_nl (l : List UInt8) : tl (10 :: l) = tl l := by
  unfold tl Lib.trimLeftS
  rw [List.dropWhile_cons_of_pos (by decide)]
theorem Adv.nl (x y : Nat) (cs : List Cel) : Adv [10] x y cs x y cs := fun tail a => by
  show runsL (10 :: tail) a x y cs = runsL tail (a + 1) x y cs
  have hl := tl_len tail
  rw [runs_eq, runs_eq tail, tl_nl]
  have e : a + ((10 :: tail).length - (tl tail).length) = a + 1 + (tail.length - (tl tail).length) := by simp only [List.length_cons]; omega
  rw [e]
theorem tl_num {c : UInt8} (h : btw.contains c = false) (t : List UInt8) : tl (c :: t) = c :: t := by
  unfold tl Lib.trimLeftS
  rw [List.dropWhile_cons_of_neg (by rw [h]; decide)]
def tokL (n : Nat) (c : UInt8) : List UInt8 := if n = 1 then [c] else decDigits n ++ [c]
theorem tag_facts {c : UInt8} (h : isTag c = true) : isNum c = false ∧ btw.contains c = false ∧ ¬ c = 33 ∧ ¬ c = 48 := by
  unfold isTag at h
  simp only [Bool.or_eq_true, beq_iff_eq] at h
  rcases h with (rfl | rfl) | rfl <;> decide
theorem runL_tok (n : Nat) (c : UInt8) (hn : 1 ≤ n) (hn2 : n ≤ 274877906945) (hc : isTag c = true) (tail : List UInt8) : ∃ d, runL (tokL n c ++ tail) = (n, d, true) ∧ d + 1 = (tokL n c).length ∧ (tokL n c ++ tail).getD d 0 = c ∧ tl (tokL n c ++ tail) = tokL n c ++ tail ∧ ¬ (tokL n c ++ tail).head? = some 33 := by
  obtain ⟨f1, f2, f3, f4⟩ := tag_facts hc
  unfold tokL
  by_cases h1 : n = 1
  · subst h1
    rw [if_pos rfl]
    refine ⟨0, ?_, rfl, rfl, tl_num f2 tail, by simpa using f3⟩
    show runL (c :: tail) = _
    unfold runL
    rw [if_neg (by simpa using f4)]
    have hz : numL (c :: tail) 0 0 = (0, 0) := by unfold numL; rw [if_neg (by rw [f1]; decide)]
    rw [hz]
    simp [hc]
  · rw [if_neg h1]
    have hnum : numL (decDigits n ++ [c] ++ tail) 0 0 = (n, (decDigits n).length) := by
      rw [List.append_assoc, numL_dd n n (Nat.le_refl _) hn2]
      show numL (c :: tail) n _ = _
      unfold numL; rw [if_neg (by rw [f1]; decide)]
    have hget : (decDigits n ++ [c] ++ tail)[(decDigits n).length]? = some c := by
      rw [List.append_assoc, List.getElem?_append_right (Nat.le_refl _)]; simp
    obtain ⟨a, t, e, ha⟩ := dd_head n n (Nat.le_refl _)
    have hnuma : isNum a = true := dd_all n n (Nat.le_refl _) a (by rw [e]; simp)
    refine ⟨(decDigits n).length, ?_, by simp, ?_, ?_, ?_⟩
    · unfold runL
      rw [hnum]
      simp only
      rw [hget, if_neg (by rw [e]; simpa using ha hn)]
      simp [hc]; omega
    · rw [List.getD_eq_getElem?_getD, hget]; rfl
    · rw [e]
      refine tl_num ?_ _
      have h1 := num_not hnuma (d := 32) (by decide)
      have h2 := num_not hnuma (d := 9) (by decide)
      have h3 := num_not hnuma (d := 13) (by decide)
      have h4 := num_not hnuma (d := 10) (by decide)
      simp [btw, h1, h2, h3, h4]
    · rw [e]
      have := num_not hnuma (d := 33) (by decide)
      simpa using this
theorem Adv.tok (n : Nat) (c : UInt8) (hn : 1 ≤ n) (hn2 : n ≤ 274877906944) (hc : isTag c = true) {x y x' y' : Nat} {cs cs' : List Cel} (h : layP x y cs n c = some (x', y', cs')) : Adv (tokL n c) x y cs x' y' cs' := fun tail a => by
  obtain ⟨d, h1, h2, h3, h4, h5⟩ := runL_tok n c hn (by omega) hc tail
  rw [runs_eq, h4, if_neg h5, h1]
  simp only [if_true]
  have hl : layR x y cs (tokL n c ++ tail) = some (x', y', cs') := by
    unfold layR
    rw [h1]
    simp only
    rw [if_pos hn2, h3, h]
  rw [hl]
  simp only
  have hd : (tokL n c ++ tail).drop (d + 1) = tail := by rw [h2]; simp
  rw [hd]
  congr 1; omega
end Rl
end Go.Proofs.YtangbokcdgganaaGreatDoor

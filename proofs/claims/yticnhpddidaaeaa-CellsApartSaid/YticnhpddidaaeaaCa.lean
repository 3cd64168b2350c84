/-
  CELLS as plain data: sorted, each once; how many live about one; one generation on, and more. Conditions: those that each lemma names.
-/

import Derived.Lib.Hide
namespace Go.Proofs.Yticnhpddidaaeaa.Ce

abbrev Cel := Int × Int
def lt (a b : Cel) : Bool := decide (a.2 < b.2 ∨ (a.2 = b.2 ∧ a.1 < b.1))
theorem lt_iff (a b : Cel) : lt a b = true ↔ (a.2 < b.2 ∨ (a.2 = b.2 ∧ a.1 < b.1)) := by unfold lt; exact decide_eq_true_iff
theorem lt_irrefl (a : Cel) : ¬ lt a a = true := by rw [lt_iff]; omega
theorem lt_trans {a b c : Cel} (h : lt a b = true) (k : lt b c = true) : lt a c = true := by rw [lt_iff] at *; omega
theorem lt_asymm {a b : Cel} (h : lt a b = true) : ¬ lt b a = true := fun k => lt_irrefl a (lt_trans h k)
theorem lt_total {a b : Cel} (h : ¬ lt a b = true) (k : ¬ a = b) : lt b a = true := by
  rw [lt_iff] at *
  obtain ⟨a1, a2⟩ := a
  obtain ⟨b1, b2⟩ := b
  simp only [Prod.mk.injEq] at k
  simp only at *
  omega
/-- sorted, each once -/
def Srt (l : List Cel) : Prop := l.Pairwise (fun a b => lt a b = true)
theorem Srt.nodup {l : List Cel} (h : Srt l) : l.Nodup := h.imp (fun {a b} hab e => by subst e; exact lt_irrefl a hab)
theorem srt_perm {a b : List Cel} (ha : Srt a) (hb : Srt b) (h : a.Perm b) : a = b :=
  List.Perm.eq_of_pairwise (le := fun x y => lt x y = true) (fun _ _ _ _ h1 h2 => absurd h2 (lt_asymm h1)) ha hb h
theorem srt_ext {a b : List Cel} (ha : Srt a) (hb : Srt b) (h : ∀ x, x ∈ a ↔ x ∈ b) : a = b :=
  srt_perm ha hb ((List.perm_ext_iff_of_nodup ha.nodup hb.nodup).2 h)
/-- a sorted list with a cell -/
def put : List Cel → Cel → List Cel
  | [], c => [c]
  | x :: r, c => if lt x c = true then x :: put r c else if x = c then x :: r else c :: x :: r
theorem put_mem : ∀ (l : List Cel) (c x : Cel), x ∈ put l c ↔ x ∈ l ∨ x = c
  | [], c, x => by simp [put]
  | y :: r, c, x => by
    unfold put
    split
    · rw [List.mem_cons, put_mem r c x, List.mem_cons, or_assoc]
    · split
      · rename_i _ e
        subst e
        rw [List.mem_cons]
        constructor
        · exact Or.inl
        · rintro (h | h)
          · exact h
          · exact .inl h
      · rw [List.mem_cons (a := x) (b := c), or_comm]
theorem put_srt : ∀ (l : List Cel) (c : Cel), Srt l → Srt (put l c)
  | [], c, _ => by unfold put Srt; exact List.pairwise_singleton _ _
  | y :: r, c, h => by
    obtain ⟨h1, h2⟩ := List.pairwise_cons.1 h
    unfold put
    split
    · rename_i e
      refine List.pairwise_cons.2 ⟨fun z hz => ?_, put_srt r c h2⟩
      rcases (put_mem r c z).1 hz with hz | rfl
      · exact h1 z hz
      · exact e
    · rename_i e
      split
      · exact h
      · rename_i k
        have hc := lt_total e k
        refine List.pairwise_cons.2 ⟨fun z hz => ?_, h⟩
        rcases List.mem_cons.1 hz with rfl | hz
        · exact hc
        · exact lt_trans hc (h1 z hz)
/-- the cells, sorted, each once -/
def srt (l : List Cel) : List Cel := l.foldl put []
theorem foldl_put_mem : ∀ (l m : List Cel) (x : Cel), x ∈ l.foldl put m ↔ x ∈ m ∨ x ∈ l
  | [], m, x => by simp
  | c :: l, m, x => by rw [List.foldl_cons, foldl_put_mem l _ x, put_mem, List.mem_cons, or_assoc]
theorem foldl_put_srt : ∀ (l m : List Cel), Srt m → Srt (l.foldl put m)
  | [], _, h => h
  | c :: l, m, h => foldl_put_srt l _ (put_srt m c h)
theorem srt_mem (l : List Cel) (x : Cel) : x ∈ srt l ↔ x ∈ l := by unfold srt; rw [foldl_put_mem]; simp
theorem srt_srt (l : List Cel) : Srt (srt l) := foldl_put_srt l [] List.Pairwise.nil
theorem srt_of {l m : List Cel} (h : Srt m) (k : ∀ x, x ∈ m ↔ x ∈ l) : srt l = m := srt_ext (srt_srt l) h (fun x => by rw [srt_mem, k])
theorem srt_self {l : List Cel} (h : Srt l) : srt l = l := srt_of h (fun _ => Iff.rfl)
theorem len_le_of_sub : ∀ (a b : List Cel), a.Nodup → (∀ x ∈ a, x ∈ b) → a.length ≤ b.length
  | [], _, _, _ => by simp
  | x :: a, b, h, k => by
    obtain ⟨h1, h2⟩ := List.nodup_cons.1 h
    have hx : x ∈ b := k x (by simp)
    have := len_le_of_sub a (b.erase x) h2 (fun y hy => by
      have hne : y ≠ x := fun e => h1 (e ▸ hy)
      exact (List.mem_erase_of_ne hne).2 (k y (by simp [hy])))
    rw [List.length_erase_of_mem hx] at this
    have hp : 0 < b.length := List.length_pos_of_mem hx
    simp only [List.length_cons]
    omega
theorem put_len (l : List Cel) (c : Cel) : (put l c).length ≤ l.length + 1 := by
  induction l with
  | nil => simp [put]
  | cons x r ih => unfold put; split <;> (try split) <;> simp <;> omega
theorem srt_len (l : List Cel) : (srt l).length ≤ l.length := by
  refine len_le_of_sub _ _ (srt_srt l).nodup (fun x hx => (srt_mem l x).1 hx)
/-- where a cell may be -/
def okc (c : Cel) : Bool := decide (-274877906944 ≤ c.1 ∧ c.1 ≤ 274877906944 ∧ -274877906944 ≤ c.2 ∧ c.2 ≤ 274877906944)
theorem okc_iff (c : Cel) : okc c = true ↔ (-274877906944 ≤ c.1 ∧ c.1 ≤ 274877906944 ∧ -274877906944 ≤ c.2 ∧ c.2 ≤ 274877906944) := by unfold okc; exact decide_eq_true_iff
/-- a place next to one: from 0, left above, to 8, right below; 4 is itself -/
def pos (c : Cel) (j : Nat) : Cel := (c.1 + ((j % 3 : Nat) : Int) - 1, c.2 + ((j / 3 : Nat) : Int) - 1)
theorem pos_near {c x : Cel} : (∃ j, j < 9 ∧ x = pos c j) ↔ (c.1 - 1 ≤ x.1 ∧ x.1 ≤ c.1 + 1 ∧ c.2 - 1 ≤ x.2 ∧ x.2 ≤ c.2 + 1) := by
  obtain ⟨c1, c2⟩ := c
  obtain ⟨x1, x2⟩ := x
  constructor
  · rintro ⟨j, hj, e⟩
    simp only [pos, Prod.mk.injEq] at e
    simp only
    omega
  · intro h
    simp only at h
    refine ⟨((x2 - c2 + 1) * 3 + (x1 - c1 + 1)).toNat, by omega, ?_⟩
    simp only [pos, Prod.mk.injEq]
    omega
def near (c x : Cel) : Bool := decide (c.1 - 1 ≤ x.1 ∧ x.1 ≤ c.1 + 1 ∧ c.2 - 1 ≤ x.2 ∧ x.2 ≤ c.2 + 1)
theorem near_iff (c x : Cel) : near c x = true ↔ (c.1 - 1 ≤ x.1 ∧ x.1 ≤ c.1 + 1 ∧ c.2 - 1 ≤ x.2 ∧ x.2 ≤ c.2 + 1) := by unfold near; exact decide_eq_true_iff
def adj (c x : Cel) : Bool := near c x && !decide (c = x)
theorem adj_comm (c x : Cel) : adj c x = adj x c := by
  unfold adj
  rw [Bool.eq_iff_iff, Bool.and_eq_true, Bool.and_eq_true, near_iff, near_iff]
  simp only [Bool.not_eq_true', decide_eq_false_iff_not]
  constructor <;> (rintro ⟨h1, h2⟩; exact ⟨by omega, fun e => h2 e.symm⟩)
/-- how many of them live about a cell -/
def cnt (S : List Cel) (c : Cel) : Nat := (S.filter fun s => adj s c).length
/-- the places about cells -/
def nbs (S : List Cel) : List Cel := S.flatMap fun s => (List.range 9).map (pos s)
theorem nbs_mem (S : List Cel) (x : Cel) : x ∈ nbs S ↔ ∃ s ∈ S, near s x = true := by
  unfold nbs
  rw [List.mem_flatMap]
  constructor
  · rintro ⟨s, hs, h⟩
    obtain ⟨j, hj, rfl⟩ := List.mem_map.1 h
    exact ⟨s, hs, (near_iff _ _).2 (pos_near.1 ⟨j, List.mem_range.1 hj, rfl⟩)⟩
  · rintro ⟨s, hs, h⟩
    obtain ⟨j, hj, rfl⟩ := pos_near.2 ((near_iff _ _).1 h)
    exact ⟨s, hs, List.mem_map.2 ⟨j, List.mem_range.2 hj, rfl⟩⟩
theorem nbs_len (S : List Cel) : (nbs S).length = 9 * S.length := by
  induction S with
  | nil => rfl
  | cons s S ih => simp only [nbs, List.flatMap_cons, List.length_append, List.length_map, List.length_range, List.length_cons] at *; omega
/-- a rule: whether a cell lives next, by whether it lives and how many do about it -/
abbrev Rul := Bool → Nat → Bool
def alive (r : Rul) (S : List Cel) (c : Cel) : Bool := r (decide (c ∈ S)) (cnt S c)
/-- one generation on -/
def nxt (r : Rul) (S : List Cel) : List Cel := srt ((nbs S).filter (alive r S))
theorem nxt_mem (r : Rul) (S : List Cel) (x : Cel) : x ∈ nxt r S ↔ (∃ s ∈ S, near s x = true) ∧ alive r S x = true := by
  unfold nxt
  rw [srt_mem, List.mem_filter, nbs_mem]
theorem nxt_srt (r : Rul) (S : List Cel) : Srt (nxt r S) := srt_srt _
theorem nxt_len (r : Rul) (S : List Cel) : (nxt r S).length ≤ 9 * S.length := by
  rw [← nbs_len S]
  exact Nat.le_trans (srt_len _) (List.length_filter_le _ _)
/-- so many that there may be, and each where it may be -/
def fine (S : List Cel) : Bool := decide (S.length ≤ 4096) && S.all okc
theorem fine_iff (S : List Cel) : fine S = true ↔ S.length ≤ 4096 ∧ ∀ x ∈ S, okc x = true := by
  unfold fine
  rw [Bool.and_eq_true, decide_eq_true_iff, List.all_eq_true]
def stp (r : Rul) : List Cel → Nat → Option (List Cel)
  | S, 0 => some S
  | S, n + 1 => if fine (nxt r S) = true then stp r (nxt r S) n else none
theorem stp_srt (r : Rul) : ∀ (n : Nat) (S T : List Cel), Srt S → stp r S n = some T → Srt T
  | 0, S, T, h, e => by cases e; exact h
  | n + 1, S, T, h, e => by
    unfold stp at e
    split at e
    · exact stp_srt r n _ T (nxt_srt r S) e
    · cases e
theorem stp_fine (r : Rul) : ∀ (n : Nat) (S T : List Cel), fine S = true → stp r S n = some T → fine T = true
  | 0, S, T, h, e => by cases e; exact h
  | n + 1, S, T, h, e => by
    unfold stp at e
    split at e
    · rename_i hf
      exact stp_fine r n _ T hf e
    · cases e
/-- n generations, then one more -/
theorem stp_snoc (r : Rul) : ∀ (n : Nat) (S T : List Cel), stp r S n = some T → stp r S (n + 1) = if fine (nxt r T) = true then some (nxt r T) else none
  | 0, S, T, e => by cases e; rfl
  | n + 1, S, T, e => by
    unfold stp at e ⊢
    split at e
    · rename_i hf
      rw [if_pos hf]
      exact stp_snoc r n _ T e
    · cases e
theorem stp_none (r : Rul) : ∀ (n m : Nat) (S : List Cel), stp r S n = none → n ≤ m → stp r S m = none
  | 0, _, _, e, _ => by cases e
  | n + 1, 0, _, _, h => absurd h (by omega)
  | n + 1, m + 1, S, e, h => by
    unfold stp at e ⊢
    split at e
    · rename_i hf
      rw [if_pos hf]
      exact stp_none r n m _ e (by omega)
    · rename_i hf
      rw [if_neg hf]
theorem cnt_le (S : List Cel) (h : S.Nodup) (c : Cel) : cnt S c ≤ 8 := by
  have hn : (S.filter fun s => adj s c).Nodup := h.filter _
  have := len_le_of_sub _ ((List.range 9).map (pos c) |>.erase c) hn (fun x hx => by
    have hx2 := (List.mem_filter.1 hx).2
    unfold adj at hx2
    rw [Bool.and_eq_true, near_iff] at hx2
    have hne : x ≠ c := by simpa using hx2.2
    refine (List.mem_erase_of_ne hne).2 ?_
    obtain ⟨j, hj, e⟩ := pos_near.2 (show c.1 - 1 ≤ x.1 ∧ x.1 ≤ c.1 + 1 ∧ c.2 - 1 ≤ x.2 ∧ x.2 ≤ c.2 + 1 by omega)
    exact List.mem_map.2 ⟨j, List.mem_range.2 hj, e.symm⟩)
  rw [List.length_erase_of_mem (List.mem_map.2 ⟨4, by decide, by simp [pos]⟩)] at this
  simpa [cnt] using this
theorem cnt_perm {S T : List Cel} (h : S.Perm T) (c : Cel) : cnt S c = cnt T c := (h.filter _).length_eq
theorem alive_perm {S T : List Cel} (r : Rul) (h : S.Perm T) (c : Cel) : alive r S c = alive r T c := by
  unfold alive
  rw [cnt_perm h, decide_eq_decide.2 (h.mem_iff (a := c))]
end Go.Proofs.Yticnhpddidaaeaa.Ce

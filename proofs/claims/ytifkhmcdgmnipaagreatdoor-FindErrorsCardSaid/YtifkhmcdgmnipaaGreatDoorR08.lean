/-
  How many rows, or columns, are free at a side of a square (plain): step by step down the levels.
-/
import Derived.Test.YtifkhmcdgmnipaaGreatDoorR07
namespace Go.Proofs.YtifkhmcdgmnipaaGreatDoor.Qd
open Ti Ce

/-- how far a cell is from a side: left, above, right, below -/
def dst (s n : Nat) (c : Cel) : Int := if s = 0 then c.1 else if s = 1 then c.2 else if s = 2 then ((2 ^ (n + 3) : Nat) : Int) - 1 - c.1 else ((2 ^ (n + 3) : Nat) : Int) - 1 - c.2
/-- the least of it, over squares of a level -/
def Mn (L : List Sq) (n : Nat) (S : List Int) (s : Nat) (d : Int) : Prop := (∃ id ∈ S, ∃ c ∈ lst L n id, dst s n c = d) ∧ ∀ id ∈ S, ∀ c ∈ lst L n id, d ≤ dst s n c
/-- the two of four at a side -/
def ner (s j : Nat) : Nat := if s = 0 then 2 * j else if s = 1 then j else if s = 2 then 1 + 2 * j else 2 + j
def isN (s i : Nat) : Bool := decide (i = ner s 0) || decide (i = ner s 1)
theorem ner_lt {s j : Nat} (_hs : s < 4) (hj : j < 2) : ner s j < 4 := by unfold ner; split <;> (try split) <;> (try split) <;> omega
/-- the squares of S at a level below, in which some cell lives -/
structure Nx (L : List Sq) (S N : List Int) (s : Nat) : Prop where
  nd : N.Nodup
  mem : ∀ k, k ∈ N ↔ ∃ id ∈ S, ∃ j < 2, k = kid (at' L id) (ner s j) ∧ 0 < (at' L k).cnt
/-- squares of a level, with cells, each once -/
structure Fr (L : List Sq) (n : Nat) (S : List Int) : Prop where
  ne : S ≠ []
  nd : S.Nodup
  lv : ∀ id ∈ S, Lv L n id
  cn : ∀ id ∈ S, 0 < (at' L id).cnt
theorem lst_node {L : List Sq} {n : Nat} {id : Int} {c : Cel} : c ∈ lst L (n + 1) id ↔ ∃ i, i < 4 ∧ ∃ d ∈ lst L n (kid (at' L id) i), c = sh (crn (2 ^ (n + 3)) i) d := by
  show c ∈ (List.range 4).flatMap _ ↔ _
  rw [List.mem_flatMap]
  constructor
  · rintro ⟨i, h4, hc⟩
    obtain ⟨d, hd, rfl⟩ := List.mem_map.1 hc
    exact ⟨i, List.mem_range.1 h4, d, hd, rfl⟩
  · rintro ⟨i, h4, d, hd, rfl⟩
    exact ⟨i, List.mem_range.2 h4, List.mem_map.2 ⟨d, hd, rfl⟩⟩
theorem dst_sh (s n i : Nat) (hs : s < 4) (h4 : i < 4) (d : Cel) : dst s (n + 1) (sh (crn (2 ^ (n + 3)) i) d) = dst s n d + if isN s i = true then 0 else ((2 ^ (n + 3) : Nat) : Int) := by
  have h2 : 2 ^ (n + 1 + 3) = 2 * 2 ^ (n + 3) := by rw [show n + 1 + 3 = (n + 3) + 1 by omega, Nat.pow_succ]; omega
  unfold dst
  rw [h2]
  generalize 2 ^ (n + 3) = h
  have c1 : i = 0 ∨ i = 1 ∨ i = 2 ∨ i = 3 := by omega
  have c2 : s = 0 ∨ s = 1 ∨ s = 2 ∨ s = 3 := by omega
  rcases c1 with rfl | rfl | rfl | rfl <;> rcases c2 with rfl | rfl | rfl | rfl <;> simp [isN, ner, sh, crn] <;> omega
theorem dst_in {L : List Sq} (hi : Inv L) {s n : Nat} {id : Int} {c : Cel} (hl : Lv L n id) (h : c ∈ lst L n id) : 0 ≤ dst s n c ∧ dst s n c < ((2 ^ (n + 3) : Nat) : Int) := by
  have := lst_in hi hl h
  unfold dst
  split
  · omega
  · split
    · omega
    · split <;> omega
theorem cnt_pos {L : List Sq} (hi : Inv L) {n : Nat} {id : Int} (hl : Lv L n id) : 0 < (at' L id).cnt ↔ ∃ c, c ∈ lst L n id := by
  have h1 := cnt_lst hi n id hl
  have h2 := cnt_zero hi hl
  constructor
  · intro h
    cases e : lst L n id with
    | nil => exact absurd (h2.2 e) (by omega)
    | cons c l => exact ⟨c, by simp⟩
  · rintro ⟨c, hc⟩
    have : ¬ (at' L id).cnt = 0 := fun e => by rw [h2.1 e] at hc; cases hc
    unfold big at h1
    omega
theorem Fr.near {L : List Sq} (hi : Inv L) {n s : Nat} {S N : List Int} (h : Fr L (n + 1) S) (hN : Nx L S N s) (hne : N ≠ []) : Fr L n N :=
  ⟨hne, hN.nd, fun k hk => by obtain ⟨id, hid, j, _, rfl, _⟩ := (hN.mem k).1 hk; exact hi.kid (h.lv id hid) _, fun k hk => by obtain ⟨id, hid, j, _, rfl, hc⟩ := (hN.mem k).1 hk; exact hc⟩
/-- some cell lives at the near side -/
theorem step_near {L : List Sq} (hi : Inv L) {n s : Nat} (hs : s < 4) {S N : List Int} (h : Fr L (n + 1) S) (hN : Nx L S N s) (hne : N ≠ []) {d : Int} (hm : Mn L n N s d) : Mn L (n + 1) S s d := by
  obtain ⟨⟨k, hk, c, hc, hd⟩, hall⟩ := hm
  have hlt : d < ((2 ^ (n + 3) : Nat) : Int) := by rw [← hd]; exact (dst_in hi ((h.near hi hN hne).lv k hk) hc).2
  refine ⟨?_, fun id hid c' hc' => ?_⟩
  · obtain ⟨id, hid, j, hj, rfl, _⟩ := (hN.mem k).1 hk
    refine ⟨id, hid, sh (crn (2 ^ (n + 3)) (ner s j)) c, lst_node.2 ⟨_, ner_lt hs hj, c, hc, rfl⟩, ?_⟩
    rw [dst_sh s n _ hs (ner_lt hs hj), if_pos, hd]
    · omega
    · unfold isN
      have : j = 0 ∨ j = 1 := by omega
      rcases this with rfl | rfl <;> simp
  · obtain ⟨i, hi4, e, he, rfl⟩ := lst_node.1 hc'
    have hb := dst_in (s := s) hi (hi.kid (h.lv id hid) i) he
    rw [dst_sh s n i hs hi4]
    by_cases g : isN s i = true
    · rw [if_pos g]
      have hj : ∃ j, j < 2 ∧ i = ner s j := by
        unfold isN at g
        rw [Bool.or_eq_true, decide_eq_true_eq, decide_eq_true_eq] at g
        rcases g with g | g
        · exact ⟨0, by omega, g⟩
        · exact ⟨1, by omega, g⟩
      obtain ⟨j, hj, rfl⟩ := hj
      have := hall (kid (at' L id) (ner s j)) ((hN.mem _).2 ⟨id, hid, j, hj, rfl, (cnt_pos hi (hi.kid (h.lv id hid) _)).2 ⟨e, he⟩⟩) e he
      omega
    · rw [if_neg g]
      omega
theorem far_ner {s i : Nat} (hs : s < 4) (h4 : i < 4) (h : ¬ isN s i = true) : ∃ j, j < 2 ∧ i = ner ((s + 2) % 4) j := by
  have c1 : i = 0 ∨ i = 1 ∨ i = 2 ∨ i = 3 := by omega
  have c2 : s = 0 ∨ s = 1 ∨ s = 2 ∨ s = 3 := by omega
  rcases c1 with rfl | rfl | rfl | rfl <;> rcases c2 with rfl | rfl | rfl | rfl <;> first | (exact absurd (by decide) h) | exact ⟨0, by decide, by decide⟩ | exact ⟨1, by decide, by decide⟩
theorem ner_far {s j : Nat} (hs : s < 4) (hj : j < 2) : isN s (ner ((s + 2) % 4) j) = false := by
  have c1 : j = 0 ∨ j = 1 := by omega
  have c2 : s = 0 ∨ s = 1 ∨ s = 2 ∨ s = 3 := by omega
  rcases c1 with rfl | rfl <;> rcases c2 with rfl | rfl | rfl | rfl <;> decide
theorem near_no {L : List Sq} (hi : Inv L) {n s : Nat} {S : List Int} (h : Fr L (n + 1) S) (hN : Nx L S [] s) {id : Int} (hid : id ∈ S) {i : Nat} {e : Cel} (he : e ∈ lst L n (kid (at' L id) i)) : ¬ isN s i = true := by
  intro g
  have hj : ∃ j, j < 2 ∧ i = ner s j := by
    unfold isN at g
    rw [Bool.or_eq_true, decide_eq_true_eq, decide_eq_true_eq] at g
    rcases g with g | g
    · exact ⟨0, by omega, g⟩
    · exact ⟨1, by omega, g⟩
  obtain ⟨j, hj, rfl⟩ := hj
  have := (hN.mem (kid (at' L id) (ner s j))).2 ⟨id, hid, j, hj, rfl, (cnt_pos hi (hi.kid (h.lv id hid) _)).2 ⟨e, he⟩⟩
  cases this
theorem Fr.far {L : List Sq} (hi : Inv L) {n s : Nat} (hs : s < 4) {S N : List Int} (h : Fr L (n + 1) S) (h0 : Nx L S [] s) (hN : Nx L S N ((s + 2) % 4)) : Fr L n N := by
  refine ⟨?_, hN.nd, fun k hk => by obtain ⟨id, hid, j, _, rfl, _⟩ := (hN.mem k).1 hk; exact hi.kid (h.lv id hid) _, fun k hk => by obtain ⟨id, hid, j, _, rfl, hc⟩ := (hN.mem k).1 hk; exact hc⟩
  obtain ⟨id, hid⟩ := List.exists_mem_of_ne_nil _ h.ne
  obtain ⟨c, hc⟩ := (cnt_pos hi (h.lv id hid)).1 (h.cn id hid)
  obtain ⟨i, h4, e, he, _⟩ := lst_node.1 hc
  obtain ⟨j, hj, rfl⟩ := far_ner hs h4 (near_no hi h h0 hid he)
  intro e0
  have := (hN.mem (kid (at' L id) (ner ((s + 2) % 4) j))).2 ⟨id, hid, j, hj, rfl, (cnt_pos hi (hi.kid (h.lv id hid) _)).2 ⟨e, he⟩⟩
  rw [e0] at this
  cases this
/-- none lives at the near side -/
theorem step_far {L : List Sq} (hi : Inv L) {n s : Nat} (hs : s < 4) {S N : List Int} (h : Fr L (n + 1) S) (h0 : Nx L S [] s) (hN : Nx L S N ((s + 2) % 4)) {d : Int} (hm : Mn L n N s d) : Mn L (n + 1) S s (((2 ^ (n + 3) : Nat) : Int) + d) := by
  obtain ⟨⟨k, hk, c, hc, hd⟩, hall⟩ := hm
  refine ⟨?_, fun id hid c' hc' => ?_⟩
  · obtain ⟨id, hid, j, hj, rfl, _⟩ := (hN.mem k).1 hk
    have hl4 : ner ((s + 2) % 4) j < 4 := ner_lt (by omega) hj
    refine ⟨id, hid, sh (crn (2 ^ (n + 3)) (ner ((s + 2) % 4) j)) c, lst_node.2 ⟨_, hl4, c, hc, rfl⟩, ?_⟩
    rw [dst_sh s n _ hs hl4, ner_far hs hj, hd, if_neg (by simp)]
    omega
  · obtain ⟨i, hi4, e, he, rfl⟩ := lst_node.1 hc'
    have hno := near_no hi h h0 hid he
    rw [dst_sh s n i hs hi4, if_neg hno]
    obtain ⟨j, hj, rfl⟩ := far_ner hs hi4 hno
    have := hall (kid (at' L id) (ner ((s + 2) % 4) j)) ((hN.mem _).2 ⟨id, hid, j, hj, rfl, (cnt_pos hi (hi.kid (h.lv id hid) _)).2 ⟨e, he⟩⟩) e he
    omega
theorem sub_len {α : Type} [DecidableEq α] : ∀ (a b : List α), a.Nodup → (∀ x ∈ a, x ∈ b) → a.length ≤ b.length
  | [], _, _, _ => by simp
  | x :: a, b, h, k => by
    obtain ⟨h1, h2⟩ := List.nodup_cons.1 h
    have hx : x ∈ b := k x (by simp)
    have := sub_len a (b.erase x) h2 (fun y hy => by
      have hne : y ≠ x := fun e => h1 (e ▸ hy)
      exact (List.mem_erase_of_ne hne).2 (k y (by simp [hy])))
    rw [List.length_erase_of_mem hx] at this
    have hp : 0 < b.length := List.length_pos_of_mem hx
    simp only [List.length_cons]
    omega
theorem Fr.len {L : List Sq} {n : Nat} {S : List Int} (h : Fr L n S) : S.length ≤ L.length := by
  have := sub_len S ((List.range L.length).map fun i => ((i : Nat) : Int) + 1) h.nd (fun k hk => by
    have := (h.lv k hk).1
    unfold Ok at this
    exact List.mem_map.2 ⟨(k - 1).toNat, List.mem_range.2 (by omega), by omega⟩)
  simpa using this
end Go.Proofs.YtifkhmcdgmnipaaGreatDoor.Qd

/-
  A PAGE AND ITS BYTES, one from the other and back: plain mathematics. Conditions: those that each lemma names.
-/
import Derived.Test.YtlfkkakohldgnaaGreatDoorN30
import Derived.Test.YtlfkkakohldgnaaGreatDoorN20
namespace Go.Proofs.YtlfkkakohldgnaaGreatDoor.Sm
open Go.RowKit Crc

theorem cutb_app (A B C : List Int) (i m : Nat) (hA : A.length = i) (hB : B.length = m) : cutb (A ++ (B ++ C)) i m = B := by
  unfold cutb
  rw [List.drop_append_of_le_length (by omega), List.drop_of_length_le (by omega), List.nil_append, List.take_left' hB]
theorem cutb_join (xs : List Int) (i m k : Nat) : cutb xs i m ++ cutb xs (i + m) k = cutb xs i (m + k) := by
  unfold cutb
  rw [List.take_add, List.drop_drop]
theorem cutb_zero (xs : List Int) (m : Nat) : cutb xs 0 m = xs.take m := rfl
/-- a page's numbers fit -/
structure Pg.Fit (p : Pg) : Prop where
  k0 : 0 ≤ p.kind
  k1 : p.kind < 256
  n0 : 0 ≤ p.number
  n1 : p.number < 4294967296
  e0 : 0 ≤ p.epoch
  e1 : p.epoch < 18446744073709551616
theorem drop_flat (s : Nat) (rs : List (List Int)) (h : ∀ r ∈ rs, r.length = s) (i : Nat) (hi : i ≤ rs.length) : rs.flatten.drop (i * s) = (rs.drop i).flatten := by
  induction rs generalizing i with
  | nil => simp
  | cons r rs ih =>
    cases i with
    | zero => simp
    | succ i =>
      have hr := h r (by simp)
      rw [List.flatten_cons, List.drop_succ_cons, Nat.succ_mul, List.drop_append, List.drop_of_length_le (by omega), List.nil_append, hr]
      have e : i * s + s - s = i * s := by omega
      rw [e]
      exact ih (fun q hq => h q (by simp [hq])) i (by simpa using hi)
theorem prts_flat (s : Nat) (rs : List (List Int)) (T : List Int) (h : ∀ r ∈ rs, r.length = s) : prts (rs.flatten ++ T) s rs.length = rs := by
  apply List.ext_getElem
  · exact prts_len _ _ _
  · intro i h1 h2
    rw [prts_get]
    have hle : i * s ≤ rs.flatten.length := by rw [flat_len s rs h]; exact Nat.mul_le_mul_right s (by omega)
    unfold prt
    rw [List.drop_append_of_le_length hle, drop_flat s rs h i (by omega), List.drop_eq_getElem_cons h2, List.flatten_cons, List.append_assoc, List.take_left' (h _ (List.getElem_mem h2))]
theorem bytes_eq (p : Pg) : p.bytes = p.head ++ (p.recs.flatten ++ (List.replicate (508 - p.front.length) 0 ++ tls (pad 508 p.front))) := by
  unfold Pg.bytes mk
  rw [pad]
  unfold Pg.front
  simp only [List.append_assoc]
theorem head_eq (p : Pg) (R : List Int) : p.head ++ R = be 1 p.kind ++ (be 4 p.number ++ (be 8 p.epoch ++ (be 2 p.size ++ (be 1 p.recs.length ++ R)))) := by
  unfold Pg.head
  simp only [List.append_assoc]
theorem bytes_number (p : Pg) (hf : p.Fit) : num256 (cutb p.bytes 1 4) = p.number := by
  rw [bytes_eq, head_eq, cutb_app _ _ _ 1 4 (be_len _ _) (be_len _ _), num_be 4 _ hf.n0 hf.n1]
theorem bytes_epoch (p : Pg) (hf : p.Fit) : num256 (cutb p.bytes 5 8) = p.epoch := by
  rw [bytes_eq, head_eq, ← List.append_assoc, cutb_app _ _ _ 5 8 (by simp [be_len]) (be_len _ _), num_be 8 _ hf.e0 hf.e1]
theorem bytes_size (p : Pg) (h : p.may = true) : num256 (cutb p.bytes 13 2) = p.size := by
  have hs := may_size h
  rw [bytes_eq, head_eq, ← List.append_assoc, ← List.append_assoc, cutb_app _ _ _ 13 2 (by simp [be_len]) (be_len _ _), num_be 2 _ (by omega) (by have : (256 : Int) ^ 2 = 65536 := rfl; omega)]
theorem bytes_count (p : Pg) (h : p.may = true) : p.bytes[15]? = some (p.recs.length : Int) := by
  obtain ⟨s, _, _, _, hl, _⟩ := may_nat h
  have hb := be1 (p.recs.length : Int) (by omega) (by omega)
  rw [bytes_eq, head_eq, ← List.append_assoc, ← List.append_assoc, ← List.append_assoc, List.getElem?_append_right (by simp [be_len])]
  simp [be_len, hb]
theorem bytes_kind (p : Pg) (hf : p.Fit) : p.bytes.getD 0 0 = p.kind := by
  rw [bytes_eq, head_eq, be1 _ hf.k0 hf.k1]
  rfl
theorem bytes_drop (p : Pg) : p.bytes.drop 16 = p.recs.flatten ++ (List.replicate (508 - p.front.length) 0 ++ tls (pad 508 p.front)) := by
  rw [bytes_eq, List.drop_append_of_le_length (by rw [head_len]; omega), List.drop_of_length_le (by rw [head_len]; omega), List.nil_append]
theorem zeros_bad (n : Nat) : (List.replicate n (0 : Int)).any badN = false := by
  rw [List.any_eq_false]
  intro x hx
  rw [List.eq_of_mem_replicate hx]
  decide
theorem bytes_form (p : Pg) (s : Nat) (h : p.may = true) (hs : p.size = s) : formOk p.bytes s p.recs.length = true := by
  obtain ⟨s', hs', _, _, _, hm, hr⟩ := may_nat h
  have e : s' = s := by omega
  subst e
  have hfl := flat_len s' p.recs hr
  have hfr : p.front.length = 16 + p.recs.length * s' := by rw [Pg.front, List.length_append, head_len, hfl]
  unfold formOk
  have hfit : fitsB (s' : Int) p.recs.length = true := by
    have h2 := h
    unfold Pg.may at h2
    rw [Bool.and_eq_true, hs'] at h2
    exact h2.1
  rw [hfit, bytes_eq, ← List.append_assoc, cutb_app _ _ _ _ _ (by rw [List.length_append, head_len, hfl]) (by rw [List.length_replicate, hfr]), zeros_bad]
  rfl
/-- the page of a page's bytes is it -/
theorem page_back (p : Pg) (s : Nat) (hf : p.Fit) (h : p.may = true) (hs : p.size = s) : pgOf p.bytes s p.recs.length = p := by
  obtain ⟨s', hs', _, _, _, hm, hr⟩ := may_nat h
  have e : s' = s := by omega
  subst e
  unfold pgOf
  rw [bytes_kind p hf, bytes_number p hf, bytes_epoch p hf, bytes_drop, prts_flat s' p.recs _ hr, ← hs']
theorem bytes_good (p : Pg) : isGood p.bytes = true := good_mk _
/-! ### and the other way round -/
theorem be_cutb {xs : List Int} (h : Byte xs) (i m : Nat) (hl : i + m ≤ xs.length) : be m (num256 (cutb xs i m)) = cutb xs i m := by
  have := be_num _ (h.cutb i m)
  rwa [cutb_len hl] at this
theorem flat_prts (ys : List Int) (s n : Nat) (h : n * s ≤ ys.length) : (prts ys s n).flatten = ys.take (n * s) := by
  induction n with
  | zero => simp [prts]
  | succ n ih =>
    have e : prts ys s (n + 1) = prts ys s n ++ [prt ys s n] := by simp [prts, List.range_succ]
    rw [Nat.succ_mul] at h ⊢
    rw [e, List.flatten_append, ih (by omega), List.take_add]
    simp [prt]
theorem all_zero (xs : List Int) (h : xs.any badN = false) : xs = List.replicate xs.length 0 := by
  rw [List.any_eq_false] at h
  apply List.eq_replicate_of_mem
  intro x hx
  have := h x hx
  simpa [badN] using this
theorem pgOf_may {xs : List Int} {s n : Nat} (hl : xs.length = 512) (hf : formOk xs s n = true) : (pgOf xs s n).may = true := by
  unfold formOk at hf
  rw [Bool.and_eq_true] at hf
  obtain ⟨m1, m2, m3, m4⟩ := fits_mul hf.1
  unfold Pg.may pgOf
  simp only [prts_len]
  rw [hf.1, Bool.true_and, Bool.not_eq_true', List.any_eq_false]
  intro r hr
  simp only [prts, List.mem_map, List.mem_range] at hr
  obtain ⟨i, hi, rfl⟩ := hr
  have h1 : (i + 1) * s ≤ n * s := Nat.mul_le_mul_right s (by omega)
  rw [Nat.succ_mul] at h1
  have e : (prt (xs.drop 16) s i).length = s := by unfold prt; rw [List.length_take, List.length_drop, List.length_drop]; omega
  simp [badB, e]
theorem bytes_back {xs : List Int} {s n : Nat} (hb : Byte xs) (hl : xs.length = 512) (hg : isGood xs = true) (hs : num256 (cutb xs 13 2) = s) (hk : xs[15]? = some (n : Int)) (hf : formOk xs s n = true) : (pgOf xs s n).bytes = xs := by
  have hf' := hf
  unfold formOk at hf
  rw [Bool.and_eq_true, Bool.not_eq_true'] at hf
  obtain ⟨m1, m2, m3, m4⟩ := fits_mul hf.1
  have hz := all_zero _ hf.2
  rw [cutb_len (by omega)] at hz
  have hh : (pgOf xs s n).head = xs.take 16 := by
    unfold Pg.head pgOf
    simp only [prts_len]
    obtain ⟨h15, e15⟩ := List.getElem?_eq_some_iff.1 hk
    have e0 : be 1 (xs.getD 0 0) = cutb xs 0 1 := by
      have h0 : xs.getD 0 0 = num256 (cutb xs 0 1) := by
        cases xs with
        | nil => simp at hl
        | cons x xs => simp [cutb, num256]
      rw [h0, be_cutb hb 0 1 (by omega)]
    have e4 : be 1 (n : Int) = cutb xs 15 1 := by
      have h0 : (n : Int) = num256 (cutb xs 15 1) := by
        have hd : cutb xs 15 1 = [xs[15]] := by
          unfold cutb
          rw [List.drop_eq_getElem_cons h15]
          rfl
        rw [hd, e15]
        simp [num256]
      rw [h0, be_cutb hb 15 1 (by omega)]
    rw [e0, be_cutb hb 1 4 (by omega), be_cutb hb 5 8 (by omega), ← hs, be_cutb hb 13 2 (by omega), e4, cutb_join xs 0 1 4, cutb_join xs 0 5 8, cutb_join xs 0 13 2, cutb_join xs 0 15 1]
    rfl
  have hfl : (pgOf xs s n).recs.flatten = cutb xs 16 (n * s) := flat_prts _ _ _ (by rw [List.length_drop, hl]; omega)
  have hfr : (pgOf xs s n).front = xs.take (16 + n * s) := by
    unfold Pg.front
    rw [hh, hfl, ← cutb_zero xs 16, ← cutb_zero xs, ← cutb_join xs 0 16]
  have hp : pad 508 (pgOf xs s n).front = xs.take 508 := by
    unfold pad
    rw [hfr, List.length_take, hl, Nat.min_eq_left (by omega), ← hz, ← cutb_zero xs, ← cutb_zero xs 508]
    have e2 := cutb_join xs 0 (16 + n * s) (508 - (16 + n * s))
    rw [Nat.zero_add] at e2
    rw [e2]
    congr 1
    omega
  unfold Pg.bytes
  rw [hp]
  have := good_same hb (by omega) hg
  unfold mkd at this
  rwa [hl] at this
end Go.Proofs.YtlfkkakohldgnaaGreatDoor.Sm

/-
  WHAT A FLUSH MAKES OF A POOL, AND WHAT ALL CALLS LEAVE AS IT IS: no program in it. Conditions: those that each lemma names.
-/
import Derived.Test.YtkmedlbokneegaaDoorSe
namespace Go.Proofs.YtkmedlbokneegaaDoor
open Go.RowKit Go.Maps

/-- nothing is held -/
def Free (X : Px) : Prop := ∀ k, (X.fr k).h = 0
theorem Free.held {N : Nat} {X : Px} (h : Free X) (o : X.Ok N) : X.held = false := held_not (j := 0) o.m0 (h 0)
theorem Free.fresh (d : Dk) (m : Nat) : Free (Px.fresh d m) := fun _ => rfl
theorem free_put {X : Px} (h : Free X) {k : Nat} {f : Fr} (hf : f.h = 0) : Free (X.put k f) := fun j => by
  rw [put_fr]; split
  · exact hf
  · exact h j
theorem find_free {N : Nat} {X : Px} (h : Free X) (o : X.Ok N) {i : Int} (h0 : (findP X i).2.2 = 0) : Free (findP X i).1 := by
  cases ha : X.at i with
  | some k => rw [findP_some ha]; exact h
  | none =>
    have F := find_found o ha h0
    intro j
    by_cases e : j = (findP X i).2.1
    · rw [e, F.fk]; rfl
    · rw [F.oh j e]; exact h j
theorem find_mn {N : Nat} {X : Px} (o : X.Ok N) {i : Int} (h0 : (findP X i).2.2 = 0) : (findP X i).1.m = X.m ∧ (findP X i).1.d.n = X.d.n ∧ (findP X i).1.loads = X.loads := by
  cases ha : X.at i with
  | some k => rw [findP_some ha]; exact ⟨rfl, rfl, rfl⟩
  | none =>
    have F := find_found o ha h0
    exact ⟨F.m, F.n, F.loads⟩
structure Keep (X Y : Px) : Prop where
  m : Y.m = X.m
  n : Y.d.n = X.d.n
  free : Free Y
theorem write_keep {N : Nat} {X : Px} {ct : Nat → ByteArray} (S : Sem X ct) (hfr : Free X) (o : X.Ok N) {q : Nat} (hq : q < X.d.n) {t : ByteArray} (hz : t.size = 512) (hg : goodT t = true) : Keep X (writeP X q t).1 := by
  have h0 := find_zero o (i := (q : Int)) (.inr (.inr (hfr.held o))) (by rw [S.left]; decide)
  rw [writeP_ok (by omega) hz hg, if_pos h0]
  obtain ⟨h1, h2, _⟩ := find_mn o h0
  have h3 := find_free hfr o h0
  exact ⟨h1, h2, free_put h3 (h3 _)⟩
theorem read_keep {N : Nat} {X : Px} {ct : Nat → ByteArray} (S : Sem X ct) (hfr : Free X) (o : X.Ok N) {q : Nat} (hq : q < X.d.n) : Keep X (readP X q).1 := by
  unfold readP
  cases ha : X.at (q : Int) with
  | some k =>
    rw [handP_some (by omega) ha]
    exact ⟨rfl, rfl, free_put hfr (hfr k)⟩
  | none =>
    rw [handP_none (by omega) ha]
    cases hg : goodT (X.d.cur q)
    · rw [fetchP_bad hg]
      exact ⟨rfl, rfl, hfr⟩
    · have h0 := find_zero o.load (i := (q : Int)) (.inr (.inr (hfr.held o))) (by show X.d.left ≠ 0; rw [S.left]; decide)
      rw [fetchP_good hg, if_pos h0]
      obtain ⟨h1, h2, _⟩ := find_mn o.load h0
      have h3 := find_free (X := X.load) hfr o.load h0
      exact ⟨h1, h2, free_put h3 (h3 _)⟩

/-! a flush -/
structure Cleaned (X Y : Px) (k : Nat) : Prop where
  m : Y.m = X.m
  c : Y.c = X.c
  n : Y.d.n = X.d.n
  loads : Y.loads = X.loads
  d : (Y.fr k).d = false
  od : ∀ j, j ≠ k → (Y.fr j).d = (X.fr j).d
  i : ∀ j, (Y.fr j).i = (X.fr j).i
  t : ∀ j, (Y.fr j).t = (X.fr j).t
  h : ∀ j, (Y.fr j).h = (X.fr j).h
theorem clean_sem {N : Nat} {X : Px} {ct : Nat → ByteArray} (S : Sem X ct) (o : X.Ok N) (k : Nat) : (cleanP X k).2 = 0 ∧ Sem (cleanP X k).1 ct ∧ Cleaned X (cleanP X k).1 k := by
  cases hd : (X.fr k).d
  · rw [cleanP_no hd]
    exact ⟨rfl, S, rfl, rfl, rfl, rfl, hd, fun _ _ => rfl, fun _ => rfl, fun _ => rfl, fun _ => rfl⟩
  · have hkc : k < X.c := by
      by_cases e : k < X.c
      · exact e
      · rw [o.emp k (by omega)] at hd; cases hd
    rw [cleanP_ok hd (by rw [S.left]; decide)]
    have hfr : ∀ j, (((X.disk (X.d.wrote (X.fr k).i.toNat (X.fr k).t)).put k { X.fr k with d := false }).fr j).i = (X.fr j).i ∧ (((X.disk (X.d.wrote (X.fr k).i.toNat (X.fr k).t)).put k { X.fr k with d := false }).fr j).t = (X.fr j).t ∧ (((X.disk (X.d.wrote (X.fr k).i.toNat (X.fr k).t)).put k { X.fr k with d := false }).fr j).h = (X.fr j).h := fun j => by
      rw [put_fr]; split
      · rename_i e; rw [e]; exact ⟨rfl, rfl, rfl⟩
      · exact ⟨rfl, rfl, rfl⟩
    refine ⟨rfl, ⟨fun j hj => ?_, fun j hj => ?_, fun j hj => ?_, fun j hj => ?_, fun p hp h => ?_, wrote_left _ _ _ S.left⟩, rfl, rfl, rfl, rfl, by rw [put_same], fun j hj => by rw [put_other _ _ _ hj]; rfl, fun j => (hfr j).1, fun j => (hfr j).2.1, fun j => (hfr j).2.2⟩
    · rw [(hfr j).1, (hfr j).2.1]; exact S.t j hj
    · rw [(hfr j).2.1]; exact S.z j hj
    · rw [(hfr j).2.1]; exact S.g j hj
    · rw [(hfr j).1, (hfr j).2.1]
      intro h
      show (X.d.wrote _ _).cur _ = _
      rw [wrote_cur]
      by_cases e : j = k
      · rw [e, if_pos rfl]
      · rw [put_other _ _ _ e] at h
        rw [if_neg (fun e2 => e (o.inj j k hj hkc (by have := (o.sec j hj).1; have := (o.sec k hkc).1; omega)))]
        exact S.cl j hj h
    · have hX : X.at (p : Int) = none := by
        rw [← h]
        exact (at_congr (X := X) (Y := (X.disk (X.d.wrote (X.fr k).i.toNat (X.fr k).t)).put k { X.fr k with d := false }) rfl (fun j => (hfr j).1) _).symm
      show (X.d.wrote _ _).cur _ = _
      rw [wrote_cur, if_neg (fun e => at_none hX k hkc (by have := (o.sec k hkc).1; omega))]
      exact S.out p hp hX
theorem clean_ok {N : Nat} {X : Px} (o : X.Ok N) (k : Nat) : (cleanP X k).1.Ok (N + 1) := by
  cases hd : (X.fr k).d
  · rw [cleanP_no hd]; exact o.mono (by omega)
  · have hkc : k < X.c := by
      by_cases e : k < X.c
      · exact e
      · rw [o.emp k (by omega)] at hd; cases hd
    by_cases hl : X.d.left = 0
    · rw [cleanP_full hd hl]; exact o.mono (by omega)
    · rw [cleanP_ok hd hl]
      have hs : (X.fr k).t.size = 512 ∨ ((X.fr k).t.size = 0 ∧ false = false) := by rcases o.siz k with q | q; exact .inl q; exact .inr ⟨q.1, rfl⟩
      exact (o.wrote _ _).put (k := k) hkc rfl hs (Nat.le_succ_of_le (o.hN k)) (Nat.le_refl _)
/-- behind a flush nothing is dirty, and the disk has all -/
structure Flat (X Y : Px) (ct : Nat → ByteArray) : Prop where
  m : Y.m = X.m
  c : Y.c = X.c
  n : Y.d.n = X.d.n
  loads : Y.loads = X.loads
  d : ∀ j, j < X.m → (Y.fr j).d = false
  i : ∀ j, (Y.fr j).i = (X.fr j).i
  h : ∀ j, (Y.fr j).h = (X.fr j).h
  sem : Sem Y ct
theorem flushN_sem {ct : Nat → ByteArray} : ∀ (n : Nat) (N k : Nat) (X : Px), X.Ok N → Sem X ct → k + n = X.m → (∀ j, j < k → (X.fr j).d = false) → (flushN n k X).2 = 0 ∧ Flat X (flushN n k X).1 ct
  | 0, N, k, X, o, S, hk, hd => ⟨rfl, rfl, rfl, rfl, rfl, fun j hj => hd j (by omega), fun _ => rfl, fun _ => rfl, S⟩
  | n + 1, N, k, X, o, S, hk, hd => by
    obtain ⟨h0, S1, C⟩ := clean_sem S o k
    rw [flushN_go h0]
    have hd1 : ∀ j, j < k + 1 → ((cleanP X k).1.fr j).d = false := fun j hj => by
      by_cases e : j = k
      · rw [e]; exact C.d
      · rw [C.od j e]; exact hd j (by omega)
    obtain ⟨e1, F⟩ := flushN_sem n (N + 1) (k + 1) (cleanP X k).1 (clean_ok o k) S1 (by rw [C.m]; omega) hd1
    exact ⟨e1, F.m.trans C.m, F.c.trans C.c, F.n.trans C.n, F.loads.trans C.loads, fun j hj => F.d j (by rw [C.m]; exact hj), fun j => (F.i j).trans (C.i j), fun j => (F.h j).trans (C.h j), F.sem⟩
theorem Sem.flushed {X : Px} {ct : Nat → ByteArray} (S : Sem X ct) : Sem (X.disk X.d.flush) ct := ⟨S.t, S.z, S.g, S.cl, S.out, S.left⟩
theorem flush_sem {N : Nat} {X : Px} {ct : Nat → ByteArray} (S : Sem X ct) (o : X.Ok N) : (flushP X).2 = 0 ∧ Flat X (flushP X).1 ct ∧ (flushP X).1.d.pend = [] := by
  obtain ⟨h0, F⟩ := flushN_sem X.m N 0 X o S (Nat.zero_add _) (fun j hj => absurd hj (Nat.not_lt_zero _))
  unfold flushP
  rw [if_pos h0]
  exact ⟨rfl, ⟨F.m, F.c, F.n, F.loads, F.d, F.i, F.h, F.sem.flushed⟩, rfl⟩
/-- where nothing is dirty the disk has all -/
theorem flat_cur {N : Nat} {X : Px} {ct : Nat → ByteArray} (S : Sem X ct) (o : X.Ok N) (hd : ∀ j, j < X.m → (X.fr j).d = false) {q : Nat} (hq : q < X.d.n) : X.d.cur q = ct q := by
  cases ha : X.at (q : Int) with
  | none => exact S.out q hq ha
  | some k =>
    obtain ⟨h1, h2⟩ := at_some ha
    have := S.cl k h1 (hd k (by have := o.cm; omega))
    rw [S.t k h1, h2, Int.toNat_natCast] at this
    exact this
/-- where nothing is dirty a flush writes nothing -/
theorem flushN_flat : ∀ (n k : Nat) (X : Px), k + n = X.m → (∀ j, j < X.m → (X.fr j).d = false) → flushN n k X = (X, 0)
  | 0, _, _, _, _ => rfl
  | n + 1, k, X, hk, hd => by
    have h := cleanP_no (hd k (by omega))
    rw [flushN_go (by rw [h]), h]
    exact flushN_flat n (k + 1) X (by omega) hd
theorem flush_flat {X : Px} (hd : ∀ j, j < X.m → (X.fr j).d = false) : flushP X = (X.disk X.d.flush, 0) := by
  unfold flushP
  rw [flushN_flat X.m 0 X (Nat.zero_add _) hd, if_pos rfl]
theorem dirt_nil {X : Px} (hd : ∀ j, j < X.m → (X.fr j).d = false) : X.dirt X.m = [] := by
  unfold Px.dirt
  rw [List.map_eq_nil_iff, List.filter_eq_nil_iff]
  intro j hj
  rw [hd j (by simpa using hj)]
  decide
end Go.Proofs.YtkmedlbokneegaaDoor

/-
  WHAT A FLUSH MAKES OF A POOL, AND WHAT ALL CALLS LEAVE AS IT IS: no program in it. Conditions: those that each lemma names.
  WHICH SECTORS ARE FREE, as plain data: what the shadow's space does. No program in it. Conditions: those that each lemma names.
-/
import Derived.RowKit
import Derived.Test.YtlfkkakohldgnaaGreatDoorN22
namespace Go.Proofs.YtlfkkakohldgnaaGreatDoor
open Go.RowKit Go.Maps

/-- nothing is held -/
def Free (X : Px) : Prop := ∀ k, (X.fr k).h = 0
theorem Free.held {N : Nat} {X : Px} (h : Free X) (o : X.Ok N) : X.held = false := held_not (j := 0) o.m0 (h 0)
theorem Free.fresh (d : Dk) (m : Nat) : Free (Px.fresh d m) := fun _ => rfl
theorem free_put {X : Px} (h : Free X) {k : Nat} {f : Fr} (hf : f.h = 0) : Free (X.put k f) := fun j => by
  rw [put_fr]; split
  · exact hf
  · exact h j
theorem find_free {N : Nat} {X : Px} (h : Free X) (o : X.Ok N) {i : Int} (h0 : (findP X i).2.2 = 0) : Free (findP X i).1 := by
  cases ha : X.at i with
  | some k => rw [findP_some ha]; exact h
  | none =>
    have F := find_found o ha h0
    intro j
    by_cases e : j = (findP X i).2.1
    · rw [e, F.fk]; rfl
    · rw [F.oh j e]; exact h j
theorem find_mn {N : Nat} {X : Px} (o : X.Ok N) {i : Int} (h0 : (findP X i).2.2 = 0) : (findP X i).1.m = X.m ∧ (findP X i).1.d.n = X.d.n ∧ (findP X i).1.loads = X.loads := by
  cases ha : X.at i with
  | some k => rw [findP_some ha]; exact ⟨rfl, rfl, rfl⟩
  | none =>
    have F := find_found o ha h0
    exact ⟨F.m, F.n, F.loads⟩
structure Keep (X Y : Px) : Prop where
  m : Y.m = X.m
  n : Y.d.n = X.d.n
  free : Free Y
theorem write_keep {N : Nat} {X : Px} {ct : Nat → ByteArray} (S : Sem X ct) (hfr : Free X) (o : X.Ok N) {q : Nat} (hq : q < X.d.n) {t : ByteArray} (hz : t.size = 512) (hg : goodT t = true) : Keep X (writeP X q t).1 := by
  have h0 := find_zero o (i := (q : Int)) (.inr (.inr (hfr.held o))) (by rw [S.left]; decide)
  rw [writeP_ok (by omega) hz hg, if_pos h0]
  obtain ⟨h1, h2, _⟩ := find_mn o h0
  have h3 := find_free hfr o h0
  exact ⟨h1, h2, free_put h3 (h3 _)⟩
theorem read_keep {N : Nat} {X : Px} {ct : Nat → ByteArray} (S : Sem X ct) (hfr : Free X) (o : X.Ok N) {q : Nat} (hq : q < X.d.n) : Keep X (readP X q).1 := by
  unfold readP
  cases ha : X.at (q : Int) with
  | some k =>
    rw [handP_some (by omega) ha]
    exact ⟨rfl, rfl, free_put hfr (hfr k)⟩
  | none =>
    rw [handP_none (by omega) ha]
    cases hg : goodT (X.d.cur q)
    · rw [fetchP_bad hg]
      exact ⟨rfl, rfl, hfr⟩
    · have h0 := find_zero o.load (i := (q : Int)) (.inr (.inr (hfr.held o))) (by show X.d.left ≠ 0; rw [S.left]; decide)
      rw [fetchP_good hg, if_pos h0]
      obtain ⟨h1, h2, _⟩ := find_mn o.load h0
      have h3 := find_free (X := X.load) hfr o.load h0
      exact ⟨h1, h2, free_put h3 (h3 _)⟩

/-! a flush -/
structure Cleaned (X Y : Px) (k : Nat) : Prop where
  m : Y.m = X.m
  c : Y.c = X.c
  n : Y.d.n = X.d.n
  loads : Y.loads = X.loads
  d : (Y.fr k).d = false
  od : ∀ j, j ≠ k → (Y.fr j).d = (X.fr j).d
  i : ∀ j, (Y.fr j).i = (X.fr j).i
  t : ∀ j, (Y.fr j).t = (X.fr j).t
  h : ∀ j, (Y.fr j).h = (X.fr j).h
theorem clean_sem {N : Nat} {X : Px} {ct : Nat → ByteArray} (S : Sem X ct) (o : X.Ok N) (k : Nat) : (cleanP X k).2 = 0 ∧ Sem (cleanP X k).1 ct ∧ Cleaned X (cleanP X k).1 k := by
  cases hd : (X.fr k).d
  · rw [cleanP_no hd]
    exact ⟨rfl, S, rfl, rfl, rfl, rfl, hd, fun _ _ => rfl, fun _ => rfl, fun _ => rfl, fun _ => rfl⟩
  · have hkc : k < X.c := by
      by_cases e : k < X.c
      · exact e
      · rw [o.emp k (by omega)] at hd; cases hd
    rw [cleanP_ok hd (by rw [S.left]; decide)]
    have hfr : ∀ j, (((X.disk (X.d.wrote (X.fr k).i.toNat (X.fr k).t)).put k { X.fr k with d := false }).fr j).i = (X.fr j).i ∧ (((X.disk (X.d.wrote (X.fr k).i.toNat (X.fr k).t)).put k { X.fr k with d := false }).fr j).t = (X.fr j).t ∧ (((X.disk (X.d.wrote (X.fr k).i.toNat (X.fr k).t)).put k { X.fr k with d := false }).fr j).h = (X.fr j).h := fun j => by
      rw [put_fr]; split
      · rename_i e; rw [e]; exact ⟨rfl, rfl, rfl⟩
      · exact ⟨rfl, rfl, rfl⟩
    refine ⟨rfl, ⟨fun j hj => ?_, fun j hj => ?_, fun j hj => ?_, fun j hj => ?_, fun p hp h => ?_, wrote_left _ _ _ S.left⟩, rfl, rfl, rfl, rfl, by rw [put_same], fun j hj => by rw [put_other _ _ _ hj]; rfl, fun j => (hfr j).1, fun j => (hfr j).2.1, fun j => (hfr j).2.2⟩
    · rw [(hfr j).1, (hfr j).2.1]; exact S.t j hj
    · rw [(hfr j).2.1]; exact S.z j hj
    · rw [(hfr j).2.1]; exact S.g j hj
    · rw [(hfr j).1, (hfr j).2.1]
      intro h
      show (X.d.wrote _ _).cur _ = _
      rw [wrote_cur]
      by_cases e : j = k
      · rw [e, if_pos rfl]
      · rw [put_other _ _ _ e] at h
        rw [if_neg (fun e2 => e (o.inj j k hj hkc (by have := (o.sec j hj).1; have := (o.sec k hkc).1; omega)))]
        exact S.cl j hj h
    · have hX : X.at (p : Int) = none := by
        rw [← h]
        exact (at_congr (X := X) (Y := (X.disk (X.d.wrote (X.fr k).i.toNat (X.fr k).t)).put k { X.fr k with d := false }) rfl (fun j => (hfr j).1) _).symm
      show (X.d.wrote _ _).cur _ = _
      rw [wrote_cur, if_neg (fun e => at_none hX k hkc (by have := (o.sec k hkc).1; omega))]
      exact S.out p hp hX
theorem clean_ok {N : Nat} {X : Px} (o : X.Ok N) (k : Nat) : (cleanP X k).1.Ok (N + 1) := by
  cases hd : (X.fr k).d
  · rw [cleanP_no hd]; exact o.mono (by omega)
  · have hkc : k < X.c := by
      by_cases e : k < X.c
      · exact e
      · rw [o.emp k (by omega)] at hd; cases hd
    by_cases hl : X.d.left = 0
    · rw [cleanP_full hd hl]; exact o.mono (by omega)
    · rw [cleanP_ok hd hl]
      have hs : (X.fr k).t.size = 512 ∨ ((X.fr k).t.size = 0 ∧ false = false) := by rcases o.siz k with q | q; exact .inl q; exact .inr ⟨q.1, rfl⟩
      exact (o.wrote _ _).put (k := k) hkc rfl hs (Nat.le_succ_of_le (o.hN k)) (Nat.le_refl _)
/-- behind a flush nothing is dirty, and the disk has all -/
structure Flat (X Y : Px) (ct : Nat → ByteArray) : Prop where
  m : Y.m = X.m
  c : Y.c = X.c
  n : Y.d.n = X.d.n
  loads : Y.loads = X.loads
  d : ∀ j, j < X.m → (Y.fr j).d = false
  i : ∀ j, (Y.fr j).i = (X.fr j).i
  h : ∀ j, (Y.fr j).h = (X.fr j).h
  sem : Sem Y ct
theorem flushN_sem {ct : Nat → ByteArray} : ∀ (n : Nat) (N k : Nat) (X : Px), X.Ok N → Sem X ct → k + n = X.m → (∀ j, j < k → (X.fr j).d = false) → (flushN n k X).2 = 0 ∧ Flat X (flushN n k X).1 ct
  | 0, N, k, X, o, S, hk, hd => ⟨rfl, rfl, rfl, rfl, rfl, fun j hj => hd j (by omega), fun _ => rfl, fun _ => rfl, S⟩
  | n + 1, N, k, X, o, S, hk, hd => by
    obtain ⟨h0, S1, C⟩ := clean_sem S o k
    rw [flushN_go h0]
    have hd1 : ∀ j, j < k + 1 → ((cleanP X k).1.fr j).d = false := fun j hj => by
      by_cases e : j = k
      · rw [e]; exact C.d
      · rw [C.od j e]; exact hd j (by omega)
    obtain ⟨e1, F⟩ := flushN_sem n (N + 1) (k + 1) (cleanP X k).1 (clean_ok o k) S1 (by rw [C.m]; omega) hd1
    exact ⟨e1, F.m.trans C.m, F.c.trans C.c, F.n.trans C.n, F.loads.trans C.loads, fun j hj => F.d j (by rw [C.m]; exact hj), fun j => (F.i j).trans (C.i j), fun j => (F.h j).trans (C.h j), F.sem⟩
theorem Sem.flushed {X : Px} {ct : Nat → ByteArray} (S : Sem X ct) : Sem (X.disk X.d.flush) ct := ⟨S.t, S.z, S.g, S.cl, S.out, S.left⟩
theorem flush_sem {N : Nat} {X : Px} {ct : Nat → ByteArray} (S : Sem X ct) (o : X.Ok N) : (flushP X).2 = 0 ∧ Flat X (flushP X).1 ct ∧ (flushP X).1.d.pend = [] := by
  obtain ⟨h0, F⟩ := flushN_sem X.m N 0 X o S (Nat.zero_add _) (fun j hj => absurd hj (Nat.not_lt_zero _))
  unfold flushP
  rw [if_pos h0]
  exact ⟨rfl, ⟨F.m, F.c, F.n, F.loads, F.d, F.i, F.h, F.sem.flushed⟩, rfl⟩
/-- where nothing is dirty the disk has all -/
theorem flat_cur {N : Nat} {X : Px} {ct : Nat → ByteArray} (S : Sem X ct) (o : X.Ok N) (hd : ∀ j, j < X.m → (X.fr j).d = false) {q : Nat} (hq : q < X.d.n) : X.d.cur q = ct q := by
  cases ha : X.at (q : Int) with
  | none => exact S.out q hq ha
  | some k =>
    obtain ⟨h1, h2⟩ := at_some ha
    have := S.cl k h1 (hd k (by have := o.cm; omega))
    rw [S.t k h1, h2, Int.toNat_natCast] at this
    exact this
/-- where nothing is dirty a flush writes nothing -/
theorem flushN_flat : ∀ (n k : Nat) (X : Px), k + n = X.m → (∀ j, j < X.m → (X.fr j).d = false) → flushN n k X = (X, 0)
  | 0, _, _, _, _ => rfl
  | n + 1, k, X, hk, hd => by
    have h := cleanP_no (hd k (by omega))
    rw [flushN_go (by rw [h]), h]
    exact flushN_flat n (k + 1) X (by omega) hd
theorem flush_flat {X : Px} (hd : ∀ j, j < X.m → (X.fr j).d = false) : flushP X = (X.disk X.d.flush, 0) := by
  unfold flushP
  rw [flushN_flat X.m 0 X (Nat.zero_add _) hd, if_pos rfl]
end Go.Proofs.YtlfkkakohldgnaaGreatDoor
namespace Go.Proofs.YtlfkkakohldgnaaGreatDoor
open Go.RowKit

/-- a disk's sectors: how many, which are taken, how many are free, and where the search begins -/
structure Spc where
  n : Nat
  t : Nat → Bool
  free : Nat
  lo : Nat
/-- how many of the first m are free -/
def cntF (t : Nat → Bool) : Nat → Nat
  | 0 => 0
  | m + 1 => cntF t m + if t m = true then 0 else 1
def updB (t : Nat → Bool) (s : Nat) (b : Bool) : Nat → Bool := fun j => if j = s then b else t j
/-- the search's beginning moves on, so many steps at most -/
def advN (t : Nat → Bool) (n : Nat) : Nat → Nat → Nat
  | 0, f => f
  | m + 1, f => if f < n ∧ t f = true then advN t n m (f + 1) else f
structure Spc.Ok (S : Spc) : Prop where
  le : S.lo ≤ S.n
  low : ∀ i, i < S.lo → S.t i = true
  cnt : S.free = cntF S.t S.n
def Spc.clear (n : Nat) : Spc := ⟨n, fun i => decide (i < 2), n - 2, 2⟩
def Spc.claim (S : Spc) (s : Int) : Spc × Bool :=
  if s < 0 ∨ (S.n : Int) ≤ s ∨ S.t s.toNat = true then (S, false) else
    (⟨S.n, updB S.t s.toNat true, S.free - 1, advN (updB S.t s.toNat true) S.n (S.n - S.lo) S.lo⟩, true)
def Spc.give (S : Spc) (s : Nat) : Spc := ⟨S.n, updB S.t s false, S.free + 1, min S.lo s⟩
/-- the free sectors from f on, so many at most -/
def Spc.lowest (S : Spc) (count : Nat) : List Nat := ((List.range S.n).filter fun i => decide (S.lo ≤ i) && !S.t i).take count

theorem cntF_le (t : Nat → Bool) (m : Nat) : cntF t m ≤ m := by
  induction m with
  | zero => exact Nat.le_refl _
  | succ m ih => unfold cntF; split <;> omega
theorem cntF_congr {t u : Nat → Bool} : ∀ {m : Nat}, (∀ i, i < m → t i = u i) → cntF t m = cntF u m
  | 0, _ => rfl
  | m + 1, h => by
    unfold cntF
    rw [cntF_congr (m := m) fun i hi => h i (by omega), h m (by omega)]
theorem cntF_take {t : Nat → Bool} {s : Nat} : ∀ {m : Nat}, s < m → t s = false → cntF (updB t s true) m + 1 = cntF t m
  | 0, h, _ => absurd h (by omega)
  | m + 1, h, hs => by
    unfold cntF
    by_cases e : s = m
    · subst e
      rw [cntF_congr (u := t) (m := s) fun i hi => by unfold updB; rw [if_neg (by omega)]]
      have : updB t s true s = true := by unfold updB; rw [if_pos rfl]
      rw [this, hs]
      simp
    · have h1 := cntF_take (t := t) (s := s) (m := m) (by omega) hs
      have : updB t s true m = t m := by unfold updB; rw [if_neg (fun q => e q.symm)]
      rw [this]
      omega
theorem cntF_give {t : Nat → Bool} {s : Nat} : ∀ {m : Nat}, s < m → t s = true → cntF (updB t s false) m = cntF t m + 1
  | 0, h, _ => absurd h (by omega)
  | m + 1, h, hs => by
    unfold cntF
    by_cases e : s = m
    · subst e
      rw [cntF_congr (u := t) (m := s) fun i hi => by unfold updB; rw [if_neg (by omega)]]
      have : updB t s false s = false := by unfold updB; rw [if_pos rfl]
      rw [this, hs]
      simp
    · have h1 := cntF_give (t := t) (s := s) (m := m) (by omega) hs
      have : updB t s false m = t m := by unfold updB; rw [if_neg (fun q => e q.symm)]
      rw [this]
      omega
theorem adv_le {t : Nat → Bool} {n : Nat} : ∀ (m f : Nat), f ≤ n → f ≤ advN t n m f ∧ advN t n m f ≤ n
  | 0, f, h => ⟨Nat.le_refl _, h⟩
  | m + 1, f, h => by
    unfold advN
    split
    · rename_i c
      have := adv_le (t := t) (n := n) m (f + 1) (by omega)
      omega
    · exact ⟨Nat.le_refl _, h⟩
theorem adv_low {t : Nat → Bool} {n : Nat} : ∀ (m f : Nat), ∀ i, f ≤ i → i < advN t n m f → t i = true
  | 0, f, i, h1, h2 => absurd h2 (by unfold advN; omega)
  | m + 1, f, i, h1, h2 => by
    unfold advN at h2
    split at h2
    · rename_i c
      by_cases e : i = f
      · rw [e]; exact c.2
      · exact adv_low m (f + 1) i (by omega) h2
    · omega
theorem Spc.Ok.claim {S : Spc} (o : S.Ok) (s : Int) : (S.claim s).1.Ok := by
  unfold Spc.claim
  split
  · exact o
  · rename_i h
    have h1 : s.toNat < S.n := by omega
    have h2 : S.t s.toNat = false := by simpa using fun q => h (.inr (.inr q))
    have ha := adv_le (t := updB S.t s.toNat true) (n := S.n) (S.n - S.lo) S.lo o.le
    refine ⟨ha.2, fun i hi => ?_, ?_⟩
    · have hi' : i < advN (updB S.t s.toNat true) S.n (S.n - S.lo) S.lo := hi
      by_cases e : i < S.lo
      · show updB S.t s.toNat true i = true
        unfold updB
        split
        · rfl
        · exact o.low i e
      · exact adv_low (t := updB S.t s.toNat true) (n := S.n) _ S.lo i (by omega) hi'
    · have := cntF_take (t := S.t) (s := s.toNat) (m := S.n) h1 h2
      show S.free - 1 = cntF (updB S.t s.toNat true) S.n
      have := o.cnt
      omega
theorem Spc.Ok.give {S : Spc} (o : S.Ok) {s : Nat} (h1 : s < S.n) (h2 : S.t s = true) : (S.give s).Ok := by
  have hle := o.le
  refine ⟨by show min S.lo s ≤ S.n; omega, fun i hi => ?_, ?_⟩
  · have hi' : i < min S.lo s := hi
    show updB S.t s false i = true
    unfold updB
    rw [if_neg (by omega)]
    exact o.low i (by omega)
  · show S.free + 1 = cntF (updB S.t s false) S.n
    rw [cntF_give h1 h2, o.cnt]
theorem cntF_two : ∀ (m : Nat), cntF (fun i => decide (i < 2)) m = m - 2
  | 0 => rfl
  | 1 => rfl
  | m + 2 => by
    unfold cntF
    rw [cntF_two (m + 1)]
    by_cases h : m + 1 < 2
    · obtain rfl : m = 0 := by omega
      rfl
    · simp only [decide_eq_true_eq]
      rw [if_neg h]
      omega
theorem clear_ok {n : Nat} (h : 2 ≤ n) : (Spc.clear n).Ok := ⟨h, fun _ hi => decide_eq_true hi, (cntF_two n).symm⟩
/-- the first free sector is found just where there is one -/
theorem lowest_nil {S : Spc} (o : S.Ok) {c : Nat} (hc : 0 < c) : S.lowest c = [] ↔ ∀ i, i < S.n → S.t i = true := by
  unfold Spc.lowest
  rw [List.take_eq_nil_iff]
  constructor
  · intro h i hi
    rcases h with h | h
    · omega
    · by_cases e : i < S.lo
      · exact o.low i e
      · have := List.filter_eq_nil_iff.1 h i (by simpa using hi)
        simpa [Nat.not_lt.1 e] using this
  · intro h
    refine .inr (List.filter_eq_nil_iff.2 fun i hi => ?_)
    simp [h i (by simpa using hi)]
theorem lowest_mem {S : Spc} {c s : Nat} (h : s ∈ S.lowest c) : s < S.n ∧ S.lo ≤ s ∧ S.t s = false := by
  have := List.mem_filter.1 (List.mem_of_mem_take h)
  have h1 : s < S.n := by simpa using this.1
  have h2 := this.2
  simp at h2
  exact ⟨h1, h2.1, h2.2⟩
theorem lowest_nodup (S : Spc) (c : Nat) : (S.lowest c).Nodup := (List.nodup_range.filter _).take
theorem filter_cnt {t : Nat → Bool} {lo : Nat} (h : ∀ i, i < lo → t i = true) : ∀ (m : Nat), ((List.range m).filter fun i => decide (lo ≤ i) && !t i).length = cntF t m
  | 0 => rfl
  | m + 1 => by
    rw [List.range_succ, List.filter_append, List.length_append, filter_cnt h m]
    show cntF t m + _ = cntF t m + (if t m = true then 0 else 1)
    congr 1
    by_cases ht : t m = true
    · rw [if_pos ht, List.filter_cons_of_neg (by simp [ht])]
      rfl
    · have hl : lo ≤ m := Nat.le_of_not_lt fun q => ht (h m q)
      rw [if_neg ht, List.filter_cons_of_pos (by simp [ht, hl])]
      rfl
/-- as many as are asked for, or all there are -/
theorem lowest_len {S : Spc} (o : S.Ok) (c : Nat) : (S.lowest c).length = min c S.free := by
  unfold Spc.lowest
  rw [List.length_take, filter_cnt o.low, o.cnt]
/-- what is taken behind a claim -/
theorem claim_t {S : Spc} {s : Nat} (h1 : s < S.n) (h2 : S.t s = false) : (S.claim s).2 = true ∧ (S.claim s).1.t = updB S.t s true ∧ (S.claim s).1.free = S.free - 1 ∧ (S.claim s).1.n = S.n := by
  unfold Spc.claim
  rw [if_neg (by rw [Int.toNat_natCast, h2]; simp; omega), Int.toNat_natCast]
  exact ⟨rfl, rfl, rfl, rfl⟩
theorem claim_no {S : Spc} {s : Int} (h : s < 0 ∨ (S.n : Int) ≤ s ∨ S.t s.toNat = true) : S.claim s = (S, false) := by
  unfold Spc.claim
  rw [if_pos h]
end Go.Proofs.YtlfkkakohldgnaaGreatDoor

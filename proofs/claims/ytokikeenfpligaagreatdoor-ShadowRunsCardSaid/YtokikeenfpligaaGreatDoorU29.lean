/-
  WHAT A POOL SAYS OF ITS SECTORS, whatever its frames are: no program in it. Conditions: those that each lemma names.
  WHAT A FLUSH MAKES OF A POOL, AND WHAT ALL CALLS LEAVE AS IT IS: no program in it. Conditions: those that each lemma names.
  WHICH SECTORS ARE FREE, as plain data: what the shadow's space does. No program in it. Conditions: those that each lemma names.
-/
import Derived.RowKit
import Derived.Test.YtokikeenfpligaaGreatDoorU28
namespace Go.Proofs.YtokikeenfpligaaGreatDoor
open Go.RowKit Go.Maps

/-- a frame is found for a sector that none holds -/
structure Found (X Y : Px) (i : Int) (k : Nat) : Prop where
  m : Y.m = X.m
  n : Y.d.n = X.d.n
  loads : Y.loads = X.loads
  lt : k < Y.c
  cm : Y.c ≤ X.m
  fk : Y.fr k = Fr.new i
  oi : ∀ j, j ≠ k → (Y.fr j).i = (X.fr j).i
  ot : ∀ j, j ≠ k → (Y.fr j).t = (X.fr j).t
  od : ∀ j, j ≠ k → (Y.fr j).d = (X.fr j).d
  oh : ∀ j, j ≠ k → (Y.fr j).h = (X.fr j).h
  c : (Y.c = X.c + 1 ∧ k = X.c ∧ Y.d = X.d) ∨ (Y.c = X.c ∧ X.c = X.m ∧ (X.fr k).h = 0 ∧ Y.d = (if (X.fr k).d = true then X.d.wrote (X.fr k).i.toNat (X.fr k).t else X.d))
theorem find_found {N : Nat} {X : Px} (o : X.Ok N) {i : Int} (ha : X.at i = none) (h : (findP X i).2.2 = 0) : Found X (findP X i).1 i (findP X i).2.1 := by
  by_cases hc : X.c < X.m
  · rw [findP_fresh ha hc]
    have ho : ∀ j, j ≠ X.c → (X.more.put X.c (Fr.new i)).fr j = X.fr j := fun j hj => put_other _ _ _ hj
    exact ⟨rfl, rfl, rfl, Nat.lt_succ_self _, hc, put_same _ _ _, fun j hj => by rw [ho j hj], fun j hj => by rw [ho j hj], fun j hj => by rw [ho j hj], fun j hj => by rw [ho j hj], .inl ⟨rfl, rfl, rfl⟩⟩
  · have hcm : X.c = X.m := by have := o.cm; omega
    rw [findP_give ha hc] at h ⊢
    by_cases he : (giveP X).2.2 = 0
    · rw [if_pos he]
      have hg := give_gave o hcm he
      cases hh : X.held
      · obtain ⟨t, ht, h0⟩ := held_no hh
        have hf := far_le X t o.m0
        have T := (turn_any (3 * X.m) X t o hcm ht h0 (by omega)).1
        rw [giveP_not hh] at he hg ⊢
        generalize turnP (3 * X.m) X = r at T he hg ⊢
        obtain ⟨Y, k⟩ := r
        simp only at T he hg ⊢
        rw [if_pos he] at hg ⊢
        have hk : ∀ j, j ≠ k → ((cleanP Y k).1.fr j) = Y.fr j := fun j hj => by
          unfold cleanP
          split
          · rfl
          · split
            · rfl
            · exact put_other _ _ _ hj
        have hY : ∀ j, (Y.fr j).i = (X.fr j).i ∧ (Y.fr j).t = (X.fr j).t ∧ (Y.fr j).d = (X.fr j).d ∧ (Y.fr j).h = (X.fr j).h := fun j => by rcases T.fr j with e | e <;> rw [e] <;> exact ⟨rfl, rfl, rfl, rfl⟩
        have ho : ∀ j, j ≠ k → ((cleanP Y k).1.put k (Fr.new i)).fr j = Y.fr j := fun j hj => by rw [put_other _ _ _ hj, hk j hj]
        refine ⟨hg.m, hg.n, ?_, hg.lt, Nat.le_trans (Nat.le_of_eq hg.c) o.cm, put_same _ _ _, fun j hj => by rw [ho j hj]; exact (hY j).1, fun j hj => by rw [ho j hj]; exact (hY j).2.1, fun j hj => by rw [ho j hj]; exact (hY j).2.2.1, fun j hj => by rw [ho j hj]; exact (hY j).2.2.2, .inr ⟨hg.c, hcm, T.h0, ?_⟩⟩
        · show (cleanP Y k).1.loads = X.loads
          rw [← T.loads]
          unfold cleanP
          split
          · rfl
          · split <;> rfl
        · show (cleanP Y k).1.d = _
          obtain ⟨h1, h2, h3, _⟩ := hY k
          rw [← h1, ← h2, ← h3, ← T.d]
          unfold cleanP at he ⊢
          cases hd : (Y.fr k).d
          · rw [if_pos rfl, if_neg (by decide)]
          · rw [hd, if_neg (by decide)] at he
            rw [if_neg (by decide), if_pos rfl]
            by_cases hl : Y.d.left = 0
            · rw [if_pos hl] at he; exact absurd (show (5 : Int) = 0 from he) (by decide)
            · rw [if_neg hl]; rfl
      · rw [giveP_held hh] at he
        exact absurd (show (10 : Int) = 0 from he) (by decide)
    · rw [if_neg he] at h
      exact absurd h he
/-- one is found, where a frame is not held and writes may be done -/
theorem find_zero {N : Nat} {X : Px} (o : X.Ok N) {i : Int} (hf : X.at i ≠ none ∨ X.c < X.m ∨ X.held = false) (hl : X.d.left ≠ 0) : (findP X i).2.2 = 0 := by
  cases ha : X.at i with
  | some k => rw [findP_some ha]
  | none =>
    by_cases hc : X.c < X.m
    · rw [findP_fresh ha hc]
    · have hcm : X.c = X.m := by have := o.cm; omega
      have hh : X.held = false := by
        rcases hf with q | q | q
        · exact absurd ha q
        · exact absurd q hc
        · exact q
      have he : (giveP X).2.2 = 0 := by
        obtain ⟨t, ht, h0⟩ := held_no hh
        have hfl := far_le X t o.m0
        have T := (turn_any (3 * X.m) X t o hcm ht h0 (by omega)).1
        rw [giveP_not hh]
        generalize turnP (3 * X.m) X = r at T ⊢
        obtain ⟨Y, k⟩ := r
        simp only at T ⊢
        unfold cleanP
        split
        · rfl
        · rw [if_neg (by rw [T.d]; exact hl)]
      rw [findP_give ha hc, if_pos he]
/-- none is, where all are held -/
theorem find_pins {X : Px} {i : Int} (ha : X.at i = none) (hc : ¬ X.c < X.m) (hh : X.held = true) : (findP X i).1 = X ∧ (findP X i).2.2 = 10 := by
  rw [findP_give ha hc, giveP_held hh]
  rw [if_neg (show ¬ (10 : Int) = 0 by decide)]
  exact ⟨rfl, rfl⟩

/-- what the sectors are, as they were laid last -/
structure Sem (X : Px) (ct : Nat → ByteArray) : Prop where
  t : ∀ k, k < X.c → (X.fr k).t = ct (X.fr k).i.toNat
  z : ∀ k, k < X.c → (X.fr k).t.size = 512
  g : ∀ k, k < X.c → goodT (X.fr k).t = true
  cl : ∀ k, k < X.c → (X.fr k).d = false → X.d.cur (X.fr k).i.toNat = (X.fr k).t
  out : ∀ q : Nat, q < X.d.n → X.at (q : Int) = none → X.d.cur q = ct q
  left : X.d.left = -1
def updT (ct : Nat → ByteArray) (q : Nat) (t : ByteArray) : Nat → ByteArray := fun j => if j = q then t else ct j
theorem wrote_cur (d : Dk) (i : Nat) (t : ByteArray) (q : Nat) : (d.wrote i t).cur q = if q = i then t else d.cur q := rfl
theorem wrote_left (d : Dk) (i : Nat) (t : ByteArray) (h : d.left = -1) : (d.wrote i t).left = -1 := by
  show (if 0 < d.left then d.left - 1 else d.left) = -1
  rw [h]; rfl
theorem found_left {X Y : Px} {i : Int} {k : Nat} (F : Found X Y i k) (h : X.d.left = -1) : Y.d.left = -1 := by
  rcases F.c with ⟨_, _, e⟩ | ⟨_, _, _, e⟩
  · rw [e]; exact h
  · rw [e]; split
    · exact wrote_left _ _ _ h
    · exact h
/-- which frames are in use, but the one that was found -/
theorem found_lt {X Y : Px} {i : Int} {k j : Nat} (F : Found X Y i k) (hj : j < Y.c) (hk : j ≠ k) : j < X.c := by
  rcases F.c with ⟨e, e2, _⟩ | ⟨e, _⟩ <;> omega
theorem found_at {X Y : Px} {i : Int} {k : Nat} (F : Found X Y i k) {q : Nat} (h : Y.at (q : Int) = none) : X.at (q : Int) = none ∨ ((X.fr k).i = q ∧ k < X.c ∧ Y.c = X.c) := by
  cases ha : X.at (q : Int) with
  | none => exact .inl rfl
  | some j =>
    obtain ⟨h1, h2⟩ := at_some ha
    have hn := at_none h
    by_cases e : j = k
    · subst e
      rcases F.c with ⟨e, e2, _⟩ | ⟨e, _⟩
      · omega
      · exact .inr ⟨h2, h1, e⟩
    · have hj : j < Y.c := by rcases F.c with ⟨e, e2, _⟩ | ⟨e, _⟩ <;> omega
      exact absurd ((F.oi j e).trans h2) (hn j hj)
theorem found_cur {N : Nat} {X Y : Px} {ct : Nat → ByteArray} {i : Int} {k : Nat} (F : Found X Y i k) (S : Sem X ct) (o : X.Ok N) {q : Nat} (hq : q < X.d.n) (h : X.at (q : Int) = none ∨ ((X.fr k).i = q ∧ k < X.c ∧ Y.c = X.c)) : Y.d.cur q = ct q := by
  rcases F.c with ⟨e, e2, e3⟩ | ⟨e, e2, e3, e4⟩
  · rw [e3]
    rcases h with h | ⟨_, h2, _⟩
    · exact S.out q hq h
    · omega
  · rcases h with h | ⟨h1, h2, _⟩
    · have hn := at_none h
      have hkc : k < X.c := by have := F.lt; omega
      rw [e4]
      split
      · rw [wrote_cur, if_neg (fun q2 => hn k hkc (by have := (o.sec k hkc).1; omega))]
        exact S.out q hq h
      · exact S.out q hq h
    · have hi : (X.fr k).i.toNat = q := by omega
      rw [e4]
      split
      · rw [wrote_cur, if_pos hi.symm, S.t k h2, hi]
      · rename_i hd
        have hc := S.cl k h2 (by simpa using hd)
        rw [hi] at hc
        rw [hc, S.t k h2, hi]
/-- a frame was found, and is filled -/
theorem found_sem {N : Nat} {X Y : Px} {ct ct' : Nat → ByteArray} {q k : Nat} (F : Found X Y (q : Int) k) (S : Sem X ct) (o : X.Ok N) (hq : q < X.d.n) (hat : X.at (q : Int) = none) (f : Fr) (hi : f.i = q) (hz : f.t.size = 512) (hg : goodT f.t = true) (hct : ct' q = f.t) (ho : ∀ j, j ≠ q → ct' j = ct j) (hd : f.d = false → Y.d.cur q = f.t) : Sem (Y.put k f) ct' := by
  have hsec : ∀ j, j < X.c → (X.fr j).i.toNat ≠ q := fun j hj e => at_none hat j hj (by have := (o.sec j hj).1; omega)
  refine ⟨fun j hj => ?_, fun j hj => ?_, fun j hj => ?_, fun j hj => ?_, fun p hp h => ?_, show Y.d.left = -1 from found_left F S.left⟩
  · rw [put_fr]
    split
    · rw [hi, Int.toNat_natCast, hct]
    · rename_i e
      have h1 := found_lt F hj e
      rw [F.ot j e, F.oi j e, S.t j h1, ho _ (hsec j h1)]
  · rw [put_fr]
    split
    · exact hz
    · rename_i e
      rw [F.ot j e]; exact S.z j (found_lt F hj e)
  · rw [put_fr]
    split
    · exact hg
    · rename_i e
      rw [F.ot j e]; exact S.g j (found_lt F hj e)
  · rw [put_fr]
    split
    · intro h; rw [hi, Int.toNat_natCast]; exact hd h
    · rename_i e
      have h1 := found_lt F hj e
      rw [F.od j e, F.oi j e, F.ot j e]
      intro h
      have hcl := S.cl j h1 h
      rcases F.c with ⟨_, _, e3⟩ | ⟨_, e2, _, e4⟩
      · show Y.d.cur _ = _
        rw [e3]; exact hcl
      · show Y.d.cur _ = _
        rw [e4]
        split
        · have hkc : k < X.c := by have := F.lt; rcases F.c with ⟨a, b, _⟩ | ⟨a, _⟩ <;> omega
          rw [wrote_cur, if_neg (fun e5 => e (o.inj j k h1 hkc (by have := (o.sec j h1).1; have := (o.sec k hkc).1; omega)))]
          exact hcl
        · exact hcl
  · have hp' : p < X.d.n := by rw [← F.n]; exact hp
    have hne : p ≠ q := fun e => by
      subst e
      exact at_none h k F.lt (by rw [put_same]; exact hi)
    rw [ho p hne]
    have hY : Y.at (p : Int) = none := by
      rw [← h]
      refine (at_congr (X := Y) (Y := Y.put k f) rfl (fun j => ?_) _).symm
      rw [put_fr]
      split
      · rename_i e; rw [e, F.fk, hi]; rfl
      · rfl
    exact found_cur F S o hp' (found_at F hY)
theorem sem_put {N : Nat} {X : Px} {ct ct' : Nat → ByteArray} (S : Sem X ct) (o : X.Ok N) {k q : Nat} (hk : k < X.c) (hki : (X.fr k).i = q) (f : Fr) (hi : f.i = q) (hz : f.t.size = 512) (hg : goodT f.t = true) (hct : ct' q = f.t) (ho : ∀ j, j ≠ q → ct' j = ct j) (hd : f.d = false → X.d.cur q = f.t) : Sem (X.put k f) ct' := by
  have hsec : ∀ j, j < X.c → j ≠ k → (X.fr j).i.toNat ≠ q := fun j hj hjk e => hjk (o.inj j k hj hk (by have := (o.sec j hj).1; omega))
  refine ⟨fun j hj => ?_, fun j hj => ?_, fun j hj => ?_, fun j hj => ?_, fun p hp h => ?_, S.left⟩
  · rw [put_fr]
    split
    · rw [hi, Int.toNat_natCast, hct]
    · rename_i e
      rw [S.t j hj, ho _ (hsec j hj e)]
  · rw [put_fr]; split
    · exact hz
    · exact S.z j hj
  · rw [put_fr]; split
    · exact hg
    · exact S.g j hj
  · rw [put_fr]; split
    · intro h; rw [hi, Int.toNat_natCast]; exact hd h
    · exact S.cl j hj
  · have hne : p ≠ q := fun e => by
      subst e
      exact at_none h k hk (by rw [put_same]; exact hi)
    rw [ho p hne]
    refine S.out p hp ?_
    rw [← h]
    refine (at_congr (X := X) (Y := X.put k f) rfl (fun j => ?_) _).symm
    rw [put_fr]; split
    · rename_i e; rw [e, hi, hki]
    · rfl
/-- a write -/
theorem sem_write {N : Nat} {X : Px} {ct : Nat → ByteArray} (S : Sem X ct) (o : X.Ok N) {q : Nat} (hq : q < X.d.n) {t : ByteArray} (hz : t.size = 512) (hg : goodT t = true) (hf : X.at (q : Int) ≠ none ∨ X.c < X.m ∨ X.held = false) :
    (writeP X q t).2 = 0 ∧ Sem (writeP X q t).1 (updT ct q t) := by
  have h0 := find_zero o hf (by rw [S.left]; decide)
  rw [writeP_ok (by omega) hz hg, if_pos h0]
  refine ⟨rfl, ?_⟩
  cases ha : X.at (q : Int) with
  | some k =>
    rw [findP_some ha]
    obtain ⟨h1, h2⟩ := at_some ha
    exact sem_put S o h1 h2 _ h2 hz hg (by unfold updT; rw [if_pos rfl]) (fun j hj => by unfold updT; rw [if_neg hj]) (fun h => absurd (show true = false from h) (by decide))
  | none =>
    have F := find_found o ha h0
    exact found_sem F S o hq ha _ (by show ((findP X q).1.fr (findP X q).2.1).i = _; rw [F.fk]; rfl) hz hg (by unfold updT; rw [if_pos rfl]) (fun j hj => by unfold updT; rw [if_neg hj]) (fun h => absurd (show true = false from h) (by decide))
theorem Sem.load {X : Px} {ct : Nat → ByteArray} (S : Sem X ct) : Sem X.load ct := ⟨S.t, S.z, S.g, S.cl, S.out, S.left⟩
/-- a read of what is good -/
theorem sem_read {N : Nat} {X : Px} {ct : Nat → ByteArray} (S : Sem X ct) (o : X.Ok N) {q : Nat} (hq : q < X.d.n) (hz : (ct q).size = 512) (hg : goodT (ct q) = true) (hf : X.at (q : Int) ≠ none ∨ X.c < X.m ∨ X.held = false) :
    (readP X q).2.2 = 0 ∧ (readP X q).2.1 = ct q ∧ Sem (readP X q).1 ct := by
  unfold readP
  cases ha : X.at (q : Int) with
  | some k =>
    rw [handP_some (by omega) ha]
    obtain ⟨h1, h2⟩ := at_some ha
    have ht : (X.fr k).t = ct q := by rw [S.t k h1, h2, Int.toNat_natCast]
    refine ⟨rfl, by show ((X.put k _).fr k).t = _; rw [put_same]; exact ht, sem_put S o h1 h2 _ h2 (S.z k h1) (S.g k h1) ht.symm (fun j _ => rfl) (fun h => by have := S.cl k h1 h; rw [h2, Int.toNat_natCast] at this; exact this)⟩
  | none =>
    have hc : X.d.cur q = ct q := S.out q hq ha
    have hf' : X.load.at (q : Int) ≠ none ∨ X.load.c < X.load.m ∨ X.load.held = false := hf
    have h0 := find_zero o.load hf' (by show X.d.left ≠ 0; rw [S.left]; decide)
    have F := find_found o.load (i := (q : Int)) ha h0
    rw [handP_none (by omega) ha, fetchP_good (by rw [hc]; exact hg), if_pos h0]
    have hcur : (findP X.load q).1.d.cur q = ct q := found_cur F S.load o.load hq (.inl ha)
    refine ⟨rfl, by show (((findP X.load q).1.put _ _).fr _).t = _; rw [put_same]; exact hc, found_sem F S.load o.load hq ha _ (by show ((findP X.load q).1.fr (findP X.load q).2.1).i = _; rw [F.fk]; rfl) (by show (X.d.cur q).size = 512; rw [hc]; exact hz) (by show goodT (X.d.cur q) = true; rw [hc]; exact hg) hc.symm (fun j _ => rfl) (fun _ => by rw [hcur]; exact hc.symm)⟩
/-- .. of what is not -/
theorem sem_bad {X : Px} {ct : Nat → ByteArray} (S : Sem X ct) {q : Nat} (hq : q < X.d.n) (hg : goodT (ct q) = false) :
    (readP X q).2.2 = 7 ∧ (readP X q).1 = X.load := by
  unfold readP
  cases ha : X.at (q : Int) with
  | some k =>
    obtain ⟨h1, h2⟩ := at_some ha
    have := S.g k h1
    rw [S.t k h1, h2, Int.toNat_natCast, hg] at this
    cases this
  | none =>
    rw [handP_none (by omega) ha, fetchP_bad (by rw [S.out q hq ha]; exact hg)]
    exact ⟨rfl, rfl⟩
theorem sem_fresh {d : Dk} {m : Nat} (h : d.left = -1) : Sem (Px.fresh d m) d.cur :=
  ⟨fun _ hk => absurd hk (Nat.not_lt_zero _), fun _ hk => absurd hk (Nat.not_lt_zero _), fun _ hk => absurd hk (Nat.not_lt_zero _), fun _ hk => absurd hk (Nat.not_lt_zero _), fun _ _ _ => rfl, h⟩
end Go.Proofs.YtokikeenfpligaaGreatDoor
namespace Go.Proofs.YtokikeenfpligaaGreatDoor
open Go.RowKit Go.Maps

/-- nothing is held -/
def Free (X : Px) : Prop := ∀ k, (X.fr k).h = 0
theorem Free.held {N : Nat} {X : Px} (h : Free X) (o : X.Ok N) : X.held = false := held_not (j := 0) o.m0 (h 0)
theorem Free.fresh (d : Dk) (m : Nat) : Free (Px.fresh d m) := fun _ => rfl
theorem free_put {X : Px} (h : Free X) {k : Nat} {f : Fr} (hf : f.h = 0) : Free (X.put k f) := fun j => by
  rw [put_fr]; split
  · exact hf
  · exact h j
theorem find_free {N : Nat} {X : Px} (h : Free X) (o : X.Ok N) {i : Int} (h0 : (findP X i).2.2 = 0) : Free (findP X i).1 := by
  cases ha : X.at i with
  | some k => rw [findP_some ha]; exact h
  | none =>
    have F := find_found o ha h0
    intro j
    by_cases e : j = (findP X i).2.1
    · rw [e, F.fk]; rfl
    · rw [F.oh j e]; exact h j
theorem find_mn {N : Nat} {X : Px} (o : X.Ok N) {i : Int} (h0 : (findP X i).2.2 = 0) : (findP X i).1.m = X.m ∧ (findP X i).1.d.n = X.d.n ∧ (findP X i).1.loads = X.loads := by
  cases ha : X.at i with
  | some k => rw [findP_some ha]; exact ⟨rfl, rfl, rfl⟩
  | none =>
    have F := find_found o ha h0
    exact ⟨F.m, F.n, F.loads⟩
structure Keep (X Y : Px) : Prop where
  m : Y.m = X.m
  n : Y.d.n = X.d.n
  free : Free Y
theorem write_keep {N : Nat} {X : Px} {ct : Nat → ByteArray} (S : Sem X ct) (hfr : Free X) (o : X.Ok N) {q : Nat} (hq : q < X.d.n) {t : ByteArray} (hz : t.size = 512) (hg : goodT t = true) : Keep X (writeP X q t).1 := by
  have h0 := find_zero o (i := (q : Int)) (.inr (.inr (hfr.held o))) (by rw [S.left]; decide)
  rw [writeP_ok (by omega) hz hg, if_pos h0]
  obtain ⟨h1, h2, _⟩ := find_mn o h0
  have h3 := find_free hfr o h0
  exact ⟨h1, h2, free_put h3 (h3 _)⟩
theorem read_keep {N : Nat} {X : Px} {ct : Nat → ByteArray} (S : Sem X ct) (hfr : Free X) (o : X.Ok N) {q : Nat} (hq : q < X.d.n) : Keep X (readP X q).1 := by
  unfold readP
  cases ha : X.at (q : Int) with
  | some k =>
    rw [handP_some (by omega) ha]
    exact ⟨rfl, rfl, free_put hfr (hfr k)⟩
  | none =>
    rw [handP_none (by omega) ha]
    cases hg : goodT (X.d.cur q)
    · rw [fetchP_bad hg]
      exact ⟨rfl, rfl, hfr⟩
    · have h0 := find_zero o.load (i := (q : Int)) (.inr (.inr (hfr.held o))) (by show X.d.left ≠ 0; rw [S.left]; decide)
      rw [fetchP_good hg, if_pos h0]
      obtain ⟨h1, h2, _⟩ := find_mn o.load h0
      have h3 := find_free (X := X.load) hfr o.load h0
      exact ⟨h1, h2, free_put h3 (h3 _)⟩

/-! a flush -/
structure Cleaned (X Y : Px) (k : Nat) : Prop where
  m : Y.m = X.m
  c : Y.c = X.c
  n : Y.d.n = X.d.n
  loads : Y.loads = X.loads
  d : (Y.fr k).d = false
  od : ∀ j, j ≠ k → (Y.fr j).d = (X.fr j).d
  i : ∀ j, (Y.fr j).i = (X.fr j).i
  t : ∀ j, (Y.fr j).t = (X.fr j).t
  h : ∀ j, (Y.fr j).h = (X.fr j).h
theorem clean_sem {N : Nat} {X : Px} {ct : Nat → ByteArray} (S : Sem X ct) (o : X.Ok N) (k : Nat) : (cleanP X k).2 = 0 ∧ Sem (cleanP X k).1 ct ∧ Cleaned X (cleanP X k).1 k := by
  cases hd : (X.fr k).d
  · rw [cleanP_no hd]
    exact ⟨rfl, S, rfl, rfl, rfl, rfl, hd, fun _ _ => rfl, fun _ => rfl, fun _ => rfl, fun _ => rfl⟩
  · have hkc : k < X.c := by
      by_cases e : k < X.c
      · exact e
      · rw [o.emp k (by omega)] at hd; cases hd
    rw [cleanP_ok hd (by rw [S.left]; decide)]
    have hfr : ∀ j, (((X.disk (X.d.wrote (X.fr k).i.toNat (X.fr k).t)).put k { X.fr k with d := false }).fr j).i = (X.fr j).i ∧ (((X.disk (X.d.wrote (X.fr k).i.toNat (X.fr k).t)).put k { X.fr k with d := false }).fr j).t = (X.fr j).t ∧ (((X.disk (X.d.wrote (X.fr k).i.toNat (X.fr k).t)).put k { X.fr k with d := false }).fr j).h = (X.fr j).h := fun j => by
      rw [put_fr]; split
      · rename_i e; rw [e]; exact ⟨rfl, rfl, rfl⟩
      · exact ⟨rfl, rfl, rfl⟩
    refine ⟨rfl, ⟨fun j hj => ?_, fun j hj => ?_, fun j hj => ?_, fun j hj => ?_, fun p hp h => ?_, wrote_left _ _ _ S.left⟩, rfl, rfl, rfl, rfl, by rw [put_same], fun j hj => by rw [put_other _ _ _ hj]; rfl, fun j => (hfr j).1, fun j => (hfr j).2.1, fun j => (hfr j).2.2⟩
    · rw [(hfr j).1, (hfr j).2.1]; exact S.t j hj
    · rw [(hfr j).2.1]; exact S.z j hj
    · rw [(hfr j).2.1]; exact S.g j hj
    · rw [(hfr j).1, (hfr j).2.1]
      intro h
      show (X.d.wrote _ _).cur _ = _
      rw [wrote_cur]
      by_cases e : j = k
      · rw [e, if_pos rfl]
      · rw [put_other _ _ _ e] at h
        rw [if_neg (fun e2 => e (o.inj j k hj hkc (by have := (o.sec j hj).1; have := (o.sec k hkc).1; omega)))]
        exact S.cl j hj h
    · have hX : X.at (p : Int) = none := by
        rw [← h]
        exact (at_congr (X := X) (Y := (X.disk (X.d.wrote (X.fr k).i.toNat (X.fr k).t)).put k { X.fr k with d := false }) rfl (fun j => (hfr j).1) _).symm
      show (X.d.wrote _ _).cur _ = _
      rw [wrote_cur, if_neg (fun e => at_none hX k hkc (by have := (o.sec k hkc).1; omega))]
      exact S.out p hp hX
theorem clean_ok {N : Nat} {X : Px} (o : X.Ok N) (k : Nat) : (cleanP X k).1.Ok (N + 1) := by
  cases hd : (X.fr k).d
  · rw [cleanP_no hd]; exact o.mono (by omega)
  · have hkc : k < X.c := by
      by_cases e : k < X.c
      · exact e
      · rw [o.emp k (by omega)] at hd; cases hd
    by_cases hl : X.d.left = 0
    · rw [cleanP_full hd hl]; exact o.mono (by omega)
    · rw [cleanP_ok hd hl]
      have hs : (X.fr k).t.size = 512 ∨ ((X.fr k).t.size = 0 ∧ false = false) := by rcases o.siz k with q | q; exact .inl q; exact .inr ⟨q.1, rfl⟩
      exact (o.wrote _ _).put (k := k) hkc rfl hs (Nat.le_succ_of_le (o.hN k)) (Nat.le_refl _)
/-- behind a flush nothing is dirty, and the disk has all -/
structure Flat (X Y : Px) (ct : Nat → ByteArray) : Prop where
  m : Y.m = X.m
  c : Y.c = X.c
  n : Y.d.n = X.d.n
  loads : Y.loads = X.loads
  d : ∀ j, j < X.m → (Y.fr j).d = false
  i : ∀ j, (Y.fr j).i = (X.fr j).i
  h : ∀ j, (Y.fr j).h = (X.fr j).h
  sem : Sem Y ct
theorem flushN_sem {ct : Nat → ByteArray} : ∀ (n : Nat) (N k : Nat) (X : Px), X.Ok N → Sem X ct → k + n = X.m → (∀ j, j < k → (X.fr j).d = false) → (flushN n k X).2 = 0 ∧ Flat X (flushN n k X).1 ct
  | 0, N, k, X, o, S, hk, hd => ⟨rfl, rfl, rfl, rfl, rfl, fun j hj => hd j (by omega), fun _ => rfl, fun _ => rfl, S⟩
  | n + 1, N, k, X, o, S, hk, hd => by
    obtain ⟨h0, S1, C⟩ := clean_sem S o k
    rw [flushN_go h0]
    have hd1 : ∀ j, j < k + 1 → ((cleanP X k).1.fr j).d = false := fun j hj => by
      by_cases e : j = k
      · rw [e]; exact C.d
      · rw [C.od j e]; exact hd j (by omega)
    obtain ⟨e1, F⟩ := flushN_sem n (N + 1) (k + 1) (cleanP X k).1 (clean_ok o k) S1 (by rw [C.m]; omega) hd1
    exact ⟨e1, F.m.trans C.m, F.c.trans C.c, F.n.trans C.n, F.loads.trans C.loads, fun j hj => F.d j (by rw [C.m]; exact hj), fun j => (F.i j).trans (C.i j), fun j => (F.h j).trans (C.h j), F.sem⟩
theorem Sem.flushed {X : Px} {ct : Nat → ByteArray} (S : Sem X ct) : Sem (X.disk X.d.flush) ct := ⟨S.t, S.z, S.g, S.cl, S.out, S.left⟩
theorem flush_sem {N : Nat} {X : Px} {ct : Nat → ByteArray} (S : Sem X ct) (o : X.Ok N) : (flushP X).2 = 0 ∧ Flat X (flushP X).1 ct ∧ (flushP X).1.d.pend = [] := by
  obtain ⟨h0, F⟩ := flushN_sem X.m N 0 X o S (Nat.zero_add _) (fun j hj => absurd hj (Nat.not_lt_zero _))
  unfold flushP
  rw [if_pos h0]
  exact ⟨rfl, ⟨F.m, F.c, F.n, F.loads, F.d, F.i, F.h, F.sem.flushed⟩, rfl⟩
/-- where nothing is dirty the disk has all -/
theorem flat_cur {N : Nat} {X : Px} {ct : Nat → ByteArray} (S : Sem X ct) (o : X.Ok N) (hd : ∀ j, j < X.m → (X.fr j).d = false) {q : Nat} (hq : q < X.d.n) : X.d.cur q = ct q := by
  cases ha : X.at (q : Int) with
  | none => exact S.out q hq ha
  | some k =>
    obtain ⟨h1, h2⟩ := at_some ha
    have := S.cl k h1 (hd k (by have := o.cm; omega))
    rw [S.t k h1, h2, Int.toNat_natCast] at this
    exact this
/-- where nothing is dirty a flush writes nothing -/
theorem flushN_flat : ∀ (n k : Nat) (X : Px), k + n = X.m → (∀ j, j < X.m → (X.fr j).d = false) → flushN n k X = (X, 0)
  | 0, _, _, _, _ => rfl
  | n + 1, k, X, hk, hd => by
    have h := cleanP_no (hd k (by omega))
    rw [flushN_go (by rw [h]), h]
    exact flushN_flat n (k + 1) X (by omega) hd
theorem flush_flat {X : Px} (hd : ∀ j, j < X.m → (X.fr j).d = false) : flushP X = (X.disk X.d.flush, 0) := by
  unfold flushP
  rw [flushN_flat X.m 0 X (Nat.zero_add _) hd, if_pos rfl]
end Go.Proofs.YtokikeenfpligaaGreatDoor
namespace Go.Proofs.YtokikeenfpligaaGreatDoor
open Go.RowKit

/-- a disk's sectors: how many, which are taken, how many are free, and where the search begins -/
structure Spc where
  n : Nat
  t : Nat → Bool
  free : Nat
  lo : Nat
/-- how many of the first m are free -/
def cntF (t : Nat → Bool) : Nat → Nat
  | 0 => 0
  | m + 1 => cntF t m + if t m = true then 0 else 1
def updB (t : Nat → Bool) (s : Nat) (b : Bool) : Nat → Bool := fun j => if j = s then b else t j
/-- the search's beginning moves on, so many steps at most -/
def advN (t : Nat → Bool) (n : Nat) : Nat → Nat → Nat
  | 0, f => f
  | m + 1, f => if f < n ∧ t f = true then advN t n m (f + 1) else f
structure Spc.Ok (S : Spc) : Prop where
  le : S.lo ≤ S.n
  low : ∀ i, i < S.lo → S.t i = true
  cnt : S.free = cntF S.t S.n
def Spc.clear (n : Nat) : Spc := ⟨n, fun i => decide (i < 2), n - 2, 2⟩
def Spc.claim (S : Spc) (s : Int) : Spc × Bool :=
  if s < 0 ∨ (S.n : Int) ≤ s ∨ S.t s.toNat = true then (S, false) else
    (⟨S.n, updB S.t s.toNat true, S.free - 1, advN (updB S.t s.toNat true) S.n (S.n - S.lo) S.lo⟩, true)
def Spc.give (S : Spc) (s : Nat) : Spc := ⟨S.n, updB S.t s false, S.free + 1, min S.lo s⟩
/-- the free sectors from f on, so many at most -/
def Spc.lowest (S : Spc) (count : Nat) : List Nat := ((List.range S.n).filter fun i => decide (S.lo ≤ i) && !S.t i).take count

theorem cntF_le (t : Nat → Bool) (m : Nat) : cntF t m ≤ m := by
  induction m with
  | zero => exact Nat.le_refl _
  | succ m ih => unfold cntF; split <;> omega
theorem cntF_congr {t u : Nat → Bool} : ∀ {m : Nat}, (∀ i, i < m → t i = u i) → cntF t m = cntF u m
  | 0, _ => rfl
  | m + 1, h => by
    unfold cntF
    rw [cntF_congr (m := m) fun i hi => h i (by omega), h m (by omega)]
theorem cntF_take {t : Nat → Bool} {s : Nat} : ∀ {m : Nat}, s < m → t s = false → cntF (updB t s true) m + 1 = cntF t m
  | 0, h, _ => absurd h (by omega)
  | m + 1, h, hs => by
    unfold cntF
    by_cases e : s = m
    · subst e
      rw [cntF_congr (u := t) (m := s) fun i hi => by unfold updB; rw [if_neg (by omega)]]
      have : updB t s true s = true := by unfold updB; rw [if_pos rfl]
      rw [this, hs]
      simp
    · have h1 := cntF_take (t := t) (s := s) (m := m) (by omega) hs
      have : updB t s true m = t m := by unfold updB; rw [if_neg (fun q => e q.symm)]
      rw [this]
      omega
theorem cntF_give {t : Nat → Bool} {s : Nat} : ∀ {m : Nat}, s < m → t s = true → cntF (updB t s false) m = cntF t m + 1
  | 0, h, _ => absurd h (by omega)
  | m + 1, h, hs => by
    unfold cntF
    by_cases e : s = m
    · subst e
      rw [cntF_congr (u := t) (m := s) fun i hi => by unfold updB; rw [if_neg (by omega)]]
      have : updB t s false s = false := by unfold updB; rw [if_pos rfl]
      rw [this, hs]
      simp
    · have h1 := cntF_give (t := t) (s := s) (m := m) (by omega) hs
      have : updB t s false m = t m := by unfold updB; rw [if_neg (fun q => e q.symm)]
      rw [this]
      omega
theorem adv_le {t : Nat → Bool} {n : Nat} : ∀ (m f : Nat), f ≤ n → f ≤ advN t n m f ∧ advN t n m f ≤ n
  | 0, f, h => ⟨Nat.le_refl _, h⟩
  | m + 1, f, h => by
    unfold advN
    split
    · rename_i c
      have := adv_le (t := t) (n := n) m (f + 1) (by omega)
      omega
    · exact ⟨Nat.le_refl _, h⟩
theorem adv_low {t : Nat → Bool} {n : Nat} : ∀ (m f : Nat), ∀ i, f ≤ i → i < advN t n m f → t i = true
  | 0, f, i, h1, h2 => absurd h2 (by unfold advN; omega)
  | m + 1, f, i, h1, h2 => by
    unfold advN at h2
    split at h2
    · rename_i c
      by_cases e : i = f
      · rw [e]; exact c.2
      · exact adv_low m (f + 1) i (by omega) h2
    · omega
theorem Spc.Ok.claim {S : Spc} (o : S.Ok) (s : Int) : (S.claim s).1.Ok := by
  unfold Spc.claim
  split
  · exact o
  · rename_i h
    have h1 : s.toNat < S.n := by omega
    have h2 : S.t s.toNat = false := by simpa using fun q => h (.inr (.inr q))
    have ha := adv_le (t := updB S.t s.toNat true) (n := S.n) (S.n - S.lo) S.lo o.le
    refine ⟨ha.2, fun i hi => ?_, ?_⟩
    · have hi' : i < advN (updB S.t s.toNat true) S.n (S.n - S.lo) S.lo := hi
      by_cases e : i < S.lo
      · show updB S.t s.toNat true i = true
        unfold updB
        split
        · rfl
        · exact o.low i e
      · exact adv_low (t := updB S.t s.toNat true) (n := S.n) _ S.lo i (by omega) hi'
    · have := cntF_take (t := S.t) (s := s.toNat) (m := S.n) h1 h2
      show S.free - 1 = cntF (updB S.t s.toNat true) S.n
      have := o.cnt
      omega
theorem Spc.Ok.give {S : Spc} (o : S.Ok) {s : Nat} (h1 : s < S.n) (h2 : S.t s = true) : (S.give s).Ok := by
  have hle := o.le
  refine ⟨by show min S.lo s ≤ S.n; omega, fun i hi => ?_, ?_⟩
  · have hi' : i < min S.lo s := hi
    show updB S.t s false i = true
    unfold updB
    rw [if_neg (by omega)]
    exact o.low i (by omega)
  · show S.free + 1 = cntF (updB S.t s false) S.n
    rw [cntF_give h1 h2, o.cnt]
theorem cntF_two : ∀ (m : Nat), cntF (fun i => decide (i < 2)) m = m - 2
  | 0 => rfl
  | 1 => rfl
  | m + 2 => by
    unfold cntF
    rw [cntF_two (m + 1)]
    by_cases h : m + 1 < 2
    · obtain rfl : m = 0 := by omega
      rfl
    · simp only [decide_eq_true_eq]
      rw [if_neg h]
      omega
theorem clear_ok {n : Nat} (h : 2 ≤ n) : (Spc.clear n).Ok := ⟨h, fun _ hi => decide_eq_true hi, (cntF_two n).symm⟩
/-- the first free sector is found just where there is one -/
theorem lowest_nil {S : Spc} (o : S.Ok) {c : Nat} (hc : 0 < c) : S.lowest c = [] ↔ ∀ i, i < S.n → S.t i = true := by
  unfold Spc.lowest
  rw [List.take_eq_nil_iff]
  constructor
  · intro h i hi
    rcases h with h | h
    · omega
    · by_cases e : i < S.lo
      · exact o.low i e
      · have := List.filter_eq_nil_iff.1 h i (by simpa using hi)
        simpa [Nat.not_lt.1 e] using this
  · intro h
    refine .inr (List.filter_eq_nil_iff.2 fun i hi => ?_)
    simp [h i (by simpa using hi)]
theorem lowest_mem {S : Spc} {c s : Nat} (h : s ∈ S.lowest c) : s < S.n ∧ S.lo ≤ s ∧ S.t s = false := by
  have := List.mem_filter.1 (List.mem_of_mem_take h)
  have h1 : s < S.n := by simpa using this.1
  have h2 := this.2
  simp at h2
  exact ⟨h1, h2.1, h2.2⟩
theorem lowest_nodup (S : Spc) (c : Nat) : (S.lowest c).Nodup := (List.nodup_range.filter _).take
theorem filter_cnt {t : Nat → Bool} {lo : Nat} (h : ∀ i, i < lo → t i = true) : ∀ (m : Nat), ((List.range m).filter fun i => decide (lo ≤ i) && !t i).length = cntF t m
  | 0 => rfl
  | m + 1 => by
    rw [List.range_succ, List.filter_append, List.length_append, filter_cnt h m]
    show cntF t m + _ = cntF t m + (if t m = true then 0 else 1)
    congr 1
    by_cases ht : t m = true
    · rw [if_pos ht, List.filter_cons_of_neg (by simp [ht])]
      rfl
    · have hl : lo ≤ m := Nat.le_of_not_lt fun q => ht (h m q)
      rw [if_neg ht, List.filter_cons_of_pos (by simp [ht, hl])]
      rfl
/-- as many as are asked for, or all there are -/
theorem lowest_len {S : Spc} (o : S.Ok) (c : Nat) : (S.lowest c).length = min c S.free := by
  unfold Spc.lowest
  rw [List.length_take, filter_cnt o.low, o.cnt]
/-- what is taken behind a claim -/
theorem claim_t {S : Spc} {s : Nat} (h1 : s < S.n) (h2 : S.t s = false) : (S.claim s).2 = true ∧ (S.claim s).1.t = updB S.t s true ∧ (S.claim s).1.free = S.free - 1 ∧ (S.claim s).1.n = S.n := by
  unfold Spc.claim
  rw [if_neg (by rw [Int.toNat_natCast, h2]; simp; omega), Int.toNat_natCast]
  exact ⟨rfl, rfl, rfl, rfl⟩
theorem claim_no {S : Spc} {s : Int} (h : s < 0 ∨ (S.n : Int) ≤ s ∨ S.t s.toNat = true) : S.claim s = (S, false) := by
  unfold Spc.claim
  rw [if_pos h]
end Go.Proofs.YtokikeenfpligaaGreatDoor

/-
  WHAT A POOL SAYS OF ITS SECTORS, whatever its frames are: no program in it. Conditions: those that each lemma names.
-/
import Derived.Test.YtlfkkakohldgnaaGreatDoorN21
namespace Go.Proofs.YtlfkkakohldgnaaGreatDoor
open Go.RowKit Go.Maps

/-- a frame is found for a sector that none holds -/
structure Found (X Y : Px) (i : Int) (k : Nat) : Prop where
  m : Y.m = X.m
  n : Y.d.n = X.d.n
  loads : Y.loads = X.loads
  lt : k < Y.c
  cm : Y.c ≤ X.m
  fk : Y.fr k = Fr.new i
  oi : ∀ j, j ≠ k → (Y.fr j).i = (X.fr j).i
  ot : ∀ j, j ≠ k → (Y.fr j).t = (X.fr j).t
  od : ∀ j, j ≠ k → (Y.fr j).d = (X.fr j).d
  oh : ∀ j, j ≠ k → (Y.fr j).h = (X.fr j).h
  c : (Y.c = X.c + 1 ∧ k = X.c ∧ Y.d = X.d) ∨ (Y.c = X.c ∧ X.c = X.m ∧ (X.fr k).h = 0 ∧ Y.d = (if (X.fr k).d = true then X.d.wrote (X.fr k).i.toNat (X.fr k).t else X.d))
theorem find_found {N : Nat} {X : Px} (o : X.Ok N) {i : Int} (ha : X.at i = none) (h : (findP X i).2.2 = 0) : Found X (findP X i).1 i (findP X i).2.1 := by
  by_cases hc : X.c < X.m
  · rw [findP_fresh ha hc]
    have ho : ∀ j, j ≠ X.c → (X.more.put X.c (Fr.new i)).fr j = X.fr j := fun j hj => put_other _ _ _ hj
    exact ⟨rfl, rfl, rfl, Nat.lt_succ_self _, hc, put_same _ _ _, fun j hj => by rw [ho j hj], fun j hj => by rw [ho j hj], fun j hj => by rw [ho j hj], fun j hj => by rw [ho j hj], .inl ⟨rfl, rfl, rfl⟩⟩
  · have hcm : X.c = X.m := by have := o.cm; omega
    rw [findP_give ha hc] at h ⊢
    by_cases he : (giveP X).2.2 = 0
    · rw [if_pos he]
      have hg := give_gave o hcm he
      cases hh : X.held
      · obtain ⟨t, ht, h0⟩ := held_no hh
        have hf := far_le X t o.m0
        have T := (turn_any (3 * X.m) X t o hcm ht h0 (by omega)).1
        rw [giveP_not hh] at he hg ⊢
        generalize turnP (3 * X.m) X = r at T he hg ⊢
        obtain ⟨Y, k⟩ := r
        simp only at T he hg ⊢
        rw [if_pos he] at hg ⊢
        have hk : ∀ j, j ≠ k → ((cleanP Y k).1.fr j) = Y.fr j := fun j hj => by
          unfold cleanP
          split
          · rfl
          · split
            · rfl
            · exact put_other _ _ _ hj
        have hY : ∀ j, (Y.fr j).i = (X.fr j).i ∧ (Y.fr j).t = (X.fr j).t ∧ (Y.fr j).d = (X.fr j).d ∧ (Y.fr j).h = (X.fr j).h := fun j => by rcases T.fr j with e | e <;> rw [e] <;> exact ⟨rfl, rfl, rfl, rfl⟩
        have ho : ∀ j, j ≠ k → ((cleanP Y k).1.put k (Fr.new i)).fr j = Y.fr j := fun j hj => by rw [put_other _ _ _ hj, hk j hj]
        refine ⟨hg.m, hg.n, ?_, hg.lt, Nat.le_trans (Nat.le_of_eq hg.c) o.cm, put_same _ _ _, fun j hj => by rw [ho j hj]; exact (hY j).1, fun j hj => by rw [ho j hj]; exact (hY j).2.1, fun j hj => by rw [ho j hj]; exact (hY j).2.2.1, fun j hj => by rw [ho j hj]; exact (hY j).2.2.2, .inr ⟨hg.c, hcm, T.h0, ?_⟩⟩
        · show (cleanP Y k).1.loads = X.loads
          rw [← T.loads]
          unfold cleanP
          split
          · rfl
          · split <;> rfl
        · show (cleanP Y k).1.d = _
          obtain ⟨h1, h2, h3, _⟩ := hY k
          rw [← h1, ← h2, ← h3, ← T.d]
          unfold cleanP at he ⊢
          cases hd : (Y.fr k).d
          · rw [if_pos rfl, if_neg (by decide)]
          · rw [hd, if_neg (by decide)] at he
            rw [if_neg (by decide), if_pos rfl]
            by_cases hl : Y.d.left = 0
            · rw [if_pos hl] at he; exact absurd (show (5 : Int) = 0 from he) (by decide)
            · rw [if_neg hl]; rfl
      · rw [giveP_held hh] at he
        exact absurd (show (10 : Int) = 0 from he) (by decide)
    · rw [if_neg he] at h
      exact absurd h he
/-- one is found, where a frame is not held and writes may be done -/
theorem find_zero {N : Nat} {X : Px} (o : X.Ok N) {i : Int} (hf : X.at i ≠ none ∨ X.c < X.m ∨ X.held = false) (hl : X.d.left ≠ 0) : (findP X i).2.2 = 0 := by
  cases ha : X.at i with
  | some k => rw [findP_some ha]
  | none =>
    by_cases hc : X.c < X.m
    · rw [findP_fresh ha hc]
    · have hcm : X.c = X.m := by have := o.cm; omega
      have hh : X.held = false := by
        rcases hf with q | q | q
        · exact absurd ha q
        · exact absurd q hc
        · exact q
      have he : (giveP X).2.2 = 0 := by
        obtain ⟨t, ht, h0⟩ := held_no hh
        have hfl := far_le X t o.m0
        have T := (turn_any (3 * X.m) X t o hcm ht h0 (by omega)).1
        rw [giveP_not hh]
        generalize turnP (3 * X.m) X = r at T ⊢
        obtain ⟨Y, k⟩ := r
        simp only at T ⊢
        unfold cleanP
        split
        · rfl
        · rw [if_neg (by rw [T.d]; exact hl)]
      rw [findP_give ha hc, if_pos he]
/-- none is, where all are held -/
theorem find_pins {X : Px} {i : Int} (ha : X.at i = none) (hc : ¬ X.c < X.m) (hh : X.held = true) : (findP X i).1 = X ∧ (findP X i).2.2 = 10 := by
  rw [findP_give ha hc, giveP_held hh]
  rw [if_neg (show ¬ (10 : Int) = 0 by decide)]
  exact ⟨rfl, rfl⟩

/-- what the sectors are, as they were laid last -/
structure Sem (X : Px) (ct : Nat → ByteArray) : Prop where
  t : ∀ k, k < X.c → (X.fr k).t = ct (X.fr k).i.toNat
  z : ∀ k, k < X.c → (X.fr k).t.size = 512
  g : ∀ k, k < X.c → goodT (X.fr k).t = true
  cl : ∀ k, k < X.c → (X.fr k).d = false → X.d.cur (X.fr k).i.toNat = (X.fr k).t
  out : ∀ q : Nat, q < X.d.n → X.at (q : Int) = none → X.d.cur q = ct q
  left : X.d.left = -1
def updT (ct : Nat → ByteArray) (q : Nat) (t : ByteArray) : Nat → ByteArray := fun j => if j = q then t else ct j
theorem wrote_cur (d : Dk) (i : Nat) (t : ByteArray) (q : Nat) : (d.wrote i t).cur q = if q = i then t else d.cur q := rfl
theorem wrote_left (d : Dk) (i : Nat) (t : ByteArray) (h : d.left = -1) : (d.wrote i t).left = -1 := by
  show (if 0 < d.left then d.left - 1 else d.left) = -1
  rw [h]; rfl
theorem found_left {X Y : Px} {i : Int} {k : Nat} (F : Found X Y i k) (h : X.d.left = -1) : Y.d.left = -1 := by
  rcases F.c with ⟨_, _, e⟩ | ⟨_, _, _, e⟩
  · rw [e]; exact h
  · rw [e]; split
    · exact wrote_left _ _ _ h
    · exact h
/-- which frames are in use, but the one that was found -/
theorem found_lt {X Y : Px} {i : Int} {k j : Nat} (F : Found X Y i k) (hj : j < Y.c) (hk : j ≠ k) : j < X.c := by
  rcases F.c with ⟨e, e2, _⟩ | ⟨e, _⟩ <;> omega
theorem found_at {X Y : Px} {i : Int} {k : Nat} (F : Found X Y i k) {q : Nat} (h : Y.at (q : Int) = none) : X.at (q : Int) = none ∨ ((X.fr k).i = q ∧ k < X.c ∧ Y.c = X.c) := by
  cases ha : X.at (q : Int) with
  | none => exact .inl rfl
  | some j =>
    obtain ⟨h1, h2⟩ := at_some ha
    have hn := at_none h
    by_cases e : j = k
    · subst e
      rcases F.c with ⟨e, e2, _⟩ | ⟨e, _⟩
      · omega
      · exact .inr ⟨h2, h1, e⟩
    · have hj : j < Y.c := by rcases F.c with ⟨e, e2, _⟩ | ⟨e, _⟩ <;> omega
      exact absurd ((F.oi j e).trans h2) (hn j hj)
theorem found_cur {N : Nat} {X Y : Px} {ct : Nat → ByteArray} {i : Int} {k : Nat} (F : Found X Y i k) (S : Sem X ct) (o : X.Ok N) {q : Nat} (hq : q < X.d.n) (h : X.at (q : Int) = none ∨ ((X.fr k).i = q ∧ k < X.c ∧ Y.c = X.c)) : Y.d.cur q = ct q := by
  rcases F.c with ⟨e, e2, e3⟩ | ⟨e, e2, e3, e4⟩
  · rw [e3]
    rcases h with h | ⟨_, h2, _⟩
    · exact S.out q hq h
    · omega
  · rcases h with h | ⟨h1, h2, _⟩
    · have hn := at_none h
      have hkc : k < X.c := by have := F.lt; omega
      rw [e4]
      split
      · rw [wrote_cur, if_neg (fun q2 => hn k hkc (by have := (o.sec k hkc).1; omega))]
        exact S.out q hq h
      · exact S.out q hq h
    · have hi : (X.fr k).i.toNat = q := by omega
      rw [e4]
      split
      · rw [wrote_cur, if_pos hi.symm, S.t k h2, hi]
      · rename_i hd
        have hc := S.cl k h2 (by simpa using hd)
        rw [hi] at hc
        rw [hc, S.t k h2, hi]
/-- a frame was found, and is filled -/
theorem found_sem {N : Nat} {X Y : Px} {ct ct' : Nat → ByteArray} {q k : Nat} (F : Found X Y (q : Int) k) (S : Sem X ct) (o : X.Ok N) (hq : q < X.d.n) (hat : X.at (q : Int) = none) (f : Fr) (hi : f.i = q) (hz : f.t.size = 512) (hg : goodT f.t = true) (hct : ct' q = f.t) (ho : ∀ j, j ≠ q → ct' j = ct j) (hd : f.d = false → Y.d.cur q = f.t) : Sem (Y.put k f) ct' := by
  have hsec : ∀ j, j < X.c → (X.fr j).i.toNat ≠ q := fun j hj e => at_none hat j hj (by have := (o.sec j hj).1; omega)
  refine ⟨fun j hj => ?_, fun j hj => ?_, fun j hj => ?_, fun j hj => ?_, fun p hp h => ?_, show Y.d.left = -1 from found_left F S.left⟩
  · rw [put_fr]
    split
    · rw [hi, Int.toNat_natCast, hct]
    · rename_i e
      have h1 := found_lt F hj e
      rw [F.ot j e, F.oi j e, S.t j h1, ho _ (hsec j h1)]
  · rw [put_fr]
    split
    · exact hz
    · rename_i e
      rw [F.ot j e]; exact S.z j (found_lt F hj e)
  · rw [put_fr]
    split
    · exact hg
    · rename_i e
      rw [F.ot j e]; exact S.g j (found_lt F hj e)
  · rw [put_fr]
    split
    · intro h; rw [hi, Int.toNat_natCast]; exact hd h
    · rename_i e
      have h1 := found_lt F hj e
      rw [F.od j e, F.oi j e, F.ot j e]
      intro h
      have hcl := S.cl j h1 h
      rcases F.c with ⟨_, _, e3⟩ | ⟨_, e2, _, e4⟩
      · show Y.d.cur _ = _
        rw [e3]; exact hcl
      · show Y.d.cur _ = _
        rw [e4]
        split
        · have hkc : k < X.c := by have := F.lt; rcases F.c with ⟨a, b, _⟩ | ⟨a, _⟩ <;> omega
          rw [wrote_cur, if_neg (fun e5 => e (o.inj j k h1 hkc (by have := (o.sec j h1).1; have := (o.sec k hkc).1; omega)))]
          exact hcl
        · exact hcl
  · have hp' : p < X.d.n := by rw [← F.n]; exact hp
    have hne : p ≠ q := fun e => by
      subst e
      exact at_none h k F.lt (by rw [put_same]; exact hi)
    rw [ho p hne]
    have hY : Y.at (p : Int) = none := by
      rw [← h]
      refine (at_congr (X := Y) (Y := Y.put k f) rfl (fun j => ?_) _).symm
      rw [put_fr]
      split
      · rename_i e; rw [e, F.fk, hi]; rfl
      · rfl
    exact found_cur F S o hp' (found_at F hY)
theorem sem_put {N : Nat} {X : Px} {ct ct' : Nat → ByteArray} (S : Sem X ct) (o : X.Ok N) {k q : Nat} (hk : k < X.c) (hki : (X.fr k).i = q) (f : Fr) (hi : f.i = q) (hz : f.t.size = 512) (hg : goodT f.t = true) (hct : ct' q = f.t) (ho : ∀ j, j ≠ q → ct' j = ct j) (hd : f.d = false → X.d.cur q = f.t) : Sem (X.put k f) ct' := by
  have hsec : ∀ j, j < X.c → j ≠ k → (X.fr j).i.toNat ≠ q := fun j hj hjk e => hjk (o.inj j k hj hk (by have := (o.sec j hj).1; omega))
  refine ⟨fun j hj => ?_, fun j hj => ?_, fun j hj => ?_, fun j hj => ?_, fun p hp h => ?_, S.left⟩
  · rw [put_fr]
    split
    · rw [hi, Int.toNat_natCast, hct]
    · rename_i e
      rw [S.t j hj, ho _ (hsec j hj e)]
  · rw [put_fr]; split
    · exact hz
    · exact S.z j hj
  · rw [put_fr]; split
    · exact hg
    · exact S.g j hj
  · rw [put_fr]; split
    · intro h; rw [hi, Int.toNat_natCast]; exact hd h
    · exact S.cl j hj
  · have hne : p ≠ q := fun e => by
      subst e
      exact at_none h k hk (by rw [put_same]; exact hi)
    rw [ho p hne]
    refine S.out p hp ?_
    rw [← h]
    refine (at_congr (X := X) (Y := X.put k f) rfl (fun j => ?_) _).symm
    rw [put_fr]; split
    · rename_i e; rw [e, hi, hki]
    · rfl
/-- a write -/
theorem sem_write {N : Nat} {X : Px} {ct : Nat → ByteArray} (S : Sem X ct) (o : X.Ok N) {q : Nat} (hq : q < X.d.n) {t : ByteArray} (hz : t.size = 512) (hg : goodT t = true) (hf : X.at (q : Int) ≠ none ∨ X.c < X.m ∨ X.held = false) :
    (writeP X q t).2 = 0 ∧ Sem (writeP X q t).1 (updT ct q t) := by
  have h0 := find_zero o hf (by rw [S.left]; decide)
  rw [writeP_ok (by omega) hz hg, if_pos h0]
  refine ⟨rfl, ?_⟩
  cases ha : X.at (q : Int) with
  | some k =>
    rw [findP_some ha]
    obtain ⟨h1, h2⟩ := at_some ha
    exact sem_put S o h1 h2 _ h2 hz hg (by unfold updT; rw [if_pos rfl]) (fun j hj => by unfold updT; rw [if_neg hj]) (fun h => absurd (show true = false from h) (by decide))
  | none =>
    have F := find_found o ha h0
    exact found_sem F S o hq ha _ (by show ((findP X q).1.fr (findP X q).2.1).i = _; rw [F.fk]; rfl) hz hg (by unfold updT; rw [if_pos rfl]) (fun j hj => by unfold updT; rw [if_neg hj]) (fun h => absurd (show true = false from h) (by decide))
theorem Sem.load {X : Px} {ct : Nat → ByteArray} (S : Sem X ct) : Sem X.load ct := ⟨S.t, S.z, S.g, S.cl, S.out, S.left⟩
/-- a read of what is good -/
theorem sem_read {N : Nat} {X : Px} {ct : Nat → ByteArray} (S : Sem X ct) (o : X.Ok N) {q : Nat} (hq : q < X.d.n) (hz : (ct q).size = 512) (hg : goodT (ct q) = true) (hf : X.at (q : Int) ≠ none ∨ X.c < X.m ∨ X.held = false) :
    (readP X q).2.2 = 0 ∧ (readP X q).2.1 = ct q ∧ Sem (readP X q).1 ct := by
  unfold readP
  cases ha : X.at (q : Int) with
  | some k =>
    rw [handP_some (by omega) ha]
    obtain ⟨h1, h2⟩ := at_some ha
    have ht : (X.fr k).t = ct q := by rw [S.t k h1, h2, Int.toNat_natCast]
    refine ⟨rfl, by show ((X.put k _).fr k).t = _; rw [put_same]; exact ht, sem_put S o h1 h2 _ h2 (S.z k h1) (S.g k h1) ht.symm (fun j _ => rfl) (fun h => by have := S.cl k h1 h; rw [h2, Int.toNat_natCast] at this; exact this)⟩
  | none =>
    have hc : X.d.cur q = ct q := S.out q hq ha
    have hf' : X.load.at (q : Int) ≠ none ∨ X.load.c < X.load.m ∨ X.load.held = false := hf
    have h0 := find_zero o.load hf' (by show X.d.left ≠ 0; rw [S.left]; decide)
    have F := find_found o.load (i := (q : Int)) ha h0
    rw [handP_none (by omega) ha, fetchP_good (by rw [hc]; exact hg), if_pos h0]
    have hcur : (findP X.load q).1.d.cur q = ct q := found_cur F S.load o.load hq (.inl ha)
    refine ⟨rfl, by show (((findP X.load q).1.put _ _).fr _).t = _; rw [put_same]; exact hc, found_sem F S.load o.load hq ha _ (by show ((findP X.load q).1.fr (findP X.load q).2.1).i = _; rw [F.fk]; rfl) (by show (X.d.cur q).size = 512; rw [hc]; exact hz) (by show goodT (X.d.cur q) = true; rw [hc]; exact hg) hc.symm (fun j _ => rfl) (fun _ => by rw [hcur]; exact hc.symm)⟩
/-- .. of what is not -/
theorem sem_bad {X : Px} {ct : Nat → ByteArray} (S : Sem X ct) {q : Nat} (hq : q < X.d.n) (hg : goodT (ct q) = false) :
    (readP X q).2.2 = 7 ∧ (readP X q).1 = X.load := by
  unfold readP
  cases ha : X.at (q : Int) with
  | some k =>
    obtain ⟨h1, h2⟩ := at_some ha
    have := S.g k h1
    rw [S.t k h1, h2, Int.toNat_natCast, hg] at this
    cases this
  | none =>
    rw [handP_none (by omega) ha, fetchP_bad (by rw [S.out q hq ha]; exact hg)]
    exact ⟨rfl, rfl⟩
theorem sem_fresh {d : Dk} {m : Nat} (h : d.left = -1) : Sem (Px.fresh d m) d.cur :=
  ⟨fun _ hk => absurd hk (Nat.not_lt_zero _), fun _ hk => absurd hk (Nat.not_lt_zero _), fun _ hk => absurd hk (Nat.not_lt_zero _), fun _ hk => absurd hk (Nat.not_lt_zero _), fun _ _ _ => rfl, h⟩
end Go.Proofs.YtlfkkakohldgnaaGreatDoor

/-
  A POOL AS WHAT ITS SECTORS ARE, which of them are sure on the disk, and its calls. Conditions: those that each lemma names.
-/
import Derived.Test.YtlfkkakohldgnaaGreatDoorN34
namespace Go.Proofs.YtlfkkakohldgnaaGreatDoor.Sh
open Go.RowKit Go.Maps

/-- these sectors are on the disk as they were laid last -/
def Sur (X : Px) (ct : Nat → ByteArray) (Q : Nat → Prop) : Prop := ∀ q, q < X.d.n → Q q → X.d.cur q = ct q
theorem find_sur {N : Nat} {X : Px} {ct : Nat → ByteArray} {Q : Nat → Prop} (S : Sem X ct) (o : X.Ok N) (hs : Sur X ct Q) {i : Int} (h0 : (findP X i).2.2 = 0) : Sur (findP X i).1 ct Q := by
  cases ha : X.at i with
  | some k => rw [findP_some ha]; exact hs
  | none =>
    have F := find_found o ha h0
    intro q hq hQ
    rw [F.n] at hq
    rcases F.c with ⟨_, _, e⟩ | ⟨e1, e2, _, e⟩
    · rw [e]; exact hs q hq hQ
    · rw [e]
      split
      · rw [wrote_cur]
        split
        · rename_i e3
          have hk : (findP X i).2.1 < X.c := by have := F.lt; omega
          rw [S.t _ hk, e3]
        · exact hs q hq hQ
      · exact hs q hq hQ
theorem write_sur {N : Nat} {X : Px} {ct : Nat → ByteArray} {Q : Nat → Prop} (S : Sem X ct) (hfr : Free X) (o : X.Ok N) (hs : Sur X ct Q) {q : Nat} (hq : q < X.d.n) {t : ByteArray} (hz : t.size = 512) (hg : goodT t = true) (hn : ¬ Q q) : Sur (writeP X q t).1 (updT ct q t) Q := by
  have h0 := find_zero o (i := (q : Int)) (.inr (.inr (hfr.held o))) (by rw [S.left]; decide)
  have hf := find_sur S o hs h0
  rw [writeP_ok (by omega) hz hg, if_pos h0]
  intro j hj hQ
  have := hf j hj hQ
  show (findP X (q : Int)).1.d.cur j = updT ct q t j
  rw [this]
  unfold updT
  rw [if_neg (fun e => hn (by rw [← e]; exact hQ))]
theorem read_sur {N : Nat} {X : Px} {ct : Nat → ByteArray} {Q : Nat → Prop} (S : Sem X ct) (hfr : Free X) (o : X.Ok N) (hs : Sur X ct Q) {q : Nat} (hq : q < X.d.n) : Sur (readP X q).1 ct Q := by
  unfold readP
  cases ha : X.at (q : Int) with
  | some k => rw [handP_some (by omega) ha]; exact hs
  | none =>
    rw [handP_none (by omega) ha]
    cases hg : goodT (X.d.cur q)
    · rw [fetchP_bad hg]; exact hs
    · have h0 := find_zero o.load (i := (q : Int)) (.inr (.inr (hfr.held o))) (by show X.d.left ≠ 0; rw [S.left]; decide)
      rw [fetchP_good hg, if_pos h0]
      exact find_sur (X := X.load) S.load o.load hs h0
/-- a pool over a disk, as what its sectors are -/
def PS (W : World) (N : Nat) (w : World) (p D : Nat) (ct : Nat → ByteArray) (Q : Nat → Prop) (n m : Nat) (H : Nat → Prop) : Prop :=
  ∃ X, Pl W N w p D X H ∧ Sem X ct ∧ Free X ∧ X.d.n = n ∧ X.m = m ∧ Sur X ct Q
theorem PS.below {W w w' : World} {N p D n m : Nat} {ct : Nat → ByteArray} {Q H : Nat → Prop} (h : PS W N w p D ct Q n m H) (hb : Below w.heap.size w w') : PS W N w' p D ct Q n m H := by
  obtain ⟨X, h1, h2⟩ := h
  exact ⟨X, h1.below hb, h2⟩
theorem PS.mono {W w : World} {N M p D n m : Nat} {ct : Nat → ByteArray} {Q H : Nat → Prop} (h : PS W N w p D ct Q n m H) (hN : N ≤ M) : PS W M w p D ct Q n m H := by
  obtain ⟨X, h1, h2⟩ := h
  exact ⟨X, h1.mono hN, h2⟩
theorem PS.less {W w : World} {N p D n m : Nat} {ct : Nat → ByteArray} {Q Q' H : Nat → Prop} (h : PS W N w p D ct Q n m H) (hQ : ∀ q, Q' q → Q q) : PS W N w p D ct Q' n m H := by
  obtain ⟨X, h1, h2, h3, h4, h5, h6⟩ := h
  exact ⟨X, h1, h2, h3, h4, h5, fun q hq hk => h6 q hq (hQ q hk)⟩
theorem PS.lt {W w : World} {N p D n m : Nat} {ct : Nat → ByteArray} {Q H : Nat → Prop} (h : PS W N w p D ct Q n m H) (b : Nat) (hb : H b) : W.heap.size ≤ b ∧ b < w.heap.size := by
  obtain ⟨X, h1, _⟩ := h
  exact h1.lt b hb
theorem PS.b {W w : World} {N p D n m : Nat} {ct : Nat → ByteArray} {Q H : Nat → Prop} (h : PS W N w p D ct Q n m H) : Below W.heap.size W w := by
  obtain ⟨X, h1, _⟩ := h
  exact h1.b
theorem PS.other {W w : World} {N p D n m : Nat} {ct : Nat → ByteArray} {Q H : Nat → Prop} (h : PS W N w p D ct Q n m H) {g : Nat} (hg : ¬ H g) (hW : W.heap.size ≤ g) (o : Nat) (v : Value) : PS W N (w.setCell ⟨g, o, none⟩ v) p D ct Q n m H := by
  obtain ⟨X, h1, h2⟩ := h
  exact ⟨X, h1.other hg hW o v, h2⟩
/-- what comes of one: its own blocks alone turn -/
def PG (W : World) (N : Nat) (w w' : World) (p D : Nat) (ct : Nat → ByteArray) (Q : Nat → Prop) (n m : Nat) (H : Nat → Prop) : Prop := ∃ H', PS W N w' p D ct Q n m H' ∧ Stp w H w' H'
theorem pg_of {W w w' : World} {N M p D n m : Nat} {X Y : Px} {ct' : Nat → ByteArray} {Q H : Nat → Prop} (h : PlN W N w' p D Y w H) (hs : Sem Y ct') (hk : Keep X Y) (hn : X.d.n = n) (hm : X.m = m) (hu : Sur Y ct' Q) (hM : N ≤ M) : PG W M w w' p D ct' Q n m H := by
  obtain ⟨H', h1, h2⟩ := h
  exact ⟨H', ⟨Y, h1.mono hM, hs, hk.free, hk.n.trans hn, hk.m.trans hm, hu⟩, h2⟩
theorem pl_read_cap {W w w0 : World} {N p D : Nat} {X : Px} {H0 : Nat → Prop} (h : PlN W N w p D X w0 H0) (i : Int) (hN : N + 1 < 2305843009213693952) (he : (readP X i).2.2 = 0) (hs : (readP X i).2.1.size = 512) :
    Calls Tryz.prog 82 #[.pointer (some ⟨p, 0, none⟩), .int .i64 i] w fun e w' => ∃ g cap, e = .returned (.tuple #[.slice (some ⟨g, 0, none⟩) 512 cap, .nilIface]) ∧ Lies w' (some ⟨g, 0, none⟩) (nums (readP X i).2.1) ∧ 512 ≤ cap ∧ PlN W (N + 2) w' p D (readP X i).1 w0 H0 := by
  obtain ⟨H, ⟨μ, h1, rfl, rfl, rfl, rfl, h6⟩, hst⟩ := h
  exact (read_got μ i w h1 hN he hs).mono fun _ _ ⟨g, cap, he, hl, hc, _, μ', hp, hs', hE, hX, _⟩ => ⟨g, cap, he, hl, hc, goes_pl h1 rfl rfl h6 hst ⟨μ', hp, hs', hE.1, hE.2.1, hE.2.2, hX⟩⟩
def ReadPS (W : World) (N : Nat) (w : World) (p D : Nat) (ct : Nat → ByteArray) (Q : Nat → Prop) (n m : Nat) (H : Nat → Prop) (t : ByteArray) (e : Ending) (w' : World) : Prop :=
  ∃ g cap, e = .returned (.tuple #[.slice (some ⟨g, 0, none⟩) 512 cap, .nilIface]) ∧ Lies w' (some ⟨g, 0, none⟩) (nums t) ∧ 512 ≤ cap ∧ PG W N w w' p D ct Q n m H
theorem ps_read {W w : World} {N p D n m : Nat} {ct : Nat → ByteArray} {Q H : Nat → Prop} (h : PS W N w p D ct Q n m H) (q : Nat) (hq : q < n) (hz : (ct q).size = 512) (hg : goodT (ct q) = true) (hN : N + 2 < 2305843009213693952) :
    Calls Tryz.prog 82 #[.pointer (some ⟨p, 0, none⟩), .int .i64 q] w (ReadPS W (N + 2) w p D ct Q n m H (ct q)) := by
  obtain ⟨X, h1, h2, h3, h4, h5, h6⟩ := h
  have ok := h1.ok
  have hq' : q < X.d.n := by omega
  obtain ⟨e0, et, hs⟩ := sem_read h2 ok hq' hz hg (.inr (.inr (h3.held ok)))
  refine (pl_read_cap h1.first q (by omega) e0 (by rw [et]; exact hz)).mono ?_
  rintro e w' ⟨g, cap, he, hl, hc, hp⟩
  rw [et] at hl
  exact ⟨g, cap, he, hl, hc, pg_of hp hs (read_keep h2 h3 ok hq') h4 h5 (read_sur h2 h3 ok h6 hq') (Nat.le_refl _)⟩
def BadPS (W : World) (N : Nat) (w : World) (p D : Nat) (ct : Nat → ByteArray) (Q : Nat → Prop) (n m : Nat) (H : Nat → Prop) (e : Ending) (w' : World) : Prop :=
  e = .returned (.tuple #[.slice none 0 0, .iface 78 (.int .i64 7)]) ∧ PG W N w w' p D ct Q n m H
theorem ps_bad {W w : World} {N p D n m : Nat} {ct : Nat → ByteArray} {Q H : Nat → Prop} (h : PS W N w p D ct Q n m H) (q : Nat) (hq : q < n) (hg : goodT (ct q) = false) (hN : N + 2 < 2305843009213693952) :
    Calls Tryz.prog 82 #[.pointer (some ⟨p, 0, none⟩), .int .i64 q] w (BadPS W (N + 2) w p D ct Q n m H) := by
  obtain ⟨X, h1, h2, h3, h4, h5, h6⟩ := h
  have ok := h1.ok
  have hq' : q < X.d.n := by omega
  obtain ⟨e0, et⟩ := sem_bad h2 hq' hg
  refine (pl_read_bad h1.first q (by omega) (by rw [e0]; decide)).mono ?_
  rintro e w' ⟨he, hp⟩
  rw [e0] at he
  have hk := read_keep h2 h3 ok hq'
  have hu := read_sur h2 h3 ok h6 hq'
  rw [et] at hp hk hu
  exact ⟨he, pg_of hp h2.load hk h4 h5 hu (Nat.le_refl _)⟩
def FlushPS (W : World) (N : Nat) (w : World) (p D : Nat) (ct : Nat → ByteArray) (n m : Nat) (H : Nat → Prop) (e : Ending) (w' : World) : Prop := e = .returned .nilIface ∧ PG W N w w' p D ct (fun _ => True) n m H
theorem ps_flush {W w : World} {N p D n m : Nat} {ct : Nat → ByteArray} {Q H : Nat → Prop} (h : PS W N w p D ct Q n m H) (hN : N + 1025 < 2305843009213693952) :
    Calls Tryz.prog 76 #[.pointer (some ⟨p, 0, none⟩)] w (FlushPS W (N + m) w p D ct n m H) := by
  obtain ⟨X, h1, h2, h3, h4, h5, h6⟩ := h
  have ok := h1.ok
  obtain ⟨e0, F, _⟩ := flush_sem h2 ok
  refine (pl_flush h1.first hN).mono ?_
  rintro e w' ⟨he, hp⟩
  rw [e0, errv0] at he
  refine ⟨he, ?_⟩
  obtain ⟨H', k1, k2⟩ := hp
  rw [h5] at k1
  refine ⟨H', ⟨_, k1, F.sem, fun j => (F.h j).trans (h3 j), F.n.trans h4, F.m.trans h5, fun q hq _ => ?_⟩, k2⟩
  exact flat_cur F.sem k1.ok (fun j hj => F.d j (by rw [← F.m]; exact hj)) hq
def WrotePS (W : World) (N : Nat) (w : World) (p D : Nat) (ct : Nat → ByteArray) (Q : Nat → Prop) (n m : Nat) (H : Nat → Prop) (e : Ending) (w' : World) : Prop := e = .returned .nilIface ∧ PG W N w w' p D ct Q n m H
theorem ps_write {W w : World} {N p D n m : Nat} {ct : Nat → ByteArray} {Q H : Nat → Prop} (h : PS W N w p D ct Q n m H) (q : Nat) (hq : q < n) (t : ByteArray) (hz : t.size = 512) (hg : goodT t = true) (hnQ : ¬ Q q) (g cap : Nat) (hl : Lies w (some ⟨g, 0, none⟩) (nums t)) (hc : 512 ≤ cap) (hH : ¬ H g) (hN : N < 2305843009213693952) :
    Calls Tryz.prog 96 #[.pointer (some ⟨p, 0, none⟩), .int .i64 q, .slice (some ⟨g, 0, none⟩) 512 cap] w (WrotePS W (N + 1) w p D (updT ct q t) Q n m H) := by
  obtain ⟨X, h1, h2, h3, h4, h5, h6⟩ := h
  have ok := h1.ok
  have hq' : q < X.d.n := by omega
  obtain ⟨e0, hs⟩ := sem_write h2 ok hq' hz hg (.inr (.inr (h3.held ok)))
  have hk := write_keep h2 h3 ok hq' hz hg
  have hu := write_sur h2 h3 ok h6 hq' hz hg hnQ
  obtain ⟨μ, k1, rfl, rfl, rfl, rfl, k6⟩ := h1
  have hw := write_any' μ q t (some ⟨g, 0, none⟩) cap w k1 hl (by rw [hz]; exact hc) (fun b off e hb => by
    obtain ⟨rfl, _⟩ : g = b ∧ 0 = off := by simpa using e
    exact hH hb) hN
  rw [hz] at hw
  exact hw.mono fun _ _ ⟨he, hgo⟩ => ⟨by rw [he, e0, errv0], pg_of (goes_pl k1 rfl rfl k6 (Stp.refl _ _) hgo) hs hk h4 h5 hu (Nat.le_refl _)⟩
end Go.Proofs.YtlfkkakohldgnaaGreatDoor.Sh

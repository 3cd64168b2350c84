/-
  A POOL AS WHAT ITS SECTORS ARE, which of them are sure on the disk, and its calls. Conditions: those that each lemma names.
  A SHADOW's PAGES THROUGH ITS POOL: the walks of look, put, layRoot. Conditions: those that each lemma names.
  A SHADOW's PAGES LAID: the walks of put and layRoot. Conditions: those that each lemma names.
-/
import Derived.Test.YtokikeenfpligaaGreatDoorU33
namespace Go.Proofs.YtokikeenfpligaaGreatDoor.Sh
open Go.RowKit Go.Maps

/-- these sectors are on the disk as they were laid last -/
def Sur (X : Px) (ct : Nat → ByteArray) (Q : Nat → Prop) : Prop := ∀ q, q < X.d.n → Q q → X.d.cur q = ct q
theorem find_sur {N : Nat} {X : Px} {ct : Nat → ByteArray} {Q : Nat → Prop} (S : Sem X ct) (o : X.Ok N) (hs : Sur X ct Q) {i : Int} (h0 : (findP X i).2.2 = 0) : Sur (findP X i).1 ct Q := by
  cases ha : X.at i with
  | some k => rw [findP_some ha]; exact hs
  | none =>
    have F := find_found o ha h0
    intro q hq hQ
    rw [F.n] at hq
    rcases F.c with ⟨_, _, e⟩ | ⟨e1, e2, _, e⟩
    · rw [e]; exact hs q hq hQ
    · rw [e]
      split
      · rw [wrote_cur]
        split
        · rename_i e3
          have hk : (findP X i).2.1 < X.c := by have := F.lt; omega
          rw [S.t _ hk, e3]
        · exact hs q hq hQ
      · exact hs q hq hQ
theorem write_sur {N : Nat} {X : Px} {ct : Nat → ByteArray} {Q : Nat → Prop} (S : Sem X ct) (hfr : Free X) (o : X.Ok N) (hs : Sur X ct Q) {q : Nat} (hq : q < X.d.n) {t : ByteArray} (hz : t.size = 512) (hg : goodT t = true) (hn : ¬ Q q) : Sur (writeP X q t).1 (updT ct q t) Q := by
  have h0 := find_zero o (i := (q : Int)) (.inr (.inr (hfr.held o))) (by rw [S.left]; decide)
  have hf := find_sur S o hs h0
  rw [writeP_ok (by omega) hz hg, if_pos h0]
  intro j hj hQ
  have := hf j hj hQ
  show (findP X (q : Int)).1.d.cur j = updT ct q t j
  rw [this]
  unfold updT
  rw [if_neg (fun e => hn (by rw [← e]; exact hQ))]
theorem read_sur {N : Nat} {X : Px} {ct : Nat → ByteArray} {Q : Nat → Prop} (S : Sem X ct) (hfr : Free X) (o : X.Ok N) (hs : Sur X ct Q) {q : Nat} (hq : q < X.d.n) : Sur (readP X q).1 ct Q := by
  unfold readP
  cases ha : X.at (q : Int) with
  | some k => rw [handP_some (by omega) ha]; exact hs
  | none =>
    rw [handP_none (by omega) ha]
    cases hg : goodT (X.d.cur q)
    · rw [fetchP_bad hg]; exact hs
    · have h0 := find_zero o.load (i := (q : Int)) (.inr (.inr (hfr.held o))) (by show X.d.left ≠ 0; rw [S.left]; decide)
      rw [fetchP_good hg, if_pos h0]
      exact find_sur (X := X.load) S.load o.load hs h0
/-- a pool over a disk, as what its sectors are -/
def PS (W : World) (N : Nat) (w : World) (p D : Nat) (ct : Nat → ByteArray) (Q : Nat → Prop) (n m : Nat) (H : Nat → Prop) : Prop :=
  ∃ X, Pl W N w p D X H ∧ Sem X ct ∧ Free X ∧ X.d.n = n ∧ X.m = m ∧ Sur X ct Q
theorem PS.below {W w w' : World} {N p D n m : Nat} {ct : Nat → ByteArray} {Q H : Nat → Prop} (h : PS W N w p D ct Q n m H) (hb : Below w.heap.size w w') : PS W N w' p D ct Q n m H := by
  obtain ⟨X, h1, h2⟩ := h
  exact ⟨X, h1.below hb, h2⟩
theorem PS.mono {W w : World} {N M p D n m : Nat} {ct : Nat → ByteArray} {Q H : Nat → Prop} (h : PS W N w p D ct Q n m H) (hN : N ≤ M) : PS W M w p D ct Q n m H := by
  obtain ⟨X, h1, h2⟩ := h
  exact ⟨X, h1.mono hN, h2⟩
theorem PS.less {W w : World} {N p D n m : Nat} {ct : Nat → ByteArray} {Q Q' H : Nat → Prop} (h : PS W N w p D ct Q n m H) (hQ : ∀ q, Q' q → Q q) : PS W N w p D ct Q' n m H := by
  obtain ⟨X, h1, h2, h3, h4, h5, h6⟩ := h
  exact ⟨X, h1, h2, h3, h4, h5, fun q hq hk => h6 q hq (hQ q hk)⟩
theorem PS.lt {W w : World} {N p D n m : Nat} {ct : Nat → ByteArray} {Q H : Nat → Prop} (h : PS W N w p D ct Q n m H) (b : Nat) (hb : H b) : W.heap.size ≤ b ∧ b < w.heap.size := by
  obtain ⟨X, h1, _⟩ := h
  exact h1.lt b hb
theorem PS.b {W w : World} {N p D n m : Nat} {ct : Nat → ByteArray} {Q H : Nat → Prop} (h : PS W N w p D ct Q n m H) : Below W.heap.size W w := by
  obtain ⟨X, h1, _⟩ := h
  exact h1.b
theorem PS.other {W w : World} {N p D n m : Nat} {ct : Nat → ByteArray} {Q H : Nat → Prop} (h : PS W N w p D ct Q n m H) {g : Nat} (hg : ¬ H g) (hW : W.heap.size ≤ g) (o : Nat) (v : Value) : PS W N (w.setCell ⟨g, o, none⟩ v) p D ct Q n m H := by
  obtain ⟨X, h1, h2⟩ := h
  exact ⟨X, h1.other hg hW o v, h2⟩
/-- what comes of one: its own blocks alone turn -/
def PG (W : World) (N : Nat) (w w' : World) (p D : Nat) (ct : Nat → ByteArray) (Q : Nat → Prop) (n m : Nat) (H : Nat → Prop) : Prop := ∃ H', PS W N w' p D ct Q n m H' ∧ Stp w H w' H'
theorem pg_of {W w w' : World} {N M p D n m : Nat} {X Y : Px} {ct' : Nat → ByteArray} {Q H : Nat → Prop} (h : PlN W N w' p D Y w H) (hs : Sem Y ct') (hk : Keep X Y) (hn : X.d.n = n) (hm : X.m = m) (hu : Sur Y ct' Q) (hM : N ≤ M) : PG W M w w' p D ct' Q n m H := by
  obtain ⟨H', h1, h2⟩ := h
  exact ⟨H', ⟨Y, h1.mono hM, hs, hk.free, hk.n.trans hn, hk.m.trans hm, hu⟩, h2⟩
theorem pl_read_cap {W w w0 : World} {N p D : Nat} {X : Px} {H0 : Nat → Prop} (h : PlN W N w p D X w0 H0) (i : Int) (hN : N + 1 < 2305843009213693952) (he : (readP X i).2.2 = 0) (hs : (readP X i).2.1.size = 512) :
    Calls Tryz.prog 82 #[.pointer (some ⟨p, 0, none⟩), .int .i64 i] w fun e w' => ∃ g cap, e = .returned (.tuple #[.slice (some ⟨g, 0, none⟩) 512 cap, .nilIface]) ∧ Lies w' (some ⟨g, 0, none⟩) (nums (readP X i).2.1) ∧ 512 ≤ cap ∧ PlN W (N + 2) w' p D (readP X i).1 w0 H0 := by
  obtain ⟨H, ⟨μ, h1, rfl, rfl, rfl, rfl, h6⟩, hst⟩ := h
  exact (read_got μ i w h1 hN he hs).mono fun _ _ ⟨g, cap, he, hl, hc, _, μ', hp, hs', hE, hX, _⟩ => ⟨g, cap, he, hl, hc, goes_pl h1 rfl rfl h6 hst ⟨μ', hp, hs', hE.1, hE.2.1, hE.2.2, hX⟩⟩
def ReadPS (W : World) (N : Nat) (w : World) (p D : Nat) (ct : Nat → ByteArray) (Q : Nat → Prop) (n m : Nat) (H : Nat → Prop) (t : ByteArray) (e : Ending) (w' : World) : Prop :=
  ∃ g cap, e = .returned (.tuple #[.slice (some ⟨g, 0, none⟩) 512 cap, .nilIface]) ∧ Lies w' (some ⟨g, 0, none⟩) (nums t) ∧ 512 ≤ cap ∧ PG W N w w' p D ct Q n m H
theorem ps_read {W w : World} {N p D n m : Nat} {ct : Nat → ByteArray} {Q H : Nat → Prop} (h : PS W N w p D ct Q n m H) (q : Nat) (hq : q < n) (hz : (ct q).size = 512) (hg : goodT (ct q) = true) (hN : N + 2 < 2305843009213693952) :
    Calls Tryz.prog 82 #[.pointer (some ⟨p, 0, none⟩), .int .i64 q] w (ReadPS W (N + 2) w p D ct Q n m H (ct q)) := by
  obtain ⟨X, h1, h2, h3, h4, h5, h6⟩ := h
  have ok := h1.ok
  have hq' : q < X.d.n := by omega
  obtain ⟨e0, et, hs⟩ := sem_read h2 ok hq' hz hg (.inr (.inr (h3.held ok)))
  refine (pl_read_cap h1.first q (by omega) e0 (by rw [et]; exact hz)).mono ?_
  rintro e w' ⟨g, cap, he, hl, hc, hp⟩
  rw [et] at hl
  exact ⟨g, cap, he, hl, hc, pg_of hp hs (read_keep h2 h3 ok hq') h4 h5 (read_sur h2 h3 ok h6 hq') (Nat.le_refl _)⟩
def BadPS (W : World) (N : Nat) (w : World) (p D : Nat) (ct : Nat → ByteArray) (Q : Nat → Prop) (n m : Nat) (H : Nat → Prop) (e : Ending) (w' : World) : Prop :=
  e = .returned (.tuple #[.slice none 0 0, .iface 78 (.int .i64 7)]) ∧ PG W N w w' p D ct Q n m H
theorem ps_bad {W w : World} {N p D n m : Nat} {ct : Nat → ByteArray} {Q H : Nat → Prop} (h : PS W N w p D ct Q n m H) (q : Nat) (hq : q < n) (hg : goodT (ct q) = false) (hN : N + 2 < 2305843009213693952) :
    Calls Tryz.prog 82 #[.pointer (some ⟨p, 0, none⟩), .int .i64 q] w (BadPS W (N + 2) w p D ct Q n m H) := by
  obtain ⟨X, h1, h2, h3, h4, h5, h6⟩ := h
  have ok := h1.ok
  have hq' : q < X.d.n := by omega
  obtain ⟨e0, et⟩ := sem_bad h2 hq' hg
  refine (pl_read_bad h1.first q (by omega) (by rw [e0]; decide)).mono ?_
  rintro e w' ⟨he, hp⟩
  rw [e0] at he
  have hk := read_keep h2 h3 ok hq'
  have hu := read_sur h2 h3 ok h6 hq'
  rw [et] at hp hk hu
  exact ⟨he, pg_of hp h2.load hk h4 h5 hu (Nat.le_refl _)⟩
def FlushPS (W : World) (N : Nat) (w : World) (p D : Nat) (ct : Nat → ByteArray) (n m : Nat) (H : Nat → Prop) (e : Ending) (w' : World) : Prop := e = .returned .nilIface ∧ PG W N w w' p D ct (fun _ => True) n m H
theorem ps_flush {W w : World} {N p D n m : Nat} {ct : Nat → ByteArray} {Q H : Nat → Prop} (h : PS W N w p D ct Q n m H) (hN : N + 1025 < 2305843009213693952) :
    Calls Tryz.prog 76 #[.pointer (some ⟨p, 0, none⟩)] w (FlushPS W (N + m) w p D ct n m H) := by
  obtain ⟨X, h1, h2, h3, h4, h5, h6⟩ := h
  have ok := h1.ok
  obtain ⟨e0, F, _⟩ := flush_sem h2 ok
  refine (pl_flush h1.first hN).mono ?_
  rintro e w' ⟨he, hp⟩
  rw [e0, errv0] at he
  refine ⟨he, ?_⟩
  obtain ⟨H', k1, k2⟩ := hp
  rw [h5] at k1
  refine ⟨H', ⟨_, k1, F.sem, fun j => (F.h j).trans (h3 j), F.n.trans h4, F.m.trans h5, fun q hq _ => ?_⟩, k2⟩
  exact flat_cur F.sem k1.ok (fun j hj => F.d j (by rw [← F.m]; exact hj)) hq
def WrotePS (W : World) (N : Nat) (w : World) (p D : Nat) (ct : Nat → ByteArray) (Q : Nat → Prop) (n m : Nat) (H : Nat → Prop) (e : Ending) (w' : World) : Prop := e = .returned .nilIface ∧ PG W N w w' p D ct Q n m H
theorem ps_write {W w : World} {N p D n m : Nat} {ct : Nat → ByteArray} {Q H : Nat → Prop} (h : PS W N w p D ct Q n m H) (q : Nat) (hq : q < n) (t : ByteArray) (hz : t.size = 512) (hg : goodT t = true) (hnQ : ¬ Q q) (g cap : Nat) (hl : Lies w (some ⟨g, 0, none⟩) (nums t)) (hc : 512 ≤ cap) (hH : ¬ H g) (hN : N < 2305843009213693952) :
    Calls Tryz.prog 96 #[.pointer (some ⟨p, 0, none⟩), .int .i64 q, .slice (some ⟨g, 0, none⟩) 512 cap] w (WrotePS W (N + 1) w p D (updT ct q t) Q n m H) := by
  obtain ⟨X, h1, h2, h3, h4, h5, h6⟩ := h
  have ok := h1.ok
  have hq' : q < X.d.n := by omega
  obtain ⟨e0, hs⟩ := sem_write h2 ok hq' hz hg (.inr (.inr (h3.held ok)))
  have hk := write_keep h2 h3 ok hq' hz hg
  have hu := write_sur h2 h3 ok h6 hq' hz hg hnQ
  obtain ⟨μ, k1, rfl, rfl, rfl, rfl, k6⟩ := h1
  have hw := write_any' μ q t (some ⟨g, 0, none⟩) cap w k1 hl (by rw [hz]; exact hc) (fun b off e hb => by
    obtain ⟨rfl, _⟩ : g = b ∧ 0 = off := by simpa using e
    exact hH hb) hN
  rw [hz] at hw
  exact hw.mono fun _ _ ⟨he, hgo⟩ => ⟨by rw [he, e0, errv0], pg_of (goes_pl k1 rfl rfl k6 (Stp.refl _ _) hgo) hs hk h4 h5 hu (Nat.le_refl _)⟩
end Go.Proofs.YtokikeenfpligaaGreatDoor.Sh
namespace Go.Proofs.YtokikeenfpligaaGreatDoor.Sh
open Go.RowKit Go.Maps

/-- a page's sector -/
def bt (p : Sm.Pg) : ByteArray := strOfNums p.bytes
structure PgOk (p : Sm.Pg) : Prop where
  fit : p.Fit
  may : p.may = true
  byt : ∀ r ∈ p.recs, Sm.Byte r
theorem bt_nums {p : Sm.Pg} (h : PgOk p) : nums (bt p) = p.bytes := nums_str (fun i hi => Sm.byte_bytes h.byt i hi)
theorem bt_size {p : Sm.Pg} (h : PgOk p) : (bt p).size = 512 := by
  have := nums_len (bt p)
  rw [bt_nums h, Sm.bytes_len h.may] at this
  exact this.symm
theorem bt_good {p : Sm.Pg} (h : PgOk p) : goodT (bt p) = true := by
  unfold goodT
  rw [bt_nums h]
  exact Sm.bytes_good p
theorem pg4_ok (ki nu ep : Int) (l : List Nat) (hl : l.length ≤ 123) (k0 : 0 ≤ ki) (k1 : ki < 256) (n0 : 0 ≤ nu) (n1 : nu < 4294967296) (e0 : 0 ≤ ep) (e1 : ep < 18446744073709551616) : PgOk (pg4 ki nu ep l) := by
  refine ⟨⟨k0, k1, n0, n1, e0, e1⟩, ?_, ?_⟩
  · show Sm.Pg.may (.mkPg ki nu ep 4 (l.map rec4)) = true
    unfold Sm.Pg.may
    have h1 : Sm.fitsB 4 ((l.map rec4).length : Int) = true := by
      rw [Sm.fits_iff]
      have : Sm.room 4 = 123 := by decide
      rw [this, List.length_map]
      exact ⟨by decide, by omega⟩
    have h2 : (l.map rec4).any (Sm.badB 4) = false := by
      rw [List.any_eq_false]
      intro r hr
      obtain ⟨x, _, rfl⟩ := List.mem_map.1 hr
      simp [Sm.badB, rec4_len]
    show (Sm.fitsB 4 ((l.map rec4).length : Int) && !((l.map rec4).any (Sm.badB 4))) = true
    rw [h1, h2]
    rfl
  · intro r hr
    obtain ⟨x, _, rfl⟩ := List.mem_map.1 hr
    exact Sm.be_byte _ _
theorem PG.below {W w w' w2 : World} {N p D n m : Nat} {ct : Nat → ByteArray} {Q H : Nat → Prop} (h : PG W N w w' p D ct Q n m H) (hb : Below w'.heap.size w' w2) : PG W N w w2 p D ct Q n m H := by
  obtain ⟨H', h1, h2⟩ := h
  exact ⟨H', h1.below hb, h2.trans (.of_below hb)⟩
theorem PG.after {W w0 w w' : World} {N p D n m : Nat} {ct : Nat → ByteArray} {Q H : Nat → Prop} (hb : Below w0.heap.size w0 w) (h : PG W N w w' p D ct Q n m H) : PG W N w0 w' p D ct Q n m H := by
  obtain ⟨H', h1, h2⟩ := h
  exact ⟨H', h1, (Stp.of_below (H := H) hb).trans h2⟩
def zpv : Value := .agg #[.int .u8 0, .int .u32 0, .int .u64 0, .int .i64 0, .slice none 0 0]
theorem _root_.Go.Proofs.YtokikeenfpligaaGreatDoor.Stp.set {w w' : World} {H H' : Nat → Prop} (h : Stp w H w' H') {g : Nat} (hg : w.heap.size ≤ g) (o : Nat) (v : Value) : Stp w H (w'.setCell ⟨g, o, none⟩ v) H' :=
  ⟨h.os, h.tape, h.output, by rw [World.size_setCell]; exact h.size, fun k hk hn => (Below.heap_setCell _ _ _ _ (fun e => by have e2 : k = g := e; omega)).trans (h.block k hk hn), h.own⟩
/-- it holds, whatever comes of some blocks -/
def Lasts (w : World) (H : Nat → Prop) (φ : World → Prop) : Prop := ∀ w' H', Stp w H w' H' → φ w'
theorem Lasts.now {w : World} {H : Nat → Prop} {φ : World → Prop} (h : Lasts w H φ) : φ w := h w H (Stp.refl _ _)
theorem Lasts.stp {w w' : World} {H H' : Nat → Prop} {φ : World → Prop} (h : Lasts w H φ) (s : Stp w H w' H') : Lasts w' H' φ := fun w2 H2 s2 => h w2 H2 (s.trans s2)
theorem Lasts.mono {w : World} {H : Nat → Prop} {φ ψ : World → Prop} (h : Lasts w H φ) (f : ∀ u, φ u → ψ u) : Lasts w H ψ := fun w2 H2 s2 => f _ (h w2 H2 s2)
theorem Lasts.block {w : World} {H : Nat → Prop} {g : Nat} {o : Option Obj} (hg : g < w.heap.size) (hn : ¬ H g) (h : w.heap[g]? = o) : Lasts w H (fun u => u.heap[g]? = o) := fun _ _ s => (s.block g hg hn).trans h
theorem own_stp {w w' : World} {H H' : Nat → Prop} {B : Nat} {e : TypeId} {s : Nat} {v : Value} {n : Nat} {xs : List Value} (h : w.ownsRow B e s v n xs) (hs : Stp w H w' H') (hH : ∀ k, H k → k < B) : w'.ownsRow B e s v n xs := by
  refine ⟨h.1, ?_⟩
  rcases h.2 with h1 | ⟨g, cap, cur, a, b, c, d⟩
  · exact .inl h1
  · exact .inr ⟨g, cap, cur, a, b, (hs.block g (lt_of_block c) (fun q => by have := hH g q; omega)).trans c, d⟩
theorem Lasts.recs {w : World} {H : Nat → Prop} {B : Nat} {v : Value} {n : Nat} {rs : List (List Int)} (h : Sm.OwnRecs B w v n rs) (hH : ∀ k, H k → k < B) : Lasts w H (fun u => Sm.OwnRecs 0 u v n rs) := by
  intro w' H' s
  obtain ⟨a, b, vs, c, d, e⟩ := h
  exact ⟨a, b, vs, c, Sm.own_mono (own_stp d s hH) (Nat.zero_le _), fun i hi hi' => Sm.own_mono (own_stp (e i hi hi') s hH) (Nat.zero_le _)⟩
theorem ps_set5 {W w w0 w1 : World} {N p D n m : Nat} {ct : Nat → ByteArray} {Q H H' : Nat → Prop} (hb : Below w.heap.size w w0) (h1 : PS W N w1 p D ct Q n m H') (h2 : Stp w0 H w1 H') {g : Nat} (hg0 : w.heap.size ≤ g) (hg1 : g < w0.heap.size) (hH : ¬ H g) (hW : W.heap.size ≤ g) (v0 v1 v2 v3 v4 : Value) :
    PS W N (((((w1.setCell ⟨g, 0, none⟩ v0).setCell ⟨g, 1, none⟩ v1).setCell ⟨g, 2, none⟩ v2).setCell ⟨g, 3, none⟩ v3).setCell ⟨g, 4, none⟩ v4) p D ct Q n m H' ∧ Stp w H (((((w1.setCell ⟨g, 0, none⟩ v0).setCell ⟨g, 1, none⟩ v1).setCell ⟨g, 2, none⟩ v2).setCell ⟨g, 3, none⟩ v3).setCell ⟨g, 4, none⟩ v4) H' := by
  have hng : ¬ H' g := fun q => by rcases h2.own g q with e | e; exact hH e; omega
  have h3 := (Stp.of_below (H := H) hb).trans h2
  exact ⟨((((h1.other hng hW 0 v0).other hng hW 1 v1).other hng hW 2 v2).other hng hW 3 v3).other hng hW 4 v4, ((((h3.set hg0 0 v0).set hg0 1 v1).set hg0 2 v2).set hg0 3 v3).set hg0 4 v4⟩
theorem PG.set5 {W w w0 w1 : World} {N p D n m : Nat} {ct : Nat → ByteArray} {Q H : Nat → Prop} (hb : Below w.heap.size w w0) (h : PG W N w0 w1 p D ct Q n m H) {g : Nat} (hg0 : w.heap.size ≤ g) (hg1 : g < w0.heap.size) (hH : ¬ H g) (hW : W.heap.size ≤ g) (v0 v1 v2 v3 v4 : Value) :
    PG W N w (((((w1.setCell ⟨g, 0, none⟩ v0).setCell ⟨g, 1, none⟩ v1).setCell ⟨g, 2, none⟩ v2).setCell ⟨g, 3, none⟩ v3).setCell ⟨g, 4, none⟩ v4) p D ct Q n m H := by
  obtain ⟨H', h1, h2⟩ := h
  have hng : ¬ H' g := fun q => by rcases h2.own g q with e | e; exact hH e; omega
  have h3 := (Stp.of_below (H := H) hb).trans h2
  exact ⟨H', ((((h1.other hng hW 0 v0).other hng hW 1 v1).other hng hW 2 v2).other hng hW 3 v3).other hng hW 4 v4, ((((h3.set hg0 0 v0).set hg0 1 v1).set hg0 2 v2).set hg0 3 v3).set hg0 4 v4⟩
def LookBad (W : World) (N : Nat) (w : World) (p D : Nat) (ct : Nat → ByteArray) (Q : Nat → Prop) (n m : Nat) (H : Nat → Prop) (e : Ending) (w' : World) : Prop :=
  e = .returned (.tuple #[zpv, .iface 78 (.int .i64 7)]) ∧ PG W N w w' p D ct Q n m H
set_option maxRecDepth 100000 in
set_option maxHeartbeats 1000000 in
theorem look_bad {W w : World} {N p D n m : Nat} {ct : Nat → ByteArray} {Q H : Nat → Prop} (P : Nat) (h : PS W N w p D ct Q n m H) (c0 : w.cell? ⟨P, 0, none⟩ = some (.pointer (some ⟨p, 0, none⟩))) (q : Nat) (hq : q < n) (hg : goodT (ct q) = false) (hN : N + 2 < 2305843009213693952) :
    Calls Tryz.prog 44 #[.pointer (some ⟨P, 0, none⟩), .int .i64 q] w (LookBad W (N + 2) w p D ct Q n m H) := by
  have HS := Lib.hid (h.below (Sm.alX w (.cells #[.int .u8 0, .int .u32 0, .int .u64 0, .int .i64 0, .slice none 0 0] 47)))
  have HB := Lib.hid (Sm.alX w (.cells #[.int .u8 0, .int .u32 0, .int .u64 0, .int .i64 0, .slice none 0 0] 47))
  have hlt := World.block_lt_of_cell? w _ c0
  have HZ := Lib.hid (heap_alloc_new w (.cells #[.int .u8 0, .int .u32 0, .int .u64 0, .int .i64 0, .slice none 0 0] 47))
  have HG := Lib.hid hg
  have HQ := Lib.hid hq
  have HH := Lib.hid (show ¬ H w.heap.size from fun e => by have := (h.lt _ e).2; omega)
  have HW := Lib.hid h.b.size
  clear h hg hq
  go_enter Tryz.func44, Tryz.ntmps44
  go_wp2_with fail
  refine (ps_bad HS.out q HQ.out HG.out hN).mono ?_
  rintro e w1 ⟨rfl, hp⟩
  have HP := Lib.hid hp
  have HZ1 := Lib.hid (show w1.heap[w.heap.size]? = some (.cells #[.int .u8 0, .int .u32 0, .int .u64 0, .int .i64 0, .slice none 0 0] 47 (0, 0)) by
    obtain ⟨H', _, hs⟩ := hp
    exact (hs.block w.heap.size (by simp) HH.out).trans HZ.out)
  obtain ⟨⟨z0, z1, z2, z3, z4⟩, t0, t1, t2, t3, t4⟩ := Sm.row_cells HZ1.out
  clear hp
  go_wp2
  refine Sm.post_row_tmp Tryz.results44 w.heap.size 47 #[.int .u8 0, .int .u32 0, .int .u64 0, .int .i64 0, .slice none 0 0] (0, 0) _ (.iface 78 (.int .i64 7)) Tryz.underlying47 rfl Sm.info_pg ?_ ?_ (Sm.row_set5 HZ1.out _ _ _ _ _) ?_ ?_
  · rfl
  · rfl
  · rfl
  exact ⟨rfl, HP.out.set5 HB.out (Nat.le_refl _) (by simp) HH.out HW.out _ _ _ _ _⟩
/-- records of their own, that hang on the blocks from B to C alone -/
def OwnIn (B C : Nat) (w : World) (v : Value) (n : Nat) (rs : List (List Int)) : Prop := ∀ u : World, (∀ k, B ≤ k → k < C → u.heap[k]? = w.heap[k]?) → Sm.OwnRecs B u v n rs
theorem own_agree {w w' : World} {B : Nat} {e : TypeId} {s : Nat} {v : Value} {n : Nat} {xs : List Value} (h : w.ownsRow B e s v n xs) (hb : ∀ k, B ≤ k → k < w.heap.size → w'.heap[k]? = w.heap[k]?) : w'.ownsRow B e s v n xs := by
  refine ⟨h.1, ?_⟩
  rcases h.2 with h1 | ⟨g, cap, cur, a, b, c, d⟩
  · exact .inl h1
  · exact .inr ⟨g, cap, cur, a, b, (hb g b (lt_of_block c)).trans c, d⟩
theorem OwnIn.of {B : Nat} {w : World} {v : Value} {n : Nat} {rs : List (List Int)} (h : Sm.OwnRecs B w v n rs) : OwnIn B w.heap.size w v n rs := by
  intro u hu
  obtain ⟨a, b, vs, c, d, e⟩ := h
  exact ⟨a, b, vs, c, own_agree d hu, fun i hi hi' => own_agree (e i hi hi') hu⟩
theorem OwnIn.now {B C : Nat} {w : World} {v : Value} {n : Nat} {rs : List (List Int)} (h : OwnIn B C w v n rs) : Sm.OwnRecs B w v n rs := h w fun _ _ _ => rfl
theorem OwnIn.step {B C : Nat} {w w' : World} {v : Value} {n : Nat} {rs : List (List Int)} (h : OwnIn B C w v n rs) (hb : ∀ k, B ≤ k → k < C → w'.heap[k]? = w.heap[k]?) : OwnIn B C w' v n rs :=
  fun u hu => h u fun k h1 h2 => (hu k h1 h2).trans (hb k h1 h2)
def Looked (W : World) (N : Nat) (w : World) (p D : Nat) (ct : Nat → ByteArray) (Q : Nat → Prop) (n m : Nat) (H : Nat → Prop) (pg : Sm.Pg) (e : Ending) (w' : World) : Prop :=
  ∃ ra cap H', e = .returned (.tuple #[pv pg.kind pg.number pg.epoch pg.size ra pg.recs.length cap, .nilIface]) ∧ PS W N w' p D ct Q n m H' ∧ Stp w H w' H' ∧ ∃ B, w.heap.size < B ∧ B ≤ w'.heap.size ∧ (∀ k, H' k → k < B) ∧ OwnIn B w'.heap.size w' (.slice ra pg.recs.length cap) pg.recs.length pg.recs
theorem decode_page (p : Sm.Pg) (b c : Nat) (w : World) (hp : PgOk p) (hb : Lies w (some ⟨b, 0, none⟩) p.bytes) (hc : 512 ≤ c) :
    Calls Tryz.prog 83 #[.slice (some ⟨b, 0, none⟩) 512 c] w (Sm.Read w p p.recs.length) := by
  obtain ⟨s, hs, _⟩ := Sm.may_nat hp.may
  have hd := Sm.decode_ok b 0 c p.bytes s p.recs.length w (Sm.bytes_len hp.may) (fun i hi => hb i hi) hc (Sm.bytes_good p) (by rw [Sm.bytes_size p hp.may]; exact hs) (Sm.bytes_count p hp.may) (Sm.bytes_form p s hp.may hs)
  rwa [Sm.page_back p s hp.fit hp.may hs] at hd
set_option maxRecDepth 100000 in
set_option maxHeartbeats 1000000 in
theorem look_page {W w : World} {N p D n m : Nat} {ct : Nat → ByteArray} {Q H : Nat → Prop} (P : Nat) (h : PS W N w p D ct Q n m H) (c0 : w.cell? ⟨P, 0, none⟩ = some (.pointer (some ⟨p, 0, none⟩))) (q : Nat) (hq : q < n) (pg : Sm.Pg) (hp : PgOk pg) (hct : ct q = bt pg) (hN : N + 2 < 2305843009213693952) :
    Calls Tryz.prog 44 #[.pointer (some ⟨P, 0, none⟩), .int .i64 q] w (Looked W (N + 2) w p D ct Q n m H pg) := by
  have HS := Lib.hid (h.below (Sm.alX w (.cells #[.int .u8 0, .int .u32 0, .int .u64 0, .int .i64 0, .slice none 0 0] 47)))
  have HB := Lib.hid (Sm.alX w (.cells #[.int .u8 0, .int .u32 0, .int .u64 0, .int .i64 0, .slice none 0 0] 47))
  have hlt := World.block_lt_of_cell? w _ c0
  have HZ := Lib.hid (heap_alloc_new w (.cells #[.int .u8 0, .int .u32 0, .int .u64 0, .int .i64 0, .slice none 0 0] 47))
  have HQ := Lib.hid hq
  have HPG := Lib.hid hp
  have HCT := Lib.hid hct
  have HH := Lib.hid (show ¬ H w.heap.size from fun e => by have := (h.lt _ e).2; omega)
  have HW := Lib.hid h.b.size
  clear h hq hp hct
  go_enter Tryz.func44, Tryz.ntmps44
  go_wp2_with fail
  refine (ps_read HS.out q HQ.out (by rw [HCT.out]; exact bt_size HPG.out) (by rw [HCT.out]; exact bt_good HPG.out) hN).mono ?_
  rintro e w1 ⟨g, cap, rfl, hl, hc, hpg⟩
  have HP := Lib.hid hpg
  have HL := Lib.hid (show Lies w1 (some ⟨g, 0, none⟩) pg.bytes by rw [HCT.out, bt_nums HPG.out] at hl; exact hl)
  have HC := Lib.hid hc
  clear hpg hl hc
  go_wp2_with fail
  refine (decode_page pg g cap _ HPG.out HL.out HC.out).mono ?_
  rintro e w2 ⟨ra, cp, rfl, hr, hb⟩
  have HZ1 := Lib.hid (show w2.heap[w.heap.size]? = some (.cells #[.int .u8 0, .int .u32 0, .int .u64 0, .int .i64 0, .slice none 0 0] 47 (0, 0)) by
    obtain ⟨H', _, hs⟩ := HP.out
    have hz : w.heap.size < w1.heap.size := Nat.lt_of_lt_of_le (by simp) hs.size
    exact (hb.block w.heap.size hz).trans ((hs.block w.heap.size (by simp) HH.out).trans HZ.out))
  obtain ⟨H', hps, hst⟩ := HP.out
  have HHB := Lib.hid (fun k (hk : H' k) => (hps.lt k hk).2)
  have HPS := Lib.hid (hps.below hb)
  have HST := Lib.hid (hst.trans (.of_below (H := H') hb))
  clear hps hst
  have HR := Lib.hid (hr.other HZ1.out (by decide) (by decide) (w' := ((((w2.setCell ⟨w.heap.size, 0, none⟩ (.int .u8 pg.kind)).setCell ⟨w.heap.size, 1, none⟩ (.int .u32 pg.number)).setCell ⟨w.heap.size, 2, none⟩ (.int .u64 pg.epoch)).setCell ⟨w.heap.size, 3, none⟩ (.int .i64 pg.size)).setCell ⟨w.heap.size, 4, none⟩ (.slice ra pg.recs.length cp)) fun j hj => Sm.heap_set5 _ _ j _ _ _ _ _ hj)
  obtain ⟨⟨z0, z1, z2, z3, z4⟩, t0, t1, t2, t3, t4⟩ := Sm.row_cells HZ1.out
  have HZL := Lib.hid (show w.heap.size < w1.heap.size by
    have hs := HST.out.size
    obtain ⟨_, _, hs2⟩ := HP.out
    exact Nat.lt_of_lt_of_le (by simp) hs2.size)
  have HBS := Lib.hid hb.size
  clear hr hb HP
  go_wp2
  refine Sm.post_row_tmp Tryz.results44 w.heap.size 47 #[.int .u8 pg.kind, .int .u32 pg.number, .int .u64 pg.epoch, .int .i64 pg.size, .slice ra pg.recs.length cp] (0, 0) _ .nilIface Tryz.underlying47 rfl Sm.info_pg ?_ ?_ (Sm.row_set5 HZ1.out _ _ _ _ _) ?_ ?_
  · rfl
  · rfl
  · rfl
  obtain ⟨k1, k2⟩ := ps_set5 HB.out HPS.out HST.out (Nat.le_refl _) (by simp) HH.out HW.out (.int .u8 pg.kind) (.int .u32 pg.number) (.int .u64 pg.epoch) (.int .i64 pg.size) (.slice ra pg.recs.length cp)
  exact ⟨ra, cp, H', rfl, k1, k2, w1.heap.size, HZL.out, by simpa using HBS.out, HHB.out, OwnIn.of HR.out⟩
end Go.Proofs.YtokikeenfpligaaGreatDoor.Sh
namespace Go.Proofs.YtokikeenfpligaaGreatDoor.Sh
open Go.RowKit Go.Maps

def Done (W : World) (N : Nat) (w : World) (p D : Nat) (ct : Nat → ByteArray) (Q : Nat → Prop) (n m : Nat) (H : Nat → Prop) (e : Ending) (w' : World) : Prop := e = .returned .nilIface ∧ PG W N w w' p D ct Q n m H
set_option maxRecDepth 100000 in
set_option maxHeartbeats 1000000 in
theorem put_page {W w : World} {N p D n m : Nat} {ct : Nat → ByteArray} {Q H : Nat → Prop} (P : Nat) (h : PS W N w p D ct Q n m H) (c0 : w.cell? ⟨P, 0, none⟩ = some (.pointer (some ⟨p, 0, none⟩))) (q : Nat) (hq : q < n) (hnQ : ¬ Q q) (pg : Sm.Pg) (hp : PgOk pg) (hPH : ¬ H P) (ra : Option Addr) (k cap : Nat) (hk : pg.recs.length = k) (hr : Sm.Recs w ra pg.recs) (hN : N < 2305843009213693952) :
    Calls Tryz.prog 52 #[.pointer (some ⟨P, 0, none⟩), .int .i64 q, .agg #[.int .u8 pg.kind, .int .u32 pg.number, .int .u64 pg.epoch, .int .i64 pg.size, .slice ra k cap]] w (Done W (N + 1) w p D (updT ct q (bt pg)) Q n m H) := by
  have HB := Lib.hid (Sm.alX w (.cells #[.int .u8 pg.kind, .int .u32 pg.number, .int .u64 pg.epoch, .int .i64 pg.size, .slice ra k cap] 47))
  have HS := Lib.hid (h.below HB.out)
  have HR := Lib.hid (hr.below HB.out)
  have hlt := World.block_lt_of_cell? w _ c0
  have HC0 := Lib.hid c0
  have HQ := Lib.hid hq
  have HNQ := Lib.hid hnQ
  have HPG := Lib.hid hp
  have HK := Lib.hid hk
  have HPH := Lib.hid hPH
  have HLT := Lib.hid (fun b (hb : H b) => (h.lt b hb).2)
  clear h hq hp hr hnQ hk hPH
  go_enter Tryz.func52, Tryz.ntmps52
  go_wp2_with fail
  refine (Sm.encode_ok _ _ _ _ ra k cap pg.recs _ HK.out HR.out (by exact HPG.out.may) (by exact HPG.out.fit.k0) (by exact HPG.out.fit.k1) (by exact HPG.out.fit.n0) (by exact HPG.out.fit.n1)).mono ?_
  rintro e w1 ⟨g, rfl, hg, hblk, hb⟩
  have HB1 := Lib.hid (HB.out.trans (hb.mono HB.out.size))
  have c1 := (HB1.out.cell (p := ⟨P, 0, none⟩) hlt).trans HC0.out
  have HS1 := Lib.hid (HS.out.below hb)
  have HL := Lib.hid (show Lies w1 (some ⟨g, 0, none⟩) (nums (bt pg)) by rw [bt_nums HPG.out]; exact hblk.lies (Sm.byte_bytes HPG.out.byt))
  have HGH := Lib.hid (show ¬ H g from fun e => by have := HLT.out g e; have := HB.out.size; omega)
  clear hg hblk hb c0
  go_wp2_with fail
  refine (ps_write HS1.out q HQ.out (bt pg) (bt_size HPG.out) (bt_good HPG.out) HNQ.out g 512 HL.out (Nat.le_refl _) HGH.out hN).mono ?_
  rintro e w2 ⟨rfl, hpg⟩
  have HP := Lib.hid (hpg.after HB1.out)
  clear hpg
  go_wp2
  go_ret
  exact ⟨rfl, HP.out⟩
set_option maxRecDepth 100000 in
set_option maxHeartbeats 1000000 in
theorem layRoot_any {W w : World} {N p D n m : Nat} {ct : Nat → ByteArray} {Q H : Nat → Prop} (P : Nat) (h : PS W N w p D ct Q n m H) (c0 : w.cell? ⟨P, 0, none⟩ = some (.pointer (some ⟨p, 0, none⟩))) (q : Nat) (hq : q < n) (hnQ : ¬ Q q) (hPH : ¬ H P) (ep : Nat) (he : ep ≤ 9223372036854775807) (l : List Nat) (a : Option Addr) (k c : Nat) (hk : l.length = k) (hl : k ≤ 122) (hx : Ints w a (zl l)) (hb16 : ∀ x ∈ l, x ≤ 16384) (hN : N + 1026 < 2305843009213693952) :
    Calls Tryz.prog 37 #[.pointer (some ⟨P, 0, none⟩), .int .i64 q, .int .i64 ep, .slice a k c] w (Done W (N + 1 + m) w p D (updT ct q (bt (pg4 82 0 ep l))) (fun _ => True) n m H) := by
  have HS := Lib.hid h
  have hlt := World.block_lt_of_cell? w _ c0
  have HC0 := Lib.hid c0
  have HQ := Lib.hid hq
  have HNQ := Lib.hid hnQ
  have HK := Lib.hid hk
  have HPH := Lib.hid hPH
  have HX := Lib.hid hx
  have H16 := Lib.hid hb16
  have HOK := Lib.hid (pg4_ok 82 0 ep l (by omega) (by decide) (by decide) (by decide) (by decide) (by omega) (by omega))
  have e0 : (0 : Int) ≤ (ep : Int) := by omega
  have e1 : (ep : Int) ≤ 9223372036854775807 := by omega
  clear h hq hx hnQ hk hPH hb16 he
  go_enter Tryz.func37, Tryz.ntmps37
  go_wp2_with fail
  refine (listed_any 82 0 ep a k c l _ HK.out HX.out H16.out (by omega) (by decide) (by decide) e0 e1).mono ?_
  rintro e w1 ⟨ra, cap, rfl, hr, hcap, hb⟩
  have HB1 := Lib.hid hb
  have c1 := (HB1.out.cell (p := ⟨P, 0, none⟩) hlt).trans HC0.out
  have HS1 := Lib.hid (HS.out.below hb)
  have HR := Lib.hid (show Sm.Recs w1 ra (pg4 82 0 (ep : Int) l).recs by
    obtain ⟨ra', cap', hv, hrr, _⟩ := hr.recs
    obtain ⟨rfl, _⟩ : ra = ra' ∧ cap = cap' := by simpa using hv
    exact hrr)
  have HC1 := Lib.hid c1
  clear hr hb hcap c0 c1
  unfold pv
  go_wp2_with fail
  refine (put_page P HS1.out HC1.out q HQ.out HNQ.out (pg4 82 0 ep l) HOK.out HPH.out ra l.length cap (by simp [pg4]) HR.out (by omega)).mono ?_
  rintro e w2 ⟨rfl, hpg⟩
  have HP := Lib.hid (hpg.after HB1.out)
  have c2 : w2.cell? ⟨P, 0, none⟩ = some (.pointer (some ⟨p, 0, none⟩)) := by
    obtain ⟨H', _, hs⟩ := HP.out
    exact hs.cell HC0.out HPH.out
  obtain ⟨H', hps, hst⟩ := HP.out
  have HS2 := Lib.hid hps
  have HST := Lib.hid hst
  clear hpg hps hst HP
  go_wp2_with fail
  refine (ps_flush HS2.out (by omega)).mono ?_
  rintro e w3 ⟨rfl, hpg⟩
  have HF := Lib.hid (show PG W (N + 1 + m) w w3 p D (updT ct q (bt (pg4 82 0 (ep : Int) l))) (fun _ => True) n m H by
    obtain ⟨H2, k1, k2⟩ := hpg
    exact ⟨H2, k1, HST.out.trans k2⟩)
  clear hpg
  go_wp2
  go_ret
  exact ⟨rfl, HF.out⟩
end Go.Proofs.YtokikeenfpligaaGreatDoor.Sh

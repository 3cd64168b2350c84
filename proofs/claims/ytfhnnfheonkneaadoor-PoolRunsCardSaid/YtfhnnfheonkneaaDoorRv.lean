/-
  AN ACT, WHATEVER IT IS, done to both; and what the statement's loop keeps. Conditions: both lie in memory, and are the same.
  PoolRuns: whatever is read, laid, held, let go and made sure, over a disk that may have no writes left: frames, what is dirty, the disk, and the errors are as the document's. No condition but that the input could be read.
-/
import Derived.Test.YtfhnnfheonkneaaDoorRp
import Derived.Test.YtfhnnfheonkneaaDoorRq
import Derived.Test.YtfhnnfheonkneaaDoorRr
import Derived.Test.YtfhnnfheonkneaaDoorRs
import Derived.Test.YtfhnnfheonkneaaDoorRt
import Derived.Test.YtfhnnfheonkneaaDoorRu
namespace Go.Proofs.YtfhnnfheonkneaaDoor
open Go.RowKit Go.Maps

theorem act_any {W w : World} {N p D : Nat} {H : Nat → Prop} (ρ : Rp) (A : ActV) (hl : Laid W) (h : Bo W w N p D ρ.X ρ [] H) (hN : N + 5000 < 2305843009213693952) (hA : ActOk A) (hf : Full ρ.X) :
    Calls Tryd.prog 9 #[.pointer (some ⟨D, 0, none⟩), .pointer (some ⟨p, 0, none⟩), .agg ρ.cs, .agg (acs A)] w (ActAt W w (N + 2000) p D H ρ) := by
  obtain ⟨k, hk, hk9⟩ := red_nat A.kind 9 (by omega) (by omega)
  by_cases h2 : k < 2
  · exact act_read ρ A hl h hN hA.b k hk h2 hf
  by_cases h5 : k < 5
  · exact act_write ρ A hl h hN hA.b k hk (by omega)
  by_cases e5 : k = 5
  · subst e5; exact act_pin ρ A hl h hN hA.b hk
  by_cases e6 : k = 6
  · subst e6; exact act_unpin ρ A hl h hN hA.b hk
  by_cases e7 : k = 7
  · subst e7; exact act_flush ρ A hl h hN hA.b hk
  · have e8 : k = 8 := by omega
    subst e8; exact act_limit ρ A hl h hN hA.b hA.n hk
/-- what the loop keeps -/
structure RunI (W wr : World) (N p D T : Nat) (ρ : Rp) (H : Nat → Prop) : Prop where
  bo : Bo W wr N p D ρ.X ρ [T] H
  box : Box W wr T ρ 38 ρ.cs
  full : Full ρ.X
/-- .. and in its midst -/
structure RunM (W wx : World) (N p D T T1 : Nat) (ρ ρ' : Rp) (H : Nat → Prop) : Prop where
  bo : Bo W wx N p D ρ'.X ρ' [T, T1] H
  box : Box W wx T ρ' 38 ρ.cs
  box1 : Box W wx T1 ρ' 38 ρ'.cs
  ne : T ≠ T1
  full : Full ρ'.X
/-- what an act leaves, seen from the loop's head -/
structure Acted (W wr w6 w7 : World) (N p D T : Nat) (ρ ρ' : Rp) (H H' : Nat → Prop) : Prop where
  bo : Bo W w7 N p D ρ'.X ρ' [] H'
  stp : Stp w6 H w7 H'
  own : ∀ b, ρ'.blk b → ρ.blk b ∨ w6.heap.size ≤ b
  full : Full ρ'.X
  bel : Below wr.heap.size wr w6
theorem act_from {W wr w6 : World} {N p D T : Nat} {ρ : Rp} {H : Nat → Prop} (R : RunI W wr N p D T ρ H) (hl : Laid W) (hN : N + 5000 < 2305843009213693952) (A : ActV) (hA : ActOk A) (hb : Below wr.heap.size wr w6) :
    Calls Tryd.prog 9 #[.pointer (some ⟨D, 0, none⟩), .pointer (some ⟨p, 0, none⟩), .agg #[.slice (some ⟨ρ.r.nb, 0, none⟩) ρ.r.n ρ.r.nc, .slice (some ⟨ρ.r.sb, 0, none⟩) ρ.r.n ρ.r.sc, .slice ρ.r.pa ρ.r.pend.length ρ.r.pc, .int .i64 ρ.r.writes, .int .i64 ρ.r.left, .slice (some ⟨ρ.L, 0, none⟩) ρ.X.m ρ.lc, .int .i64 (ρ.X.hand : Int), .int .i64 ρ.X.loads], .agg #[.int .i64 A.kind, .int .i64 A.i, .string A.b, .bool A.bad, .int .i64 A.n]] w6 fun e w7 => ∃ ρ' H', e = .returned (.tuple #[.agg #[.slice (some ⟨ρ'.r.nb, 0, none⟩) ρ'.r.n ρ'.r.nc, .slice (some ⟨ρ'.r.sb, 0, none⟩) ρ'.r.n ρ'.r.sc, .slice ρ'.r.pa ρ'.r.pend.length ρ'.r.pc, .int .i64 ρ'.r.writes, .int .i64 ρ'.r.left, .slice (some ⟨ρ'.L, 0, none⟩) ρ'.X.m ρ'.lc, .int .i64 (ρ'.X.hand : Int), .int .i64 ρ'.X.loads], .bool true]) ∧ Acted W wr w6 w7 (N + 2000) p D T ρ ρ' H H' :=
  (act_any ρ A hl ((R.bo.below hb).less (l' := []) (fun g hg => by cases hg)) hN hA R.full).mono fun _ _ ⟨ρ', H', he, k1, k2, k3, k4⟩ => ⟨ρ', H', he, k1, k2, k3, k4 R.full, hb⟩
theorem Acted.keep {W wr w6 w7 : World} {N M p D T : Nat} {ρ ρ' : Rp} {H H' : Nat → Prop} (a : Acted W wr w6 w7 M p D T ρ ρ' H H') (R : RunI W wr N p D T ρ H) : w7.heap[T]? = wr.heap[T]? ∧ ¬ H' T ∧ ¬ ρ'.blk T ∧ T < w7.heap.size := by
  obtain ⟨h1, h2, h3, h4⟩ := R.bo.own T (by simp)
  have hs := a.bel.size
  refine ⟨(a.stp.block T (by omega) h1).trans (a.bel.block T h3), fun e => ?_, fun e => ?_, by have := a.stp.size; omega⟩
  · rcases a.stp.own T e with q | q
    · exact h1 q
    · omega
  · rcases a.own T e with q | q
    · exact h2 q
    · omega
/-- the answer lies in a block that was made behind the act -/
theorem mid_new {W wr w6 w7 : World} {N M p D T : Nat} {ρ ρ' : Rp} {H H' : Nat → Prop} (R : RunI W wr N p D T ρ H) (a : Acted W wr w6 w7 M p D T ρ ρ' H H') : RunM W (w7.alloc (.cells ρ'.cs 38)) M p D T w7.heap.size ρ ρ' H' := by
  obtain ⟨h1, h2, h3, h4⟩ := a.keep R
  have hb : Below w7.heap.size w7 (w7.alloc (.cells ρ'.cs 38)) := (Below.refl _ _).alloc (Nat.le_refl _) _
  have B := a.bo.more hb (by simp)
  have hlo := (R.bo.own T (by simp)).2.2.2
  refine ⟨⟨B.pl, B.far, B.ok, fun g hg => ?_⟩, ⟨(hb.block T h4).trans (h1.trans R.box.h), hlo, h3⟩, ⟨heap_alloc_new _ _, a.bo.pl.b.size, fun e => by have := a.bo.ok.lt e; omega⟩, by omega, a.full⟩
  simp at hg
  rcases hg with rfl | rfl
  · exact ⟨h2, h3, by simp; omega, hlo⟩
  · exact B.own _ (by simp)
/-- .. or ahead of it -/
theorem mid_set {W wr w6 w7 : World} {N M p D T T1 : Nat} {ρ ρ' : Rp} {H H' : Nat → Prop} (R : RunI W wr N p D T ρ H) (a : Acted W wr w6 w7 M p D T ρ ρ' H H') (hz : w6.heap[T1]? = some (.cells zcs 38 (0, 0))) (h0 : wr.heap.size ≤ T1) : RunM W (set8 w7 T1 ρ') M p D T T1 ρ ρ' H' := by
  obtain ⟨h1, h2, h3, h4⟩ := a.keep R
  have hlo := (R.bo.own T (by simp)).2.2.2
  have hT := (R.bo.own T (by simp)).2.2.1
  have hlt : T1 < w6.heap.size := (Array.getElem?_eq_some_iff.1 hz).1
  have hH : ¬ H T1 := fun e => by have := (R.bo.pl.lt _ e).2; omega
  have hb : ¬ ρ.blk T1 := fun e => by have := R.bo.ok.lt e; omega
  have k1 : ¬ H' T1 := fun e => by
    rcases a.stp.own T1 e with q | q
    · exact hH q
    · omega
  have k2 : ¬ ρ'.blk T1 := fun e => by
    rcases a.own T1 e with q | q
    · exact hb q
    · omega
  have k3 : T1 < w7.heap.size := by have := a.stp.size; omega
  have hW : W.heap.size ≤ T1 := Nat.le_trans R.bo.pl.b.size h0
  have B : Bo W w7 M p D ρ'.X ρ' [T, T1] H' := ⟨a.bo.pl, a.bo.far, a.bo.ok, fun g hg => by
    simp at hg
    rcases hg with rfl | rfl
    · exact ⟨h2, h3, h4, hlo⟩
    · exact ⟨k1, k2, k3, hW⟩⟩
  have bz : Box W w7 T1 ρ' 38 zcs := ⟨(a.stp.block T1 hlt hH).trans hz, hW, k2⟩
  have bt : Box W w7 T ρ' 38 ρ.cs := ⟨h1.trans R.box.h, hlo, h3⟩
  exact ⟨B.ony (by simp) (ony8 w7 T1 ρ'), bt.ony (ony8 w7 T1 ρ') (by omega), box8 bz ρ', by omega, a.full⟩
end Go.Proofs.YtfhnnfheonkneaaDoor
namespace Go.Proofs.YtfhnnfheonkneaaDoor
open Go.RowKit Go.Maps

theorem refnew_x {W : World} (n : Nat) (x : Int) (hx : x = n) (w : World) (_hW : Below W.heap.size W w) (h1 : 1 ≤ n) (h2 : n ≤ 100) : Calls Tryd.prog 7 #[.int .i64 x] w fun e w' => ∃ r, e = .returned (.agg #[.slice (some ⟨r.nb, 0, none⟩) r.n r.nc, .slice (some ⟨r.sb, 0, none⟩) r.n r.sc, .slice r.pa r.pend.length r.pc, .int .i64 r.writes, .int .i64 r.left]) ∧ RefFresh w n w' r := by
  subst hx
  exact (refnew_any n w h1 h2).mono fun _ _ ⟨r, he, h⟩ => ⟨r, he, h⟩
theorem fresh_rtie {n : Nat} {w w' : World} {r : Ref} (h : RefFresh w n w' r) : RTie r (Dk.new n) ∧ PendOk (Dk.new n) := by
  refine ⟨⟨h.n, fun i _ => ?_, h.pend, h.writes, ?_⟩, ⟨List.nodup_nil, fun i hi => absurd hi (by intro q; cases q), by show (-1 : Int) ≤ _; omega⟩⟩
  · rw [h.N]; rfl
  · rw [h.left]; rfl
theorem rnew_x (r : Ref) (d : Dk) (n : Nat) (x : Int) (hx : x = n) (w : World) (h : RefOk w r) (t : RTie r d) (pd : PendOk d) (h1 : 1 ≤ n) (h2 : n ≤ 1024) :
    Calls Tryd.prog 6 #[.agg #[.slice (some ⟨r.nb, 0, none⟩) r.n r.nc, .slice (some ⟨r.sb, 0, none⟩) r.n r.sc, .slice r.pa r.pend.length r.pc, .int .i64 r.writes, .int .i64 r.left], .int .i64 x] w fun e w' => ∃ ρ : Rp, e = .returned (.agg ρ.cs) ∧ ρ.X = Px.fresh d n ∧ ρ.r = r ∧ ρ.Ok w' ∧ w.heap.size ≤ ρ.L ∧ Below w.heap.size w w' := by
  subst hx
  exact rnew_any r d n w h t pd h1 h2
theorem run_first {W wb wc wd we : World} {p D K m : Nat} {H : Nat → Prop} {r : Ref} {ρ : Rp} (hp : Pl W 0 wb p D (Px.fresh (Dk.new K) m) H) (hf : RefFresh wb K wc r) (hX : ρ.X = Px.fresh (Dk.new K) m) (hr : ρ.r = r) (hok : ρ.Ok wd) (hL : wc.heap.size ≤ ρ.L) (hb : Below wc.heap.size wc wd) (hbe : Below wd.heap.size wd we) (hbox : Box wd we wd.heap.size ρ 38 ρ.cs) : RunI W we 0 p D wd.heap.size ρ H := by
  have b1 : Below wb.heap.size wb wd := hf.below.trans (hb.mono hf.below.size)
  have b2 : Below wb.heap.size wb we := b1.trans (hbe.mono b1.size)
  have hs := b1.size
  have hc := hf.below.size
  have hpl := hp.below b2
  have hW := hp.b.size
  refine ⟨⟨by rw [hX]; exact hpl, fun b hk e => ?_, hok.below hbe, fun g hg => ?_⟩, ⟨hbox.h, by omega, hbox.off⟩, fun k hk => ?_⟩
  · have hlt := (hp.lt b e).2
    rcases hk with q | q | q | ⟨hne, off, ha⟩
    · rw [hr] at q; have := hf.nb; omega
    · rw [hr] at q; have := hf.sb; omega
    · omega
    · rw [hr, hf.pend] at hne; exact hne rfl
  · simp at hg
    subst hg
    exact ⟨fun e => by have := (hp.lt _ e).2; omega, hbox.off, hbox.lt, by omega⟩
  · rw [hX] at hk
    exact absurd hk (Nat.not_lt_zero _)
theorem sure_w {W w : World} (hb : Below W.heap.size W w) : Calls Tryd.prog 8 #[] w fun e w' => e = .returned (.bool true) ∧ Below W.heap.size W w' :=
  (sure_any w).mono fun _ _ ⟨he, h⟩ => ⟨he, hb.trans (h.mono hb.size)⟩
section
variable {w w' : World} {T b o R : Nat} {v0 v1 v2 v3 v4 v5 v6 v7 a0 a1 a2 a3 a4 : Value}
theorem low13 (hb : Below w.heap.size w w') (c : w.cell? ⟨T, 0, none⟩ = some (v0) ∧ w.cell? ⟨T, 1, none⟩ = some (v1) ∧ w.cell? ⟨T, 2, none⟩ = some (v2) ∧ w.cell? ⟨T, 3, none⟩ = some (v3) ∧ w.cell? ⟨T, 4, none⟩ = some (v4) ∧ w.cell? ⟨T, 5, none⟩ = some (v5) ∧ w.cell? ⟨T, 6, none⟩ = some (v6) ∧ w.cell? ⟨T, 7, none⟩ = some (v7) ∧ w.cell? ⟨b, o, none⟩ = some (a0) ∧ w.cell? ⟨b, o + 1, none⟩ = some (a1) ∧ w.cell? ⟨b, o + 2, none⟩ = some (a2) ∧ w.cell? ⟨b, o + 3, none⟩ = some (a3) ∧ w.cell? ⟨b, o + 4, none⟩ = some (a4)) :
    w'.cell? ⟨T, 0, none⟩ = some (v0) ∧ w'.cell? ⟨T, 1, none⟩ = some (v1) ∧ w'.cell? ⟨T, 2, none⟩ = some (v2) ∧ w'.cell? ⟨T, 3, none⟩ = some (v3) ∧ w'.cell? ⟨T, 4, none⟩ = some (v4) ∧ w'.cell? ⟨T, 5, none⟩ = some (v5) ∧ w'.cell? ⟨T, 6, none⟩ = some (v6) ∧ w'.cell? ⟨T, 7, none⟩ = some (v7) ∧ w'.cell? ⟨b, o, none⟩ = some (a0) ∧ w'.cell? ⟨b, o + 1, none⟩ = some (a1) ∧ w'.cell? ⟨b, o + 2, none⟩ = some (a2) ∧ w'.cell? ⟨b, o + 3, none⟩ = some (a3) ∧ w'.cell? ⟨b, o + 4, none⟩ = some (a4) := by
  have hc : ∀ g j v, w.cell? ⟨g, j, none⟩ = some v → w'.cell? ⟨g, j, none⟩ = some v := fun g j v hv => (hb.cell (p := ⟨g, j, none⟩) (World.block_lt_of_cell? w _ hv)).trans hv
  exact ⟨hc _ _ _ c.1, hc _ _ _ c.2.1, hc _ _ _ c.2.2.1, hc _ _ _ c.2.2.2.1, hc _ _ _ c.2.2.2.2.1, hc _ _ _ c.2.2.2.2.2.1, hc _ _ _ c.2.2.2.2.2.2.1, hc _ _ _ c.2.2.2.2.2.2.2.1, hc _ _ _ c.2.2.2.2.2.2.2.2.1, hc _ _ _ c.2.2.2.2.2.2.2.2.2.1, hc _ _ _ c.2.2.2.2.2.2.2.2.2.2.1, hc _ _ _ c.2.2.2.2.2.2.2.2.2.2.2.1, hc _ _ _ c.2.2.2.2.2.2.2.2.2.2.2.2⟩
theorem on13 (h : Ony R w w') (hT : T ≠ R) (hA : b ≠ R) (c : w.cell? ⟨T, 0, none⟩ = some (v0) ∧ w.cell? ⟨T, 1, none⟩ = some (v1) ∧ w.cell? ⟨T, 2, none⟩ = some (v2) ∧ w.cell? ⟨T, 3, none⟩ = some (v3) ∧ w.cell? ⟨T, 4, none⟩ = some (v4) ∧ w.cell? ⟨T, 5, none⟩ = some (v5) ∧ w.cell? ⟨T, 6, none⟩ = some (v6) ∧ w.cell? ⟨T, 7, none⟩ = some (v7) ∧ w.cell? ⟨b, o, none⟩ = some (a0) ∧ w.cell? ⟨b, o + 1, none⟩ = some (a1) ∧ w.cell? ⟨b, o + 2, none⟩ = some (a2) ∧ w.cell? ⟨b, o + 3, none⟩ = some (a3) ∧ w.cell? ⟨b, o + 4, none⟩ = some (a4)) :
    w'.cell? ⟨T, 0, none⟩ = some (v0) ∧ w'.cell? ⟨T, 1, none⟩ = some (v1) ∧ w'.cell? ⟨T, 2, none⟩ = some (v2) ∧ w'.cell? ⟨T, 3, none⟩ = some (v3) ∧ w'.cell? ⟨T, 4, none⟩ = some (v4) ∧ w'.cell? ⟨T, 5, none⟩ = some (v5) ∧ w'.cell? ⟨T, 6, none⟩ = some (v6) ∧ w'.cell? ⟨T, 7, none⟩ = some (v7) ∧ w'.cell? ⟨b, o, none⟩ = some (a0) ∧ w'.cell? ⟨b, o + 1, none⟩ = some (a1) ∧ w'.cell? ⟨b, o + 2, none⟩ = some (a2) ∧ w'.cell? ⟨b, o + 3, none⟩ = some (a3) ∧ w'.cell? ⟨b, o + 4, none⟩ = some (a4) := by
  have hc : ∀ g i v, g ≠ R → w.cell? ⟨g, i, none⟩ = some v → w'.cell? ⟨g, i, none⟩ = some v := fun g i v hg hv => (cell_of_block (h.block g hg)).trans hv
  exact ⟨hc _ _ _ hT c.1, hc _ _ _ hT c.2.1, hc _ _ _ hT c.2.2.1, hc _ _ _ hT c.2.2.2.1, hc _ _ _ hT c.2.2.2.2.1, hc _ _ _ hT c.2.2.2.2.2.1, hc _ _ _ hT c.2.2.2.2.2.2.1, hc _ _ _ hT c.2.2.2.2.2.2.2.1, hc _ _ _ hA c.2.2.2.2.2.2.2.2.1, hc _ _ _ hA c.2.2.2.2.2.2.2.2.2.1, hc _ _ _ hA c.2.2.2.2.2.2.2.2.2.2.1, hc _ _ _ hA c.2.2.2.2.2.2.2.2.2.2.2.1, hc _ _ _ hA c.2.2.2.2.2.2.2.2.2.2.2.2⟩
theorem st13 {H H' : Nat → Prop} (h : Stp w H w' H') (hT : ¬ H T) (hA : ¬ H b) (c : w.cell? ⟨T, 0, none⟩ = some (v0) ∧ w.cell? ⟨T, 1, none⟩ = some (v1) ∧ w.cell? ⟨T, 2, none⟩ = some (v2) ∧ w.cell? ⟨T, 3, none⟩ = some (v3) ∧ w.cell? ⟨T, 4, none⟩ = some (v4) ∧ w.cell? ⟨T, 5, none⟩ = some (v5) ∧ w.cell? ⟨T, 6, none⟩ = some (v6) ∧ w.cell? ⟨T, 7, none⟩ = some (v7) ∧ w.cell? ⟨b, o, none⟩ = some (a0) ∧ w.cell? ⟨b, o + 1, none⟩ = some (a1) ∧ w.cell? ⟨b, o + 2, none⟩ = some (a2) ∧ w.cell? ⟨b, o + 3, none⟩ = some (a3) ∧ w.cell? ⟨b, o + 4, none⟩ = some (a4)) :
    w'.cell? ⟨T, 0, none⟩ = some (v0) ∧ w'.cell? ⟨T, 1, none⟩ = some (v1) ∧ w'.cell? ⟨T, 2, none⟩ = some (v2) ∧ w'.cell? ⟨T, 3, none⟩ = some (v3) ∧ w'.cell? ⟨T, 4, none⟩ = some (v4) ∧ w'.cell? ⟨T, 5, none⟩ = some (v5) ∧ w'.cell? ⟨T, 6, none⟩ = some (v6) ∧ w'.cell? ⟨T, 7, none⟩ = some (v7) ∧ w'.cell? ⟨b, o, none⟩ = some (a0) ∧ w'.cell? ⟨b, o + 1, none⟩ = some (a1) ∧ w'.cell? ⟨b, o + 2, none⟩ = some (a2) ∧ w'.cell? ⟨b, o + 3, none⟩ = some (a3) ∧ w'.cell? ⟨b, o + 4, none⟩ = some (a4) := by
  have hc : ∀ g i v, ¬ H g → w.cell? ⟨g, i, none⟩ = some v → w'.cell? ⟨g, i, none⟩ = some v := fun g i v hg hv => (cell_of_block (h.block g (World.block_lt_of_cell? w ⟨g, i, none⟩ hv) hg)).trans hv
  exact ⟨hc _ _ _ hT c.1, hc _ _ _ hT c.2.1, hc _ _ _ hT c.2.2.1, hc _ _ _ hT c.2.2.2.1, hc _ _ _ hT c.2.2.2.2.1, hc _ _ _ hT c.2.2.2.2.2.1, hc _ _ _ hT c.2.2.2.2.2.2.1, hc _ _ _ hT c.2.2.2.2.2.2.2.1, hc _ _ _ hA c.2.2.2.2.2.2.2.2.1, hc _ _ _ hA c.2.2.2.2.2.2.2.2.2.1, hc _ _ _ hA c.2.2.2.2.2.2.2.2.2.2.1, hc _ _ _ hA c.2.2.2.2.2.2.2.2.2.2.2.1, hc _ _ _ hA c.2.2.2.2.2.2.2.2.2.2.2.2⟩
end
abbrev zobj8 : Obj := .cells #[.slice none 0 0, .slice none 0 0, .slice none 0 0, .int .i64 0, .int .i64 0, .slice none 0 0, .int .i64 0, .int .i64 0] 38
theorem alX8 (w : World) (o : Obj) : Below w.heap.size w (w.alloc o) := (Below.refl _ _).alloc (Nat.le_refl _) _
theorem al_drew (w : World) : Below w.heap.size w (w.alloc zobj8).drew := (alX8 w zobj8).drew
structure Z8 (w : World) (g : Nat) : Prop where
  z : w.cell? ⟨g, 0, none⟩ = some (.slice none 0 0) ∧ w.cell? ⟨g, 1, none⟩ = some (.slice none 0 0) ∧ w.cell? ⟨g, 2, none⟩ = some (.slice none 0 0) ∧ w.cell? ⟨g, 3, none⟩ = some (.int .i64 0) ∧ w.cell? ⟨g, 4, none⟩ = some (.int .i64 0) ∧ w.cell? ⟨g, 5, none⟩ = some (.slice none 0 0) ∧ w.cell? ⟨g, 6, none⟩ = some (.int .i64 0) ∧ w.cell? ⟨g, 7, none⟩ = some (.int .i64 0)
  f : ∀ j, w.frozen? ⟨g, j, none⟩ = false
theorem z8_of {w : World} {g : Nat} (h : w.heap[g]? = some zobj8) : Z8 w g :=
  ⟨⟨cell_of_row _ _ _ _ _ _ h, cell_of_row _ _ _ _ _ _ h, cell_of_row _ _ _ _ _ _ h, cell_of_row _ _ _ _ _ _ h, cell_of_row _ _ _ _ _ _ h, cell_of_row _ _ _ _ _ _ h, cell_of_row _ _ _ _ _ _ h, cell_of_row _ _ _ _ _ _ h⟩, fun j => frozen_of_row _ _ j _ _ h⟩
theorem acted_z {W wr w7 : World} {M p D T : Nat} {ρ ρ' : Rp} {H H' : Nat → Prop} {N : Nat} (R : RunI W wr N p D T ρ H) (a : Acted W wr (wr.alloc zobj8).drew w7 M p D T ρ ρ' H H') : Z8 w7 wr.heap.size :=
  z8_of ((a.stp.block wr.heap.size (by simp) (fun e => by have := (R.bo.pl.lt _ e).2; omega)).trans (heap_alloc_new wr zobj8))
theorem RunI.below {W wr w : World} {N p D T : Nat} {ρ : Rp} {H : Nat → Prop} (h : RunI W wr N p D T ρ H) (hb : Below wr.heap.size wr w) : RunI W w N p D T ρ H := ⟨h.bo.below hb, h.box.below hb, h.full⟩
theorem RunI.c8 {W w : World} {N p D T : Nat} {ρ : Rp} {H : Nat → Prop} (h : RunI W w N p D T ρ H) : w.cell? ⟨T, 0, none⟩ = some (.slice (some ⟨ρ.r.nb, 0, none⟩) ρ.r.n ρ.r.nc) ∧ w.cell? ⟨T, 1, none⟩ = some (.slice (some ⟨ρ.r.sb, 0, none⟩) ρ.r.n ρ.r.sc) ∧ w.cell? ⟨T, 2, none⟩ = some (.slice ρ.r.pa ρ.r.pend.length ρ.r.pc) ∧ w.cell? ⟨T, 3, none⟩ = some (.int .i64 ρ.r.writes) ∧ w.cell? ⟨T, 4, none⟩ = some (.int .i64 ρ.r.left) ∧ w.cell? ⟨T, 5, none⟩ = some (.slice (some ⟨ρ.L, 0, none⟩) ρ.X.m ρ.lc) ∧ w.cell? ⟨T, 6, none⟩ = some (.int .i64 (ρ.X.hand : Int)) ∧ w.cell? ⟨T, 7, none⟩ = some (.int .i64 ρ.X.loads) := ⟨h.box.c0, h.box.c1, h.box.c2, h.box.c3, h.box.c4, h.box.c5, h.box.c6, h.box.c7⟩
theorem same_from {W wr w6 : World} {N p D T : Nat} {ρ : Rp} {H : Nat → Prop} (R : RunI W wr N p D T ρ H) (hb : Below wr.heap.size wr w6) :
    Calls Tryd.prog 10 #[.pointer (some ⟨D, 0, none⟩), .pointer (some ⟨p, 0, none⟩), .agg #[.slice (some ⟨ρ.r.nb, 0, none⟩) ρ.r.n ρ.r.nc, .slice (some ⟨ρ.r.sb, 0, none⟩) ρ.r.n ρ.r.sc, .slice ρ.r.pa ρ.r.pend.length ρ.r.pc, .int .i64 ρ.r.writes, .int .i64 ρ.r.left, .slice (some ⟨ρ.L, 0, none⟩) ρ.X.m ρ.lc, .int .i64 (ρ.X.hand : Int), .int .i64 ρ.X.loads]] w6 fun e w7 => e = .returned (.bool true) ∧ Below wr.heap.size wr w7 :=
  (same_any ρ (R.bo.below hb)).mono fun _ _ ⟨he, h⟩ => ⟨he, hb.trans (h.mono hb.size)⟩
set_option maxHeartbeats 4000000 in
set_option maxRecDepth 100000 in
theorem runs_any (n0 n1 : Int) (a : Option Addr) (len cap : Nat) (l : Nat → ActV) (W : World) (_w0 : (Lit.int .i64 n0).wf = true) (_w1 : (Lit.int .i64 n1).wf = true) (hw : IsActs W a len l) (hL : Laid W) :
    Calls Tryd.prog 3 #[.int .i64 n0, .int .i64 n1, .slice a len cap] W fun e w' => e = .returned (.bool true) ∧ Below W.heap.size W w' := by
  obtain ⟨k, hk, hk6⟩ := red_nat n0 6 (by omega) (by omega)
  obtain ⟨m, hm, hm4⟩ := red_nat n1 4 (by omega) (by omega)
  have HA := Lib.hid hw
  have HLD := Lib.hid hL
  clear hw hL
  go_enter Tryd.func3, Tryd.ntmps3
  go_upto_region 7 with (first | (go_at_call 4; refine (disk_new' (W := W) (k + 1) _ (by omega) _ (Below.refl _ _) (by omega) (by omega)).mono ?_; rintro e wa ⟨D, H, rfl, h⟩; have HD := Lib.hid h; clear h) | (go_at_call 5; refine (newp_at' 0 (m + 1) _ (by omega) HD.out (by omega) (by omega) (show (0 : Int) ≤ 0 by decide) (show (0 : Int) ≤ (0 : Nat) by decide)).mono ?_; rintro e wb ⟨p, H1, rfl, h⟩; have HP0 := Lib.hid h; clear h) | (go_at_call 7; refine (refnew_x (W := W) (k + 1) _ (by omega) _ HP0.out.b (by omega) (by omega)).mono ?_; rintro e wc ⟨r, rfl, h⟩; have HR0 := Lib.hid h; clear h) | (go_at_call 6; refine (rnew_x r (Dk.new (k + 1)) (m + 1) _ (by omega) _ HR0.out.ok (fresh_rtie HR0.out).1 (fresh_rtie HR0.out).2 (by omega) (by omega)).mono ?_; rintro e wd ⟨ρ, rfl, h1, h2, h3, h4, h5⟩; have HX0 := Lib.hid h1; have HRR := Lib.hid h2; have HOK := Lib.hid h3; have HL0 := Lib.hid h4; have HB0 := Lib.hid h5; clear h1 h2 h3 h4 h5) | (refine st_newg (w0 := wd) (ρ0 := ρ) rfl _ _ rfl rfl rfl (RpGo.refl HOK.out) rfl rfl ?_; intro we hbe hbox; have HI := Lib.hid (run_first HP0.out HR0.out HX0.out HRR.out HOK.out HL0.out HB0.out hbe hbox); clear hbe hbox))
  clear HP0 HR0 HX0 HRR HOK HL0 HB0 HD
  generalize wd.heap.size = T at HI ⊢
  go_wp2
  have hlen := HA.out.1
  go_loopw [14] (fun x wr => ∃ (i : Nat) (ρ : Rp) (H : Nat → Prop), i ≤ len ∧ i ≤ 40 ∧ x = .int .i64 (i : Int) ∧ Hid (RunI W wr (2000 * i) p D T ρ H)) (fun x _ => 40 - (intOf x).toNat)
  case atStart => exact ⟨0, ρ, H1, by omega, by omega, rfl, HI⟩
  case round =>
    obtain ⟨i, ρ, H, hi1, hi2, rfl, R⟩ := hrel
    by_cases hlt : i < len ∧ i < 40
    · obtain ⟨hlt1, hlt2⟩ := hlt
      have j0 : (0 : Int) ≤ (i : Int) := by omega
      have j1 : (i : Int) < (len : Int) := by omega
      have j2 : (i : Int) < 40 := by omega
      obtain ⟨b, o, rfl, hr, hok⟩ := HA.out.2 i hlt1
      have hb0 := R.out.bo.pl.b
      have x2 := act_cell hb0 hr 2 _ rfl
      change wr.cell? ⟨b, o + i * 5 + 2, none⟩ = some (.string (l i).b) at x2
      by_cases h600 : (600 : Int) < ((l i).b.size : Int)
      · clear hr hb0 hok
        go_wp2_with (first | (go_at_call 8; refine (sure_w R.out.bo.pl.b).mono ?_; rintro e w2 ⟨rfl, hb2⟩))
        go_ret
        exact ⟨rfl, hb2⟩
      · have x0 := act_cell hb0 hr 0 _ rfl
        have x1 := act_cell hb0 hr 1 _ rfl
        have x3 := act_cell hb0 hr 3 _ rfl
        have x4 := act_cell hb0 hr 4 _ rfl
        change wr.cell? ⟨b, o + i * 5, none⟩ = some (.int .i64 (l i).kind) at x0
        change wr.cell? ⟨b, o + i * 5 + 1, none⟩ = some (.int .i64 (l i).i) at x1
        change wr.cell? ⟨b, o + i * 5 + 3, none⟩ = some (.bool (l i).bad) at x3
        change wr.cell? ⟨b, o + i * 5 + 4, none⟩ = some (.int .i64 (l i).n) at x4
        have HOK := Lib.hid hok
        have hr00 := hr 0 _ rfl
        clear hr hb0 hok
        go_upto_region 12 with (fail)
        have hT := R.out.bo.own T (by simp)
        have HTH := Lib.hid hT.1
        have HBH := Lib.hid (show ¬ H b from fun e => by have := (R.out.bo.pl.lt _ e).1; have := World.block_lt_of_cell? W ⟨b, o + i * 5, none⟩ hr00; change b < W.heap.size at this; omega)
        have HTR := Lib.hid (show T ≠ wr.heap.size by have := hT.2.2.1; omega)
        have HBR := Lib.hid (show b ≠ wr.heap.size by have := R.out.bo.pl.b.size; have := World.block_lt_of_cell? W ⟨b, o + i * 5, none⟩ hr00; change b < W.heap.size at this; omega)
        have HNB := Lib.hid (show 2000 * i + 5000 < 2305843009213693952 by omega)
        clear hT hr00
        generalize l i = A at x0 x1 x2 x3 x4 HOK h600
        have X13 := Lib.hid (show wr.cell? ⟨T, 0, none⟩ = some (.slice (some ⟨ρ.r.nb, 0, none⟩) ρ.r.n ρ.r.nc) ∧ wr.cell? ⟨T, 1, none⟩ = some (.slice (some ⟨ρ.r.sb, 0, none⟩) ρ.r.n ρ.r.sc) ∧ wr.cell? ⟨T, 2, none⟩ = some (.slice ρ.r.pa ρ.r.pend.length ρ.r.pc) ∧ wr.cell? ⟨T, 3, none⟩ = some (.int .i64 ρ.r.writes) ∧ wr.cell? ⟨T, 4, none⟩ = some (.int .i64 ρ.r.left) ∧ wr.cell? ⟨T, 5, none⟩ = some (.slice (some ⟨ρ.L, 0, none⟩) ρ.X.m ρ.lc) ∧ wr.cell? ⟨T, 6, none⟩ = some (.int .i64 (ρ.X.hand : Int)) ∧ wr.cell? ⟨T, 7, none⟩ = some (.int .i64 ρ.X.loads) ∧ wr.cell? ⟨b, o + i * 5, none⟩ = some (.int .i64 A.kind) ∧ wr.cell? ⟨b, o + i * 5 + 1, none⟩ = some (.int .i64 A.i) ∧ wr.cell? ⟨b, o + i * 5 + 2, none⟩ = some (.string A.b) ∧ wr.cell? ⟨b, o + i * 5 + 3, none⟩ = some (.bool A.bad) ∧ wr.cell? ⟨b, o + i * 5 + 4, none⟩ = some (.int .i64 A.n) from ⟨R.out.box.c0, R.out.box.c1, R.out.box.c2, R.out.box.c3, R.out.box.c4, R.out.box.c5, R.out.box.c6, R.out.box.c7, x0, x1, x2, x3, x4⟩)
        clear x0 x1 x2 x3 x4
        go_cut [15, 16] (fun t c wx => ∃ T1 ρ' H', t = .pointer (some ⟨T1, 0, none⟩) ∧ c = .bool true ∧ Hid (RunM W wx (2000 * i + 2000) p D T T1 ρ ρ' H'))
        case first =>
          have k13x := low13 (al_drew wr) X13.out
          have k13y := low13 (Below.drew (Below.refl wr.heap.size wr)) X13.out
          go_region_held (fun w' => w'.cell? ⟨T, 0, none⟩ = some (.slice (some ⟨ρ.r.nb, 0, none⟩) ρ.r.n ρ.r.nc) ∧ w'.cell? ⟨T, 1, none⟩ = some (.slice (some ⟨ρ.r.sb, 0, none⟩) ρ.r.n ρ.r.sc) ∧ w'.cell? ⟨T, 2, none⟩ = some (.slice ρ.r.pa ρ.r.pend.length ρ.r.pc) ∧ w'.cell? ⟨T, 3, none⟩ = some (.int .i64 ρ.r.writes) ∧ w'.cell? ⟨T, 4, none⟩ = some (.int .i64 ρ.r.left) ∧ w'.cell? ⟨T, 5, none⟩ = some (.slice (some ⟨ρ.L, 0, none⟩) ρ.X.m ρ.lc) ∧ w'.cell? ⟨T, 6, none⟩ = some (.int .i64 (ρ.X.hand : Int)) ∧ w'.cell? ⟨T, 7, none⟩ = some (.int .i64 ρ.X.loads) ∧ w'.cell? ⟨b, o + i * 5, none⟩ = some (.int .i64 A.kind) ∧ w'.cell? ⟨b, o + i * 5 + 1, none⟩ = some (.int .i64 A.i) ∧ w'.cell? ⟨b, o + i * 5 + 2, none⟩ = some (.string A.b) ∧ w'.cell? ⟨b, o + i * 5 + 3, none⟩ = some (.bool A.bad) ∧ w'.cell? ⟨b, o + i * 5 + 4, none⟩ = some (.int .i64 A.n)) (with_reducible assumption) (first | (go_at_call 9; (with_reducible refine (act_from R.out HLD.out HNB.out A HOK.out (al_drew wr)).mono ?_); rintro e w7 ⟨ρ', H', rfl, ac⟩; have k13 := st13 ac.stp HTH.out HBH.out (low13 (al_drew wr) X13.out); have k13c := on13 (ony8 w7 wr.heap.size ρ') HTR.out HBR.out k13; have HAC := Lib.hid ac; have HAC1 := HAC; obtain ⟨⟨z0, z1, z2, z3, z4, z5, z6, z7⟩, zf⟩ := acted_z R.out ac; clear ac) | (go_at_call 9; (with_reducible refine (act_from R.out HLD.out HNB.out A HOK.out (Below.drew (Below.refl _ _))).mono ?_); rintro e w7 ⟨ρ', H', rfl, ac⟩; have k13 := st13 ac.stp HTH.out HBH.out (low13 (Below.drew (Below.refl _ _)) X13.out); have k13b := low13 (alX8 w7 zobj8) k13; have k13d := low13 (alX8 w7 (.cells #[.slice (some ⟨ρ'.r.nb, 0, none⟩) ρ'.r.n ρ'.r.nc, .slice (some ⟨ρ'.r.sb, 0, none⟩) ρ'.r.n ρ'.r.sc, .slice ρ'.r.pa ρ'.r.pend.length ρ'.r.pc, .int .i64 ρ'.r.writes, .int .i64 ρ'.r.left, .slice (some ⟨ρ'.L, 0, none⟩) ρ'.X.m ρ'.lc, .int .i64 (ρ'.X.hand : Int), .int .i64 ρ'.X.loads] 38)) k13; have HAC := Lib.hid ac; clear ac))
          all_goals go_wp2
          all_goals go_meet
          · exact ⟨_, ρ', H', rfl, rfl, Lib.hid (mid_new R.out HAC.out)⟩
          · exact ⟨_, ρ', H', rfl, rfl, Lib.hid (mid_set R.out HAC.out (heap_alloc_new wr zobj8) (Nat.le_refl _))⟩
        case rest =>
          obtain ⟨T1, ρ', H', rfl, rfl, M⟩ := hcut
          go_upto_region 14 with (first | (refine ld_pool rfl _ rfl M.out.box1 rfl ?_) | (refine st_pool rfl _ _ rfl M.out.box rfl rfl rfl ?_; intro w5 ho5 hp5; have R5 := Lib.hid (show RunI W w5 (2000 * i + 2000) p D T ρ' H' from ⟨(M.out.bo.ony (by simp) ho5).less (fun g hg => by simp at hg; subst hg; simp), hp5, M.out.full⟩); clear ho5 hp5))
          obtain ⟨y0, y1, y2, y3, y4, y5, y6, y7⟩ := R5.out.c8
          go_wp2_with (go_at_call 10; refine (same_from R5.out (Below.refl _ _)).mono ?_; rintro e w8 ⟨rfl, b8⟩; have HB8 := Lib.hid b8; clear b8)
          go_roundw
          case rel => exact ⟨i + 1, ρ', H', by omega, by omega, by go_num, Lib.hid (by rw [show 2000 * (i + 1) = 2000 * i + 2000 by omega]; exact R5.out.below HB8.out)⟩
          case measure => simp [intOf]; omega
    · have hlt' : len ≤ i ∨ 40 ≤ i := by omega
      by_cases h1 : (i : Int) < (len : Int)
      · have h2 : ¬ (i : Int) < 40 := by omega
        go_wp2_with (first | (go_at_call 8; refine (sure_w R.out.bo.pl.b).mono ?_; rintro e w2 ⟨rfl, hb2⟩))
        go_ret
        exact ⟨rfl, hb2⟩
      · go_wp2_with (first | (go_at_call 8; refine (sure_w R.out.bo.pl.b).mono ?_; rintro e w2 ⟨rfl, hb2⟩))
        go_ret
        exact ⟨rfl, hb2⟩
end Go.Proofs.YtfhnnfheonkneaaDoor

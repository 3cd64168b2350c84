/-
  THE POOL AND THE DOCUMENT's OWN, SIDE BY SIDE. Conditions: those that each lemma names.
  FRAMES THAT HOLD A SECTOR HOLD IT WHOLE. No program in it. Conditions: those that each lemma names.
-/
import Derived.Deep.RegionHeld
import Derived.Deep.RegionHeld3
import Derived.Test.YtfhnnfheonkneaaDoorRk
import Derived.Test.YtfhnnfheonkneaaDoorRj
import Derived.Test.YtfhnnfheonkneaaDoorRl
import Derived.Test.YtfhnnfheonkneaaDoorRm
import Derived.Test.YtfhnnfheonkneaaDoorQx
namespace Go.Proofs.YtfhnnfheonkneaaDoor
open Go.RowKit Go.Maps

theorem num_plv {W w w0 : World} {N p D : Nat} {X : Px} {H0 : Nat → Prop} (h : PlN W N w p D X w0 H0) (hl : Laid W) (c : Int) : Calls Tryd.prog 19 #[errv c] w fun e w' => e = .returned (.int .i64 c) ∧ PlN W N w' p D X w0 H0 := by
  by_cases hc : c = 0
  · subst hc; rw [errv0]; exact (num_nil w).mono fun _ _ ⟨he, hb⟩ => ⟨he, h.below hb⟩
  · rw [errv1 hc]; exact num_pl h hl c
def Dk.limit (d : Dk) (x : Int) : Dk := { d with left := x }
theorem Px.Ok.limit {N : Nat} {X : Px} (o : X.Ok N) (x : Int) : (X.disk (X.d.limit x)).Ok N := ⟨o.m0, o.m1, o.cm, o.hm, o.n1, o.sec, o.inj, o.emp, o.siz, o.hN, o.w0, o.wN, o.l0, o.lN⟩
set_option maxRecDepth 100000 in
theorem pd_limit {W w w0 : World} {N p D : Nat} {X : Px} {H0 : Nat → Prop} (h : PlN W N w p D X w0 H0) (x : Int) (h0 : -9223372036854775808 ≤ x) (h1 : x ≤ 9223372036854775807) :
    Calls Tryd.prog 26 #[.pointer (some ⟨D, 0, none⟩), .int .i64 x] w fun e w' => e = .returned .nilIface ∧ PlN W N w' p D (X.disk (X.d.limit x)) w0 H0 := by
  obtain ⟨H, ⟨μ, hp, rfl, rfl, rfl, rfl, h6⟩, hst⟩ := h
  have c4 := hp.core.d.d4
  have f4 := hp.core.d.fD 4
  have HH := Lib.hid hp
  have H6 := Lib.hid h6
  have HS := Lib.hid hst
  clear hp h6 hst
  go_enter Tryd.func26, Tryd.ntmps26
  go_wp2
  go_ret
  have hs : Step w μ.s (w.setCell ⟨μ.s.D, 4, none⟩ (.int .i64 x)) { μ.s with left := x } := Step.setD 4 _ (fun k hk => .inl hk)
  have t := HH.out.core.t
  exact ⟨rfl, goes_pl HH.out rfl rfl H6.out HS.out ⟨_, HH.out.disk (d' := μ.X.d.limit x) (HH.out.core.d.setLeft x h0 h1) hs rfl ⟨t.n, t.cur, t.pend, t.writes, rfl⟩ (HH.out.core.ok.limit x), stp_disk hs, rfl, rfl, rfl, rfl⟩⟩
theorem pd_pending {W w w0 : World} {N p D : Nat} {X : Px} {H0 : Nat → Prop} (h : PlN W N w p D X w0 H0) :
    Calls Tryd.prog 31 #[.pointer (some ⟨D, 0, none⟩)] w fun e w' => ∃ ao ac, e = .returned (.slice ao X.d.pend.length ac) ∧ Ints w' ao (X.d.pend.map fun (n : Nat) => (n : Int)) ∧ PlN W N w' p D X w0 H0 := by
  have h' := h
  obtain ⟨H, ⟨μ, h1, rfl, rfl, rfl, rfl, h6⟩, hst⟩ := h
  have e : μ.X.d.pend = μ.s.pend := h1.core.t.pend
  exact (pending_any μ.s w h1.core.d).mono fun _ _ ⟨ao, cap, he, hi, _, hb⟩ => ⟨ao, cap, by rw [e]; exact he, by rw [e]; exact hi, h'.below hb⟩
/-- both, and blocks of our own that neither has -/
structure Bo (W w : World) (N p D : Nat) (X : Px) (ρ : Rp) (l : List Nat) (H : Nat → Prop) : Prop where
  pl : Pl W N w p D X H
  far : ∀ b, ρ.blk b → ¬ H b
  ok : ρ.Ok w
  own : ∀ g ∈ l, ¬ H g ∧ ¬ ρ.blk g ∧ g < w.heap.size ∧ W.heap.size ≤ g
theorem Bo.below {W w w' : World} {N p D : Nat} {X : Px} {ρ : Rp} {l : List Nat} {H : Nat → Prop} (h : Bo W w N p D X ρ l H) (hb : Below w.heap.size w w') : Bo W w' N p D X ρ l H :=
  ⟨h.pl.below hb, h.far, h.ok.below hb, fun g hg => ⟨(h.own g hg).1, (h.own g hg).2.1, Nat.lt_of_lt_of_le (h.own g hg).2.2.1 hb.size, (h.own g hg).2.2.2⟩⟩
theorem Bo.ref {W w w' : World} {N p D : Nat} {X : Px} {ρ ρ' : Rp} {l : List Nat} {H : Nat → Prop} (h : Bo W w N p D X ρ l H) (g : RpGo w ρ w' ρ') : Bo W w' N p D X ρ' l H :=
  ⟨h.pl.below g.below, fun b hb e => by
    rcases g.own b hb with q | q
    · exact h.far b q e
    · have := (h.pl.lt b e).2; omega, g.ok, fun b hb => ⟨(h.own b hb).1, g.off (h.own b hb).2.2.1 (h.own b hb).2.1, Nat.lt_of_lt_of_le (h.own b hb).2.2.1 g.below.size, (h.own b hb).2.2.2⟩⟩
theorem Bo.real {W w w' : World} {N M p D : Nat} {X X' : Px} {ρ : Rp} {l : List Nat} {H : Nat → Prop} (h : Bo W w N p D X ρ l H) (k : PlN W M w' p D X' w H) : ∃ H', Bo W w' M p D X' ρ l H' ∧ Stp w H w' H' := by
  obtain ⟨H', k1, k2⟩ := k
  refine ⟨H', ⟨k1, fun b hb e => ?_, h.ok.moved k2.size (fun b hb => k2.block b (h.ok.lt hb) (h.far b hb)), fun g hg => ⟨fun e => ?_, (h.own g hg).2.1, Nat.lt_of_lt_of_le (h.own g hg).2.2.1 k2.size, (h.own g hg).2.2.2⟩⟩, k2⟩
  · rcases k2.own b e with q | q
    · exact h.far b hb q
    · have := h.ok.lt hb; omega
  · rcases k2.own g e with q | q
    · exact (h.own g hg).1 q
    · have := (h.own g hg).2.2.1; omega
/-- a block of our own more -/
theorem Bo.more {W w w' : World} {N p D : Nat} {X : Px} {ρ : Rp} {l : List Nat} {H : Nat → Prop} (h : Bo W w N p D X ρ l H) (hb : Below w.heap.size w w') (hg : w.heap.size < w'.heap.size) : Bo W w' N p D X ρ (w.heap.size :: l) H := by
  have h2 := h.below hb
  refine ⟨h2.pl, h2.far, h2.ok, fun g hl => ?_⟩
  rcases List.mem_cons.1 hl with rfl | q
  · exact ⟨fun e => by have := (h.pl.lt _ e).2; omega, fun e => by have := h.ok.lt e; omega, hg, h.pl.b.size⟩
  · exact h2.own g q
theorem Bo.less {W w : World} {N p D : Nat} {X : Px} {ρ : Rp} {l l' : List Nat} {H : Nat → Prop} (h : Bo W w N p D X ρ l H) (hs : ∀ g ∈ l', g ∈ l) : Bo W w N p D X ρ l' H := ⟨h.pl, h.far, h.ok, fun g hg => h.own g (hs g hg)⟩
/-- a block of our own is written -/
theorem Bo.ony {W w w' : World} {N p D : Nat} {X : Px} {ρ : Rp} {l : List Nat} {H : Nat → Prop} (h : Bo W w N p D X ρ l H) {g : Nat} (hg : g ∈ l) (ho : Ony g w w') : Bo W w' N p D X ρ l H := by
  obtain ⟨o1, o2, o3, o4⟩ := h.own g hg
  obtain ⟨μ, h1, h2, h3, h4, h5, h6⟩ := h.pl
  refine ⟨⟨μ, h1.moved (by rw [ho.size]; exact Nat.le_refl _) fun b hb => ho.block b (fun e => o1 (by rw [h5, ← e]; exact hb)), h2, h3, h4, h5, ho.below h6 o4⟩, h.far, h.ok.moved (by rw [ho.size]; exact Nat.le_refl _) fun b hb => ho.block b (fun e => o2 (e ▸ hb)), fun b hb => ?_⟩
  obtain ⟨p1, p2, p3, p4⟩ := h.own b hb
  exact ⟨p1, p2, by rw [ho.size]; exact p3, p4⟩
theorem Bo.to {W w : World} {N M p D : Nat} {X : Px} {ρ : Rp} {l : List Nat} {H : Nat → Prop} (h : Bo W w N p D X ρ l H) (hM : N ≤ M) : Bo W w M p D X ρ l H := ⟨h.pl.mono hM, h.far, h.ok, h.own⟩
theorem Stp.ony {w w1 w2 : World} {H H' : Nat → Prop} (h : Stp w H w1 H') {g : Nat} (ho : Ony g w1 w2) (hg : w.heap.size ≤ g) : Stp w H w2 H' :=
  ⟨ho.os.trans h.os, ho.tape.trans h.tape, ho.output.trans h.output, by rw [ho.size]; exact h.size, fun k hk hn => (ho.block k (by omega)).trans (h.block k hk hn), h.own⟩
/-- an act is over: the answer is stored -/
theorem act_fin {W w w6 w8 w9 : World} {N M K p D R : Nat} {X : Px} {ρ ρ1 : Rp} {l : List Nat} {H : Nat → Prop} (h6 : Bo W w6 N p D X ρ1 l H) (hg : RpGo w ρ w6 ρ1) (n8 : PlN W M w8 p D ρ1.X w6 H) (hR : R ∈ l) (hRw : w.heap.size ≤ R) (ho : Ony R w8 w9) (hM : M ≤ K) :
    (∃ H', Bo W w9.drew K p D ρ1.X ρ1 [] H' ∧ Stp w H w9.drew H') ∧ (∃ H', Bo W w9 K p D ρ1.X ρ1 [] H' ∧ Stp w H w9 H') ∧ ∀ b, ρ1.blk b → ρ.blk b ∨ w.heap.size ≤ b := by
  obtain ⟨H', k1, k2⟩ := h6.real n8
  have k3 := ((k1.ony hR ho).to hM).less (l' := []) (fun g hg => by cases hg)
  have k4 : Stp w H w9 H' := ((Stp.of_below hg.below).trans k2).ony ho hRw
  exact ⟨⟨H', k3.below (Below.refl _ _).drew, k4.trans (.of_below (Below.refl _ _).drew)⟩, ⟨H', k3, k4⟩, hg.own⟩
section
variable {w6 w' : World} {Q A R : Nat} {v0 v1 v2 v3 v4 v5 v6 v7 a1 : Value} {j : Nat}
theorem pn9 {W : World} {N p D : Nat} {X : Px} {H : Nat → Prop} (h : PlN W N w' p D X w6 H) (c : w6.cell? ⟨Q, 0, none⟩ = some v0 ∧ w6.cell? ⟨Q, 1, none⟩ = some v1 ∧ w6.cell? ⟨Q, 2, none⟩ = some v2 ∧ w6.cell? ⟨Q, 3, none⟩ = some v3 ∧ w6.cell? ⟨Q, 4, none⟩ = some v4 ∧ w6.cell? ⟨Q, 5, none⟩ = some v5 ∧ w6.cell? ⟨Q, 6, none⟩ = some v6 ∧ w6.cell? ⟨Q, 7, none⟩ = some v7 ∧ w6.cell? ⟨A, j, none⟩ = some a1) (hQ : ¬ H Q) (hA : ¬ H A) :
    w'.cell? ⟨Q, 0, none⟩ = some v0 ∧ w'.cell? ⟨Q, 1, none⟩ = some v1 ∧ w'.cell? ⟨Q, 2, none⟩ = some v2 ∧ w'.cell? ⟨Q, 3, none⟩ = some v3 ∧ w'.cell? ⟨Q, 4, none⟩ = some v4 ∧ w'.cell? ⟨Q, 5, none⟩ = some v5 ∧ w'.cell? ⟨Q, 6, none⟩ = some v6 ∧ w'.cell? ⟨Q, 7, none⟩ = some v7 ∧ w'.cell? ⟨A, j, none⟩ = some a1 :=
  ⟨h.cell c.1 hQ, h.cell c.2.1 hQ, h.cell c.2.2.1 hQ, h.cell c.2.2.2.1 hQ, h.cell c.2.2.2.2.1 hQ, h.cell c.2.2.2.2.2.1 hQ, h.cell c.2.2.2.2.2.2.1 hQ, h.cell c.2.2.2.2.2.2.2.1 hQ, h.cell c.2.2.2.2.2.2.2.2 hA⟩
theorem on9 (h : Ony R w6 w') (c : w6.cell? ⟨Q, 0, none⟩ = some v0 ∧ w6.cell? ⟨Q, 1, none⟩ = some v1 ∧ w6.cell? ⟨Q, 2, none⟩ = some v2 ∧ w6.cell? ⟨Q, 3, none⟩ = some v3 ∧ w6.cell? ⟨Q, 4, none⟩ = some v4 ∧ w6.cell? ⟨Q, 5, none⟩ = some v5 ∧ w6.cell? ⟨Q, 6, none⟩ = some v6 ∧ w6.cell? ⟨Q, 7, none⟩ = some v7 ∧ w6.cell? ⟨A, j, none⟩ = some a1) (hQ : Q ≠ R) (hA : A ≠ R) :
    w'.cell? ⟨Q, 0, none⟩ = some v0 ∧ w'.cell? ⟨Q, 1, none⟩ = some v1 ∧ w'.cell? ⟨Q, 2, none⟩ = some v2 ∧ w'.cell? ⟨Q, 3, none⟩ = some v3 ∧ w'.cell? ⟨Q, 4, none⟩ = some v4 ∧ w'.cell? ⟨Q, 5, none⟩ = some v5 ∧ w'.cell? ⟨Q, 6, none⟩ = some v6 ∧ w'.cell? ⟨Q, 7, none⟩ = some v7 ∧ w'.cell? ⟨A, j, none⟩ = some a1 := by
  have hc : ∀ g i v, g ≠ R → w6.cell? ⟨g, i, none⟩ = some v → w'.cell? ⟨g, i, none⟩ = some v := fun g i v hg hv => (cell_of_block (h.block g hg)).trans hv
  exact ⟨hc _ _ _ hQ c.1, hc _ _ _ hQ c.2.1, hc _ _ _ hQ c.2.2.1, hc _ _ _ hQ c.2.2.2.1, hc _ _ _ hQ c.2.2.2.2.1, hc _ _ _ hQ c.2.2.2.2.2.1, hc _ _ _ hQ c.2.2.2.2.2.2.1, hc _ _ _ hQ c.2.2.2.2.2.2.2.1, hc _ _ _ hA c.2.2.2.2.2.2.2.2⟩
end
theorem nine_of {w0 w6 : World} {Q A : Nat} {ρ0 ρ1 : Rp} {T : TypeId} {j : Nat} {a1 : Value} (h : Box w0 w6 Q ρ0 T ρ1.cs) (ha : w6.cell? ⟨A, j, none⟩ = some a1) : w6.cell? ⟨Q, 0, none⟩ = some (.slice (some ⟨ρ1.r.nb, 0, none⟩) ρ1.r.n ρ1.r.nc) ∧ w6.cell? ⟨Q, 1, none⟩ = some (.slice (some ⟨ρ1.r.sb, 0, none⟩) ρ1.r.n ρ1.r.sc) ∧ w6.cell? ⟨Q, 2, none⟩ = some (.slice ρ1.r.pa ρ1.r.pend.length ρ1.r.pc) ∧ w6.cell? ⟨Q, 3, none⟩ = some (.int .i64 ρ1.r.writes) ∧ w6.cell? ⟨Q, 4, none⟩ = some (.int .i64 ρ1.r.left) ∧ w6.cell? ⟨Q, 5, none⟩ = some (.slice (some ⟨ρ1.L, 0, none⟩) ρ1.X.m ρ1.lc) ∧ w6.cell? ⟨Q, 6, none⟩ = some (.int .i64 (ρ1.X.hand : Int)) ∧ w6.cell? ⟨Q, 7, none⟩ = some (.int .i64 ρ1.X.loads) ∧ w6.cell? ⟨A, j, none⟩ = some a1 :=
  ⟨h.c0, h.c1, h.c2, h.c3, h.c4, h.c5, h.c6, h.c7, ha⟩
end Go.Proofs.YtfhnnfheonkneaaDoor
namespace Go.Proofs.YtfhnnfheonkneaaDoor
open Go.RowKit Go.Maps

def Full (X : Px) : Prop := ∀ k, k < X.c → (X.fr k).t.size = 512
def Cur5 (X : Px) : Prop := ∀ i, i < X.d.n → (X.d.cur i).size = 512
theorem Full.put {X : Px} (h : Full X) {k : Nat} {f : Fr} (hf : f.t.size = 512) : Full (X.put k f) := fun j hj => by
  rw [put_fr]
  split
  · exact hf
  · exact h j hj
/-- all but a frame -/
def Full1 (X : Px) (k : Nat) : Prop := ∀ j, j < X.c → j ≠ k → (X.fr j).t.size = 512
theorem Full1.put {X : Px} {k : Nat} (h : Full1 X k) {f : Fr} (hf : f.t.size = 512) : Full (X.put k f) := fun j hj => by
  by_cases e : j = k
  · subst e; rw [put_same]; exact hf
  · rw [put_other _ _ _ e]; exact h j hj e
theorem clean_t (X : Px) (k : Nat) : (cleanP X k).1.c = X.c ∧ ∀ j, ((cleanP X k).1.fr j).t = (X.fr j).t := by
  unfold cleanP
  split
  · exact ⟨rfl, fun _ => rfl⟩
  · split
    · exact ⟨rfl, fun _ => rfl⟩
    · refine ⟨rfl, fun j => ?_⟩
      show (if j = k then _ else _ : Fr).t = _
      split
      · rename_i e; rw [e]
      · rfl
theorem turn_t {N : Nat} {X : Px} (o : X.Ok N) (hc : X.c = X.m) (hh : X.held = false) : (turnP (3 * X.m) X).1.c = X.c ∧ ∀ j, ((turnP (3 * X.m) X).1.fr j).t = (X.fr j).t := by
  obtain ⟨t, ht, h0⟩ := held_no hh
  have hf := far_le X t o.m0
  have h1 := o.m0
  obtain ⟨T, _⟩ := turn_any (3 * X.m) X t o hc ht h0 (by omega)
  exact ⟨T.c, fun j => by rcases T.fr j with e | e <;> rw [e]⟩
theorem full_find {N : Nat} {X : Px} (o : X.Ok N) (h : Full X) (i : Int) : ((findP X i).2.2 = 0 → Full1 (findP X i).1 (findP X i).2.1) ∧ ((findP X i).2.2 ≠ 0 → Full (findP X i).1) := by
  cases ha : X.at i with
  | some k => rw [findP_some ha]; exact ⟨fun _ j hj _ => h j hj, fun q => absurd rfl q⟩
  | none =>
    refine ⟨fun h0 j hj hne => ?_, fun h0 => ?_⟩
    · have F := find_found o ha h0
      rw [F.ot j hne]
      exact h j (found_lt F hj hne)
    · by_cases hc : X.c < X.m
      · rw [findP_fresh ha hc] at h0; exact absurd rfl h0
      · have hcm : X.c = X.m := by have := o.cm; omega
        cases hh : X.held
        · rw [findP_give ha hc, giveP_not hh] at h0 ⊢
          obtain ⟨t1, t2⟩ := turn_t o hcm hh
          obtain ⟨c1, c2⟩ := clean_t (turnP (3 * X.m) X).1 (turnP (3 * X.m) X).2
          by_cases hz : (cleanP (turnP (3 * X.m) X).1 (turnP (3 * X.m) X).2).2 = 0
          · simp only [hz, if_true] at h0; exact absurd rfl h0
          · simp only [hz, if_false]
            intro j hj
            have hj2 : j < (cleanP (turnP (3 * X.m) X).1 (turnP (3 * X.m) X).2).1.c := hj
            show ((cleanP (turnP (3 * X.m) X).1 (turnP (3 * X.m) X).2).1.fr j).t.size = 512
            rw [c2, t2]
            exact h j (by rw [c1, t1] at hj2; exact hj2)
        · rw [find_pins' ha hc hh]; exact h
theorem Full.load {X : Px} (h : Full X) : Full X.load := fun k hk => h k hk
theorem full_hand {N : Nat} {X : Px} (o : X.Ok N) (h : Full X) (hc : Cur5 X) (i : Int) : Full (handP X i).1 := by
  by_cases hi : i < 0 ∨ (X.d.n : Int) ≤ i
  · rw [handP_no hi]; exact h
  · cases ha : X.at i with
    | some k => rw [handP_some hi ha]; exact h.put (h k (at_some ha).1)
    | none =>
      obtain ⟨q, rfl⟩ : ∃ q : Nat, i = q := ⟨i.toNat, by omega⟩
      rw [handP_none hi ha]
      cases hg : goodT (X.d.cur q)
      · rw [fetchP_bad hg]; exact h.load
      · rw [fetchP_good hg]
        obtain ⟨f1, f2⟩ := full_find o.load h.load (q : Int)
        by_cases hz : (findP X.load (q : Int)).2.2 = 0
        · rw [if_pos hz]
          exact (f1 hz).put (hc q (by omega))
        · rw [if_neg hz]
          exact f2 hz
theorem hand_at {N : Nat} {X : Px} (o : X.Ok N) (i : Int) (h : (handP X i).2.2 = 0) : (handP X i).2.1 < (handP X i).1.c := hand_lt o i h
theorem full_read {N : Nat} {X : Px} (o : X.Ok N) (hc : Cur5 X) (i : Int) (h : Full X) : Full (readP X i).1 := full_hand o h hc i
theorem read_size {N : Nat} {X : Px} (o : X.Ok N) (hc : Cur5 X) (i : Int) (h : Full X) (h0 : (readP X i).2.2 = 0) : (readP X i).2.1.size = 512 := by
  have h1 : (handP X i).2.2 = 0 := h0
  show (if (handP X i).2.2 = 0 then ((handP X i).1.fr (handP X i).2.1).t else ⟨#[]⟩).size = 512
  rw [if_pos h1]
  exact full_hand o h hc i _ (hand_lt o i h1)
theorem full_pin {N : Nat} {X : Px} (o : X.Ok N) (hc : Cur5 X) (i : Int) (h : Full X) : Full (pinP X i).1 := by
  have hf := full_hand o h hc i
  unfold pinP
  by_cases hz : (handP X i).2.2 = 0
  · simp only [hz, if_true]
    exact hf.put (hf _ (hand_lt o i hz))
  · simp only [hz, if_false]
    exact hf
theorem full_unpin {N : Nat} {X : Px} (_o : X.Ok N) (_hc : Cur5 X) (i : Int) (h : Full X) : Full (unpinP X i).1 := by
  by_cases hi : i < 0 ∨ (X.d.n : Int) ≤ i
  · rw [upP_no hi]; exact h
  · cases ha : X.at i with
    | none => rw [upP_none hi ha]; exact h
    | some k =>
      by_cases hz : (X.fr k).h = 0
      · rw [upP_zero hi ha hz]; exact h
      · rw [upP_ok hi ha hz]; exact h.put (h k (at_some ha).1)
theorem full_write {N : Nat} {X : Px} (o : X.Ok N) (i : Int) (b : ByteArray) (h : Full X) : Full (writeP X i b).1 := by
  by_cases hi : i < 0 ∨ (X.d.n : Int) ≤ i
  · rw [writeP_range hi]; exact h
  by_cases hb : b.size = 512
  · cases hg : goodT b
    · rw [writeP_sum hi hb hg]; exact h
    · rw [writeP_ok hi hb hg]
      obtain ⟨f1, f2⟩ := full_find o h i
      by_cases hz : (findP X i).2.2 = 0
      · rw [if_pos hz]; exact (f1 hz).put hb
      · rw [if_neg hz]; exact f2 hz
  · rw [writeP_long hi hb]; exact h
theorem full_flushN : ∀ (n k : Nat) (X : Px), Full X → Full (flushN n k X).1
  | 0, _, _, h => h
  | n + 1, k, X, h => by
    have hc : Full (cleanP X k).1 := fun j hj => by
      obtain ⟨c1, c2⟩ := clean_t X k
      rw [c2]
      exact h j (by rw [c1] at hj; exact hj)
    by_cases hz : (cleanP X k).2 = 0
    · rw [flushN_go hz]; exact full_flushN n (k + 1) _ hc
    · rw [flushN_stop hz]; exact hc
theorem full_flush (X : Px) (h : Full X) : Full (flushP X).1 := by
  have hf := full_flushN X.m 0 X h
  unfold flushP
  split
  · exact hf
  · exact hf
end Go.Proofs.YtfhnnfheonkneaaDoor

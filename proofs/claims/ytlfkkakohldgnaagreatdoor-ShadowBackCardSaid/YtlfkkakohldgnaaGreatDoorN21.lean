/-
  THE POOL's CALLS AS THE STATEMENTS MEET THEM: a pool that was made since the world W, and what has become of it since a world w0. Conditions: those that each lemma names.
-/
import Derived.IntWalk
import Derived.Test.YtlfkkakohldgnaaGreatDoorN20
namespace Go.Proofs.YtlfkkakohldgnaaGreatDoor
open Go.RowKit Go.Maps

/-! the disk alone -/
theorem DiskAt.mono {B B' : Nat} {w : World} {s : St} (h : DiskAt B w s) (hB : B' ≤ B) : DiskAt B' w s := by
  have o := h.ok
  refine ⟨⟨o.n1, Nat.le_trans hB o.bD, Nat.le_trans hB o.bS, Nat.le_trans hB o.bL, o.DS, o.DL, o.SL, fun i b hi => ⟨Nat.le_trans hB (o.lt i b hi).1, (o.lt i b hi).2⟩, o.inj, o.pD, o.pS, o.pL, o.nd, o.mem, o.lim, o.l0, o.l1, o.us, o.un⟩, h.d0, h.d1, h.d2, h.d3, h.d4, h.dS, h.dL, h.fD, h.cS, h.fS, h.cL, h.fL, ⟨h.p.1, ?_⟩, h.cT, h.fT⟩
  rcases h.p.2 with hn | ⟨g, cap, cur, hv, hg, hh, r⟩
  · exact .inl hn
  · exact .inr ⟨g, cap, cur, hv, Nat.le_trans hB hg, hh, r⟩
def zT : ByteArray := tx fun _ => 0
def Dk.new (n : Nat) : Dk := ⟨n, fun _ => zT, [], 0, -1⟩
theorem fresh_tie {n : Nat} {w w' : World} {s : St} (h : Fresh n w w' s) : Tie s (Dk.new n) := by
  refine ⟨h.n.symm, fun i _ => ?_, h.pend.symm, h.writes.symm, h.left.symm⟩
  show tx (fun _ => 0) = _
  refine tx_congr fun j _ => ?_
  unfold St.cur
  rw [h.late]
  exact (h.sure i j).symm
/-- a disk that was made since the world W -/
def DkN (W w : World) (D : Nat) (d : Dk) (H : Nat → Prop) : Prop := ∃ s, DiskAt W.heap.size w s ∧ Tie s d ∧ s.D = D ∧ H = s.has ∧ Below W.heap.size W w
theorem DkN.below {W w w' : World} {D : Nat} {d : Dk} {H : Nat → Prop} (h : DkN W w D d H) (hb : Below w.heap.size w w') : DkN W w' D d H := by
  obtain ⟨s, h1, h2, h3, h4, h5⟩ := h
  exact ⟨s, h1.below hb, h2, h3, h4, h5.trans (hb.mono h5.size)⟩
theorem DkN.lt {W w : World} {D : Nat} {d : Dk} {H : Nat → Prop} (h : DkN W w D d H) (b : Nat) (hb : H b) : b < w.heap.size := by
  obtain ⟨s, h1, _, _, rfl, _⟩ := h
  exact (h1.lt b hb).2
theorem DkN.b {W w : World} {D : Nat} {d : Dk} {H : Nat → Prop} (h : DkN W w D d H) : Below W.heap.size W w := by
  obtain ⟨s, _, _, _, _, h5⟩ := h
  exact h5
set_option maxRecDepth 100000 in
theorem disk_new {W : World} (n : Nat) (w : World) (hW : Below W.heap.size W w) (h1 : 1 ≤ n) (h2 : n ≤ 16384) :
    Calls Tryz.prog 10 #[.int .i64 n] w fun e w' => ∃ D H, e = .returned (.tuple #[.pointer (some ⟨D, 0, none⟩), .nilIface]) ∧ DkN W w' D (Dk.new n) H ∧ Below w.heap.size w w' :=
  (new_any n w h1 h2).mono fun _ _ ⟨s, he, hf⟩ => ⟨s.D, s.has, he, ⟨s, DiskAt.mono hf.at' hW.size, fresh_tie hf, rfl, rfl, hW.trans (hf.below.mono hW.size)⟩, hf.below⟩
def DkWrote (W w : World) (D : Nat) (d : Dk) (H : Nat → Prop) (e : Ending) (w' : World) : Prop := e = .returned .nilIface ∧ ∃ H', DkN W w' D d H' ∧ Stp w H w' H'
set_option maxRecDepth 100000 in
theorem disk_write {W w : World} {D : Nat} {d : Dk} {H : Nat → Prop} (h : DkN W w D d H) (i : Nat) (b off c : Nat) (t : ByteArray) (hi : i < d.n) (ht : t.size = 512) (hl : Lies w (some ⟨b, off, none⟩) (nums t)) (hb : ¬ H b) (hf : d.left ≠ 0) (w0 : 0 ≤ d.writes) (w1 : d.writes < 4611686018427387904) :
    Calls Tryz.prog 124 #[.pointer (some ⟨D, 0, none⟩), .int .i64 i, .slice (some ⟨b, off, none⟩) 512 c] w (DkWrote W w D (d.wrote i t) H) := by
  obtain ⟨s, hd, htie, rfl, rfl, hB⟩ := h
  refine (write_any s i w b off c (nums t) hd (by rw [← htie.n]; exact hi) hl hb (by rw [nums_len, ht]) (by rw [← htie.left]; exact hf) (by rw [← htie.writes]; exact w0) (by rw [← htie.writes]; exact w1)).mono fun _ _ ⟨he, s', hd', hs, hw⟩ => ⟨he, s'.has, ⟨s', hd', htie.wrote hd.ok hw ht, hw.D, rfl, ?_⟩, ⟨hs.os, hs.tape, hs.output, hs.size, hs.block, hs.own⟩⟩
  exact hB.trans (hs.below hd)

/-! the pool -/
def Pl (W : World) (N : Nat) (w : World) (p D : Nat) (X : Px) (H : Nat → Prop) : Prop := ∃ μ, PoolAt W.heap.size N w μ ∧ μ.P = p ∧ μ.s.D = D ∧ μ.X = X ∧ H = μ.all ∧ Below W.heap.size W w
/-- .. and what has become of it since -/
def PlN (W : World) (N : Nat) (w : World) (p D : Nat) (X : Px) (w0 : World) (H0 : Nat → Prop) : Prop := ∃ H, Pl W N w p D X H ∧ Stp w0 H0 w H
theorem Pl.first {W w : World} {N p D : Nat} {X : Px} {H : Nat → Prop} (h : Pl W N w p D X H) : PlN W N w p D X w H := ⟨H, h, Stp.refl _ _⟩
theorem Pl.below {W w w' : World} {N p D : Nat} {X : Px} {H : Nat → Prop} (h : Pl W N w p D X H) (hb : Below w.heap.size w w') : Pl W N w' p D X H := by
  obtain ⟨μ, h1, h2, h3, h4, h5, h6⟩ := h
  exact ⟨μ, h1.below hb, h2, h3, h4, h5, h6.trans (hb.mono h6.size)⟩
theorem Pl.mono {W w : World} {N M p D : Nat} {X : Px} {H : Nat → Prop} (h : Pl W N w p D X H) (hN : N ≤ M) : Pl W M w p D X H := by
  obtain ⟨μ, h1, h2⟩ := h
  exact ⟨μ, h1.mono hN, h2⟩
theorem Pl.ok {W w : World} {N p D : Nat} {X : Px} {H : Nat → Prop} (h : Pl W N w p D X H) : X.Ok N := by
  obtain ⟨μ, h1, _, _, rfl, _⟩ := h
  exact h1.core.ok
theorem Pl.b {W w : World} {N p D : Nat} {X : Px} {H : Nat → Prop} (h : Pl W N w p D X H) : Below W.heap.size W w := by
  obtain ⟨μ, _, _, _, _, _, h6⟩ := h
  exact h6
theorem Pl.lt {W w : World} {N p D : Nat} {X : Px} {H : Nat → Prop} (h : Pl W N w p D X H) (b : Nat) (hb : H b) : W.heap.size ≤ b ∧ b < w.heap.size := by
  obtain ⟨μ, h1, _, _, _, rfl, _⟩ := h
  exact h1.lt b hb
/-- a block that is none of the pool's is written -/
theorem Pl.other {W w : World} {N p D : Nat} {X : Px} {H : Nat → Prop} (h : Pl W N w p D X H) {g : Nat} (hg : ¬ H g) (hW : W.heap.size ≤ g) (o : Nat) (v : Value) : Pl W N (w.setCell ⟨g, o, none⟩ v) p D X H := by
  obtain ⟨μ, h1, h2, h3, h4, rfl, h6⟩ := h
  exact ⟨μ, h1.moved (by simp) fun b hb => Below.heap_setCell _ _ _ _ (fun e => hg (by have e2 : b = g := e; rw [← e2]; exact hb)), h2, h3, h4, rfl, h6.setCell hW _⟩
theorem PlN.below {W w w' w0 : World} {N p D : Nat} {X : Px} {H0 : Nat → Prop} (h : PlN W N w p D X w0 H0) (hb : Below w.heap.size w w') : PlN W N w' p D X w0 H0 := by
  obtain ⟨H, h1, h2⟩ := h
  exact ⟨H, h1.below hb, h2.trans (.of_below hb)⟩
theorem PlN.drew {W w w0 : World} {N p D : Nat} {X : Px} {H0 : Nat → Prop} (h : PlN W N w p D X w0 H0) : PlN W N w.drew p D X w0 H0 := h.below (Below.refl _ _).drew
theorem PlN.mono {W w w0 : World} {N M p D : Nat} {X : Px} {H0 : Nat → Prop} (h : PlN W N w p D X w0 H0) (hN : N ≤ M) : PlN W M w p D X w0 H0 := by
  obtain ⟨H, h1, h2⟩ := h
  exact ⟨H, h1.mono hN, h2⟩
theorem PlN.ok {W w w0 : World} {N p D : Nat} {X : Px} {H0 : Nat → Prop} (h : PlN W N w p D X w0 H0) : X.Ok N := by
  obtain ⟨H, h1, _⟩ := h
  exact h1.ok
theorem PlN.b {W w w0 : World} {N p D : Nat} {X : Px} {H0 : Nat → Prop} (h : PlN W N w p D X w0 H0) : Below W.heap.size W w := by
  obtain ⟨H, h1, _⟩ := h
  exact h1.b
theorem PlN.cell {W w w0 : World} {N p D : Nat} {X : Px} {H0 : Nat → Prop} (h : PlN W N w p D X w0 H0) {g o : Nat} {v : Value} (hc : w0.cell? ⟨g, o, none⟩ = some v) (hn : ¬ H0 g) : w.cell? ⟨g, o, none⟩ = some v := by
  obtain ⟨H, _, h2⟩ := h
  exact h2.cell hc hn
theorem PlN.block {W w w0 : World} {N p D : Nat} {X : Px} {H0 : Nat → Prop} (h : PlN W N w p D X w0 H0) {g : Nat} (hg : g < w0.heap.size) (hn : ¬ H0 g) : w.heap[g]? = w0.heap[g]? := by
  obtain ⟨H, _, h2⟩ := h
  exact h2.block g hg hn
theorem PlN.frozen {W w w0 : World} {N p D : Nat} {X : Px} {H0 : Nat → Prop} (h : PlN W N w p D X w0 H0) {g o : Nat} (hg : g < w0.heap.size) (hn : ¬ H0 g) (hf : w0.frozen? ⟨g, o, none⟩ = false) : w.frozen? ⟨g, o, none⟩ = false :=
  (World.frozen?_of_block (h.block hg hn)).trans hf
theorem PlN.open' {W w w0 : World} {N p D : Nat} {X : Px} {H0 : Nat → Prop} (h : PlN W N w p D X w0 H0) {g : Nat} (hg : g < w0.heap.size) (hn : ¬ H0 g) : ∃ H, Pl W N w p D X H ∧ ¬ H g := by
  obtain ⟨H, h1, h2⟩ := h
  exact ⟨H, h1, fun q => by rcases h2.own g q with e | e; exact hn e; omega⟩
theorem goes_pl {W w w' w0 : World} {N M p D : Nat} {X : Px} {H0 : Nat → Prop} {μ : Mp} (h1 : PoolAt W.heap.size N w μ) (h2 : μ.P = p) (h3 : μ.s.D = D) (h6 : Below W.heap.size W w) (hs : Stp w0 H0 w μ.all) (hg : Goes W.heap.size M w μ X w') : PlN W M w' p D X w0 H0 := by
  obtain ⟨μ', g1, g2, g3, g4, g5, g6⟩ := hg
  exact ⟨μ'.all, ⟨μ', g1, g3.trans h2, g5.trans h3, g6, rfl, h6.trans (g2.below (fun b hb => (h1.lt b hb).1) h6.size)⟩, hs.trans g2⟩
theorem newp_at {W w : World} {D : Nat} {d : Dk} {H : Nat → Prop} (N m : Nat) (h : DkN W w D d H) (h1 : 1 ≤ m) (h2 : m ≤ 1024) (w0 : 0 ≤ d.writes) (wN : d.writes ≤ N) :
    Calls Tryz.prog 72 #[.pointer (some ⟨D, 0, none⟩), .int .i64 (m : Int)] w fun e w' => ∃ p H', e = .returned (.tuple #[.pointer (some ⟨p, 0, none⟩), .nilIface]) ∧ Pl W N w' p D (Px.fresh d m) H' := by
  obtain ⟨s, hd, ht, rfl, rfl, hB⟩ := h
  exact (newp_any (N := N) s d m w hd ht h1 h2 w0 wN).mono fun _ _ ⟨μ, he, hp, hs, hX, hb, _⟩ => ⟨μ.P, μ.all, he, μ, hp, rfl, by rw [hs], hX, rfl, hB.trans (hb.mono hB.size)⟩
theorem pl_write {W w w0 : World} {N p D : Nat} {X : Px} {H0 : Nat → Prop} (h : PlN W N w p D X w0 H0) (i : Int) (t : ByteArray) (c : Nat) (n : Nat) (hn : t.size = n) (hc : n ≤ c) (hN : N < 2305843009213693952) :
    Calls Tryz.prog 96 #[.pointer (some ⟨p, 0, none⟩), .int .i64 i, .slice (some ⟨w.heap.size, 0, none⟩) n c] (bw w t) fun e w' => e = .returned (errv (writeP X i t).2) ∧ PlN W (N + 1) w' p D (writeP X i t).1 w0 H0 := by
  subst hn
  have hb := bw_below w t
  obtain ⟨H, ⟨μ, h1, rfl, rfl, rfl, rfl, h6⟩, hs⟩ := h
  exact (write_any' μ i t _ c (bw w t) (h1.below hb) (bw_lies w t) hc (fun b off e q => by
    obtain ⟨rfl, _⟩ : w.heap.size = b ∧ 0 = off := by simpa using e
    have := (h1.lt _ q).2
    omega) hN).mono fun _ _ ⟨he, hg⟩ => ⟨he, goes_pl (h1.below hb) rfl rfl (h6.trans (hb.mono h6.size)) (hs.trans (.of_below hb)) hg⟩
theorem pl_read_got {W w w0 : World} {N p D : Nat} {X : Px} {H0 : Nat → Prop} (h : PlN W N w p D X w0 H0) (i : Int) (hN : N + 1 < 2305843009213693952) (he : (readP X i).2.2 = 0) (hs : (readP X i).2.1.size = 512) :
    Calls Tryz.prog 82 #[.pointer (some ⟨p, 0, none⟩), .int .i64 i] w fun e w' => ∃ g cap, e = .returned (.tuple #[.slice (some ⟨g, 0, none⟩) 512 cap, .nilIface]) ∧ Lies w' (some ⟨g, 0, none⟩) (nums (readP X i).2.1) ∧ PlN W (N + 2) w' p D (readP X i).1 w0 H0 := by
  obtain ⟨H, ⟨μ, h1, rfl, rfl, rfl, rfl, h6⟩, hst⟩ := h
  exact (read_got μ i w h1 hN he hs).mono fun _ _ ⟨g, cap, he, hl, _, _, μ', hp, hs', hE, hX, _⟩ => ⟨g, cap, he, hl, goes_pl h1 rfl rfl h6 hst ⟨μ', hp, hs', hE.1, hE.2.1, hE.2.2, hX⟩⟩
theorem pl_read_bad {W w w0 : World} {N p D : Nat} {X : Px} {H0 : Nat → Prop} (h : PlN W N w p D X w0 H0) (i : Int) (hN : N + 1 < 2305843009213693952) (he : (readP X i).2.2 ≠ 0) :
    Calls Tryz.prog 82 #[.pointer (some ⟨p, 0, none⟩), .int .i64 i] w fun e w' => e = .returned (.tuple #[.slice none 0 0, .iface 78 (.int .i64 (readP X i).2.2)]) ∧ PlN W (N + 2) w' p D (readP X i).1 w0 H0 := by
  obtain ⟨H, ⟨μ, h1, rfl, rfl, rfl, rfl, h6⟩, hst⟩ := h
  exact (read_bad μ i w h1 hN he).mono fun _ _ ⟨he, hg⟩ => ⟨he, goes_pl h1 rfl rfl h6 hst hg⟩
theorem pl_flush {W w w0 : World} {N p D : Nat} {X : Px} {H0 : Nat → Prop} (h : PlN W N w p D X w0 H0) (hN : N + 1025 < 2305843009213693952) :
    Calls Tryz.prog 76 #[.pointer (some ⟨p, 0, none⟩)] w fun e w' => e = .returned (errv (flushP X).2) ∧ PlN W (N + X.m) w' p D (flushP X).1 w0 H0 := by
  obtain ⟨H, ⟨μ, h1, rfl, rfl, rfl, rfl, h6⟩, hst⟩ := h
  exact (flushp_any μ w h1 hN).mono fun _ _ ⟨he, hg⟩ => ⟨he, goes_pl h1 rfl rfl h6 hst hg⟩
/-- the disk is read beside the pool -/
theorem pd_read {W w w0 : World} {N p D : Nat} {X : Px} {H0 : Nat → Prop} (h : PlN W N w p D X w0 H0) (i : Nat) (hi : i < X.d.n) :
    Calls Tryz.prog 32 #[.pointer (some ⟨D, 0, none⟩), .int .i64 i] w fun e w' => ∃ g cap, e = .returned (.tuple #[.slice (some ⟨g, 0, none⟩) 512 cap, .nilIface]) ∧ Lies w' (some ⟨g, 0, none⟩) (nums (X.d.cur i)) ∧ PlN W N w' p D X w0 H0 := by
  have h' := h
  obtain ⟨H, ⟨μ, h1, rfl, rfl, rfl, rfl, h6⟩, hst⟩ := h
  have hin : i < μ.s.n := by have := h1.core.t.n; omega
  exact (read_any μ.s i w h1.core.d hin).mono fun _ _ ⟨g, cap, he, hl, _, _, hb⟩ => ⟨g, cap, he, by rw [cur_is h1 hin]; exact hl, h'.below hb⟩
/-! numbers, and the same calls at numbers that are spelled otherwise -/
/-- int(uint(a) % m) -/
theorem red_bd (a m : Int) (hm : 0 < m) (hm2 : m ≤ 9223372036854775807) : 0 ≤ wrap64 ((IntKind.u64.wrap a).tmod m) ∧ wrap64 ((IntKind.u64.wrap a).tmod m) < m := by
  have h0 := wrap_u64_nonneg a
  rw [Int.tmod_eq_emod_of_nonneg h0]
  have h1 := Int.emod_nonneg (IntKind.u64.wrap a) (show m ≠ 0 by omega)
  have h2 := Int.emod_lt_of_pos (IntKind.u64.wrap a) hm
  rw [IntWalk.wrap64_in _ ⟨by omega, by omega⟩]
  exact ⟨h1, h2⟩
theorem red_nat (a m : Int) (hm : 0 < m) (hm2 : m ≤ 9223372036854775807) : ∃ k : Nat, wrap64 ((IntKind.u64.wrap a).tmod m) = k ∧ (k : Int) < m := by
  have := red_bd a m hm hm2
  exact ⟨(wrap64 ((IntKind.u64.wrap a).tmod m)).toNat, by omega, by omega⟩
theorem disk_new' {W : World} (n : Nat) (x : Int) (hx : x = n) (w : World) (hW : Below W.heap.size W w) (h1 : 1 ≤ n) (h2 : n ≤ 16384) :
    Calls Tryz.prog 10 #[.int .i64 x] w fun e w' => ∃ D H, e = .returned (.tuple #[.pointer (some ⟨D, 0, none⟩), .nilIface]) ∧ DkN W w' D (Dk.new n) H := by
  subst hx
  exact (disk_new n w hW h1 h2).mono fun _ _ ⟨D, H, he, h, _⟩ => ⟨D, H, he, h⟩
theorem newp_at' {W w : World} {D : Nat} {d : Dk} {H : Nat → Prop} (N m : Nat) (x : Int) (hx : x = m) (h : DkN W w D d H) (h1 : 1 ≤ m) (h2 : m ≤ 1024) (w0 : 0 ≤ d.writes) (wN : d.writes ≤ N) :
    Calls Tryz.prog 72 #[.pointer (some ⟨D, 0, none⟩), .int .i64 x] w fun e w' => ∃ p H', e = .returned (.tuple #[.pointer (some ⟨p, 0, none⟩), .nilIface]) ∧ Pl W N w' p D (Px.fresh d m) H' := by
  subst hx
  exact newp_at N m h h1 h2 w0 wN
/-! texts -/
set_option maxRecDepth 100000 in
theorem conv_t {w : World} {a : Option Addr} {c n : Nat} {t : ByteArray} (h : Lies w a (nums t)) (ht : t.size = n) : (convert 72 9 (.slice a n c)).run Tryz.prog w = .ok (.string t) w := by
  rw [conv_any h (by rw [nums_len, ht]), str_nums]
set_option maxRecDepth 100000 in
theorem conv_b (t : ByteArray) (ht : t.size = 512) (w : World) : (convert 9 72 (.string t)).run Tryz.prog w = .ok (.slice (some ⟨w.heap.size, 0, none⟩) 512 (bc w t)) (bw w t) := by
  rw [conv_bytes t w, ht]
end Go.Proofs.YtlfkkakohldgnaaGreatDoor

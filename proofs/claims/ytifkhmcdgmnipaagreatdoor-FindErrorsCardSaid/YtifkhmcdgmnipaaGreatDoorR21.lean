/-
  THE WALK of Set at a cell that is there, where there is room. Conditions: the store lies in memory.
-/
import Derived.Test.YtifkhmcdgmnipaaGreatDoorR20
namespace Go.Proofs.YtifkhmcdgmnipaaGreatDoor
open Go.RowKit Ti Qd Go.Maps Go.WideMaps

theorem rep_row {w : World} {g : Nat} {q : Sq} {T : TypeId} (h : w.heap[g]? = some (.cells #[.int .i64 q.lev, .int .i64 q.cnt, .int .u64 (rg q.til), .int .i64 q.k0, .int .i64 q.k1, .int .i64 q.k2, .int .i64 q.k3] T (0, 0))) (i : Nat) (hi : i < 4) (k : Int) :
    (w.setCell ⟨g, 3 + i, none⟩ (.int .i64 k)).heap[g]? = some (.cells #[.int .i64 q.lev, .int .i64 q.cnt, .int .u64 (rg q.til), .int .i64 (rep q i k 0), .int .i64 (rep q i k 1), .int .i64 (rep q i k 2), .int .i64 (rep q i k 3)] T (0, 0)) := by
  rw [heap_setCell_same w g (3 + i) _ _ _ h]
  match i, hi with
  | 0, _ => rfl
  | 1, _ => rfl
  | 2, _ => rfl
  | 3, _ => rfl
theorem Goes.off {B : Nat} {w W w' : World} {P : Nat} {L : List Sq} {room : Nat} {H : Nat → Prop} {L0 : List Sq} (hs : St B w P L0 room H) (hb : Below w.heap.size w W) (hg : Goes B W P room H L w') {g : Nat} (h1 : w.heap.size ≤ g) (h2 : g < W.heap.size) :
    ∃ H', St B w' P L room H' ∧ Stp w H w' H' ∧ ¬ H' g ∧ w'.heap[g]? = W.heap[g]? := by
  obtain ⟨H', k1, k2⟩ := hg
  have hn : ¬ H g := fun e => by have := (hs.lt g e).2; omega
  exact ⟨H', k1, (Stp.of_below hb).trans k2, fun e => by rcases k2.own g e with q | q; exact hn q; omega, k2.block g h2 hn⟩
set_option maxRecDepth 100000 in
set_option maxHeartbeats 4000000 in
theorem set_is {B : Nat} {P : Nat} {room : Nat} (c : Bool) : ∀ (n : Nat) (L : List Sq) (H : Nat → Prop) (id : Int) (x y : Nat) (w : World), St B w P L room H → Lv L n id → n ≤ 37 → x < 2 ^ (n + 3) → y < 2 ^ (n + 3) → (setQ L n id x y c).1.length ≤ room →
    Calls Tryz.prog 16 #[.pointer (some ⟨P, 0, none⟩), .int .i64 id, .int .i64 x, .int .i64 y, .bool c] w fun e w' => e = .returned (.tuple #[.int .i64 (setQ L n id x y c).2, .nilIface]) ∧ Goes B w P room H (setQ L n id x y c).1 w'
  | 0, L, H, id, x, y, w, h, hl, hn, hx, hy, hr => by
    have HA := Lib.hid (about_ok h 0 id x y hl hn hx hy)
    have HT := Lib.hid (Go.Proofs.YtifkhmcdgmnipaaGreatDoor.set_ok (at' L id).til x y c hx hy)
    have hlev := hl.2
    have HS := Lib.hid h
    have HLF := Lib.hid (fun (w' : World) (h' : St B w' P L room H) => leaf_ok h' (setB (at' L id).til x y c) hr)
    rw [show setQ L 0 id x y c = (put L (leafQ (setB (at' L id).til x y c)), nr L (leafQ (setB (at' L id).til x y c))) from rfl]
    clear h hl hx hy hr
    unfold qv at *
    generalize at' L id = q at *
    generalize setB q.til x y c = t at *
    generalize nr L (leafQ t) = k at *
    generalize put L (leafQ t) = L' at *
    have e3 : (q.lev == 3) = true := by rw [beq_iff_eq]; exact hlev
    clear hlev
    go_enter Tryz.func16, Tryz.ntmps16
    go_wp2_with fail
    refine HA.out.mono ?_
    rintro e w1 ⟨rfl, hb⟩
    have HB := Lib.hid (hb.trans ((alX w1 (.cells #[.int .i64 q.lev, .int .i64 q.cnt, .int .u64 (rg q.til), .int .i64 q.k0, .int .i64 q.k1, .int .i64 q.k2, .int .i64 q.k3] 76)).mono hb.size))
    clear hb
    go_wp2_with fail
    refine (HT.out _).mono ?_
    rintro e w2 ⟨rfl, rfl⟩
    go_wp2_with fail
    refine (HLF.out _ (HS.out.below HB.out (Nat.le_refl _))).mono ?_
    rintro e w3 ⟨rfl, hg⟩
    have HG := Lib.hid (Goes.trans (.of_below HB.out) hg)
    clear hg
    go_wp2
    go_ret2
    exact ⟨rfl, HG.out⟩
  | n + 1, L, H, id, x, y, w, h, hl, hn, hx, hy, hr => by
    have hi := h.inv
    have HA := Lib.hid (about_ok h (n + 1) id x y hl hn hx hy)
    have hlev := hl.2
    have hp := Nat.two_pow_pos (n + 3)
    have hq : qd (2 ^ (n + 3)) x y < 4 := qd_lt (by rw [show n + 3 + 1 = n + 1 + 3 by omega]; exact hx) (by rw [show n + 3 + 1 = n + 1 + 3 by omega]; exact hy)
    have HL := Lib.hid (lead_ok n (at' L id) x y (by rw [hlev]; omega) (by omega) (by rw [show n + 4 = n + 1 + 3 by omega]; exact hx) (by rw [show n + 4 = n + 1 + 3 by omega]; exact hy))
    have HS := Lib.hid h
    have hso := Qd.set_ok hi n (kid (at' L id) (qd (2 ^ (n + 3)) x y)) (x % 2 ^ (n + 3)) (y % 2 ^ (n + 3)) c (hi.kid hl _) (by omega) (Nat.mod_lt _ hp) (Nat.mod_lt _ hp)
    have HR := Lib.hid (show setQ L (n + 1) id x y c = (put (setQ L n (kid (at' L id) (qd (2 ^ (n + 3)) x y)) (x % 2 ^ (n + 3)) (y % 2 ^ (n + 3)) c).1 _, nr _ _) from rfl)
    have hrl : (setQ L n (kid (at' L id) (qd (2 ^ (n + 3)) x y)) (x % 2 ^ (n + 3)) (y % 2 ^ (n + 3)) c).1.length ≤ room := by
      rw [HR.out] at hr
      exact Nat.le_trans (put_len _ _).1 hr
    have HG := Lib.hid (fun (w' : World) (h' : St B w' P L room H) => set_is c n L H (kid (at' L id) (qd (2 ^ (n + 3)) x y)) (x % 2 ^ (n + 3)) (y % 2 ^ (n + 3)) w' h' (hi.kid hl _) (by omega) (Nat.mod_lt _ hp) (Nat.mod_lt _ hp) hrl)
    rw [HR.out] at hr ⊢
    have fr := fun j => four_rep hi hso.ext hl hso.lv (qd (2 ^ (n + 3)) x y) j
    generalize setQ L n (kid (at' L id) (qd (2 ^ (n + 3)) x y)) (x % 2 ^ (n + 3)) (y % 2 ^ (n + 3)) c = r at *
    have HN := Lib.hid (fun (w' : World) (H' : Nat → Prop) (h' : St B w' P r.1 room H') => node_ok h' _ _ _ _ (n + 3) ⟨(fr 0).1, (fr 1).1, (fr 2).1, (fr 3).1, (fr 0).2, (fr 1).2, (fr 2).2, (fr 3).2⟩ (by omega) hr)
    clear h hl hx hy hi HR hso fr hr hrl
    generalize at' L id = q at *
    generalize hi : qd (2 ^ (n + 3)) x y = i at *
    generalize x % 2 ^ (n + 3) = x' at *
    generalize y % 2 ^ (n + 3) = y' at *
    clear hi hp
    generalize nr r.1 (joinQ r.1 (rep q i r.2 0) (rep q i r.2 1) (rep q i r.2 2) (rep q i r.2 3)) = k9 at *
    generalize put r.1 (joinQ r.1 (rep q i r.2 0) (rep q i r.2 1) (rep q i r.2 2) (rep q i r.2 3)) = L9 at *
    obtain ⟨L1, k1⟩ := r
    simp only at *
    have e3 : (q.lev == 3) = false := by rw [beq_eq_false_iff_ne, hlev]; omega
    clear hlev
    have HI := Lib.hid hq
    have i0 : (0 : Int) ≤ (i : Int) := by omega
    have i4 : (i : Int) < 4 := by omega
    have i5 : i < 4 := hq
    unfold qv at *
    go_enter Tryz.func16, Tryz.ntmps16
    go_wp2_with fail
    refine HA.out.mono ?_
    rintro e w1 ⟨rfl, hb⟩
    have hg := heap_alloc_new w1 (.cells #[.int .i64 q.lev, .int .i64 q.cnt, .int .u64 (rg q.til), .int .i64 q.k0, .int .i64 q.k1, .int .i64 q.k2, .int .i64 q.k3] 76)
    have HB := Lib.hid (hb.trans ((alX w1 (.cells #[.int .i64 q.lev, .int .i64 q.cnt, .int .u64 (rg q.til), .int .i64 q.k0, .int .i64 q.k1, .int .i64 q.k2, .int .i64 q.k3] 76)).mono hb.size))
    have HW1 := Lib.hid hb.size
    clear hb
    go_upto_region 2 with (fail)
    obtain ⟨g, hgg⟩ : ∃ g, g = w1.heap.size := ⟨_, rfl⟩
    rw [← hgg] at hg HW1 ⊢
    generalize w1.alloc (.cells #[.int .i64 q.lev, .int .i64 q.cnt, .int .u64 (rg q.til), .int .i64 q.k0, .int .i64 q.k1, .int .i64 q.k2, .int .i64 q.k3] 76) = W at HB hg ⊢
    have HGG := Lib.hid hg
    obtain ⟨⟨c0, c1, c2, c3, c4, c5, c6⟩, _, _, _, _, _, _, _⟩ := row7 hg
    clear hg hgg
    go_wp2_with fail
    refine (HL.out _).mono ?_
    rintro e w2 ⟨rfl, hb⟩
    have HB2 := Lib.hid (HB.out.trans (hb.mono HB.out.size))
    have HG2 := Lib.hid ((hb.block g (lt_of_block HGG.out)).trans HGG.out)
    have ck := kid_cell HG2.out i HI.out
    clear c0 c1 c2 c3 c4 c5 c6 hb
    go_wp2_with fail
    refine (HG.out _ (HS.out.below HB2.out (Nat.le_refl _))).mono ?_
    rintro e w3 ⟨rfl, hgo⟩
    obtain ⟨H', hs3, ht3, hn3, hg3⟩ := hgo.off HS.out HB2.out HW1.out (lt_of_block HG2.out)
    have HG3 := Lib.hid (hg3.trans HG2.out)
    have HS3 := Lib.hid (And.intro hs3 (And.intro ht3 hn3))
    clear hgo hs3 ht3 hn3 hg3 ck
    have ck := kid_cell HG3.out i HI.out
    have cf := frozen_of_row _ _ (3 + i) _ _ HG3.out
    go_upto_region 14 with (fail)
    have HG4 := Lib.hid (rep_row HG3.out i HI.out k1)
    have HS4 := Lib.hid (HS3.out.1.moved (w' := w3.setCell ⟨g, 3 + i, none⟩ (.int .i64 k1)) fun b hb => heap_setCell_other w3 ⟨g, 3 + i, none⟩ b _ (fun e => HS3.out.2.2 (by have e2 : b = g := e; rw [← e2]; exact hb)))
    have HT4 := Lib.hid (show Stp w H (w3.setCell ⟨g, 3 + i, none⟩ (.int .i64 k1)) H' from ⟨HS3.out.2.1.os, HS3.out.2.1.tape, HS3.out.2.1.output, by have := HS3.out.2.1.size; simpa using this, fun b hb hn => (heap_setCell_other w3 ⟨g, 3 + i, none⟩ b _ (by have := HW1.out; intro e; simp only at e; omega)).trans (HS3.out.2.1.block b hb hn), HS3.out.2.1.own⟩)
    clear ck cf
    generalize w3.setCell ⟨g, 3 + i, none⟩ (.int .i64 k1) = W4 at HG4 HS4 HT4 ⊢
    obtain ⟨⟨c0, c1, c2, c3, c4, c5, c6⟩, _, _, _, _, _, _, _⟩ := row7 HG4.out
    go_wp2_with fail
    refine (HN.out _ _ HS4.out).mono ?_
    rintro e w5 ⟨rfl, hgo⟩
    have HG5 := Lib.hid (Goes.trans HT4.out hgo)
    clear hgo
    go_wp2
    go_ret2
    exact ⟨rfl, HG5.out⟩
end Go.Proofs.YtifkhmcdgmnipaaGreatDoor

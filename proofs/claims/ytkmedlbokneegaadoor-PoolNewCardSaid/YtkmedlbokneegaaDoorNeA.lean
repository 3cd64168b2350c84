/-
  PoolNew: a pool of none is none, and says so; so is one of a disk that is not there, or of frames that cannot be; else its frames are empty, and a sector that was never laid cannot be read. No condition but that the input could be read.
-/
import Derived.Test.YtkmedlbokneegaaDoorNl
namespace Go.Proofs.YtkmedlbokneegaaDoor
open Go.RowKit Go.Maps

theorem pl_frames_new {W w w0 : World} {N p D m : Nat} {d : Dk} {H0 : Nat → Prop} (h : PlN W N w p D (Px.fresh d m) w0 H0) (hm : 1 ≤ m) :
    Calls Tryd.prog 20 #[.pointer (some ⟨p, 0, none⟩)] w fun e w' => ∃ g o cap, e = .returned (.slice (some ⟨g, o, none⟩) m cap) ∧ w'.cell? ⟨g, o, none⟩ = some (.int .i64 (-1)) ∧ PlN W N w' p D (Px.fresh d m) w0 H0 :=
  (pl_frames h).mono fun e w' ⟨ao, cap, he, hx, h'⟩ => by
    have hl : ((Px.fresh d m).secs (Px.fresh d m).m).length = m := secs_len _ _
    obtain ⟨g, o, rfl, hc⟩ := hx 0 (by rw [hl]; exact hm)
    refine ⟨g, o, cap, by rw [he, hl], ?_, h'⟩
    simpa [Px.secs, Px.fresh, Fr.new] using hc
theorem pl_unpin_is {W w w0 : World} {N p D : Nat} {X : Px} {H0 : Nat → Prop} (h : PlN W N w p D X w0 H0) (i c : Int) (hN : N < 2305843009213693952) (hc : unpinP X i = (X, c)) (h0 : c ≠ 0) :
    Calls Tryd.prog 18 #[.pointer (some ⟨p, 0, none⟩), .int .i64 i] w fun e w' => e = .returned (.iface 60 (.int .i64 c)) ∧ PlN W N w' p D X w0 H0 :=
  (pl_unpin h i hN).mono fun _ _ ⟨he, hp⟩ => by
    rw [hc] at he hp
    exact ⟨by rw [he, errv1 h0], hp⟩
theorem sure_pl {W w w0 : World} {N p D : Nat} {X : Px} {H0 : Nat → Prop} (h : PlN W N w p D X w0 H0) : Calls Tryd.prog 11 #[] w fun e w' => e = .returned (.bool true) ∧ PlN W N w' p D X w0 H0 :=
  (sure_any w).mono fun _ _ ⟨he, hb⟩ => ⟨he, h.below hb⟩
theorem loads_pl {W w w0 : World} {N p D : Nat} {X : Px} {H0 : Nat → Prop} (h : PlN W N w p D X w0 H0) (k : Int) (hk : X.loads = k) : Calls Tryd.prog 22 #[.pointer (some ⟨p, 0, none⟩)] w fun e w' => e = .returned (.int .i64 k) ∧ w = w' := by
  subst hk
  exact pl_loads h
theorem fresh_no (m : Nat) (i : Int) (hi : i < 0 ∨ 2 < i) : (readP (Px.fresh (Dk.new 3) m) i).2.2 = 4 ∧ (readP (Px.fresh (Dk.new 3) m) i).1 = Px.fresh (Dk.new 3) m ∧ unpinP (Px.fresh (Dk.new 3) m) i = (Px.fresh (Dk.new 3) m, 4) := by
  have h : i < 0 ∨ (((Px.fresh (Dk.new 3) m).d.n : Nat) : Int) ≤ i := hi.imp id fun h => by show ((3 : Nat) : Int) ≤ i; omega
  refine ⟨?_, ?_, unpinP_no h⟩ <;> (unfold readP; rw [handP_no h])
theorem fresh_bad (m q : Nat) (hq : q < 3) : (readP (Px.fresh (Dk.new 3) m) q).2.2 = 7 ∧ (readP (Px.fresh (Dk.new 3) m) q).1 = (Px.fresh (Dk.new 3) m).load ∧ unpinP (Px.fresh (Dk.new 3) m).load q = ((Px.fresh (Dk.new 3) m).load, 8) := by
  obtain ⟨h1, h2⟩ := sem_bad (sem_fresh (d := Dk.new 3) (m := m) rfl) (q := q) hq zT_bad
  exact ⟨h1, h2, unpinP_none (by show ¬ ((q : Int) < 0 ∨ ((3 : Nat) : Int) ≤ q); omega) rfl⟩
set_option maxRecDepth 100000 in
set_option maxHeartbeats 4000000 in
theorem newq_bad (n i : Int) (W : World) (hl : Laid W) (hn : n < 1 ∨ 1024 < n) :
    Calls Tryd.prog 4 #[.int .i64 n, .int .i64 i] W fun e w' => e = .returned (.bool true) ∧ Below W.heap.size W w' := by
  have HN := Lib.hid hn
  rcases hn with hn | hn
  · have x2 : ¬ 1024 < n := by omega
    have HLD := Lib.hid hl
    have hb0 : Below W.heap.size W W := Below.refl _ _
    clear hl
    go_enter Tryd.func4, Tryd.ntmps4
    go_wp2_with (first | (go_at_call 14; refine (nop_read _ _).mono ?_; rintro e w' ⟨rfl, rfl⟩) | (go_at_call 16; refine (nop_write _ _ _).mono ?_; rintro e w' ⟨rfl, rfl⟩) | (go_at_call 17; refine (nop_pin _ _).mono ?_; rintro e w' ⟨rfl, rfl⟩) | (go_at_call 18; refine (nop_unpin _ _).mono ?_; rintro e w' ⟨rfl, rfl⟩) | (go_at_call 19; refine (nop_flush _).mono ?_; rintro e w' ⟨rfl, rfl⟩) | (go_at_call 20; refine (nop_frames _).mono ?_; rintro e w' ⟨rfl, rfl⟩) | (go_at_call 21; refine (nop_dirty _).mono ?_; rintro e w' ⟨rfl, rfl⟩) | (go_at_call 22; refine (nop_loads _).mono ?_; rintro e w' ⟨rfl, rfl⟩) | (go_at_call 15; refine (num_b (by assumption) HLD.out 1).mono ?_; rintro e w1 ⟨rfl, hbn⟩) | (go_at_call 7; refine (disk_new' (W := W) 3 _ rfl _ (by assumption) (by omega) (by omega)).mono ?_; rintro e wa ⟨D, H, rfl, h⟩; have hbd := h.b; have HD := Lib.hid h; clear h) | (go_at_call 8; refine (newp_no _ _ _ (by first | exact .inl rfl | exact .inr ⟨⟨_, rfl⟩, HN.out⟩)).mono ?_; rintro e w' ⟨rfl, rfl⟩) | (go_at_call 11; refine (sure_any _).mono ?_; rintro e w9 ⟨rfl, hb9⟩))
    go_ret
    exact ⟨rfl, (by assumption : Below W.heap.size W _).trans (hb9.mono (by assumption : Below W.heap.size W _).size)⟩
  · have x2 : ¬ n < 1 := by omega
    have HLD := Lib.hid hl
    have hb0 : Below W.heap.size W W := Below.refl _ _
    clear hl
    go_enter Tryd.func4, Tryd.ntmps4
    go_wp2_with (first | (go_at_call 14; refine (nop_read _ _).mono ?_; rintro e w' ⟨rfl, rfl⟩) | (go_at_call 16; refine (nop_write _ _ _).mono ?_; rintro e w' ⟨rfl, rfl⟩) | (go_at_call 17; refine (nop_pin _ _).mono ?_; rintro e w' ⟨rfl, rfl⟩) | (go_at_call 18; refine (nop_unpin _ _).mono ?_; rintro e w' ⟨rfl, rfl⟩) | (go_at_call 19; refine (nop_flush _).mono ?_; rintro e w' ⟨rfl, rfl⟩) | (go_at_call 20; refine (nop_frames _).mono ?_; rintro e w' ⟨rfl, rfl⟩) | (go_at_call 21; refine (nop_dirty _).mono ?_; rintro e w' ⟨rfl, rfl⟩) | (go_at_call 22; refine (nop_loads _).mono ?_; rintro e w' ⟨rfl, rfl⟩) | (go_at_call 15; refine (num_b (by assumption) HLD.out 1).mono ?_; rintro e w1 ⟨rfl, hbn⟩) | (go_at_call 7; refine (disk_new' (W := W) 3 _ rfl _ (by assumption) (by omega) (by omega)).mono ?_; rintro e wa ⟨D, H, rfl, h⟩; have hbd := h.b; have HD := Lib.hid h; clear h) | (go_at_call 8; refine (newp_no _ _ _ (by first | exact .inl rfl | exact .inr ⟨⟨_, rfl⟩, HN.out⟩)).mono ?_; rintro e w' ⟨rfl, rfl⟩) | (go_at_call 11; refine (sure_any _).mono ?_; rintro e w9 ⟨rfl, hb9⟩))
    go_ret
    exact ⟨rfl, (by assumption : Below W.heap.size W _).trans (hb9.mono (by assumption : Below W.heap.size W _).size)⟩
end Go.Proofs.YtkmedlbokneegaaDoor

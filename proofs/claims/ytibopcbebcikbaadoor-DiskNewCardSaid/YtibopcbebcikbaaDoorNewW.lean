/-
  THE WALK of DiskNew: it is true of all numbers. Conditions: the numbers are Go's; errors.errorType is as the program's text lays it.
-/
import Derived.Test.YtibopcbebcikbaaDoorNil
namespace Go.Proofs.YtibopcbebcikbaaDoor
open Go.RowKit

theorem new_err (n : Int) (w : World) (hn : n < 1 ∨ 16384 < n) : Calls Tryd.prog 7 #[.int .i64 n] w fun e w' => e = .returned (.tuple #[.pointer none, .iface 56 (.int .i64 1)]) ∧ w = w' := new_no n w hn
theorem new_cur {n : Nat} {s : St} (h : New n s) (i j : Nat) (hj : j < 512) : s.cur i j = txt (sec ⟨#[]⟩) j := by
  rw [txt_nil j hj]
  unfold St.cur
  rw [h.late]
  exact h.sure i j
theorem long_now {W : World} {p : Nat} {w0 w : World} {r s : St} (h : Now W p w0 r w s) (o : Obj) (i : Nat) (x : Int) (a : Option Addr) (n c : Nat) (hx : x = i) (hi : i < s.n) (hn : n ≠ 512) : Calls Tryd.prog 14 #[.pointer (some ⟨p, 0, none⟩), .int .i64 x, .slice a n c] (w.alloc o) fun e w' => e = .returned (.iface 56 (.int .i64 2)) ∧ Now W p w0 r w' s :=
  (long_err (h.below (alB w o)).a i x a n c hx hi hn).mono fun _ _ ⟨he, hw⟩ => ⟨he, hw ▸ h.below (alB w o)⟩
theorem num_now {W : World} {p : Nat} {w0 w : World} {r s : St} (h : Now W p w0 r w s) (hl : Laid W) (k : Int) : Calls Tryd.prog 13 #[.iface 56 (.int .i64 k)] w fun e w' => e = .returned (.int .i64 k) ∧ Now W p w0 r w' s :=
  (num_err k w (hl.below h.a.b)).mono fun _ _ ⟨he, hb⟩ => ⟨he, h.below hb⟩
set_option maxRecDepth 100000 in
set_option maxHeartbeats 4000000 in
theorem new_bad (n i : Int) (W : World) (hl : Laid W) (hn : n < 1 ∨ 16384 < n) :
    Calls Tryd.prog 4 #[.int .i64 n, .int .i64 i] W fun e w' => e = .returned (.bool true) ∧ Below W.heap.size W w' := by
  have HN := Lib.hid hn
  rcases hn with hn | hn
  · have x1 : ¬ (300 : Int) < n := by omega
    have HLD := Lib.hid hl
    have hb0 : Below W.heap.size W W := Below.refl _ _
    clear hl
    go_enter Tryd.func4, Tryd.ntmps4
    go_wp2_with (first | (go_at_call 12; refine (nil_read _ _).mono ?_; rintro e w' ⟨rfl, rfl⟩) | (go_at_call 14; refine (nil_write _ _ _).mono ?_; rintro e w' ⟨rfl, rfl⟩) | (go_at_call 15; refine (nil_flush _).mono ?_; rintro e w' ⟨rfl, rfl⟩) | (go_at_call 16; refine (nil_crash _ _ _ _).mono ?_; rintro e w' ⟨rfl, rfl⟩) | (go_at_call 17; refine (nil_rot _ _ _ _).mono ?_; rintro e w' ⟨rfl, rfl⟩) | (go_at_call 18; refine (nil_limit _ _).mono ?_; rintro e w' ⟨rfl, rfl⟩) | (go_at_call 19; refine (nil_size _).mono ?_; rintro e w' ⟨rfl, rfl⟩) | (go_at_call 20; refine (nil_writes _).mono ?_; rintro e w' ⟨rfl, rfl⟩) | (go_at_call 21; refine (nil_pending _).mono ?_; rintro e w' ⟨rfl, rfl⟩) | (go_at_call 13; refine (num_from (by assumption) HLD.out 1).mono ?_; rintro e w1 ⟨rfl, hbn⟩) | (go_at_call 7; refine (new_err _ _ HN.out).mono ?_; rintro e w' ⟨rfl, rfl⟩) | (go_at_call 9; refine (sure_any _).mono ?_; rintro e w9 ⟨rfl, hb9⟩))
    go_ret
    exact ⟨rfl, (by assumption : Below W.heap.size W _).trans (hb9.mono (by assumption : Below W.heap.size W _).size)⟩
  · have x1 : (300 : Int) < n := by omega
    have x2 : ¬ n ≤ 16384 := by omega
    have x3 : ¬ n < 1 := by omega
    have HLD := Lib.hid hl
    have hb0 : Below W.heap.size W W := Below.refl _ _
    clear hl
    go_enter Tryd.func4, Tryd.ntmps4
    go_wp2_with (first | (go_at_call 12; refine (nil_read _ _).mono ?_; rintro e w' ⟨rfl, rfl⟩) | (go_at_call 14; refine (nil_write _ _ _).mono ?_; rintro e w' ⟨rfl, rfl⟩) | (go_at_call 15; refine (nil_flush _).mono ?_; rintro e w' ⟨rfl, rfl⟩) | (go_at_call 16; refine (nil_crash _ _ _ _).mono ?_; rintro e w' ⟨rfl, rfl⟩) | (go_at_call 17; refine (nil_rot _ _ _ _).mono ?_; rintro e w' ⟨rfl, rfl⟩) | (go_at_call 18; refine (nil_limit _ _).mono ?_; rintro e w' ⟨rfl, rfl⟩) | (go_at_call 19; refine (nil_size _).mono ?_; rintro e w' ⟨rfl, rfl⟩) | (go_at_call 20; refine (nil_writes _).mono ?_; rintro e w' ⟨rfl, rfl⟩) | (go_at_call 21; refine (nil_pending _).mono ?_; rintro e w' ⟨rfl, rfl⟩) | (go_at_call 13; refine (num_from (by assumption) HLD.out 1).mono ?_; rintro e w1 ⟨rfl, hbn⟩) | (go_at_call 7; refine (new_err _ _ HN.out).mono ?_; rintro e w' ⟨rfl, rfl⟩) | (go_at_call 9; refine (sure_any _).mono ?_; rintro e w9 ⟨rfl, hb9⟩))
    go_ret
    exact ⟨rfl, (by assumption : Below W.heap.size W _).trans (hb9.mono (by assumption : Below W.heap.size W _).size)⟩

set_option maxRecDepth 100000 in
set_option maxHeartbeats 4000000 in
theorem new_low (K : Nat) (h1 : 1 ≤ K) (h2 : K ≤ 300) (i : Int) (hi : i < 0) (W : World) (hl : Laid W) :
    Calls Tryd.prog 4 #[.int .i64 (K : Int), .int .i64 i] W fun e w' => e = .returned (.bool true) ∧ Below W.heap.size W w' := by
  have m5 := make_b 512 512 rfl (by omega)
  have x1 : ¬ (300 : Int) < (K : Int) := by omega
  have x2 : ¬ (K : Int) < 1 := by omega
  have x3 : ¬ (16384 : Int) < (K : Int) := by omega
  have x0 : (0 : Int) ≤ (K : Int) := by omega
  have x4 : i < 0 := hi
  have HI := Lib.hid (show i < 0 ∨ ((K : Nat) : Int) ≤ i from .inl hi)
  clear hi
  have HLD := Lib.hid hl
  have hb0 : Below W.heap.size W W := Below.refl _ _
  clear hl
  go_enter Tryd.func4, Tryd.ntmps4
  go_upto_region 11 with (first | (go_at_call 12; refine (nil_read _ _).mono ?_; rintro e w' ⟨rfl, rfl⟩) | (go_at_call 14; refine (nil_write _ _ _).mono ?_; rintro e w' ⟨rfl, rfl⟩) | (go_at_call 15; refine (nil_flush _).mono ?_; rintro e w' ⟨rfl, rfl⟩) | (go_at_call 16; refine (nil_crash _ _ _ _).mono ?_; rintro e w' ⟨rfl, rfl⟩) | (go_at_call 17; refine (nil_rot _ _ _ _).mono ?_; rintro e w' ⟨rfl, rfl⟩) | (go_at_call 18; refine (nil_limit _ _).mono ?_; rintro e w' ⟨rfl, rfl⟩) | (go_at_call 19; refine (nil_size _).mono ?_; rintro e w' ⟨rfl, rfl⟩) | (go_at_call 20; refine (nil_writes _).mono ?_; rintro e w' ⟨rfl, rfl⟩) | (go_at_call 21; refine (nil_pending _).mono ?_; rintro e w' ⟨rfl, rfl⟩) | (go_at_call 13; refine (num_from (by assumption) HLD.out 1).mono ?_; rintro e w1 ⟨rfl, hbn⟩) | (go_at_call 7; refine (new_at K K _ rfl (by omega) (by omega)).mono ?_; rintro e wa ⟨p, s, rfl, ha, hn⟩; have a1 := ha.base (by assumption : Below W.heap.size W _); have HN := Lib.hid hn; have HSN := Lib.hid hn.n; clear ha hn))
  clear hb0
  go_wp2_with (first | (go_at_call 19; refine (size_at s _ (by assumption)).mono ?_; rintro e w' ⟨rfl, rfl⟩; rw [HSN.out]) | (go_at_call 12; refine (read_err (by assumption) _ (by rw [HSN.out]; exact HI.out)).mono ?_; rintro e w' ⟨rfl, rfl⟩) | (go_at_call 13; refine (num_at (by assumption) HLD.out _).mono ?_; rintro e w2 ⟨rfl, a2⟩) | (go_at_call 14; refine (write_err (At.below (by assumption) (alB _ _)) _ _ (by rw [HSN.out]; exact HI.out)).mono ?_; rintro e w' ⟨rfl, rfl⟩; have a3 := At.below (by assumption : At W w2 p s) (alB w2 (.cells (Array.replicate 512 (.int .u8 0)) 5))) | (go_at_call 17; refine (rot_err (by assumption) _ _ _ (by rw [HSN.out]; exact HI.out.elim .inl (fun h => .inr (.inl h)))).mono ?_; rintro e w' ⟨rfl, rfl⟩) | (go_at_call 9; refine (sure_at (by assumption)).mono ?_; rintro e w9 ⟨rfl, a9⟩))
  go_ret
  exact ⟨rfl, a9.b⟩
set_option maxRecDepth 100000 in
set_option maxHeartbeats 4000000 in
theorem new_high (K : Nat) (h1 : 1 ≤ K) (h2 : K ≤ 300) (i : Int) (hi : (K : Int) ≤ i) (W : World) (hl : Laid W) :
    Calls Tryd.prog 4 #[.int .i64 (K : Int), .int .i64 i] W fun e w' => e = .returned (.bool true) ∧ Below W.heap.size W w' := by
  have m5 := make_b 512 512 rfl (by omega)
  have x1 : ¬ (300 : Int) < (K : Int) := by omega
  have x2 : ¬ (K : Int) < 1 := by omega
  have x3 : ¬ (16384 : Int) < (K : Int) := by omega
  have x0 : (0 : Int) ≤ (K : Int) := by omega
  have x4 : ¬ i < 0 := by omega
  have x5 : (K : Int) ≤ i := hi
  have HI := Lib.hid (show i < 0 ∨ ((K : Nat) : Int) ≤ i from .inr hi)
  clear hi
  have HLD := Lib.hid hl
  have hb0 : Below W.heap.size W W := Below.refl _ _
  clear hl
  go_enter Tryd.func4, Tryd.ntmps4
  go_upto_region 11 with (first | (go_at_call 12; refine (nil_read _ _).mono ?_; rintro e w' ⟨rfl, rfl⟩) | (go_at_call 14; refine (nil_write _ _ _).mono ?_; rintro e w' ⟨rfl, rfl⟩) | (go_at_call 15; refine (nil_flush _).mono ?_; rintro e w' ⟨rfl, rfl⟩) | (go_at_call 16; refine (nil_crash _ _ _ _).mono ?_; rintro e w' ⟨rfl, rfl⟩) | (go_at_call 17; refine (nil_rot _ _ _ _).mono ?_; rintro e w' ⟨rfl, rfl⟩) | (go_at_call 18; refine (nil_limit _ _).mono ?_; rintro e w' ⟨rfl, rfl⟩) | (go_at_call 19; refine (nil_size _).mono ?_; rintro e w' ⟨rfl, rfl⟩) | (go_at_call 20; refine (nil_writes _).mono ?_; rintro e w' ⟨rfl, rfl⟩) | (go_at_call 21; refine (nil_pending _).mono ?_; rintro e w' ⟨rfl, rfl⟩) | (go_at_call 13; refine (num_from (by assumption) HLD.out 1).mono ?_; rintro e w1 ⟨rfl, hbn⟩) | (go_at_call 7; refine (new_at K K _ rfl (by omega) (by omega)).mono ?_; rintro e wa ⟨p, s, rfl, ha, hn⟩; have a1 := ha.base (by assumption : Below W.heap.size W _); have HN := Lib.hid hn; have HSN := Lib.hid hn.n; clear ha hn))
  clear hb0
  go_wp2_with (first | (go_at_call 19; refine (size_at s _ (by assumption)).mono ?_; rintro e w' ⟨rfl, rfl⟩; rw [HSN.out]) | (go_at_call 12; refine (read_err (by assumption) _ (by rw [HSN.out]; exact HI.out)).mono ?_; rintro e w' ⟨rfl, rfl⟩) | (go_at_call 13; refine (num_at (by assumption) HLD.out _).mono ?_; rintro e w2 ⟨rfl, a2⟩) | (go_at_call 14; refine (write_err (At.below (by assumption) (alB _ _)) _ _ (by rw [HSN.out]; exact HI.out)).mono ?_; rintro e w' ⟨rfl, rfl⟩; have a3 := At.below (by assumption : At W w2 p s) (alB w2 (.cells (Array.replicate 512 (.int .u8 0)) 5))) | (go_at_call 17; refine (rot_err (by assumption) _ _ _ (by rw [HSN.out]; exact HI.out.elim .inl (fun h => .inr (.inl h)))).mono ?_; rintro e w' ⟨rfl, rfl⟩) | (go_at_call 9; refine (sure_at (by assumption)).mono ?_; rintro e w9 ⟨rfl, a9⟩))
  go_ret
  exact ⟨rfl, a9.b⟩
set_option maxRecDepth 100000 in
set_option maxHeartbeats 4000000 in
theorem cut_low (n : Int) (h1 : 300 < n) (h2 : n ≤ 16384) (i : Int) (hi : i < 0) (W : World) (hl : Laid W) :
    Calls Tryd.prog 4 #[.int .i64 n, .int .i64 i] W fun e w' => e = .returned (.bool true) ∧ Below W.heap.size W w' := by
  have m5 := make_b 512 512 rfl (by omega)
  have x2 : n ≤ 16384 := by omega
  have x4 : i < 0 := hi
  have HI := Lib.hid (show i < 0 ∨ ((300 : Nat) : Int) ≤ i from .inl hi)
  clear hi
  have HLD := Lib.hid hl
  have hb0 : Below W.heap.size W W := Below.refl _ _
  clear hl
  go_enter Tryd.func4, Tryd.ntmps4
  go_upto_region 11 with (first | (go_at_call 12; refine (nil_read _ _).mono ?_; rintro e w' ⟨rfl, rfl⟩) | (go_at_call 14; refine (nil_write _ _ _).mono ?_; rintro e w' ⟨rfl, rfl⟩) | (go_at_call 15; refine (nil_flush _).mono ?_; rintro e w' ⟨rfl, rfl⟩) | (go_at_call 16; refine (nil_crash _ _ _ _).mono ?_; rintro e w' ⟨rfl, rfl⟩) | (go_at_call 17; refine (nil_rot _ _ _ _).mono ?_; rintro e w' ⟨rfl, rfl⟩) | (go_at_call 18; refine (nil_limit _ _).mono ?_; rintro e w' ⟨rfl, rfl⟩) | (go_at_call 19; refine (nil_size _).mono ?_; rintro e w' ⟨rfl, rfl⟩) | (go_at_call 20; refine (nil_writes _).mono ?_; rintro e w' ⟨rfl, rfl⟩) | (go_at_call 21; refine (nil_pending _).mono ?_; rintro e w' ⟨rfl, rfl⟩) | (go_at_call 13; refine (num_from (by assumption) HLD.out 1).mono ?_; rintro e w1 ⟨rfl, hbn⟩) | (go_at_call 7; refine (new_at 300 300 _ rfl (by omega) (by omega)).mono ?_; rintro e wa ⟨p, s, rfl, ha, hn⟩; have a1 := ha.base (by assumption : Below W.heap.size W _); have HN := Lib.hid hn; have HSN := Lib.hid hn.n; clear ha hn))
  clear hb0
  go_wp2_with (first | (go_at_call 19; refine (size_at s _ (by assumption)).mono ?_; rintro e w' ⟨rfl, rfl⟩; rw [HSN.out]) | (go_at_call 12; refine (read_err (by assumption) _ (by rw [HSN.out]; exact HI.out)).mono ?_; rintro e w' ⟨rfl, rfl⟩) | (go_at_call 13; refine (num_at (by assumption) HLD.out _).mono ?_; rintro e w2 ⟨rfl, a2⟩) | (go_at_call 14; refine (write_err (At.below (by assumption) (alB _ _)) _ _ (by rw [HSN.out]; exact HI.out)).mono ?_; rintro e w' ⟨rfl, rfl⟩; have a3 := At.below (by assumption : At W w2 p s) (alB w2 (.cells (Array.replicate 512 (.int .u8 0)) 5))) | (go_at_call 17; refine (rot_err (by assumption) _ _ _ (by rw [HSN.out]; exact HI.out.elim .inl (fun h => .inr (.inl h)))).mono ?_; rintro e w' ⟨rfl, rfl⟩) | (go_at_call 9; refine (sure_at (by assumption)).mono ?_; rintro e w9 ⟨rfl, a9⟩))
  go_ret
  exact ⟨rfl, a9.b⟩
set_option maxRecDepth 100000 in
set_option maxHeartbeats 4000000 in
theorem cut_high (n : Int) (h1 : 300 < n) (h2 : n ≤ 16384) (i : Int) (hi : 300 ≤ i) (W : World) (hl : Laid W) :
    Calls Tryd.prog 4 #[.int .i64 n, .int .i64 i] W fun e w' => e = .returned (.bool true) ∧ Below W.heap.size W w' := by
  have m5 := make_b 512 512 rfl (by omega)
  have x2 : n ≤ 16384 := by omega
  have x4 : ¬ i < 0 := by omega
  have x5 : (300 : Int) ≤ i := hi
  have HI := Lib.hid (show i < 0 ∨ ((300 : Nat) : Int) ≤ i from .inr hi)
  clear hi
  have HLD := Lib.hid hl
  have hb0 : Below W.heap.size W W := Below.refl _ _
  clear hl
  go_enter Tryd.func4, Tryd.ntmps4
  go_upto_region 11 with (first | (go_at_call 12; refine (nil_read _ _).mono ?_; rintro e w' ⟨rfl, rfl⟩) | (go_at_call 14; refine (nil_write _ _ _).mono ?_; rintro e w' ⟨rfl, rfl⟩) | (go_at_call 15; refine (nil_flush _).mono ?_; rintro e w' ⟨rfl, rfl⟩) | (go_at_call 16; refine (nil_crash _ _ _ _).mono ?_; rintro e w' ⟨rfl, rfl⟩) | (go_at_call 17; refine (nil_rot _ _ _ _).mono ?_; rintro e w' ⟨rfl, rfl⟩) | (go_at_call 18; refine (nil_limit _ _).mono ?_; rintro e w' ⟨rfl, rfl⟩) | (go_at_call 19; refine (nil_size _).mono ?_; rintro e w' ⟨rfl, rfl⟩) | (go_at_call 20; refine (nil_writes _).mono ?_; rintro e w' ⟨rfl, rfl⟩) | (go_at_call 21; refine (nil_pending _).mono ?_; rintro e w' ⟨rfl, rfl⟩) | (go_at_call 13; refine (num_from (by assumption) HLD.out 1).mono ?_; rintro e w1 ⟨rfl, hbn⟩) | (go_at_call 7; refine (new_at 300 300 _ rfl (by omega) (by omega)).mono ?_; rintro e wa ⟨p, s, rfl, ha, hn⟩; have a1 := ha.base (by assumption : Below W.heap.size W _); have HN := Lib.hid hn; have HSN := Lib.hid hn.n; clear ha hn))
  clear hb0
  go_wp2_with (first | (go_at_call 19; refine (size_at s _ (by assumption)).mono ?_; rintro e w' ⟨rfl, rfl⟩; rw [HSN.out]) | (go_at_call 12; refine (read_err (by assumption) _ (by rw [HSN.out]; exact HI.out)).mono ?_; rintro e w' ⟨rfl, rfl⟩) | (go_at_call 13; refine (num_at (by assumption) HLD.out _).mono ?_; rintro e w2 ⟨rfl, a2⟩) | (go_at_call 14; refine (write_err (At.below (by assumption) (alB _ _)) _ _ (by rw [HSN.out]; exact HI.out)).mono ?_; rintro e w' ⟨rfl, rfl⟩; have a3 := At.below (by assumption : At W w2 p s) (alB w2 (.cells (Array.replicate 512 (.int .u8 0)) 5))) | (go_at_call 17; refine (rot_err (by assumption) _ _ _ (by rw [HSN.out]; exact HI.out.elim .inl (fun h => .inr (.inl h)))).mono ?_; rintro e w' ⟨rfl, rfl⟩) | (go_at_call 9; refine (sure_at (by assumption)).mono ?_; rintro e w9 ⟨rfl, a9⟩))
  go_ret
  exact ⟨rfl, a9.b⟩
set_option maxRecDepth 100000 in
set_option maxHeartbeats 4000000 in
theorem new_in (K : Nat) (h1 : 1 ≤ K) (h2 : K ≤ 300) (i : Nat) (hi : i < K) (W : World) (hl : Laid W) :
    Calls Tryd.prog 4 #[.int .i64 (K : Int), .int .i64 (i : Int)] W fun e w' => e = .returned (.bool true) ∧ Below W.heap.size W w' := by
  have m5 := make_b 511 511 rfl (by omega)
  have x1 : ¬ (300 : Int) < (K : Int) := by omega
  have x2 : ¬ (K : Int) < 1 := by omega
  have x3 : ¬ (16384 : Int) < (K : Int) := by omega
  have x0 : (0 : Int) ≤ (K : Int) := by omega
  have x4 : ¬ (i : Int) < 0 := by omega
  have x5 : ¬ (K : Int) ≤ (i : Int) := by omega
  have HI := Lib.hid hi
  have HLD := Lib.hid hl
  have hb0 : Below W.heap.size W W := Below.refl _ _
  clear hl
  go_enter Tryd.func4, Tryd.ntmps4
  go_upto_region 11 with (first | (go_at_call 12; refine (nil_read _ _).mono ?_; rintro e w' ⟨rfl, rfl⟩) | (go_at_call 14; refine (nil_write _ _ _).mono ?_; rintro e w' ⟨rfl, rfl⟩) | (go_at_call 15; refine (nil_flush _).mono ?_; rintro e w' ⟨rfl, rfl⟩) | (go_at_call 16; refine (nil_crash _ _ _ _).mono ?_; rintro e w' ⟨rfl, rfl⟩) | (go_at_call 17; refine (nil_rot _ _ _ _).mono ?_; rintro e w' ⟨rfl, rfl⟩) | (go_at_call 18; refine (nil_limit _ _).mono ?_; rintro e w' ⟨rfl, rfl⟩) | (go_at_call 19; refine (nil_size _).mono ?_; rintro e w' ⟨rfl, rfl⟩) | (go_at_call 20; refine (nil_writes _).mono ?_; rintro e w' ⟨rfl, rfl⟩) | (go_at_call 21; refine (nil_pending _).mono ?_; rintro e w' ⟨rfl, rfl⟩) | (go_at_call 13; refine (num_from (by assumption) HLD.out 1).mono ?_; rintro e w1 ⟨rfl, hbn⟩) | (go_at_call 7; refine (new_at K K _ rfl (by omega) (by omega)).mono ?_; rintro e wa ⟨p, s, rfl, ha, hn⟩; have a1 := ha.base (by assumption : Below W.heap.size W _); have HN := Lib.hid hn; have HSN := Lib.hid hn.n; clear ha hn))
  clear hb0
  go_wp2_with (first | (go_at_call 19; refine (size_at s _ (by assumption)).mono ?_; rintro e w' ⟨rfl, rfl⟩; rw [HSN.out]) | (go_at_call 12; refine (read_at s i _ _ (by assumption) rfl (by rw [HSN.out]; exact HI.out)).mono ?_; rintro e w0 ⟨g, cap, rfl, hl, _, hng, h1, _⟩; have LA := Lib.hid hl; have HP := Lib.hid h1; have HNG := Lib.hid hng; clear h1 hl hng))
  have N0 : Now W p w0 s w0.drew s := (Now.first HP.out).drew
  go_region_held3 (fun w' => (convert 40 9 (.slice (some ⟨g, 0, none⟩) 512 cap)).run Tryd.prog w' = .ok (.string (sec ⟨#[]⟩)) w') (first | exact conv_row (Now.lies (by assumption) LA.out HNG.out) size_t0 (fun j hj => new_cur HN.out i j hj) | exact conv_row (Now.lies (Now.below (by assumption) (alB _ _)) LA.out HNG.out) size_t0 (fun j hj => new_cur HN.out i j hj)) (first | (go_at_call 22; refine (sector_now (by assumption) _ (by decide)).mono ?_; rintro e w2 ⟨rfl, n2⟩) | (go_at_call 14; refine (long_now n2 _ i _ _ _ _ rfl (by rw [HSN.out]; exact HI.out) (by omega)).mono ?_; rintro e w3 ⟨rfl, n3⟩) | (go_at_call 13; refine (num_now n3 HLD.out 2).mono ?_; rintro e w4 ⟨rfl, n4⟩) | (go_at_call 9; refine (sure_now n4).mono ?_; rintro e w5 ⟨rfl, n5⟩))
  all_goals go_wp2
  all_goals go_ret
  all_goals exact ⟨rfl, n5.a.b⟩
set_option maxRecDepth 100000 in
set_option maxHeartbeats 4000000 in
theorem cut_in (n : Int) (h1 : 300 < n) (h2 : n ≤ 16384) (i : Nat) (hi : i < 300) (W : World) (hl : Laid W) :
    Calls Tryd.prog 4 #[.int .i64 n, .int .i64 (i : Int)] W fun e w' => e = .returned (.bool true) ∧ Below W.heap.size W w' := by
  have m5 := make_b 511 511 rfl (by omega)
  have x2 : n ≤ 16384 := by omega
  have x4 : ¬ (i : Int) < 0 := by omega
  have x5 : ¬ (300 : Int) ≤ (i : Int) := by omega
  have HI := Lib.hid hi
  have HLD := Lib.hid hl
  have hb0 : Below W.heap.size W W := Below.refl _ _
  clear hl
  go_enter Tryd.func4, Tryd.ntmps4
  go_upto_region 11 with (first | (go_at_call 12; refine (nil_read _ _).mono ?_; rintro e w' ⟨rfl, rfl⟩) | (go_at_call 14; refine (nil_write _ _ _).mono ?_; rintro e w' ⟨rfl, rfl⟩) | (go_at_call 15; refine (nil_flush _).mono ?_; rintro e w' ⟨rfl, rfl⟩) | (go_at_call 16; refine (nil_crash _ _ _ _).mono ?_; rintro e w' ⟨rfl, rfl⟩) | (go_at_call 17; refine (nil_rot _ _ _ _).mono ?_; rintro e w' ⟨rfl, rfl⟩) | (go_at_call 18; refine (nil_limit _ _).mono ?_; rintro e w' ⟨rfl, rfl⟩) | (go_at_call 19; refine (nil_size _).mono ?_; rintro e w' ⟨rfl, rfl⟩) | (go_at_call 20; refine (nil_writes _).mono ?_; rintro e w' ⟨rfl, rfl⟩) | (go_at_call 21; refine (nil_pending _).mono ?_; rintro e w' ⟨rfl, rfl⟩) | (go_at_call 13; refine (num_from (by assumption) HLD.out 1).mono ?_; rintro e w1 ⟨rfl, hbn⟩) | (go_at_call 7; refine (new_at 300 300 _ rfl (by omega) (by omega)).mono ?_; rintro e wa ⟨p, s, rfl, ha, hn⟩; have a1 := ha.base (by assumption : Below W.heap.size W _); have HN := Lib.hid hn; have HSN := Lib.hid hn.n; clear ha hn))
  clear hb0
  go_wp2_with (first | (go_at_call 19; refine (size_at s _ (by assumption)).mono ?_; rintro e w' ⟨rfl, rfl⟩; rw [HSN.out]) | (go_at_call 12; refine (read_at s i _ _ (by assumption) rfl (by rw [HSN.out]; exact HI.out)).mono ?_; rintro e w0 ⟨g, cap, rfl, hl, _, hng, h1, _⟩; have LA := Lib.hid hl; have HP := Lib.hid h1; have HNG := Lib.hid hng; clear h1 hl hng))
  have N0 : Now W p w0 s w0.drew s := (Now.first HP.out).drew
  go_region_held3 (fun w' => (convert 40 9 (.slice (some ⟨g, 0, none⟩) 512 cap)).run Tryd.prog w' = .ok (.string (sec ⟨#[]⟩)) w') (first | exact conv_row (Now.lies (by assumption) LA.out HNG.out) size_t0 (fun j hj => new_cur HN.out i j hj) | exact conv_row (Now.lies (Now.below (by assumption) (alB _ _)) LA.out HNG.out) size_t0 (fun j hj => new_cur HN.out i j hj)) (first | (go_at_call 22; refine (sector_now (by assumption) _ (by decide)).mono ?_; rintro e w2 ⟨rfl, n2⟩) | (go_at_call 14; refine (long_now n2 _ i _ _ _ _ rfl (by rw [HSN.out]; exact HI.out) (by omega)).mono ?_; rintro e w3 ⟨rfl, n3⟩) | (go_at_call 13; refine (num_now n3 HLD.out 2).mono ?_; rintro e w4 ⟨rfl, n4⟩) | (go_at_call 9; refine (sure_now n4).mono ?_; rintro e w5 ⟨rfl, n5⟩))
  all_goals go_wp2
  all_goals go_ret
  all_goals exact ⟨rfl, n5.a.b⟩
theorem new_walk (n i : Int) (W : World) (_wn : (Lit.int .i64 n).wf = true) (_wi : (Lit.int .i64 i).wf = true) (hl : Laid W) :
    Calls Tryd.prog 4 #[.int .i64 n, .int .i64 i] W fun e w' => e = .returned (.bool true) ∧ Below W.heap.size W w' := by
  by_cases hb : n < 1 ∨ 16384 < n
  · exact new_bad n i W hl hb
  · by_cases hc : 300 < n
    · by_cases i0 : i < 0
      · exact cut_low n hc (by omega) i i0 W hl
      · by_cases i1 : 300 ≤ i
        · exact cut_high n hc (by omega) i i1 W hl
        · obtain ⟨j, rfl⟩ : ∃ j : Nat, i = j := ⟨i.toNat, by omega⟩
          exact cut_in n hc (by omega) j (by omega) W hl
    · obtain ⟨K, rfl⟩ : ∃ K : Nat, n = K := ⟨n.toNat, by omega⟩
      by_cases i0 : i < 0
      · exact new_low K (by omega) (by omega) i i0 W hl
      · by_cases i1 : (K : Int) ≤ i
        · exact new_high K (by omega) (by omega) i i1 W hl
        · obtain ⟨j, rfl⟩ : ∃ j : Nat, i = j := ⟨i.toNat, by omega⟩
          exact new_in K (by omega) (by omega) j (by omega) W hl
end Go.Proofs.YtibopcbebcikbaaDoor

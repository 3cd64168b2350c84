/-
  THE WALKS of about, lead, Get, Set at cells that are there, where there is room. Conditions: the store lies in memory.
-/
import Derived.Test.YtifkhmcdgmnipaaGreatDoorR19
namespace Go.Proofs.YtifkhmcdgmnipaaGreatDoor
open Go.RowKit Ti Qd Go.Maps Go.WideMaps

theorem two40 {n : Nat} (h : n ≤ 37) : 2 ^ (n + 3) ≤ 1099511627776 := by
  calc 2 ^ (n + 3) ≤ 2 ^ 40 := Nat.pow_le_pow_right (by decide) (by omega)
    _ = 1099511627776 := by decide
theorem wrap_small {m : Nat} (h : m ≤ 1099511627776) : wrap64 (m : Int) = (m : Int) := by unfold wrap64; omega
theorem shl_run {n : Nat} (h : n ≤ 37) : wrap64 ((2 : Int) ^ (n + 3)) = ((2 ^ (n + 3) : Nat) : Int) := by
  have e : ((2 : Int) ^ (n + 3)) = ((2 ^ (n + 3) : Nat) : Int) := by simp
  rw [e]
  exact wrap_small (two40 h)
set_option maxRecDepth 100000 in
set_option maxHeartbeats 1000000 in
theorem about_ok {B : Nat} {w : World} {P : Nat} {L : List Sq} {room : Nat} {H : Nat → Prop} (h : St B w P L room H) (n : Nat) (id : Int) (x y : Nat) (hl : Lv L n id) (hn : n ≤ 37) (hx : x < 2 ^ (n + 3)) (hy : y < 2 ^ (n + 3)) :
    Calls Tryz.prog 29 #[.pointer (some ⟨P, 0, none⟩), .int .i64 id, .int .i64 x, .int .i64 y] w fun e w' => e = .returned (.tuple #[qv (at' L id), .nilIface]) ∧ Below w.heap.size w w' := by
  have HQ := Lib.hid (fun (w' : World) (h' : St B w' P L room H) => square_ok h' id hl.1)
  have HS := Lib.hid h
  have hlev := hl.2
  have hsh := shl_run hn
  have h40 := two40 hn
  clear h hl
  unfold qv at *
  generalize at' L id = q at *
  generalize 2 ^ (n + 3) = m at *
  obtain ⟨lev, cnt, til, k0, k1, k2, k3⟩ := q
  simp only at hlev
  subst hlev
  have x0 : decide ((x : Int) < 0) = false := decide_eq_false (by omega)
  have x1 : ¬ (m : Int) ≤ (x : Int) := by omega
  have y0 : decide ((y : Int) < 0) = false := decide_eq_false (by omega)
  have y1 : ¬ (m : Int) ≤ (y : Int) := by omega
  have n0 : (0 : Int) ≤ (n : Int) + 3 := by omega
  have hbx := heap_alloc_new w zq
  have HBX := Lib.hid hbx
  clear hbx hx hy
  go_enter Tryz.func29, Tryz.ntmps29
  go_wp2_with fail
  refine (HQ.out _ (HS.out.below (alX _ _) (Nat.le_refl _))).mono ?_
  rintro e w1 ⟨rfl, hb⟩
  have HB := Lib.hid ((alX w zq).trans ((hb.trans ((alX w1 (.cells #[.int .i64 ((n : Int) + 3), .int .i64 cnt, .int .u64 (rg til), .int .i64 k0, .int .i64 k1, .int .i64 k2, .int .i64 k3] 76)).mono hb.size)).mono (by simp)))
  have HZ := Lib.hid (show (w1.alloc (.cells #[.int .i64 ((n : Int) + 3), .int .i64 cnt, .int .u64 (rg til), .int .i64 k0, .int .i64 k1, .int .i64 k2, .int .i64 k3] 76)).heap[w.heap.size]? = some (.cells #[.int .i64 0, .int .i64 0, .int .u64 0, .int .i64 0, .int .i64 0, .int .i64 0, .int .i64 0] 76 (0, 0)) from
    ((hb.trans ((alX w1 _).mono hb.size)).block _ (lt_of_block HBX.out)).trans HBX.out)
  obtain ⟨⟨b0, b1, b2, b3, b4, b5, b6⟩, f0, f1, f2, f3, f4, f5, f6⟩ := row7 HZ.out
  clear hb b0 b1 b2 b3 b4 b5 b6 f0 f1 f2 f3 f4 f5 f6
  go_upto_region 5 with (fail)
  have hg := heap_alloc_new w1 (.cells #[.int .i64 ((n : Int) + 3), .int .i64 cnt, .int .u64 (rg til), .int .i64 k0, .int .i64 k1, .int .i64 k2, .int .i64 k3] 76)
  generalize w1.alloc (.cells #[.int .i64 ((n : Int) + 3), .int .i64 cnt, .int .u64 (rg til), .int .i64 k0, .int .i64 k1, .int .i64 k2, .int .i64 k3] 76) = W at HB HZ hg ⊢
  obtain ⟨⟨b0, b1, b2, b3, b4, b5, b6⟩, f0, f1, f2, f3, f4, f5, f6⟩ := row7 HZ.out
  obtain ⟨⟨c0, c1, c2, c3, c4, c5, c6⟩, _, _, _, _, _, _, _⟩ := row7 hg
  clear hg
  go_wp2
  refine post_row_tmp Tryz.results29 w.heap.size 76 #[.int .i64 ((n : Int) + 3), .int .i64 cnt, .int .u64 (rg til), .int .i64 k0, .int .i64 k1, .int .i64 k2, .int .i64 k3] (0, 0) _ .nilIface Tryz.underlying76 rfl info_q7 ?_ ?_ (row_set7 HZ.out _ _ _ _ _ _ _) ?_ ?_
  · rfl
  · rfl
  · rfl
  exact ⟨rfl, below_set7 HB.out (Nat.le_refl _) _ _ _ _ _ _ _⟩
theorem tdiv_nat (a b : Nat) : ((a : Int).tdiv (b : Int)) = ((a / b : Nat) : Int) := by
  rw [Int.tdiv_eq_ediv_of_nonneg (by omega)]
  simp
theorem tmod_nat (a b : Nat) : ((a : Int).tmod (b : Int)) = ((a % b : Nat) : Int) := by
  rw [Int.tmod_eq_emod_of_nonneg (by omega)]
  simp
set_option maxRecDepth 100000 in
set_option maxHeartbeats 1000000 in
theorem lead_ok (n : Nat) (q : Sq) (x y : Nat) (hl : q.lev = n + 4) (hn : n ≤ 36) (hx : x < 2 ^ (n + 4)) (hy : y < 2 ^ (n + 4)) (w : World) :
    Calls Tryz.prog 31 #[qv q, .int .i64 x, .int .i64 y] w fun e w' => e = .returned (.tuple #[.int .i64 (qd (2 ^ (n + 3)) x y : Nat), .int .i64 (x % 2 ^ (n + 3) : Nat), .int .i64 (y % 2 ^ (n + 3) : Nat)]) ∧ Below w.heap.size w w' := by
  have hsh := shl_run (n := n) (by omega)
  have h40 := two40 (n := n) (by omega)
  have hp := Nat.two_pow_pos (n + 3)
  rw [show n + 4 = (n + 3) + 1 by omega, Nat.pow_succ] at hx hy
  unfold qv qd at *
  obtain ⟨lev, cnt, til, k0, k1, k2, k3⟩ := q
  simp only at hl
  subst hl
  generalize 2 ^ (n + 3) = m at *
  have d1 : y / m < 2 := by rw [Nat.div_lt_iff_lt_mul hp]; omega
  have d2 : x / m < 2 := by rw [Nat.div_lt_iff_lt_mul hp]; omega
  have d3 := Nat.mod_lt x hp
  have d4 := Nat.mod_lt y hp
  have t1 := tdiv_nat y m
  have t2 := tdiv_nat x m
  have t3 := tmod_nat x m
  have t4 := tmod_nat y m
  generalize y / m = a at *
  generalize x / m = b at *
  generalize x % m = c at *
  generalize y % m = d at *
  have m0 : ¬ (m : Int) = 0 := by omega
  have n0 : (0 : Int) ≤ (n : Int) + 3 := by omega
  have e1 : IntKind.i64.wrap (a : Int) = (a : Int) := IntWalk.i64_in _ (by omega)
  have e2 : IntKind.i64.wrap (b : Int) = (b : Int) := IntWalk.i64_in _ (by omega)
  have e3 : IntKind.i64.wrap (c : Int) = (c : Int) := IntWalk.i64_in _ (by omega)
  have e4 : IntKind.i64.wrap (d : Int) = (d : Int) := IntWalk.i64_in _ (by omega)
  have e5 : IntKind.i64.wrap ((a : Int) * 2) = (a : Int) * 2 := IntWalk.i64_in _ (by omega)
  have e6 : IntKind.i64.wrap ((a : Int) * 2 + (b : Int)) = (a : Int) * 2 + (b : Int) := IntWalk.i64_in _ (by omega)
  have HR := Lib.hid (show ((a : Int) * 2 + (b : Int)) = ((a * 2 + b : Nat) : Int) by omega)
  have HB := Lib.hid (alX w (.cells #[.int .i64 ((n : Int) + 4), .int .i64 cnt, .int .u64 (rg til), .int .i64 k0, .int .i64 k1, .int .i64 k2, .int .i64 k3] 76))
  clear d1 d2 d3 d4 hp hx hy
  go_enter Tryz.func31, Tryz.ntmps31
  go_upto_region 2 with (fail)
  go_region
  go_wp2
  exact bodyPost_ret (v := .tuple #[.int .i64 ((a : Int) * 2 + (b : Int)), .int .i64 (c : Int), .int .i64 (d : Int)]) (by simp [results, Tryz.results31, go_sem]) rfl ⟨by rw [HR.out], HB.out.drew⟩
theorem kid_cell {w : World} {g : Nat} {q : Sq} {T : TypeId} (h : w.heap[g]? = some (.cells #[.int .i64 q.lev, .int .i64 q.cnt, .int .u64 (rg q.til), .int .i64 q.k0, .int .i64 q.k1, .int .i64 q.k2, .int .i64 q.k3] T (0, 0))) (i : Nat) (hi : i < 4) : w.cell? ⟨g, 3 + i, none⟩ = some (.int .i64 (kid q i)) := by
  rw [cell_of_row w g _ _ _ _ h]
  match i, hi with
  | 0, _ => rfl
  | 1, _ => rfl
  | 2, _ => rfl
  | 3, _ => rfl
end Go.Proofs.YtifkhmcdgmnipaaGreatDoor

/-
  RLE: together: how many sorted cells lie side by side.
-/
import Derived.Test.YtangbokcdgganaaGreatDoorCi
import Derived.Test.YtangbokcdgganaaGreatDoorLg
namespace Go.Proofs.YtangbokcdgganaaGreatDoor
open Go.RowKit Ru Ce

namespace Rl
/-- how many lie side by side from a place on -/
def tk : List Cel → Int → Int → Nat
  | [], _, _ => 0
  | d :: r, x, y => if d = (x, y) then tk r (x + 1) y + 1 else 0
def tog : List Cel → Nat
  | [] => 1
  | c :: t => tk t (c.1 + 1) c.2 + 1
theorem tk_le : ∀ (l : List Cel) (x y : Int), tk l x y ≤ l.length
  | [], _, _ => Nat.le_refl _
  | d :: r, x, y => by
    unfold tk
    split
    · have := tk_le r (x + 1) y; simp only [List.length_cons]; omega
    · omega
theorem tog_le (c : Cel) (t : List Cel) : 1 ≤ tog (c :: t) ∧ tog (c :: t) ≤ (c :: t).length := by
  have := tk_le t (c.1 + 1) c.2
  unfold tog
  simp only [List.length_cons]; omega
theorem tk_yes {L : List Cel} {k : Nat} (h : k < L.length) {x y : Int} (e : L[k] = (x, y)) : tk (L.drop k) x y = tk (L.drop (k + 1)) (x + 1) y + 1 := by
  rw [List.drop_eq_getElem_cons h]; unfold tk; rw [if_pos e]; cases hd : L.drop (k + 1) <;> rfl
theorem tk_no {L : List Cel} {k : Nat} (h : k < L.length) {x y : Int} (e : ¬ L[k] = (x, y)) : tk (L.drop k) x y = 0 := by
  rw [List.drop_eq_getElem_cons h]; unfold tk; rw [if_neg e]
theorem tk_end {L : List Cel} {k : Nat} (h : ¬ k < L.length) {x y : Int} : tk (L.drop k) x y = 0 := by
  rw [List.drop_eq_nil_of_le (by omega)]; rfl
set_option maxRecDepth 100000 in
set_option maxHeartbeats 2000000 in
theorem together_any (b off n cap : Nat) (L : List Cel) (hL : 0 < L.length) (w : World) (hc : Cls w (some ⟨b, off, none⟩) L) (hn : L.length = n) (hn1 : n ≤ 1000000) (hok : ∀ x ∈ L, okc x = true) (hcap : n ≤ cap) :
    Calls Tryz.prog 33 #[.slice (some ⟨b, off, none⟩) n cap] w fun e w' => e = .returned (.int .i64 (tog L)) ∧ Below w.heap.size w w' := by
  obtain ⟨r, hr⟩ : ∃ r, tog L = r := ⟨_, rfl⟩
  rw [hr]
  obtain ⟨cx, cy, hcc⟩ : ∃ cx cy, L[0] = (cx, cy) := ⟨_, _, rfl⟩
  have hR : 1 + tk (L.drop 1) (cx + ((1 : Nat) : Int)) cy = r := by
    cases L with
    | nil => exact absurd hL (by simp)
    | cons c t =>
      obtain rfl : c = (cx, cy) := hcc
      rw [← hr]
      show 1 + tk t (cx + 1) cy = tk t (cx + 1) cy + 1
      omega
  obtain ⟨b0, o0, he, x0, y0⟩ := hc 0 hL
  simp only [Option.some.injEq, Addr.mk.injEq] at he
  obtain ⟨rfl, rfl, _⟩ := he
  rw [hcc] at x0 y0
  have HR := Lib.hid hR
  have HCL := Lib.hid hc
  have HOK := Lib.hid hok
  have hok0 := (okc_iff _).1 (hok _ (List.getElem_mem hL))
  rw [hcc] at hok0
  obtain ⟨q1, q2, q3, q4⟩ := hok0
  have q1 : -274877906944 ≤ cx := q1
  have q2 : cx ≤ 274877906944 := q2
  have n0 : (0 : Int) < (n : Int) := by omega
  have nm : (n : Int) ≤ 1000000 := by omega
  have X0 : w.cell? ⟨b, off, none⟩ = some (.int .i64 cx) := by simpa using x0
  have Y0 : w.cell? ⟨b, off + 1, none⟩ = some (.int .i64 cy) := by simpa using y0
  have HX0 := Lib.hid X0
  have HY0 := Lib.hid Y0
  have HN := Lib.hid hn
  clear hr hR hc hok x0 y0 hcc q3 q4 X0 Y0 hL hn
  go_enter Tryz.func33, Tryz.ntmps33
  go_wp2
  go_loopw [3] (fun i wr => ∃ k : Nat, 1 ≤ k ∧ k ≤ n ∧ i = .int .i64 k ∧ Hid (k + tk (L.drop k) (cx + ((k : Nat) : Int)) cy = r) ∧ Hid (Below w.heap.size w wr)) (fun i _ => n - (RowKit.intOf i).toNat)
  case atStart => exact ⟨1, by omega, by omega, rfl, HR, Lib.hid (Below.refl _ _)⟩
  case round =>
    obtain ⟨k, hk1, hk, rfl, HK, HB⟩ := hrel
    have k0 : (0 : Int) ≤ (k : Int) := by omega
    have HBd := Lib.hid HB.out.drew
    have hlt0 := World.block_lt_of_cell? w _ HX0.out
    have X0 : wr.cell? ⟨b, off, none⟩ = some (.int .i64 cx) := (HB.out.cell (p := ⟨b, off, none⟩) hlt0).trans HX0.out
    have Y0 : wr.cell? ⟨b, off + 1, none⟩ = some (.int .i64 cy) := (HB.out.cell (p := ⟨b, off + 1, none⟩) hlt0).trans HY0.out
    by_cases hlt : k < n
    · have hlt' : (k : Int) < (n : Int) := by omega
      have hkl : k < L.length := by have := HN.out; omega
      obtain ⟨b1, o1, he, x1, y1⟩ := HCL.out k hkl
      simp only [Option.some.injEq, Addr.mk.injEq] at he
      obtain ⟨rfl, rfl, _⟩ := he
      obtain ⟨⟨X, Y⟩, hxy⟩ : ∃ d, L[k] = d := ⟨_, rfl⟩
      rw [hxy] at x1 y1
      have X1 : wr.cell? ⟨b, off + k * 2, none⟩ = some (.int .i64 X) := (HB.out.cell (p := ⟨b, off + k * 2, none⟩) hlt0).trans x1
      have Y1 : wr.cell? ⟨b, off + k * 2 + 1, none⟩ = some (.int .i64 Y) := (HB.out.cell (p := ⟨b, off + k * 2 + 1, none⟩) hlt0).trans y1
      have heq : ∀ w, (binOp .eql 25 (.agg #[.int .i64 X, .int .i64 Y]) (.agg #[.int .i64 (cx + (k : Int)), .int .i64 cy])).run Tryz.prog w = .ok (.bool (decide ((X, Y) = (cx + (k : Int), cy)))) w := fun w => eql_a (X, Y) (cx + (k : Int), cy) w
      by_cases hq : (X, Y) = (cx + (k : Int), cy)
      · rw [decide_eq_true hq] at heq
        have HN1 := Lib.hid (show k + 1 + tk (L.drop (k + 1)) (cx + ((k + 1 : Nat) : Int)) cy = r by
          have h := HK.out
          rw [tk_yes hkl (hxy.trans hq)] at h
          rw [show cx + ((k + 1 : Nat) : Int) = cx + (k : Int) + 1 by push_cast; omega]
          omega)
        clear x1 y1 hxy hq hkl hlt0
        go_upto_region 2 with (fail)
        go_region
        go_wp2
        go_roundw
        case rel => exact ⟨k + 1, by omega, by omega, by go_num, HN1, HBd⟩
        case measure => simp [RowKit.intOf]; omega
      · rw [decide_eq_false hq] at heq
        have hr : r = k := by
          have h := HK.out
          rw [tk_no hkl (by rw [hxy]; exact hq)] at h
          omega
        subst hr
        clear x1 y1 hxy hq hkl hlt0
        go_upto_region 2 with (fail)
        go_region
        go_wp2
        go_ret
        exact ⟨rfl, HBd.out⟩
    · obtain rfl : k = n := by omega
      have hr : r = k := by
        have h := HK.out
        rw [tk_end (by have := HN.out; omega)] at h
        omega
      subst hr
      clear hlt hlt0
      go_upto_region 2 with (fail)
      go_region
      go_wp2
      go_ret
      exact ⟨rfl, HBd.out⟩
end Rl
end Go.Proofs.YtangbokcdgganaaGreatDoor

/-
  TileStill, the walk. No condition but that the input could be read.
-/
import Derived.Test.YthbokehoibadcaaTuW
import Derived.Test.YthbokehoibadcaaBl
namespace Go.Proofs.Ythbokehoibadcaa
open Go.RowKit Ti Ru

theorem rem3 (n : Int) : ∃ k : Nat, k < 3 ∧ wrap64 ((IntKind.u64.wrap n).tmod 3) = (k : Int) := by
  rw [IntKind.wrap_u64]
  have h0 : 0 ≤ n % 18446744073709551616 := by omega
  generalize n % 18446744073709551616 = m at h0
  rw [Int.tmod_eq_emod_of_nonneg h0]
  refine ⟨(m % 3).toNat, by omega, ?_⟩
  unfold wrap64
  omega
theorem quo3 (n : Int) : ∃ k : Nat, k < 3 ∧ wrap64 ((IntKind.u64.wrap ((IntKind.u64.wrap n).tdiv 3)).tmod 3) = (k : Int) := by
  rw [IntKind.wrap_u64, IntKind.wrap_u64]
  have h0 : 0 ≤ n % 18446744073709551616 := by omega
  generalize n % 18446744073709551616 = m at h0
  rw [Int.tdiv_eq_ediv_of_nonneg h0, Int.tmod_eq_emod_of_nonneg (by omega)]
  refine ⟨(m / 3 % 18446744073709551616 % 3).toNat, by omega, ?_⟩
  unfold wrap64
  omega
theorem set_one (t : T6) (x y m : Nat) (hx : x < 3) (hy : y < 3) (hm : m < 4) (w : World) : Calls Try.prog 17 #[.int .u64 (rg t), .int .i64 (4 + (x : Int) - 4 + (m : Int) % 2), .int .i64 (4 + (y : Int) - 4 + (m : Int) / 2), .bool true] w fun e w' => e = .returned (.tuple #[.int .u64 (rg (t ||| cellB (4 + x - 4 + m % 2) (4 + y - 4 + m / 2))), .nilIface]) ∧ w = w' := by
  have h := set_ok t (4 + x - 4 + m % 2) (4 + y - 4 + m / 2) true (by omega) (by omega) w
  rw [show ((4 + x - 4 + m % 2 : Nat) : Int) = 4 + (x : Int) - 4 + (m : Int) % 2 by omega, show ((4 + y - 4 + m / 2 : Nat) : Int) = 4 + (y : Int) - 4 + (m : Int) / 2 by omega] at h
  exact h
theorem set_four (t : T6) (x y m : Nat) (w : World) : Calls Try.prog 17 #[.int .u64 (rg t), .int .i64 ((4 + (x : Int) + (m : Int) % 2) % 8), .int .i64 ((4 + (y : Int) + (m : Int) / 2) % 8), .bool true] w fun e w' => e = .returned (.tuple #[.int .u64 (rg (t ||| cellB ((4 + x + m % 2) % 8) ((4 + y + m / 2) % 8))), .nilIface]) ∧ w = w' := by
  have h := set_ok t ((4 + x + m % 2) % 8) ((4 + y + m / 2) % 8) true (by omega) (by omega) w
  rw [show (((4 + x + m % 2) % 8 : Nat) : Int) = (4 + (x : Int) + (m : Int) % 2) % 8 by omega, show (((4 + y + m / 2) % 8 : Nat) : Int) = (4 + (y : Int) + (m : Int) / 2) % 8 by omega] at h
  exact h
/-- where the four tiles lie while they are built -/
structure SlAt (W : World) (G : Nat) (F : Nat → T6) (w : World) : Prop where
  four : w.heap[G]? = some (.cells (trow F 4) 29)
  far : W.heap.size ≤ G
  below : Below W.heap.size W w
theorem SlAt.set {W : World} {G : Nat} {F : Nat → T6} {w : World} (h : SlAt W G F w) (i : Nat) (x : T6) : SlAt W G (upd F i x) (w.setCell ⟨G, i, none⟩ (.int .u64 (rg x))) :=
  ⟨tr_set h.four x, h.far, h.below.setCell (p := ⟨G, i, none⟩) h.far _⟩
theorem sl_start {W w : World} (h : Below W.heap.size W w) : SlAt W w.heap.size (fun _ => 0#64) (w.alloc (.cells (trow (fun _ => 0#64) 4) 29)) :=
  ⟨heap_alloc_new _ _, h.size, h.trans ((alX w _).mono h.size)⟩
theorem grow_still (k x y : Nat) (hk : k ≤ 4) (hx : x < 3) (hy : y < 3) (w : World) :
    Calls Try.prog 13 #[.agg #[.int .u16 8, .int .u16 12], .agg #[.int .u64 (rg (fourN (4 + x) (4 + y) 4 0)), .int .u64 (rg (fourN (4 + x) (4 + y) 4 1)), .int .u64 (rg (fourN (4 + x) (4 + y) 4 2)), .int .u64 (rg (fourN (4 + x) (4 + y) 4 3))], .int .i64 (k : Int)] w fun e w' => e = .returned (.tuple #[.int .u64 (rg (oneN (4 + x) (4 + y) 4)), .nilIface]) ∧ Below w.heap.size w w' := by
  have h := grow_fine 8 12 rule_b3 (fourN (4 + x) (4 + y) 4 0) (fourN (4 + x) (4 + y) 4 1) (fourN (4 + x) (4 + y) 4 2) (fourN (4 + x) (4 + y) 4 3) k hk w
  rw [still (4 + x) (4 + y) k (by omega) (by omega) (by omega) (by omega) _ (fun i hi => by rcases (show i = 0 ∨ i = 1 ∨ i = 2 ∨ i = 3 by omega) with rfl | rfl | rfl | rfl <;> rfl)] at h
  exact h
theorem sum_j (x y m : Nat) : (4 + (x : Int) + (m : Int) % 2) / 8 + 2 * ((4 + (y : Int) + (m : Int) / 2) / 8) = (((4 + x + m % 2) / 8 + 2 * ((4 + y + m / 2) / 8) : Nat) : Int) := by omega
theorem lt_j (x y m : Nat) (hx : x < 3) (hy : y < 3) (hm : m < 4) : (4 + x + m % 2) / 8 + 2 * ((4 + y + m / 2) / 8) < 4 := by omega
theorem grow_o (r l : Nat) (h : mayR r l = true) (n : Nat) (hn : n ≤ 4) (w : World) :
    Calls Try.prog 13 #[Rv r l, .agg #[.int .u64 0, .int .u64 0, .int .u64 0, .int .u64 0], .int .i64 (n : Int)] w fun x w' => x = .returned (.tuple #[.int .u64 0, .nilIface]) ∧ Below w.heap.size w w' := by
  have q := grow_fine r l h 0#64 0#64 0#64 0#64 n hn w
  rw [Ti.grow_zero h] at q
  exact q
theorem next_o (r l : Nat) (h : mayR r l = true) (w : World) :
    Calls Try.prog 14 #[Rv r l, .agg #[.int .u64 0, .int .u64 0, .int .u64 0, .int .u64 0, .int .u64 0, .int .u64 0, .int .u64 0, .int .u64 0, .int .u64 0]] w fun x w' => x = .returned (.tuple #[.int .u64 0, .nilIface]) ∧ Below w.heap.size w w' := by
  have q := next_fine r l h 0#64 0#64 0#64 0#64 0#64 0#64 0#64 0#64 0#64 w
  rw [next_zero h] at q
  exact q
set_option maxRecDepth 100000 in
set_option maxHeartbeats 1000000 in
theorem still_walk (r l : Nat) (n s : Int) (W : World) (_w0 : r < 65536 ∧ l < 65536) (_w1 : (Lit.int .i64 n).wf = true) (_w2 : (Lit.int .i64 s).wf = true) :
    Calls Try.prog 6 #[.agg #[.int .u16 r, .int .u16 l], .int .i64 n, .int .i64 s] W fun x w' => x = .returned (.bool true) ∧ Below W.heap.size W w' := by
  obtain ⟨k, hk, hn⟩ := rem5 n
  obtain ⟨x, hx, hsx⟩ := rem3 s
  obtain ⟨y, hy, hsy⟩ := quo3 s
  have HS := Lib.hid sure_any
  have HM := Lib.hid (fun w => may_ref r l w)
  have HBX := Lib.hid (alX W (.cells #[.int .u16 r, .int .u16 l] 24))
  have hnw := heap_alloc_new W (.cells #[.int .u16 r, .int .u16 l] 24)
  have HR0 := Lib.hid hnw
  have x0 : (0 : Int) ≤ (x : Int) := by omega
  have x1 : (x : Int) < 3 := by omega
  have y0 : (0 : Int) ≤ (y : Int) := by omega
  have y1 : (y : Int) < 3 := by omega
  cases hm : mayR r l
  case' false =>
    rw [hm] at HM
    unfold Rv at HM
    clear hm _w0 _w1 _w2 hnw
    go_enter Try.func6, Try.ntmps6
    go_wp2_with (first | (go_at_call 11; refine (HM.out _).mono ?_; rintro e wz ⟨rfl, hb4⟩; have HZ := Lib.hid (HBX.out.trans (hb4.mono HBX.out.size)); clear hb4))
    clear HM HR0 HBX
  case' true =>
    rw [hm] at HM
    have HG0 := Lib.hid (fun w => grow_o r l hm k hk w)
    have HN0 := Lib.hid (fun w => next_o r l hm w)
    unfold Rv at HM HG0 HN0
    clear hm _w0 _w1 _w2 hnw
    go_enter Try.func6, Try.ntmps6
    go_wp2_with (first | (go_at_call 11; refine (HM.out _).mono ?_; rintro e w3 ⟨rfl, hb⟩; have HR1 := Lib.hid ((hb.block _ (lt_of_block HR0.out)).trans HR0.out); have c0 := cell_of_row _ _ 0 _ _ _ HR1.out; have c1 := cell_of_row _ _ 1 _ _ _ HR1.out; have HB1 := Lib.hid (HBX.out.trans (hb.mono HBX.out.size)); clear hb) | (go_at_call 13; refine (HG0.out _).mono ?_; rintro e w4 ⟨rfl, hb⟩; have HR2 := Lib.hid ((hb.block _ (lt_of_block HR1.out)).trans HR1.out); have d0 := cell_of_row _ _ 0 _ _ _ HR2.out; have d1 := cell_of_row _ _ 1 _ _ _ HR2.out; have HB2 := Lib.hid (HB1.out.trans (hb.mono HB1.out.size)); clear hb) | (go_at_call 14; refine (HN0.out _).mono ?_; rintro e wz ⟨rfl, hb⟩; have HZ := Lib.hid (HB2.out.trans (hb.mono HB2.out.size)); clear hb))
    clear HM HR0 HBX HG0 HN0 HR1 HR2 HB1 HB2 c0 c1 d0 d1
  all_goals
    clear hn hsx hsy
    try generalize (IntKind.u64.wrap ((IntKind.u64.wrap s).tdiv 3)).tmod 3 = v1
    try generalize IntKind.u64.wrap ((IntKind.u64.wrap s).tdiv 3) = v2
    try generalize (IntKind.u64.wrap s).tdiv 3 = v3
    try generalize (IntKind.u64.wrap s).tmod 3 = v4
    try generalize IntKind.u64.wrap s = v5
    try generalize (IntKind.u64.wrap n).tmod 5 = v6
    try generalize IntKind.u64.wrap n = v7
    go_loopw [14, 15] (fun t i ws => ∃ m : Nat, m ≤ 4 ∧ i = .int .i64 (m : Int) ∧ t = .int .u64 (rg (oneN (4 + x) (4 + y) m)) ∧ wz = ws) (fun _ i _ => 4 - (intOf i).toNat)
    case atStart => exact ⟨0, by omega, rfl, rfl, rfl⟩
    case round =>
      obtain ⟨m, hm, rfl, rfl, rfl⟩ := hrel
      have m0 : (0 : Int) ≤ (m : Int) := by omega
      by_cases hlt : m < 4
      · have m1 : (m : Int) < 4 := by omega
        have HT := Lib.hid (fun w => set_one (oneN (4 + x) (4 + y) m) x y m hx hy hlt w)
        have HO := Lib.hid (show oneN (4 + x) (4 + y) (m + 1) = oneN (4 + x) (4 + y) m ||| cellB (4 + x - 4 + m % 2) (4 + y - 4 + m / 2) from rfl)
        rw [← HO.out] at HT
        clear hlt
        go_wp2_with (go_at_call 17; with_reducible refine (HT.out _).mono ?_; rintro e w' ⟨rfl, rfl⟩)
        go_roundw
        case rel => exact ⟨m + 1, by omega, by go_num, rfl, trivial⟩
        case measure => simp [intOf]; omega
      · obtain rfl : m = 4 := by omega
        have HGS := Lib.hid (fun w => grow_still k x y hk hx hy w)
        generalize oneN (4 + x) (4 + y) 4 = one at HGS ⊢
        have HSl := Lib.hid (sl_start HZ.out)
        go_wp2
        change Code.wp _ _ _ _ (World.alloc wz (.cells (trow (fun _ => 0#64) 4) 29))
        generalize wz.alloc (.cells (trow (fun _ => 0#64) 4) 29) = wy at HSl ⊢
        go_loopw [19] (fun i ws => ∃ m : Nat, m ≤ 4 ∧ i = .int .i64 (m : Int) ∧ Hid (SlAt W wz.heap.size (fourN (4 + x) (4 + y) m) ws)) (fun i _ => 4 - (intOf i).toNat)
        case atStart => exact ⟨0, by omega, rfl, HSl⟩
        case round =>
          obtain ⟨m, hm, rfl, HQ⟩ := hrel
          have m0 : (0 : Int) ≤ (m : Int) := by omega
          by_cases hlt : m < 4
          · have m1 : (m : Int) < 4 := by omega
            have E1 := sum_j x y m
            have E2 := Lib.hid (lt_j x y m hx hy hlt)
            have HT := Lib.hid (fun t w => set_four t x y m w)
            have HO := Lib.hid (show fourN (4 + x) (4 + y) (m + 1) = upd (fourN (4 + x) (4 + y) m) ((4 + x + m % 2) / 8 + 2 * ((4 + y + m / 2) / 8)) (fourN (4 + x) (4 + y) m ((4 + x + m % 2) / 8 + 2 * ((4 + y + m / 2) / 8)) ||| cellB ((4 + x + m % 2) % 8) ((4 + y + m / 2) % 8)) from rfl)
            generalize (4 + x + m % 2) / 8 + 2 * ((4 + y + m / 2) / 8) = j at E1 E2 HO
            have j0 : (0 : Int) ≤ (j : Int) := Int.natCast_nonneg _
            have j1 : (j : Int) < 4 := Int.ofNat_lt.2 E2.out
            obtain ⟨c0, c1⟩ := tr_cell HQ.out.four E2.out
            have HQ2 := Lib.hid (HQ.out.set j (fourN (4 + x) (4 + y) m j ||| cellB ((4 + x + m % 2) % 8) ((4 + y + m / 2) % 8)))
            rw [← HO.out] at HQ2
            clear hlt HGS
            go_wp2_with (go_at_call 17; with_reducible refine (HT.out _ _).mono ?_; rintro e w' ⟨rfl, rfl⟩)
            go_roundw
            case rel => exact ⟨m + 1, by omega, by go_num, HQ2⟩
            case measure => simp [intOf]; omega
          · obtain rfl : m = 4 := by omega
            have HX := Lib.hid HQ.out.four
            go_wp2_with (first | (refine wpList_load_row rfl 29 (.tmp 18) rfl wz.heap.size rfl 29 _ (0, 0) _ HX.out Try.underlying29 rfl (by kernel_rfl) ?_) | (go_at_call 13; refine (HGS.out _).mono ?_; rintro e wx ⟨rfl, hb⟩; have HB8 := Lib.hid (HQ.out.below.trans (hb.mono HQ.out.below.size)); clear hb) | (go_at_call 12; refine (HS.out _).mono ?_; rintro e wv ⟨rfl, hb⟩; have HB9 := Lib.hid (HB8.out.trans (hb.mono HB8.out.size)); clear hb))
            go_ret
            exact ⟨rfl, HB9.out⟩
end Go.Proofs.Ythbokehoibadcaa

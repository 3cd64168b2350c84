/-
  A GROWER's Grow BY TOO MANY GENERATIONS; an ask that came in. Conditions: those that each lemma names.
  THE WALKS of the document's Has, Next, Text, numbers, Parse. Conditions: the parts are numbers of 16 bits.
  ROWS OF TRUTHS that one owns. No condition.
  THE WALKS of the document's grids: at, Cut. Conditions: the grid's cells lie there.
  A GRID in memory. Conditions: the grid's cells lie there.
  A GRID THAT GROWS CELL BY CELL in a box of its own; append in a region that draws its order. Conditions: those that each names.
  A REGION THAT DRAWS ITS ORDER AND STORES AT ITS END WHAT IT LOADED BEFORE: a condition on the world that is asked till one operation (the first such store) has come up, and another one from there on. What is loaded under the first condition is waited for by that store. No program in it.
  THE WALK of the document's Next: a grid one generation on. Conditions: the rule's parts are numbers of 16 bits; the grid's cells lie there.
  THE WALK of the document's Middle. Conditions: the cells lie there.
  THE WALK of the document's Grow. Conditions: the cells lie there; the rule's parts are numbers of 16 bits.
  THE WALK of the statements' own has. Conditions: the cells lie there, the square has them.
  THE DOCUMENT's SQUARES AND THE PROGRAM's, as plain data. Conditions: those that each lemma names.
  THE WALK of GrowCells. Conditions: what came in could be read; what is laid, lies.
  THE WALK of GrowCells, squares of width 32. Conditions: what came in could be read; what is laid, lies.
  THE WALK of GrowCells, squares of width 64. Conditions: what came in could be read; what is laid, lies.
  THE WALK of GrowCells, all of it. Conditions: what came in could be read; what is laid, lies.
-/
import Derived.Maps.AppendAt
import Derived.Laws.AppendOwn
import Derived.Deep.RegionHeld3
import Derived.Deep.QuietTactic
import Derived.BigQuiet
import Derived.StillTail
import Derived.RangeFuncBox
import Derived.Test.YtgimphkamjojpaaDoorE48
import Derived.Test.YtgimphkamjojpaaDoorE52
import Derived.Test.YtgimphkamjojpaaDoorE22
import Derived.Test.YtgimphkamjojpaaDoorE08
import Derived.Test.YtgimphkamjojpaaDoorE27
import Derived.Test.YtgimphkamjojpaaDoorE23
import Derived.Test.YtgimphkamjojpaaDoorE37
import Derived.Test.YtgimphkamjojpaaDoorE47
import Derived.Test.YtgimphkamjojpaaDoorE50
namespace Go.Proofs.YtgimphkamjojpaaDoor
open Go.RowKit Ti Qd Go.Maps Go.WideMaps Ru Go.ChangeShapes Go.WideShapes

set_option maxRecDepth 100000 in
theorem growN_bad {B : Nat} {w : World} {G P M b l : Nat} {s : GS} {room : Nat} {H : Nat → Prop} (h : Gr B w G P M b l s room H) (m : Nat) (h36 : m ≤ 36) (id j : Int) (hl : Lv s.1 (m + 1) id) (hj : j < 0 ∨ (m : Int) + 2 < j) :
    Calls Tryd.prog 11 #[.pointer (some ⟨G, 0, none⟩), .int .i64 id, .int .i64 j] w fun e w' => e = .returned (.tuple #[.int .i64 0, .iface 56 (.int .i64 1)]) ∧ Below w.heap.size w w' := by
  have HS := Lib.hid (Gs.start h)
  have hp := HS.out.ptr
  obtain ⟨Hs, hst, _⟩ := HS.out.store
  obtain ⟨lv, hlv⟩ : ∃ lv : Int, lv = ((m + 1 : Nat) : Int) + 3 := ⟨_, rfl⟩
  have HLV := Lib.hid (level_is hst id hl.1 lv (by rw [hlv]; exact hl.2))
  have lv0 : (0 : Int) ≤ lv := by omega
  have lv1 : lv ≤ 100 := by omega
  have e3 : (lv == 3) = false := by rw [beq_eq_false_iff_ne]; omega
  by_cases hn : j < 0
  · clear h hl hst hlv hj h36 HS
    go_enter Tryd.func11, Tryd.ntmps11
    go_wp2_with fail
    refine HLV.out.mono ?_
    rintro e w2 ⟨rfl, hb⟩
    have HB := Lib.hid hb
    clear hb hp
    go_wp2
    go_ret2
    exact ⟨rfl, HB.out⟩
  · have j1 : decide (lv - 2 < j) = true := decide_eq_true (by omega)
    have j2 : lv - 2 < j := by omega
    clear h hl hst hlv hj h36 HS
    go_enter Tryd.func11, Tryd.ntmps11
    go_wp2_with fail
    refine HLV.out.mono ?_
    rintro e w2 ⟨rfl, hb⟩
    have HB := Lib.hid hb
    clear hb hp
    go_wp2_with fail
    refine (farthest_any lv lv0 lv1 _).mono ?_
    rintro e w3 ⟨rfl, rfl⟩
    go_wp2
    go_ret2
    exact ⟨rfl, HB.out⟩
theorem wf_i6 {a : Int} (h : (Lit.int .i64 a).wf = true) : -9223372036854775808 ≤ a ∧ a ≤ 9223372036854775807 := by
  have h1 : IntKind.i64.min ≤ a ∧ a ≤ IntKind.i64.max := by simpa [Lit.wf] using h
  have e0 : IntKind.i64.min = -9223372036854775808 := rfl
  have e1 : IntKind.i64.max = 9223372036854775807 := rfl
  omega
section
variable {H : Type} {enc : TypeId × Value → H} {w : World} {base : Nat} {spare : Nat → Bool} {held : Bool}
set_option maxRecDepth 100000 in
theorem ask_open {b0 : Nat} {v : Value} {d : DataW H} {p : List MemPlace} (hv : Value.okWide Tryd.prog w .any b0 27 v) (h : DataW.Trod enc Tryd.prog w base spare held 27 v d p) :
    ∃ c : Int × Int, v = .agg #[.int .i64 c.1, .int .i64 c.2] ∧ ((-9223372036854775808 ≤ c.1 ∧ c.1 ≤ 9223372036854775807) ∧ (-9223372036854775808 ≤ c.2 ∧ c.2 ≤ 9223372036854775807)) := by
  obtain ⟨c0, c1, y0, y1, m, rfl, _, _, hy0, hy1⟩ := Joins.open_agg2 Tryd.underlying27 (by kernel_rfl) (by kernel_rfl) hv h
  obtain ⟨x, e0, _, wa⟩ := DataW.trod_int Tryd.underlying3 hy0
  obtain ⟨y, e1, _, wb⟩ := DataW.trod_int Tryd.underlying3 hy1
  simp at e0 e1
  subst e0 e1
  exact ⟨(x, y), rfl, wf_i6 wa, wf_i6 wb⟩
end
end Go.Proofs.YtgimphkamjojpaaDoor
namespace Go.Proofs.YtgimphkamjojpaaDoor
open Go.RowKit Ru

theorem has_ref (b n : Nat) (hb : b < 65536) (hn : n ≤ 100) (w : World) :
    Calls Tryd.prog 67 #[.int .u16 b, .int .i64 n] w fun e w' => e = .returned (.bool (hs b n)) ∧ w = w' := by
  go_enter Tryd.func67, Tryd.ntmps67
  go_wp2
  go_loop [0, 5] (fun x i => ∃ k : Nat, k ≤ n ∧ i = .int .i64 k ∧ x = .int .u16 ((b / 2 ^ k : Nat) : Int)) (fun _ i => n - (intOf i).toNat)
  case atStart => exact ⟨0, by omega, rfl, by simp⟩
  case round =>
    obtain ⟨k, hk, rfl, rfl⟩ := hrel
    have k0 : (0 : Int) ≤ (k : Int) := by omega
    have hle : b / 2 ^ k < 65536 := Nat.lt_of_le_of_lt (Nat.div_le_self _ _) hb
    have hd := Lib.hid (show ((b / 2 ^ k : Nat) : Int) / 2 = ((b / 2 ^ (k + 1) : Nat) : Int) by
      rw [Nat.pow_succ, ← Nat.div_div_eq_div_mul]; simp)
    by_cases hlt : k < n
    · have i1 : (k : Int) < (n : Int) := by omega
      generalize b / 2 ^ k = x at hle hd ⊢
      have x0 : (0 : Int) ≤ (x : Int) := by omega
      have x1 : (x : Int) < 65536 := by omega
      go_wp2
      go_round
      case rel => exact ⟨k + 1, by omega, by go_num, by rw [hd.out]⟩
      case measure => simp [intOf]; omega
    · obtain rfl : k = n := by omega
      have HB := Lib.hid (show (((b / 2 ^ k : Nat) : Int) % 2 == 1) = hs b k by
        unfold hs
        rw [Bool.eq_iff_iff, beq_iff_eq, beq_iff_eq]
        omega)
      generalize b / 2 ^ k = x at hle hd HB ⊢
      have x0 : (0 : Int) ≤ (x : Int) := by omega
      have x1 : (x : Int) < 65536 := by omega
      go_wp2
      go_ret
      exact ⟨by rw [← HB.out]; rfl, rfl⟩
theorem next_ref (b l : Nat) (x : Bool) (n : Nat) (hb : b < 65536) (hl : l < 65536) (hn : n ≤ 8) (w : World) :
    Calls Tryd.prog 50 #[Rv b l, .bool x, .int .i64 n] w fun e w' => e = .returned (.bool (pick b l x n)) ∧ Below w.heap.size w w' := by
  have HB := Lib.hid (fun w => has_ref b n hb (by omega) w)
  have HL := Lib.hid (fun w => has_ref l n hl (by omega) w)
  unfold Rv
  clear hb hl hn
  cases x
  all_goals
    go_enter Tryd.func50, Tryd.ntmps50
    go_wp2_with (go_at_call 67; (first | with_reducible refine (HB.out _).mono ?_ | with_reducible refine (HL.out _).mono ?_); rintro e w' ⟨rfl, rfl⟩)
    go_ret
    exact ⟨rfl, alX _ _⟩
end Go.Proofs.YtgimphkamjojpaaDoor
namespace Go.Proofs.YtgimphkamjojpaaDoor.Dr
open Go.RowKit Ti

/-- so many truths in a row -/
def bls (L : Nat → Bool) (n : Nat) : List Value := (List.range n).map (fun i => Value.bool (L i))
theorem bls_length (L : Nat → Bool) (n : Nat) : (bls L n).length = n := by simp [bls]
theorem bls_get (L : Nat → Bool) (n i : Nat) (h : i < n) : (bls L n)[i]? = some (.bool (L i)) := by simp [bls, h]
theorem bls_succ (L : Nat → Bool) (n : Nat) : bls L n ++ [.bool (L n)] = bls L (n + 1) := by simp [bls, List.range_succ]
theorem bls_congr {L M : Nat → Bool} {n : Nat} (h : ∀ i, i < n → L i = M i) : bls L n = bls M n := by
  unfold bls
  apply List.map_congr_left
  intro i hi
  rw [h i (List.mem_range.1 hi)]
/-- a row of truths that one owns, as cells -/
theorem own_bls {w : World} {B n : Nat} {v : Value} {L : Nat → Bool} (h : w.ownsRow B 4 1 v n (bls L n)) (hn : 0 < n) : ∃ g cap, v = .slice (some ⟨g, 0, none⟩) n cap ∧ B ≤ g ∧ g < w.heap.size ∧ ∀ i, i < n → w.cell? ⟨g, i, none⟩ = some (.bool (L i)) := by
  obtain ⟨_, ⟨_, h0⟩ | ⟨g, cap, cur, hv, hb, hg, h1, _, hs, ht⟩⟩ := h
  · omega
  · refine ⟨g, cap, hv, hb, lt_of_block hg, fun i hi => ?_⟩
    rw [cell_of_row _ _ i _ _ _ hg]
    have h2 := bls_get L n i hi
    rw [← ht, Nat.mul_one, List.getElem?_take_of_lt hi] at h2
    simpa using h2
theorem bls_keep {A C : World} {B n n₀ : Nat} {v : Value} {L : Nat → Bool} (h : A.ownsRow B 4 1 v n (bls L n)) (k : Below n₀ A C) (hk : A.heap.size ≤ n₀) : C.ownsRow B 4 1 v n (bls L n) := by
  obtain ⟨e, h0 | ⟨g, cap, cur, hv, hb, hg, h2⟩⟩ := h
  · exact ⟨e, .inl h0⟩
  · exact ⟨e, .inr ⟨g, cap, cur, hv, hb, (k.block g (by have := lt_of_block hg; omega)).trans hg, h2⟩⟩
end Go.Proofs.YtgimphkamjojpaaDoor.Dr
namespace Go.Proofs.YtgimphkamjojpaaDoor.Dr
open Go.RowKit Ti

/-- a grid's cells as a plane -/
def gpl (N : Nat) (L : Nat → Bool) : Pl := fun x y => decide (0 ≤ x) && decide (0 ≤ y) && (decide (x < (N : Int)) && decide (y < (N : Int))) && L (N * y.toNat + x.toNat)
theorem gpl_nat (N : Nat) (L : Nat → Bool) (x y : Nat) (hx : x < N) (hy : y < N) : gpl N L x y = L (N * y + x) := by
  unfold gpl
  rw [decide_eq_true (show (0 : Int) ≤ (x : Int) by omega), decide_eq_true (show (0 : Int) ≤ (y : Int) by omega), decide_eq_true (show (x : Int) < (N : Int) by omega), decide_eq_true (show (y : Int) < (N : Int) by omega)]
  simp
theorem gpl_out (N : Nat) (L : Nat → Bool) (x y : Int) (h : x < 0 ∨ y < 0 ∨ (N : Int) ≤ x ∨ (N : Int) ≤ y) : gpl N L x y = false := by
  unfold gpl
  rcases h with q | q | q | q
  · rw [decide_eq_false (show ¬ 0 ≤ x by omega)]; simp
  · rw [decide_eq_false (show ¬ 0 ≤ y by omega)]; simp
  · rw [decide_eq_false (show ¬ x < (N : Int) by omega)]; simp
  · rw [decide_eq_false (show ¬ y < (N : Int) by omega)]; simp
/-- a square grid, of one of three widths -/
def isN (N M : Nat) (I : Int) : Prop := (N = 16 ∧ M = 256 ∧ I = 16) ∨ (N = 32 ∧ M = 1024 ∧ I = 32) ∨ (N = 64 ∧ M = 4096 ∧ I = 64)
abbrev Gv (I : Int) (v : Value) : Value := .agg #[.int .i64 I, v]
theorem at_start {w : World} {N M : Nat} {I : Int} (v : Value) (_hN : isN N M I) : Below w.heap.size w (w.alloc (.cells #[.int .i64 I, v] 78)) := alX w _
theorem wrapn (n : Nat) (h : n < 5000) : IntKind.i64.wrap (n : Int) = (n : Int) := IntWalk.i64_in _ (by omega)
set_option maxRecDepth 100000 in
theorem at_ref (N M g cp : Nat) (I : Int) (L : Nat → Bool) (x y : Int) (hN : isN N M I) (w : World) (hg : g < w.heap.size) (h : ∀ i, i < M → w.cell? ⟨g, i, none⟩ = some (.bool (L i))) :
    Calls Tryd.prog 49 #[Gv I (.slice (some ⟨g, 0, none⟩) M cp), .int .i64 x, .int .i64 y] w fun e w' => e = .returned (.bool (gpl N L x y)) ∧ Below w.heap.size w w' := by
  have HB := Lib.hid (at_start (w := w) (.slice (some ⟨g, 0, none⟩) M cp) hN)
  by_cases h1 : 0 ≤ x ∧ 0 ≤ y ∧ x < I ∧ y < I
  · obtain ⟨x0, y0, x1, y1⟩ := h1
    obtain ⟨a, rfl⟩ := Int.eq_ofNat_of_zero_le x0
    obtain ⟨b, rfl⟩ := Int.eq_ofNat_of_zero_le y0
    rcases hN with ⟨rfl, rfl, rfl⟩ | ⟨rfl, rfl, rfl⟩ | ⟨rfl, rfl, rfl⟩
    · have HG := Lib.hid (gpl_nat 16 L a b (by omega) (by omega))
      obtain ⟨n, hn⟩ : ∃ n, n = 16 * b + a := ⟨_, rfl⟩
      have hc := (HB.out.cell (p := ⟨g, n, none⟩) hg).trans (h n (by omega))
      have E : (16 : Int) * (b : Int) + (a : Int) = (n : Int) := by omega
      have n0 : (0 : Int) ≤ (n : Int) := by omega
      have n1 : (n : Int) < 256 := by omega
      have hw := wrapn n (by omega)
      rw [← hn] at HG
      clear hn h hg
      generalize gpl 16 L a b = q at HG ⊢
      have HQ := HG.out
      rw [← HQ] at hc
      clear HQ HG
      go_enter Tryd.func49, Tryd.ntmps49
      go_wp2
      go_ret
      exact ⟨rfl, HB.out⟩
    · have HG := Lib.hid (gpl_nat 32 L a b (by omega) (by omega))
      obtain ⟨n, hn⟩ : ∃ n, n = 32 * b + a := ⟨_, rfl⟩
      have hc := (HB.out.cell (p := ⟨g, n, none⟩) hg).trans (h n (by omega))
      have E : (32 : Int) * (b : Int) + (a : Int) = (n : Int) := by omega
      have n0 : (0 : Int) ≤ (n : Int) := by omega
      have n1 : (n : Int) < 1024 := by omega
      have hw := wrapn n (by omega)
      rw [← hn] at HG
      clear hn h hg
      generalize gpl 32 L a b = q at HG ⊢
      have HQ := HG.out
      rw [← HQ] at hc
      clear HQ HG
      go_enter Tryd.func49, Tryd.ntmps49
      go_wp2
      go_ret
      exact ⟨rfl, HB.out⟩
    · have HG := Lib.hid (gpl_nat 64 L a b (by omega) (by omega))
      obtain ⟨n, hn⟩ : ∃ n, n = 64 * b + a := ⟨_, rfl⟩
      have hc := (HB.out.cell (p := ⟨g, n, none⟩) hg).trans (h n (by omega))
      have E : (64 : Int) * (b : Int) + (a : Int) = (n : Int) := by omega
      have n0 : (0 : Int) ≤ (n : Int) := by omega
      have n1 : (n : Int) < 4096 := by omega
      have hw := wrapn n (by omega)
      rw [← hn] at HG
      clear hn h hg
      generalize gpl 64 L a b = q at HG ⊢
      have HQ := HG.out
      rw [← HQ] at hc
      clear HQ HG
      go_enter Tryd.func49, Tryd.ntmps49
      go_wp2
      go_ret
      exact ⟨rfl, HB.out⟩
  · have HG := Lib.hid (gpl_out N L x y (by rcases hN with ⟨rfl, rfl, rfl⟩ | ⟨rfl, rfl, rfl⟩ | ⟨rfl, rfl, rfl⟩ <;> omega))
    rw [HG.out]
    clear HG h hg hN
    by_cases h2 : 0 ≤ x
    · by_cases h3 : 0 ≤ y
      · by_cases h4 : x < I
        · have h5 : ¬ y < I := fun q => h1 ⟨h2, h3, h4, q⟩
          clear h1
          go_enter Tryd.func49, Tryd.ntmps49
          go_wp2
          go_ret
          exact ⟨rfl, HB.out⟩
        · clear h1
          go_enter Tryd.func49, Tryd.ntmps49
          go_wp2
          go_ret
          exact ⟨rfl, HB.out⟩
      · clear h1
        go_enter Tryd.func49, Tryd.ntmps49
        go_wp2
        go_ret
        exact ⟨rfl, HB.out⟩
    · clear h1
      go_enter Tryd.func49, Tryd.ntmps49
      go_wp2
      go_ret
      exact ⟨rfl, HB.out⟩
end Go.Proofs.YtgimphkamjojpaaDoor.Dr
namespace Go.Proofs.YtgimphkamjojpaaDoor.Dr
open Go.RowKit Ti

theorem info_bl : (Tryd.prog.info? 4).map (fun i => (i.zero, i.size, i.bytes)) = some (some (.bool false), 1, 1) := by kernel_rfl
/-- one truth more in a row that one owns -/
theorem push_row {W1 w3 w2 : World} {v v2 : Value} {m : Nat} {P : Nat → Bool} {x : Bool} (hb : Below W1.heap.size W1 w3) (ho : w3.ownsRow W1.heap.size 4 1 v m (bls P m)) (hx : x = P m) (hown : w2.ownsRow W1.heap.size 4 1 v2 (m + 1) (bls P m ++ [.bool x]))
    (hgrow : (w3.alloc (.cells #[.bool x] 4)).grownBy w2 v.ownBlock) : w2.ownsRow W1.heap.size 4 1 v2 (m + 1) (bls P (m + 1)) ∧ Below W1.heap.size W1 w2 := by
  rw [hx, bls_succ] at hown
  exact ⟨hown, (hb.alloc hb.size (.cells #[.bool x] 4)).grown hgrow (by have := hb.size; simp; omega) (fun j hj => (ho.lt j hj).1)⟩
theorem row_bytes (m : Nat) (h : m ≤ 4200) : m + 1 ≤ maxLen ∧ (m + 1) * 1 ≤ 140737488355328 := by
  unfold maxLen; omega
/-- a grid in memory: its cells lie there -/
structure GridAt (w : World) (M g : Nat) (L : Nat → Bool) : Prop where
  lt : g < w.heap.size
  at_ : ∀ i, i < M → w.cell? ⟨g, i, none⟩ = some (.bool (L i))
theorem GridAt.on {w w' : World} {M g : Nat} {L : Nat → Bool} (h : GridAt w M g L) {n₀ : Nat} (k : Below n₀ w w') (hn : w.heap.size ≤ n₀) : GridAt w' M g L :=
  ⟨by have := h.lt; have := k.size; omega, fun i hi => (k.cell (p := ⟨g, i, none⟩) (by have := h.lt; show g < n₀; omega)).trans (h.at_ i hi)⟩
end Go.Proofs.YtgimphkamjojpaaDoor.Dr
namespace Go.Proofs.YtgimphkamjojpaaDoor.Dr
open Go.RowKit Ti

/-- append, of truths, in a region that draws its order -/
theorem step_appB {ops : Array Oper} {o : Oper} {a : Go.Act} {w : World} {K : Go.Act → World → Prop} {Q : Exit → Go.Act → World → Prop} {E : Prop} (hgd : o.guard = none) (s x : Operand)
    (ho : o.op = .call { callee := .builtin .append, args := #[s, x], argTypes := #[40, 40] }) (B n : Nat) (v : Value) (xs : List Value) (hs : a.eval s = v) (hown : w.ownsRow B 4 1 v n xs) (ad : Addr) (q : Bool) (hx : a.eval x = .slice (some ad) 1 1)
    (hc : w.cell? ad = some (.bool q)) (hm : n ≤ 4200) (hbase : B ≤ w.heap.size)
    (h : ∀ v' w', w'.ownsRow B 4 1 v' (n + 1) (xs ++ [.bool q]) → w.grownBy w' v.ownBlock → K (a.put o.dst v') w') : if Region.wanted o (yielded ops a.tmps) = true then Oper.wp Tryd.prog o a w K Q else E := by
  have hw : Region.wanted o (yielded ops a.tmps) = true := by simp [Region.wanted, hgd]
  rw [if_pos hw]
  obtain ⟨i, hi, hz0, hz1, hz2⟩ := info_parts info_bl
  have had : ∀ j u, [Value.bool q][j]? = some u → w.cell? (ad.add j) = some u := by
    intro j u hj
    cases j with
    | zero => simp at hj; subst hj; rw [show ad.add 0 = ad by obtain ⟨b, off, sp⟩ := ad; cases sp <;> simp [Addr.add]]; exact hc
    | succ j => simp at hj
  obtain ⟨v', w', hr, h2, h3, _⟩ := run_append_own (P := Tryd.prog) w B 40 o.type 4 i (.bool false) 1 1 Tryd.underlying40 hi hz0 hz1 hz2 rfl (by decide) v n xs hown ad 1 1 [.bool q] rfl had (by simp [Value.oneCell']) (row_bytes n hm).1 (row_bytes n hm).2 hbase
  unfold Oper.wp execOp
  simp only [ho, resolve, invoke, builtin, Sem.run_bind, Sem.run_pure, Result.andThen_ok, List.map_toArray, List.map_cons, List.map_nil, hs, hx, hr]
  exact h v' w' h2 h3
/-- the same, alone -/
theorem wp_appB {o : Oper} {a : Go.Act} {w : World} {K : Go.Act → World → Prop} {Q : Exit → Go.Act → World → Prop} (s x : Operand)
    (ho : o.op = .call { callee := .builtin .append, args := #[s, x], argTypes := #[40, 40] }) (B n : Nat) (v : Value) (xs : List Value) (hs : a.eval s = v) (hown : w.ownsRow B 4 1 v n xs) (ad : Addr) (q : Bool) (hx : a.eval x = .slice (some ad) 1 1)
    (hc : w.cell? ad = some (.bool q)) (hm : n ≤ 4200) (hbase : B ≤ w.heap.size) (hg : o.guard = none) (d : Tmp) (hd : o.dst = some d)
    (h : ∀ v' w', w'.ownsRow B 4 1 v' (n + 1) (xs ++ [.bool q]) → w.grownBy w' v.ownBlock → K (a.put (some d) v') w') : Oper.wp Tryd.prog o a w K Q := by
  rw [← hd] at h
  have k := step_appB (ops := #[]) (E := True) hg s x ho B n v xs hs hown ad q hx hc hm hbase h (Q := Q)
  rwa [if_pos (by simp [Region.wanted, hg])] at k
/-- where a grid is built -/
structure OutAt (w ws : World) (R X Bs : Nat) (I : Int) (P : Nat → Bool) (m : Nat) (v : Value) : Prop where
  box : ws.heap[X]? = some (.cells #[.int .i64 I, v] 78)
  res : ws.heap[R]? = some (.cells #[.int .i64 0, .slice none 0 0] 78)
  own : ws.ownsRow Bs 4 1 v m (bls P m)
  below : Below w.heap.size w ws
  size : Bs ≤ ws.heap.size
  order : w.heap.size ≤ X ∧ w.heap.size ≤ R ∧ X < Bs ∧ R < Bs ∧ ¬ R = X
theorem OutAt.on {w ws w' : World} {R X Bs : Nat} {I : Int} {P : Nat → Bool} {m : Nat} {v : Value} (h : OutAt w ws R X Bs I P m v) (k : Below ws.heap.size ws w') : OutAt w w' R X Bs I P m v :=
  ⟨(k.block _ (lt_of_block h.box)).trans h.box, (k.block _ (lt_of_block h.res)).trans h.res, bls_keep h.own k (Nat.le_refl _), h.below.trans (k.mono h.below.size), Nat.le_trans h.size k.size, h.order⟩
theorem OutAt.cells {w ws : World} {R X Bs : Nat} {I : Int} {P : Nat → Bool} {m : Nat} {v : Value} (h : OutAt w ws R X Bs I P m v) : ws.cell? ⟨X, 1, none⟩ = some v ∧ ws.frozen? ⟨X, 1, none⟩ = false ∧ ws.cell? ⟨X, 0, none⟩ = some (.int .i64 I) :=
  ⟨cell_of_row _ _ 1 _ _ _ h.box, frozen_of_row _ _ 1 _ _ h.box, cell_of_row _ _ 0 _ _ _ h.box⟩
theorem OutAt.grow {w ws w2 : World} {R X Bs : Nat} {I : Int} {P : Nat → Bool} {m : Nat} {v v2 : Value} {q : Bool} (h : OutAt w ws R X Bs I P m v) (hq : q = P m) (hown : w2.ownsRow Bs 4 1 v2 (m + 1) (bls P m ++ [.bool q])) (hg : (ws.alloc (.cells #[.bool q] 4)).grownBy w2 v.ownBlock) :
    OutAt w (w2.setCell ⟨X, 1, none⟩ v2) R X Bs I P (m + 1) v2 ∧ w2.cell? ⟨X, 1, none⟩ = some v ∧ w2.frozen? ⟨X, 1, none⟩ = false ∧ w2.cell? ⟨X, 0, none⟩ = some (.int .i64 I) ∧ Below Bs ws w2 := by
  rw [hq, bls_succ] at hown
  have h1 : Below Bs ws w2 := ((Below.refl Bs ws).alloc h.size (.cells #[.bool q] 4)).grown hg (by have := h.size; simp; omega) (fun j hj => (h.own.lt j hj).1)
  have hX := (h1.block X h.order.2.2.1).trans h.box
  have hR := (h1.block R h.order.2.2.2.1).trans h.res
  refine ⟨⟨?_, ?_, ?_, ?_, ?_, h.order⟩, cell_of_row _ _ 1 _ _ _ hX, frozen_of_row _ _ 1 _ _ hX, cell_of_row _ _ 0 _ _ _ hX, h1⟩
  · rw [heap_setCell_same _ _ 1 _ _ _ hX]; rfl
  · exact (heap_setCell_other _ _ _ _ h.order.2.2.2.2).trans hR
  · obtain ⟨e, h0 | ⟨g, cap, cur, hv, hb, hgg, hrest⟩⟩ := hown
    · exact ⟨e, .inl h0⟩
    · exact ⟨e, .inr ⟨g, cap, cur, hv, hb, (heap_setCell_other _ _ _ _ (by have := h.order.2.2.1; show ¬ g = X; omega)).trans hgg, hrest⟩⟩
  · have h2 : Below w.heap.size w w2 := h.below.trans (h1.mono (by have := h.order; omega))
    exact h2.setCell (p := ⟨X, 1, none⟩) h.order.1 _
  · have := h1.size; have := h.size; show Bs ≤ (World.setCell w2 _ _).heap.size; simp; omega
theorem OutAt.drew {w ws : World} {R X Bs : Nat} {I : Int} {P : Nat → Bool} {m : Nat} {v : Value} (h : OutAt w ws R X Bs I P m v) : OutAt w ws.drew R X Bs I P m v := h.on (Below.refl _ ws).drew
end Go.Proofs.YtgimphkamjojpaaDoor.Dr
namespace Go.Proofs.YtgimphkamjojpaaDoor.Dr
open Go.RowKit Ti

section
variable {P : Program} {ops : Array Oper} {Q : Exit → Act → World → Prop} {md : Region.Mode} {s : Nat} {S : Bool → World → Prop}

/-- whatever order is drawn from here on; behind each operation the condition holds, of the two the one whose turn it is -/
def Till (P : Program) (md : Region.Mode) (ops : Array Oper) (Q : Exit → Act → World → Prop) (s : Nat) (S : Bool → World → Prop) : Nat → Array Bool → Act → World → Prop
  | 0, l, a, w => Region.ready md ops l = [] ∧ Q .normal a w
  | f + 1, l, a, w => (Region.ready md ops l = [] → Q .normal a w) ∧ ∀ i ∈ Region.ready md ops l, wpOp P ops Q i (fun a' w' => S ((l.setIfInBounds i true).getD s false) w' ∧ Till P md ops Q s S f (l.setIfInBounds i true) a' w') a w

theorem Till.any : ∀ (f : Nat) (l : Array Bool) (a : Act) (w : World), Till P md ops Q s S f l a w → wpAny P md ops Q f l a w
  | 0, _, _, _, h => h
  | f + 1, _, _, _, h => ⟨h.1, fun i hi => wpOp_mono (fun _ _ k => Till.any f _ _ _ k.2) (h.2 i hi)⟩

theorem Till.first {i : Nat} {o : Oper} {v : Value} {G : World → Prop} (hi : ops[i]? = some o) (hsel : Region.noSelect ops = true) (hs : s ≠ i) (hQ : ∀ c a w, Q (.panic c) (a.put o.dst v) w → Q (.panic c) a w)
    (hG : ∀ b w, S b w → (Region.waitsFor md ops s i = true → b = false) → G w) :
    ∀ (f : Nat) (l : Array Bool) (a : Act) (w : World), (∀ j oj, ops[j]? = some oj → j ≠ i → l.getD j true = false → (∀ e ∈ oj.after, Region.binds md e = true → e.on ≠ i) → o.apart ops oj = true) →
      i ∈ Region.ready md ops l → (Region.waitsFor md ops s i = true → l.getD s false = false) → YieldsIf P ops G o v a → S (l.getD s false) w →
      Till P md ops Q s S f (l.setIfInBounds i true) (a.put o.dst v) w → Till P md ops Q s S (f + 1) l a w := by
  intro f
  induction f with
  | zero =>
    intro l a w _ hr hb hy hS H
    refine ⟨fun e => (by rw [e] at hr; cases hr), fun j hj => ?_⟩
    by_cases e : j = i
    · subst e
      exact hy.wpOp hi (hG _ _ hS hb) ⟨by rw [getD_set_ne false (Ne.symm hs)]; exact hS, H⟩
    · have := ready_mono hj e
      rw [H.1] at this
      cases this
  | succ f ih =>
    intro l a w hfree hr hb hy hS H
    refine ⟨fun e => (by rw [e] at hr; cases hr), fun j hj => ?_⟩
    by_cases e : j = i
    · subst e
      exact hy.wpOp hi (hG _ _ hS hb) ⟨by rw [getD_set_ne false (Ne.symm hs)]; exact hS, H⟩
    · have hun := (mem_ready.1 hr).1
      obtain ⟨hjun, oj, hoj, hall⟩ := mem_ready.1 hj
      have hno : ∀ k ∈ oj.after, Region.binds md k = true → k.on ≠ i := fun k hk hkb q => by
        have := hall k hk hkb
        rw [q, getD_both hun] at this
        cases this
      have hjs : Region.waitsFor md ops s i = true → j ≠ s := fun hw q => by
        subst q
        obtain ⟨o', ho', k, hk, hkb, hon⟩ := Region.waitsFor_spec hw
        have : o' = oj := Option.some.inj (ho'.symm.trans hoj)
        subst this
        exact hno k hk hkb hon
      have h1 := H.2 j (ready_mono hj e)
      have h2 := wpOp_putIf hoj (hfree j oj hoj e hjun hno) (fun cs b => Region.noSelect_spec hsel i o cs b hi) (fun cs b => Region.noSelect_spec hsel j oj cs b hoj) hQ hy h1
      refine wpOp_mono (fun a' w' k => ?_) h2
      have hf : ((l.setIfInBounds i true).setIfInBounds j true).getD s false = (l.setIfInBounds j true).getD s false := by
        rw [Array.setIfInBounds_comm _ _ (Ne.symm e), getD_set_ne false (Ne.symm hs)]
      have k1 : S ((l.setIfInBounds j true).getD s false) w' := hf ▸ k.2.1
      refine ⟨k1, ih (l.setIfInBounds j true) a' w' (fun k ok hk hki hku hkn => hfree k ok hk hki ?_ hkn) (ready_mono hr (Ne.symm e)) (fun hw => ?_) k.1 k1 ?_⟩
      · by_cases q : j = k
        · subst q; exact hjun
        · rwa [getD_set_ne true q] at hku
      · rw [getD_set_ne false (hjs hw)]; exact hb hw
      · rw [Array.setIfInBounds_comm _ _ e]
        exact k.2.2
/-- one that yields, and that the store waits for -/
theorem Till.load {i : Nat} {d : Tmp} {o : Oper} {v : Value} {f : Nat} {l : Array Bool} {a : Act} {w : World} (hi : ops[i]? = some o) (hd : o.dst = some d) (hsel : Region.noSelect ops = true) (hf : Region.free md ops l i = true) (hr : (Region.ready md ops l).contains i = true)
    (hn : (s != i && Region.waitsFor md ops s i && !(l.getD s false)) = true) (hQ : ∀ c a w, Q (.panic c) (a.put o.dst v) w → Q (.panic c) a w) (hS : S false w) (hy : ∀ w, S false w → (execOp a.eval o).run P w = .ok (.value v) w) (hw : Region.wanted o (yielded ops a.tmps) = true)
    (h : Till P md ops Q s S f (l.setIfInBounds i true) (a.put (some d) v) w) : Till P md ops Q s S (f + 1) l a w := by
  rw [← hd] at h
  simp only [Bool.and_eq_true, bne_iff_ne, ne_eq, Bool.not_eq_true'] at hn
  exact Till.first (G := S false) hi hsel hn.1.1 hQ (fun b w' hb q => q hn.1.2 ▸ hb) f l a w (Region.free_spec hi hf) (by simpa using hr) (fun _ => hn.2) (.inl ⟨hw, hy⟩) (by rw [hn.2]; exact hS) h
/-- one that yields in any world -/
theorem Till.move {i : Nat} {d : Tmp} {o : Oper} {v : Value} {f : Nat} {l : Array Bool} {a : Act} {w : World} (hi : ops[i]? = some o) (hd : o.dst = some d) (hsel : Region.noSelect ops = true) (hf : Region.free md ops l i = true) (hr : (Region.ready md ops l).contains i = true)
    (hn : (s != i) = true) (hQ : ∀ c a w, Q (.panic c) (a.put o.dst v) w → Q (.panic c) a w) (hS : S (l.getD s false) w) (hy : ∀ w, (execOp a.eval o).run P w = .ok (.value v) w) (hw : Region.wanted o (yielded ops a.tmps) = true)
    (hb : (!(l.getD s false) || !(Region.waitsFor md ops s i)) = true) (h : Till P md ops Q s S f (l.setIfInBounds i true) (a.put (some d) v) w) : Till P md ops Q s S (f + 1) l a w := by
  rw [← hd] at h
  refine Till.first (G := fun _ => True) hi hsel (by simpa using hn) hQ (fun _ _ _ _ => trivial) f l a w (Region.free_spec hi hf) (by simpa using hr) (fun q => ?_) (.inl ⟨hw, fun w _ => hy w⟩) hS h
  rw [q] at hb
  simpa using hb
/-- one that yields in any world where either condition holds -/
theorem Till.read {i : Nat} {d : Tmp} {o : Oper} {v : Value} {f : Nat} {l : Array Bool} {a : Act} {w : World} {G : World → Prop} (hG : ∀ b w, S b w → G w) (hi : ops[i]? = some o) (hd : o.dst = some d) (hsel : Region.noSelect ops = true) (hf : Region.free md ops l i = true) (hr : (Region.ready md ops l).contains i = true)
    (hn : (s != i) = true) (hQ : ∀ c a w, Q (.panic c) (a.put o.dst v) w → Q (.panic c) a w) (hS : S (l.getD s false) w) (hy : ∀ w, G w → (execOp a.eval o).run P w = .ok (.value v) w) (hw : Region.wanted o (yielded ops a.tmps) = true)
    (hb : (!(l.getD s false) || !(Region.waitsFor md ops s i)) = true) (h : Till P md ops Q s S f (l.setIfInBounds i true) (a.put (some d) v) w) : Till P md ops Q s S (f + 1) l a w := by
  rw [← hd] at h
  refine Till.first (G := G) hi hsel (by simpa using hn) hQ (fun b w' hb _ => hG b w' hb) f l a w (Region.free_spec hi hf) (by simpa using hr) (fun q => ?_) (.inl ⟨hw, hy⟩) hS h
  rw [q] at hb
  simpa using hb
/-- one that alone may come up -/
theorem Till.only {i : Nat} {o : Oper} {f : Nat} {l : Array Bool} {a : Act} {w : World} (b : Bool) (hi : ops[i]? = some o) (hr : Region.ready md ops l = [i]) (hw : Region.wanted o (yielded ops a.tmps) = true) (hb : (l.setIfInBounds i true).getD s false = b)
    (h : ∀ K : Act → World → Prop, Hid (∀ a' w', S b w' → Till P md ops Q s S f (l.setIfInBounds i true) a' w' → K a' w') → Oper.wp P o a w K Q) : Till P md ops Q s S (f + 1) l a w := by
  refine ⟨fun e => (by rw [e] at hr; cases hr), fun j hj => ?_⟩
  rw [hr] at hj
  have : j = i := by simpa using hj
  subst this
  unfold wpOp
  simp only [hi, hw, if_true]
  exact .inl (h _ (fun a' w' h1 h2 => ⟨hb ▸ h1, h2⟩))
theorem Till.done {l : Array Bool} {a : Act} {w : World} (hr : Region.ready md ops l = []) (h : Q .normal a w) : ∀ f, Till P md ops Q s S f l a w
  | 0 => ⟨hr, h⟩
  | _ + 1 => ⟨fun _ => h, by rw [hr]; simp⟩
/-- one that does not come up, since its guard says so -/
theorem Till.skip {i : Nat} {d : Tmp} {o : Oper} {f : Nat} {l : Array Bool} {a : Act} {w : World} (hi : ops[i]? = some o) (hd : o.dst = some d) (hsel : Region.noSelect ops = true) (hf : Region.free md ops l i = true) (hr : (Region.ready md ops l).contains i = true)
    (hn : (s != i) = true) (hQ : ∀ c a w, Q (.panic c) (a.put o.dst undef) w → Q (.panic c) a w) (hS : S (l.getD s false) w) (hw : Region.wanted o (yielded ops a.tmps) = false)
    (hb : (!(l.getD s false) || !(Region.waitsFor md ops s i)) = true) (h : Till P md ops Q s S f (l.setIfInBounds i true) (a.put (some d) undef) w) : Till P md ops Q s S (f + 1) l a w := by
  rw [← hd] at h
  refine Till.first (G := fun _ => True) hi hsel (by simpa using hn) hQ (fun _ _ _ _ => trivial) f l a w (Region.free_spec hi hf) (by simpa using hr) (fun q => ?_) (.inr ⟨hw, rfl⟩) hS h
  rw [q] at hb
  simpa using hb
theorem Till.region {id : Nat} {a : Act} {w : World} (hm : P.follows .mixedOrders = true) (h : Till P .any ops Q s S ops.size (Array.replicate ops.size false) a w.drew) : (Code.region id ops true).wp P Q a w :=
  wp_region_any hm (Till.any _ _ _ _ h)
end
/-- a condition that is asked till the store has come up -/
def TillS (p : World → Prop) (b : Bool) (w : World) : Prop := b = false → p w
theorem tillS_true (p : World → Prop) (w : World) : TillS p true w := fun h => by cases h
theorem tillS (p : World → Prop) (w : World) (h : p w) : TillS p false w := fun _ => h
theorem one_grid (I : Int) (a : Option Addr) (n c : Nat) : (#[.int .i64 I, .slice a n c] : Array Value).all (·.oneCell') = true := by simp [Value.oneCell']
theorem grid_row {w : World} {M g R : Nat} {P : Nat → Bool} (h : GridAt w M g P) {old cs : Array Value} (_hR : w.heap[R]? = some (.cells old 78)) (hne : ¬ g = R) : GridAt (w.setRow R cs) M g P :=
  ⟨by have := h.lt; simpa using this, fun i hi => (World.cell?_of_block (a := ⟨g, i, none⟩) (setRow_other w R g cs hne)).trans (h.at_ i hi)⟩
end Go.Proofs.YtgimphkamjojpaaDoor.Dr
namespace Go.Proofs.YtgimphkamjojpaaDoor.Dr
open Go.RowKit Ti Ru

/-- the grid one generation on, in a row -/
def nxP (b l N : Nat) (L : Nat → Bool) : Nat → Bool := fun i => gen b l (gpl N L) ((i % N : Nat) : Int) ((i / N : Nat) : Int)
theorem nxP_at (b l N : Nat) (L : Nat → Bool) (x y : Nat) (hx : x < N) : nxP b l N L (N * y + x) = gen b l (gpl N L) (x : Int) (y : Int) := by
  unfold nxP
  rw [Nat.mul_add_mod, Nat.mod_eq_of_lt hx, Nat.mul_add_div (by omega), Nat.div_eq_of_lt hx, Nat.add_zero]
theorem nxP_plane (b l N : Nat) (L : Nat → Bool) : Ag (gpl N (nxP b l N L)) (gen b l (gpl N L)) 0 ((N : Int) - 1) 0 ((N : Int) - 1) := by
  intro x y x0 x1 y0 y1
  obtain ⟨x, rfl⟩ := Int.eq_ofNat_of_zero_le x0
  obtain ⟨y, rfl⟩ := Int.eq_ofNat_of_zero_le y0
  rw [gpl_nat _ _ _ _ (by omega) (by omega), nxP_at _ _ _ _ _ _ (by omega)]
/-- neighbours, the first so many of nine -/
def cn9 (p : Pl) (x y : Nat) : Nat → Nat
  | 0 => 0
  | k + 1 => cn9 p x y k + (if k = 4 then 0 else (p ((x : Int) + (k : Int) % 3 - 1) ((y : Int) + (k : Int) / 3 - 1)).toNat)
theorem cn9_le (p : Pl) (x y : Nat) : ∀ k, cn9 p x y k ≤ k
  | 0 => Nat.le_refl _
  | k + 1 => by
    have := cn9_le p x y k
    have h := toNat_le (p ((x : Int) + (k : Int) % 3 - 1) ((y : Int) + (k : Int) / 3 - 1))
    rw [cn9]
    split <;> omega
theorem cn9_all (p : Pl) (x y : Nat) : cn9 p x y 9 = nbr p x y := by
  simp only [cn9]
  unfold nbr
  simp
  have ex : (x : Int) + 2 - 1 = (x : Int) + 1 := by omega
  have ey : (y : Int) + 2 - 1 = (y : Int) + 1 := by omega
  rw [ex, ey]
  omega
theorem nbr_le (p : Pl) (x y : Int) : nbr p x y ≤ 8 := by
  unfold nbr
  have h1 := toNat_le (p (x - 1) (y - 1))
  have h2 := toNat_le (p x (y - 1))
  have h3 := toNat_le (p (x + 1) (y - 1))
  have h4 := toNat_le (p (x - 1) (y + 1))
  have h5 := toNat_le (p x (y + 1))
  have h6 := toNat_le (p (x + 1) (y + 1))
  have h7 := toNat_le (p (x - 1) y)
  have h8 := toNat_le (p (x + 1) y)
  omega
/-- where the next grid is built, with the rule and the grid beside it -/
structure NxAt (w ws : World) (r l : Nat) (I : Int) (M g cp : Nat) (P : Nat → Bool) (m : Nat) (v : Value) : Prop where
  out : OutAt w ws (w.heap.size + 2) (w.heap.size + 3) (w.heap.size + 4) I P m v
  rb : ws.heap[w.heap.size]? = some (.cells #[.int .u16 r, .int .u16 l] 24)
  gb : ws.heap[w.heap.size + 1]? = some (.cells #[.int .i64 I, .slice (some ⟨g, 0, none⟩) M cp] 78)
theorem NxAt.on {w ws w' : World} {r l M g cp m : Nat} {I : Int} {P : Nat → Bool} {v : Value} (h : NxAt w ws r l I M g cp P m v) (k : Below ws.heap.size ws w') : NxAt w w' r l I M g cp P m v :=
  ⟨h.out.on k, (k.block _ (lt_of_block h.rb)).trans h.rb, (k.block _ (lt_of_block h.gb)).trans h.gb⟩
theorem NxAt.keep {w ws : World} {r l M g cp m : Nat} {I : Int} {P : Nat → Bool} {v : Value} (h : NxAt w ws r l I M g cp P m v) :
    (ws.cell? ⟨w.heap.size + 3, 1, none⟩ = some v ∧ ws.cell? ⟨w.heap.size, 0, none⟩ = some (.int .u16 r) ∧ ws.cell? ⟨w.heap.size, 1, none⟩ = some (.int .u16 l)) ∧ ws.cell? ⟨w.heap.size + 1, 0, none⟩ = some (.int .i64 I) ∧ ws.cell? ⟨w.heap.size + 1, 1, none⟩ = some (.slice (some ⟨g, 0, none⟩) M cp) :=
  ⟨⟨h.out.cells.1, cell_of_row _ _ 0 _ _ _ h.rb, cell_of_row _ _ 1 _ _ _ h.rb⟩, cell_of_row _ _ 0 _ _ _ h.gb, cell_of_row _ _ 1 _ _ _ h.gb⟩
theorem NxAt.grow {w ws w2 : World} {r l M g cp m : Nat} {I : Int} {P : Nat → Bool} {v v2 : Value} {q : Bool} (h : NxAt w ws r l I M g cp P m v) (hq : q = P m) (hown : w2.ownsRow (w.heap.size + 4) 4 1 v2 (m + 1) (bls P m ++ [.bool q])) (hg : (ws.alloc (.cells #[.bool q] 4)).grownBy w2 v.ownBlock) :
    NxAt w (w2.setCell ⟨w.heap.size + 3, 1, none⟩ v2) r l I M g cp P (m + 1) v2 ∧ ((w2.cell? ⟨w.heap.size + 3, 1, none⟩ = some v ∧ w2.cell? ⟨w.heap.size, 0, none⟩ = some (.int .u16 r) ∧ w2.cell? ⟨w.heap.size, 1, none⟩ = some (.int .u16 l)) ∧ w2.cell? ⟨w.heap.size + 1, 0, none⟩ = some (.int .i64 I) ∧ w2.cell? ⟨w.heap.size + 1, 1, none⟩ = some (.slice (some ⟨g, 0, none⟩) M cp)) ∧ w2.frozen? ⟨w.heap.size + 3, 1, none⟩ = false := by
  have k := h.out.grow hq hown hg
  have h0 := (k.2.2.2.2.block w.heap.size (by omega)).trans h.rb
  have h1 := (k.2.2.2.2.block (w.heap.size + 1) (by omega)).trans h.gb
  exact ⟨⟨k.1, (heap_setCell_other _ _ _ _ (by show ¬ w.heap.size = w.heap.size + 3; omega)).trans h0, (heap_setCell_other _ _ _ _ (by show ¬ w.heap.size + 1 = w.heap.size + 3; omega)).trans h1⟩,
    ⟨⟨k.2.1, cell_of_row _ _ 0 _ _ _ h0, cell_of_row _ _ 1 _ _ _ h0⟩, cell_of_row _ _ 0 _ _ _ h1, cell_of_row _ _ 1 _ _ _ h1⟩, k.2.2.1⟩
theorem four_boxes (w : World) (o1 o2 o3 o4 : Obj) : ((((w.alloc o1).alloc o2).alloc o3).alloc o4).heap[w.heap.size]? = some o1 ∧ ((((w.alloc o1).alloc o2).alloc o3).alloc o4).heap[w.heap.size + 1]? = some o2 ∧ ((((w.alloc o1).alloc o2).alloc o3).alloc o4).heap[w.heap.size + 2]? = some o3 ∧ ((((w.alloc o1).alloc o2).alloc o3).alloc o4).heap[w.heap.size + 3]? = some o4 ∧ Below w.heap.size w ((((w.alloc o1).alloc o2).alloc o3).alloc o4) ∧ ((((w.alloc o1).alloc o2).alloc o3).alloc o4).heap.size = w.heap.size + 4 := by
  have h1 := two_boxes w o1 o2
  generalize (w.alloc o1).alloc o2 = w2 at *
  have h2 := two_boxes w2 o3 o4
  have e : w2.heap.size = w.heap.size + 2 := h1.2.2.2
  refine ⟨(h2.2.2.1.block _ (by omega)).trans h1.1, (h2.2.2.1.block _ (by omega)).trans h1.2.1, by rw [← e]; exact h2.1, by rw [show w.heap.size + 3 = w2.heap.size + 1 by omega]; exact h2.2.1, h1.2.2.1.trans (h2.2.2.1.mono (by omega)), by rw [h2.2.2.2]; omega⟩
theorem nx_start (r l : Nat) (I : Int) (M g cp : Nat) (P : Nat → Bool) (w : World) : NxAt w ((((w.alloc (.cells #[.int .u16 r, .int .u16 l] 24)).alloc (.cells #[.int .i64 I, .slice (some ⟨g, 0, none⟩) M cp] 78)).alloc (.cells #[.int .i64 0, .slice none 0 0] 78)).alloc (.cells #[.int .i64 I, .slice none 0 0] 78)) r l I M g cp P 0 (.slice none 0 0) := by
  have h := four_boxes w (.cells #[.int .u16 r, .int .u16 l] 24) (.cells #[.int .i64 I, .slice (some ⟨g, 0, none⟩) M cp] 78) (.cells #[.int .i64 0, .slice none 0 0] 78) (.cells #[.int .i64 I, .slice none 0 0] 78)
  exact ⟨⟨h.2.2.2.1, h.2.2.1, World.ownsRow_nil _ _ _ _, h.2.2.2.2.1, by rw [h.2.2.2.2.2]; exact Nat.le_refl _, by omega⟩, h.1, h.2.1⟩
theorem isN_facts {N M : Nat} {I : Int} (h : isN N M I) : I = (N : Int) ∧ N ≤ 64 ∧ 0 < N ∧ M = N * N := by
  rcases h with ⟨rfl, rfl, rfl⟩ | ⟨rfl, rfl, rfl⟩ | ⟨rfl, rfl, rfl⟩ <;> decide
theorem ny_le {N x y : Nat} (hN : N ≤ 64) (hx : x ≤ N) (hy : y < N) : N * y + x ≤ 4200 := by
  have h1 : N * y ≤ N * N := Nat.mul_le_mul_left N (by omega)
  have h2 : N * N ≤ 64 * 64 := Nat.mul_le_mul hN hN
  omega
set_option maxRecDepth 100000 in
set_option maxHeartbeats 2000000 in
theorem next_grid (r l : Nat) (N M g cp : Nat) (I : Int) (L : Nat → Bool) (hr : r < 65536) (hl : l < 65536) (hN : isN N M I) (w : World) (hG : GridAt w M g L) :
    Calls Tryd.prog 31 #[Rv r l, Gv I (.slice (some ⟨g, 0, none⟩) M cp)] w fun e w' => ∃ g' cap, e = .returned (Gv I (.slice (some ⟨g', 0, none⟩) M cap)) ∧ GridAt w' M g' (nxP r l N L) ∧ Below w.heap.size w w' := by
  obtain ⟨hI, hN24, hN0, hM⟩ := isN_facts hN
  have HAT := Lib.hid (fun x y w (h : GridAt w M g L) => at_ref N M g cp I L x y hN w h.lt h.at_)
  have HNX := Lib.hid (fun x n hn w => next_ref r l x n hr hl hn w)
  have HGr := Lib.hid hG
  have HO0 := Lib.hid (nx_start r l I M g cp (nxP r l N L) w)
  have HPA := Lib.hid (nxP_at r l N L)
  obtain ⟨P, hP⟩ : ∃ P, P = nxP r l N L := ⟨_, rfl⟩
  rw [← hP] at HO0 HPA ⊢
  clear hP hG hN
  obtain ⟨p, hp⟩ : ∃ p, p = gpl N L := ⟨_, rfl⟩
  rw [← hp] at HAT HPA
  clear hp
  have HMN := Lib.hid hM
  have HIN := Lib.hid hI
  have i0 : (0 : Int) ≤ I := by omega
  have i1 : I ≤ 64 := by omega
  unfold Rv at *
  clear hM hI
  go_enter Tryd.func31, Tryd.ntmps31
  go_wp2
  generalize ((((w.alloc (.cells #[.int .u16 r, .int .u16 l] 24)).alloc (.cells #[.int .i64 I, .slice (some ⟨g, 0, none⟩) M cp] 78)).alloc (.cells #[.int .i64 0, .slice none 0 0] 78)).alloc (.cells #[.int .i64 I, .slice none 0 0] 78)) = W1 at HO0 ⊢
  go_loopw [6] (fun i ws => ∃ (y : Nat) (v : Value), y ≤ N ∧ i = .int .i64 (y : Int) ∧ Hid (NxAt w ws r l I M g cp P (N * y) v)) (fun i _ => N - (intOf i).toNat)
  case atStart => exact ⟨0, _, by omega, rfl, HO0⟩
  case round =>
    obtain ⟨y, v0, hy, rfl, HY⟩ := hrel
    have y0 : (0 : Int) ≤ (y : Int) := by omega
    have n0 := HY.out.keep.2.1
    by_cases hly : y < N
    · have y1 : (y : Int) < I := by rw [HIN.out]; omega
      go_wp2
      go_loopw [7] (fun i ws => ∃ (x : Nat) (v : Value), x ≤ N ∧ i = .int .i64 (x : Int) ∧ Hid (NxAt w ws r l I M g cp P (N * y + x) v)) (fun i _ => N - (intOf i).toNat)
      case atStart => exact ⟨0, v0, by omega, rfl, HY⟩
      case round =>
        obtain ⟨x, v, hx, rfl, HX⟩ := hrel
        have x0 : (0 : Int) ≤ (x : Int) := by omega
        have n0 := HX.out.keep.2.1
        by_cases hlx : x < N
        · have x1 : (x : Int) < I := by rw [HIN.out]; omega
          go_wp2
          go_loopw [8, 9] (fun c i ws => ∃ k : Nat, k ≤ 9 ∧ i = .int .i64 (k : Int) ∧ c = .int .i64 ((cn9 p x y k : Nat) : Int) ∧ Hid (NxAt w ws r l I M g cp P (N * y + x) v)) (fun _ i _ => 9 - (intOf i).toNat)
          case atStart => exact ⟨0, by omega, rfl, rfl, HX⟩
          case round =>
            obtain ⟨k, hk, rfl, rfl, HZ⟩ := hrel
            have k0 : (0 : Int) ≤ (k : Int) := by omega
            have hcl := Lib.hid (cn9_le p x y k)
            have c0 : (0 : Int) ≤ ((cn9 p x y k : Nat) : Int) := by omega
            have c1 : ((cn9 p x y k : Nat) : Int) ≤ 9 := by have := hcl.out; omega
            by_cases hlk : k < 9
            · have k1 : (k : Int) < 9 := by omega
              have hstep := Lib.hid (show cn9 p x y (k + 1) = cn9 p x y k + (if k = 4 then 0 else (p ((x : Int) + (k : Int) % 3 - 1) ((y : Int) + (k : Int) / 3 - 1)).toNat) from rfl)
              by_cases h4 : k = 4
              · subst h4
                have hs2 := Lib.hid (show cn9 p x y 5 = cn9 p x y 4 from hstep.out.trans (by simp))
                go_wp2
                go_roundw
                case rel => exact ⟨5, by omega, rfl, by rw [hs2.out], HZ⟩
                case measure => simp [intOf]
              · have h4i : ¬ (k : Int) = 4 := by omega
                have HAt := Lib.hid (fun w h => HAT.out ((x : Int) + (k : Int) % 3 - 1) ((y : Int) + (k : Int) / 3 - 1) w h)
                rw [if_neg h4] at hstep
                obtain ⟨z0, z1⟩ := HZ.out.keep.2
                generalize p ((x : Int) + (k : Int) % 3 - 1) ((y : Int) + (k : Int) / 3 - 1) = q at HAt hstep
                cases q
                all_goals
                  go_wp2_with (go_at_call 49; refine (HAt.out _ (HGr.out.on HZ.out.out.below (Nat.le_refl _))).mono ?_; rintro e w3 ⟨rfl, hb⟩; have HZ2 := Lib.hid (HZ.out.on hb); clear hb)
                  go_roundw
                  case rel => exact ⟨k + 1, by omega, by go_num, by rw [hstep.out]; simp, HZ2⟩
                  case measure => simp [intOf]; omega
            · obtain rfl : k = 9 := by omega
              have HCN := Lib.hid (cn9_all p x y)
              rw [HCN.out] at c0 c1 ⊢
              have HNx := Lib.hid (fun w => HNX.out (p x y) (nbr p x y) (nbr_le p x y) w)
              have HM := Lib.hid (ny_le hN24 hx hly)
              have HD := Lib.hid (HZ.out.on (Below.refl _ wr).drew)
              obtain ⟨q, hq⟩ : ∃ q, q = P (N * y + x) := ⟨_, rfl⟩
              have HQ := Lib.hid hq
              have HPx := Lib.hid (show pick r l (p x y) (nbr p x y) = q by rw [hq, HPA.out x y hlx]; rfl)
              rw [HPx.out] at HNx
              have HAt := Lib.hid (fun w h => HAT.out (x : Int) (y : Int) w h)
              clear hq hcl HPx HCN
              generalize nbr p x y = nb at HNx c0 c1 ⊢
              generalize p x y = px at HNx HAt
              have hS0 := tillS (fun w' => (w'.cell? ⟨w.heap.size + 3, 1, none⟩ = some v ∧ w'.cell? ⟨w.heap.size, 0, none⟩ = some (.int .u16 r) ∧ w'.cell? ⟨w.heap.size, 1, none⟩ = some (.int .u16 l)) ∧ w'.cell? ⟨w.heap.size + 1, 0, none⟩ = some (.int .i64 I) ∧ w'.cell? ⟨w.heap.size + 1, 1, none⟩ = some (.slice (some ⟨g, 0, none⟩) M cp)) wr.drew HD.out.keep
              go_wp2
              refine Till.region (s := 12) (S := TillS (fun w' => (w'.cell? ⟨w.heap.size + 3, 1, none⟩ = some v ∧ w'.cell? ⟨w.heap.size, 0, none⟩ = some (.int .u16 r) ∧ w'.cell? ⟨w.heap.size, 1, none⟩ = some (.int .u16 l)) ∧ w'.cell? ⟨w.heap.size + 1, 0, none⟩ = some (.int .i64 I) ∧ w'.cell? ⟨w.heap.size + 1, 1, none⟩ = some (.slice (some ⟨g, 0, none⟩) M cp))) (by kernel_rfl) ?_
              simp only [List.size_toArray, List.length_cons, List.length_nil]
              refine Till.move (i := 0) (d := 47) (v := ?_) rfl rfl (by kernel_rfl) (by kernel_rfl) (by kernel_rfl) (by kernel_rfl) (fun _ _ _ h => h) hS0 ?_ (by rfl) (by kernel_rfl) ?_
              rotate_left 1
              · intro w
                go_simp
                try with_reducible rfl
              dsimp only [Act.put]
              simp only [List.setIfInBounds_toArray, List.set_cons_zero, List.set_cons_succ]
              refine Till.load (i := 1) (d := 48) (v := ?_) rfl rfl (by kernel_rfl) (by kernel_rfl) (by kernel_rfl) (by kernel_rfl) (fun _ _ _ h => h) hS0 ?_ (by rfl) ?_
              rotate_left 1
              · intro w' hx
                obtain ⟨⟨z1, z2, z3⟩, z4, z5⟩ := hx rfl
                go_simp
                try with_reducible rfl
              dsimp only [Act.put]
              simp only [List.setIfInBounds_toArray, List.set_cons_zero, List.set_cons_succ]
              refine Till.load (i := 2) (d := 49) (v := ?_) rfl rfl (by kernel_rfl) (by kernel_rfl) (by kernel_rfl) (by kernel_rfl) (fun _ _ _ h => h) hS0 ?_ (by rfl) ?_
              rotate_left 1
              · intro w' hx
                obtain ⟨⟨z1, z2, z3⟩, z4, z5⟩ := hx rfl
                go_simp
                try with_reducible rfl
              dsimp only [Act.put]
              simp only [List.setIfInBounds_toArray, List.set_cons_zero, List.set_cons_succ]
              refine Till.load (i := 3) (d := 50) (v := ?_) rfl rfl (by kernel_rfl) (by kernel_rfl) (by kernel_rfl) (by kernel_rfl) (fun _ _ _ h => h) hS0 ?_ (by rfl) ?_
              rotate_left 1
              · intro w' hx
                obtain ⟨⟨z1, z2, z3⟩, z4, z5⟩ := hx rfl
                go_simp
                try with_reducible rfl
              dsimp only [Act.put]
              simp only [List.setIfInBounds_toArray, List.set_cons_zero, List.set_cons_succ]
              refine Till.move (i := 4) (d := 51) (v := ?_) rfl rfl (by kernel_rfl) (by kernel_rfl) (by kernel_rfl) (by kernel_rfl) (fun _ _ _ h => h) hS0 ?_ (by rfl) (by kernel_rfl) ?_
              rotate_left 1
              · intro w
                go_simp
                try with_reducible rfl
              dsimp only [Act.put]
              simp only [List.setIfInBounds_toArray, List.set_cons_zero, List.set_cons_succ]
              refine Till.move (i := 5) (d := 52) (v := ?_) rfl rfl (by kernel_rfl) (by kernel_rfl) (by kernel_rfl) (by kernel_rfl) (fun _ _ _ h => h) hS0 ?_ (by rfl) (by kernel_rfl) ?_
              rotate_left 1
              · intro w
                go_simp
                try with_reducible rfl
              dsimp only [Act.put]
              simp only [List.setIfInBounds_toArray, List.set_cons_zero, List.set_cons_succ]
              refine Till.move (i := 7) (d := 54) (v := ?_) rfl rfl (by kernel_rfl) (by kernel_rfl) (by kernel_rfl) (by kernel_rfl) (fun _ _ _ h => h) hS0 ?_ (by rfl) (by kernel_rfl) ?_
              rotate_left 1
              · intro w
                go_simp
                try with_reducible rfl
              dsimp only [Act.put]
              simp only [List.setIfInBounds_toArray, List.set_cons_zero, List.set_cons_succ]
              refine Till.only false (i := 6) rfl (by kernel_rfl) (by rfl) (by kernel_rfl) fun K hK => ?_
              go_simp
              refine (HAt.out _ (HGr.out.on HD.out.out.below (Nat.le_refl _))).mono ?_
              rintro e w3 ⟨rfl, hb3⟩
              have HD3 := Lib.hid (HD.out.on hb3)
              clear hb3
              have hS3 := tillS (fun w' => (w'.cell? ⟨w.heap.size + 3, 1, none⟩ = some v ∧ w'.cell? ⟨w.heap.size, 0, none⟩ = some (.int .u16 r) ∧ w'.cell? ⟨w.heap.size, 1, none⟩ = some (.int .u16 l)) ∧ w'.cell? ⟨w.heap.size + 1, 0, none⟩ = some (.int .i64 I) ∧ w'.cell? ⟨w.heap.size + 1, 1, none⟩ = some (.slice (some ⟨g, 0, none⟩) M cp)) w3 HD3.out.keep
              refine hK.out _ _ hS3 ?_
              clear hK K
              refine Till.only false (i := 8) rfl (by kernel_rfl) (by rfl) (by kernel_rfl) fun K hK => ?_
              go_simp
              refine (HNx.out _).mono ?_
              rintro e w4 ⟨rfl, hb4⟩
              have HD4 := Lib.hid (HD3.out.on hb4)
              clear hb4
              have hS4 := tillS (fun w' => (w'.cell? ⟨w.heap.size + 3, 1, none⟩ = some v ∧ w'.cell? ⟨w.heap.size, 0, none⟩ = some (.int .u16 r) ∧ w'.cell? ⟨w.heap.size, 1, none⟩ = some (.int .u16 l)) ∧ w'.cell? ⟨w.heap.size + 1, 0, none⟩ = some (.int .i64 I) ∧ w'.cell? ⟨w.heap.size + 1, 1, none⟩ = some (.slice (some ⟨g, 0, none⟩) M cp)) w4 HD4.out.keep
              refine hK.out _ _ hS4 ?_
              clear hK K
              have HOA := Lib.hid (HD4.out.on (alX _ (.cells #[.bool q] 4)))
              have hS5 := tillS (fun w' => (w'.cell? ⟨w.heap.size + 3, 1, none⟩ = some v ∧ w'.cell? ⟨w.heap.size, 0, none⟩ = some (.int .u16 r) ∧ w'.cell? ⟨w.heap.size, 1, none⟩ = some (.int .u16 l)) ∧ w'.cell? ⟨w.heap.size + 1, 0, none⟩ = some (.int .i64 I) ∧ w'.cell? ⟨w.heap.size + 1, 1, none⟩ = some (.slice (some ⟨g, 0, none⟩) M cp)) (w4.alloc (.cells #[.bool q] 4)) HOA.out.keep
              refine Till.only false (i := 9) rfl (by kernel_rfl) (by rfl) (by kernel_rfl) fun K hK => ?_
              go_simp
              refine hK.out _ _ hS5 ?_
              clear hK K
              refine Till.only false (i := 10) rfl (by kernel_rfl) (by rfl) (by kernel_rfl) fun K hK => ?_
              refine wp_appB (.tmp 48) (.tmp 56) rfl (w.heap.size + 4) (N * y + x) v (bls P (N * y + x)) rfl HOA.out.out.own ⟨w4.heap.size, 0, none⟩ q rfl (cell_of_row _ _ 0 _ _ _ (heap_alloc_new _ _)) HM.out HOA.out.out.size rfl 57 rfl ?_
              intro v2 w2 hown hgrow
              obtain ⟨g2, c2, rfl⟩ := ownsRow_succ hown
              have HR := Lib.hid (HD4.out.grow HQ.out hown hgrow)
              clear hown hgrow
              have b3 := HR.out.2.1.1.1
              have b4 := HR.out.2.2
              have hS6 := tillS (fun w' => (w'.cell? ⟨w.heap.size + 3, 1, none⟩ = some v ∧ w'.cell? ⟨w.heap.size, 0, none⟩ = some (.int .u16 r) ∧ w'.cell? ⟨w.heap.size, 1, none⟩ = some (.int .u16 l)) ∧ w'.cell? ⟨w.heap.size + 1, 0, none⟩ = some (.int .i64 I) ∧ w'.cell? ⟨w.heap.size + 1, 1, none⟩ = some (.slice (some ⟨g, 0, none⟩) M cp)) w2 HR.out.2.1
              refine hK.out _ _ hS6 ?_
              clear hK K
              dsimp only [Act.put]
              simp only [List.setIfInBounds_toArray, List.set_cons_zero, List.set_cons_succ]
              refine Till.move (i := 11) (d := 58) (v := ?_) rfl rfl (by kernel_rfl) (by kernel_rfl) (by kernel_rfl) (by kernel_rfl) (fun _ _ _ h => h) hS6 ?_ (by rfl) (by kernel_rfl) ?_
              rotate_left 1
              · intro w
                go_simp
                try with_reducible rfl
              dsimp only [Act.put]
              simp only [List.setIfInBounds_toArray, List.set_cons_zero, List.set_cons_succ]
              refine Till.only true (i := 12) rfl (by kernel_rfl) (by rfl) (by kernel_rfl) fun K hK => ?_
              go_simp
              refine hK.out _ _ (tillS_true _ _) ?_
              clear hK K
              refine Till.done (by kernel_rfl) ?_ _
              go_wp2
              go_roundw
              case rel => exact ⟨x + 1, _, by omega, by go_num, Lib.hid HR.out.1⟩
              case measure => simp [intOf]; omega
        · have x1 : ¬ (x : Int) < I := by rw [HIN.out]; omega
          obtain rfl : x = N := by omega
          go_wp2
          go_roundw
          case rel => exact ⟨y + 1, v, by omega, by go_num, by rw [Nat.mul_succ]; exact HX⟩
          case measure => simp [intOf]; omega
    · have y1 : ¬ (y : Int) < I := by rw [HIN.out]; omega
      have HMe := Lib.hid (show y * y = M by rw [HMN.out]; have : y = N := by omega
                                             rw [this])
      obtain rfl : y = N := by omega
      obtain ⟨g3, cap, rfl, hg, hgl, hc⟩ := own_bls HY.out.out.own (Nat.mul_pos hN0 hN0)
      rw [HMe.out] at hc
      have HGr3 := Lib.hid (show GridAt wr M g3 P from ⟨hgl, hc⟩)
      have b0 := HY.out.out.cells.1
      have b1 := HY.out.out.cells.2.2
      rw [HMe.out] at b0
      have HRs := Lib.hid HY.out.out.res
      have HNe := Lib.hid (show ¬ g3 = w.heap.size + 2 by omega)
      clear hg hgl hc
      go_wp2_with (refine wpList_store_row rfl 78 (.tmp 4) (.tmp 59) rfl (w.heap.size + 2) #[.int .i64 I, .slice (some ⟨g3, 0, none⟩) M cap] rfl rfl 78 _ HRs.out (by kernel_rfl) rfl (one_grid _ _ _ _) ?_)
      refine bodyPost_ret (results_cell_row Tryd.results31 _ _ (w.heap.size + 2) 78 #[.int .i64 I, .slice (some ⟨g3, 0, none⟩) M cap] (0, 0) _ rfl (setRow_heap _ _ _ _ _ _ HRs.out) Tryd.underlying78 rfl (by kernel_rfl)) rfl ⟨g3, ⟨cap, rfl⟩, grid_row HGr3.out HRs.out HNe.out, below_setRow HY.out.out.below _ (Nat.le_add_right _ 2) _⟩
end Go.Proofs.YtgimphkamjojpaaDoor.Dr
namespace Go.Proofs.YtgimphkamjojpaaDoor.Dr
open Go.RowKit Ti

/-- the middle of a grid of that width -/
def md16 (L : Nat → Bool) : Nat → Bool := fun i => L (16 * (4 + i / 8) + (4 + i % 8))
set_option maxRecDepth 100000 in
set_option maxHeartbeats 4000000 in
theorem middle_16 (g cp : Nat) (L : Nat → Bool) (w : World) (h : GridAt w 256 g L) :
    Calls Tryd.prog 16 #[.slice (some ⟨g, 0, none⟩) 256 cp, .int .i64 16] w fun e w' => ∃ g' cap, e = .returned (.slice (some ⟨g', 0, none⟩) 64 cap) ∧ GridAt w' 64 g' (md16 L) ∧ Below w.heap.size w w' := by
  obtain ⟨i0, hi, hz0, hz1, hz2⟩ := info_parts info_bl
  have HI := Lib.hid hi
  have HI0 := Lib.hid hz0
  have HI1 := Lib.hid hz1
  have HI2 := Lib.hid hz2
  have HG := Lib.hid h
  clear h hi hz0 hz1 hz2
  go_enter Tryd.func16, Tryd.ntmps16
  go_wp2
  go_loopw [5, 6] (fun v i ws => ∃ (yy m : Nat), 4 ≤ yy ∧ yy ≤ 12 ∧ m + 32 = 8 * yy ∧ i = .int .i64 (yy : Int) ∧ Hid (ws.ownsRow w.heap.size 4 1 v m (bls (md16 L) m)) ∧ Hid (Below w.heap.size w ws)) (fun _ i _ => 12 - (intOf i).toNat)
  case atStart => exact ⟨4, 0, by decide, by decide, by decide, rfl, Lib.hid (World.ownsRow_nil _ _ _ _), Lib.hid (Below.refl _ _)⟩
  case round =>
    obtain ⟨yy, m, ly, hy, em, rfl, HO, HB⟩ := hrel
    have y0 : (0 : Int) ≤ (yy : Int) := by omega
    by_cases hlt : yy < 12
    · have y1 : (yy : Int) < 12 := by omega
      go_wp2
      go_loopw [5, 7] (fun v i ws => ∃ (xx k : Nat), 4 ≤ xx ∧ xx ≤ 12 ∧ k + 4 = m + xx ∧ i = .int .i64 (xx : Int) ∧ Hid (ws.ownsRow w.heap.size 4 1 v k (bls (md16 L) k)) ∧ Hid (Below w.heap.size w ws)) (fun _ i _ => 12 - (intOf i).toNat)
      case atStart => exact ⟨4, m, by decide, by decide, by omega, rfl, HO, HB⟩
      case round =>
        obtain ⟨xx, k, lx, hx, ek, rfl, HO, HB⟩ := hrel
        have x0 : (0 : Int) ≤ (xx : Int) := by omega
        by_cases hlx : xx < 12
        · have x1 : (xx : Int) < 12 := by omega
          obtain ⟨n, hn⟩ : ∃ n, n = 16 * yy + xx := ⟨_, rfl⟩
          have hc := (HG.out.on HB.out (Nat.le_refl _)).at_ n (by omega)
          have E : (16 : Int) * (yy : Int) + (xx : Int) = (n : Int) := by omega
          have n0 : (0 : Int) ≤ (n : Int) := by omega
          have n1 : (n : Int) < 256 := by omega
          have HP := Lib.hid (show L n = md16 L k from by
            unfold md16
            rw [show 16 * (4 + k / 8) + (4 + k % 8) = n by omega])
          have HS := Lib.hid (row_bytes k (by omega))
          have HE := Lib.hid (And.intro lx (And.intro ek (And.intro hlx hlt)))
          have hw := wrapn n (by omega)
          generalize L n = q at hc HP
          clear hn lx ek hx hlx em ly hy hlt
          go_wp2_with (at_builtin; refine wpList_append_own _ rfl (.tmp 26) (.tmp 35) 40 rfl w.heap.size 4 i0 (.bool false) 1 1 Tryd.underlying40 HI.out HI0.out HI1.out HI2.out rfl (by decide) u5 k (bls (md16 L) k) rfl (HO.out.alloc _) ⟨wr.heap.size, 0, none⟩ 1 1 [.bool q] rfl rfl (cell_one_new _ _ _) (by simp [Value.oneCell']) HS.out.1 HS.out.2 (by have := HB.out.size; simp; omega) ?_; intro v2 w2 hown hgrow _; have HR := Lib.hid (push_row HB.out HO.out HP.out hown hgrow); clear hown hgrow)
          go_roundw
          case rel => exact ⟨xx + 1, k + 1, by have := HE.out; omega, by have := HE.out; omega, by have := HE.out; omega, by go_num, Lib.hid HR.out.1, Lib.hid HR.out.2⟩
          case measure => have := HE.out; simp [intOf]; omega
        · obtain rfl : xx = 12 := by omega
          go_wp2
          go_roundw
          case rel => exact ⟨yy + 1, k, by omega, by omega, by omega, by go_num, HO, HB⟩
          case measure => simp [intOf]; omega
    · obtain rfl : yy = 12 := by omega
      obtain rfl : m = 64 := by omega
      obtain ⟨g2, cap2, rfl, hg2, hl2, hc2⟩ := own_bls HO.out (by decide)
      have HR := Lib.hid (show GridAt wr 64 g2 (md16 L) from ⟨hl2, hc2⟩)
      clear hg2 hl2 hc2
      go_wp2
      go_ret
      exact ⟨g2, ⟨cap2, rfl⟩, HR.out, HB.out⟩
/-- the middle of a grid of that width -/
def md32 (L : Nat → Bool) : Nat → Bool := fun i => L (32 * (8 + i / 16) + (8 + i % 16))
set_option maxRecDepth 100000 in
set_option maxHeartbeats 4000000 in
theorem middle_32 (g cp : Nat) (L : Nat → Bool) (w : World) (h : GridAt w 1024 g L) :
    Calls Tryd.prog 16 #[.slice (some ⟨g, 0, none⟩) 1024 cp, .int .i64 32] w fun e w' => ∃ g' cap, e = .returned (.slice (some ⟨g', 0, none⟩) 256 cap) ∧ GridAt w' 256 g' (md32 L) ∧ Below w.heap.size w w' := by
  obtain ⟨i0, hi, hz0, hz1, hz2⟩ := info_parts info_bl
  have HI := Lib.hid hi
  have HI0 := Lib.hid hz0
  have HI1 := Lib.hid hz1
  have HI2 := Lib.hid hz2
  have HG := Lib.hid h
  clear h hi hz0 hz1 hz2
  go_enter Tryd.func16, Tryd.ntmps16
  go_wp2
  go_loopw [5, 6] (fun v i ws => ∃ (yy m : Nat), 8 ≤ yy ∧ yy ≤ 24 ∧ m + 128 = 16 * yy ∧ i = .int .i64 (yy : Int) ∧ Hid (ws.ownsRow w.heap.size 4 1 v m (bls (md32 L) m)) ∧ Hid (Below w.heap.size w ws)) (fun _ i _ => 24 - (intOf i).toNat)
  case atStart => exact ⟨8, 0, by decide, by decide, by decide, rfl, Lib.hid (World.ownsRow_nil _ _ _ _), Lib.hid (Below.refl _ _)⟩
  case round =>
    obtain ⟨yy, m, ly, hy, em, rfl, HO, HB⟩ := hrel
    have y0 : (0 : Int) ≤ (yy : Int) := by omega
    by_cases hlt : yy < 24
    · have y1 : (yy : Int) < 24 := by omega
      go_wp2
      go_loopw [5, 7] (fun v i ws => ∃ (xx k : Nat), 8 ≤ xx ∧ xx ≤ 24 ∧ k + 8 = m + xx ∧ i = .int .i64 (xx : Int) ∧ Hid (ws.ownsRow w.heap.size 4 1 v k (bls (md32 L) k)) ∧ Hid (Below w.heap.size w ws)) (fun _ i _ => 24 - (intOf i).toNat)
      case atStart => exact ⟨8, m, by decide, by decide, by omega, rfl, HO, HB⟩
      case round =>
        obtain ⟨xx, k, lx, hx, ek, rfl, HO, HB⟩ := hrel
        have x0 : (0 : Int) ≤ (xx : Int) := by omega
        by_cases hlx : xx < 24
        · have x1 : (xx : Int) < 24 := by omega
          obtain ⟨n, hn⟩ : ∃ n, n = 32 * yy + xx := ⟨_, rfl⟩
          have hc := (HG.out.on HB.out (Nat.le_refl _)).at_ n (by omega)
          have E : (32 : Int) * (yy : Int) + (xx : Int) = (n : Int) := by omega
          have n0 : (0 : Int) ≤ (n : Int) := by omega
          have n1 : (n : Int) < 1024 := by omega
          have HP := Lib.hid (show L n = md32 L k from by
            unfold md32
            rw [show 32 * (8 + k / 16) + (8 + k % 16) = n by omega])
          have HS := Lib.hid (row_bytes k (by omega))
          have HE := Lib.hid (And.intro lx (And.intro ek (And.intro hlx hlt)))
          have hw := wrapn n (by omega)
          generalize L n = q at hc HP
          clear hn lx ek hx hlx em ly hy hlt
          go_wp2_with (at_builtin; refine wpList_append_own _ rfl (.tmp 26) (.tmp 35) 40 rfl w.heap.size 4 i0 (.bool false) 1 1 Tryd.underlying40 HI.out HI0.out HI1.out HI2.out rfl (by decide) u5 k (bls (md32 L) k) rfl (HO.out.alloc _) ⟨wr.heap.size, 0, none⟩ 1 1 [.bool q] rfl rfl (cell_one_new _ _ _) (by simp [Value.oneCell']) HS.out.1 HS.out.2 (by have := HB.out.size; simp; omega) ?_; intro v2 w2 hown hgrow _; have HR := Lib.hid (push_row HB.out HO.out HP.out hown hgrow); clear hown hgrow)
          go_roundw
          case rel => exact ⟨xx + 1, k + 1, by have := HE.out; omega, by have := HE.out; omega, by have := HE.out; omega, by go_num, Lib.hid HR.out.1, Lib.hid HR.out.2⟩
          case measure => have := HE.out; simp [intOf]; omega
        · obtain rfl : xx = 24 := by omega
          go_wp2
          go_roundw
          case rel => exact ⟨yy + 1, k, by omega, by omega, by omega, by go_num, HO, HB⟩
          case measure => simp [intOf]; omega
    · obtain rfl : yy = 24 := by omega
      obtain rfl : m = 256 := by omega
      obtain ⟨g2, cap2, rfl, hg2, hl2, hc2⟩ := own_bls HO.out (by decide)
      have HR := Lib.hid (show GridAt wr 256 g2 (md32 L) from ⟨hl2, hc2⟩)
      clear hg2 hl2 hc2
      go_wp2
      go_ret
      exact ⟨g2, ⟨cap2, rfl⟩, HR.out, HB.out⟩
/-- the middle of a grid of that width -/
def md64 (L : Nat → Bool) : Nat → Bool := fun i => L (64 * (16 + i / 32) + (16 + i % 32))
set_option maxRecDepth 100000 in
set_option maxHeartbeats 4000000 in
theorem middle_64 (g cp : Nat) (L : Nat → Bool) (w : World) (h : GridAt w 4096 g L) :
    Calls Tryd.prog 16 #[.slice (some ⟨g, 0, none⟩) 4096 cp, .int .i64 64] w fun e w' => ∃ g' cap, e = .returned (.slice (some ⟨g', 0, none⟩) 1024 cap) ∧ GridAt w' 1024 g' (md64 L) ∧ Below w.heap.size w w' := by
  obtain ⟨i0, hi, hz0, hz1, hz2⟩ := info_parts info_bl
  have HI := Lib.hid hi
  have HI0 := Lib.hid hz0
  have HI1 := Lib.hid hz1
  have HI2 := Lib.hid hz2
  have HG := Lib.hid h
  clear h hi hz0 hz1 hz2
  go_enter Tryd.func16, Tryd.ntmps16
  go_wp2
  go_loopw [5, 6] (fun v i ws => ∃ (yy m : Nat), 16 ≤ yy ∧ yy ≤ 48 ∧ m + 512 = 32 * yy ∧ i = .int .i64 (yy : Int) ∧ Hid (ws.ownsRow w.heap.size 4 1 v m (bls (md64 L) m)) ∧ Hid (Below w.heap.size w ws)) (fun _ i _ => 48 - (intOf i).toNat)
  case atStart => exact ⟨16, 0, by decide, by decide, by decide, rfl, Lib.hid (World.ownsRow_nil _ _ _ _), Lib.hid (Below.refl _ _)⟩
  case round =>
    obtain ⟨yy, m, ly, hy, em, rfl, HO, HB⟩ := hrel
    have y0 : (0 : Int) ≤ (yy : Int) := by omega
    by_cases hlt : yy < 48
    · have y1 : (yy : Int) < 48 := by omega
      go_wp2
      go_loopw [5, 7] (fun v i ws => ∃ (xx k : Nat), 16 ≤ xx ∧ xx ≤ 48 ∧ k + 16 = m + xx ∧ i = .int .i64 (xx : Int) ∧ Hid (ws.ownsRow w.heap.size 4 1 v k (bls (md64 L) k)) ∧ Hid (Below w.heap.size w ws)) (fun _ i _ => 48 - (intOf i).toNat)
      case atStart => exact ⟨16, m, by decide, by decide, by omega, rfl, HO, HB⟩
      case round =>
        obtain ⟨xx, k, lx, hx, ek, rfl, HO, HB⟩ := hrel
        have x0 : (0 : Int) ≤ (xx : Int) := by omega
        by_cases hlx : xx < 48
        · have x1 : (xx : Int) < 48 := by omega
          obtain ⟨n, hn⟩ : ∃ n, n = 64 * yy + xx := ⟨_, rfl⟩
          have hc := (HG.out.on HB.out (Nat.le_refl _)).at_ n (by omega)
          have E : (64 : Int) * (yy : Int) + (xx : Int) = (n : Int) := by omega
          have n0 : (0 : Int) ≤ (n : Int) := by omega
          have n1 : (n : Int) < 4096 := by omega
          have HP := Lib.hid (show L n = md64 L k from by
            unfold md64
            rw [show 64 * (16 + k / 32) + (16 + k % 32) = n by omega])
          have HS := Lib.hid (row_bytes k (by omega))
          have HE := Lib.hid (And.intro lx (And.intro ek (And.intro hlx hlt)))
          have hw := wrapn n (by omega)
          generalize L n = q at hc HP
          clear hn lx ek hx hlx em ly hy hlt
          go_wp2_with (at_builtin; refine wpList_append_own _ rfl (.tmp 26) (.tmp 35) 40 rfl w.heap.size 4 i0 (.bool false) 1 1 Tryd.underlying40 HI.out HI0.out HI1.out HI2.out rfl (by decide) u5 k (bls (md64 L) k) rfl (HO.out.alloc _) ⟨wr.heap.size, 0, none⟩ 1 1 [.bool q] rfl rfl (cell_one_new _ _ _) (by simp [Value.oneCell']) HS.out.1 HS.out.2 (by have := HB.out.size; simp; omega) ?_; intro v2 w2 hown hgrow _; have HR := Lib.hid (push_row HB.out HO.out HP.out hown hgrow); clear hown hgrow)
          go_roundw
          case rel => exact ⟨xx + 1, k + 1, by have := HE.out; omega, by have := HE.out; omega, by have := HE.out; omega, by go_num, Lib.hid HR.out.1, Lib.hid HR.out.2⟩
          case measure => have := HE.out; simp [intOf]; omega
        · obtain rfl : xx = 48 := by omega
          go_wp2
          go_roundw
          case rel => exact ⟨yy + 1, k, by omega, by omega, by omega, by go_num, HO, HB⟩
          case measure => simp [intOf]; omega
    · obtain rfl : yy = 48 := by omega
      obtain rfl : m = 1024 := by omega
      obtain ⟨g2, cap2, rfl, hg2, hl2, hc2⟩ := own_bls HO.out (by decide)
      have HR := Lib.hid (show GridAt wr 1024 g2 (md64 L) from ⟨hl2, hc2⟩)
      clear hg2 hl2 hc2
      go_wp2
      go_ret
      exact ⟨g2, ⟨cap2, rfl⟩, HR.out, HB.out⟩
end Go.Proofs.YtgimphkamjojpaaDoor.Dr
namespace Go.Proofs.YtgimphkamjojpaaDoor.Dr
open Go.RowKit Ti Ru

/-- a grid, so many generations on -/
def itP (b l N : Nat) (L : Nat → Bool) : Nat → (Nat → Bool)
  | 0 => L
  | n + 1 => nxP b l N (itP b l N L n)
/-- a rule and a grid in boxes -/
structure RG (W w : World) (r l M : Nat) (I : Int) (F : Nat → Bool) : Prop where
  rb : w.heap[W.heap.size]? = some (.cells #[.int .u16 r, .int .u16 l] 24)
  gx : ∃ g cap, w.heap[W.heap.size + 1]? = some (.cells #[.int .i64 I, .slice (some ⟨g, 0, none⟩) M cap] 78) ∧ GridAt w M g F ∧ ¬ g = W.heap.size + 1
  below : Below W.heap.size W w
theorem rg_start (r l : Nat) (I : Int) (M cp : Nat) {g : Nat} {L : Nat → Bool} {W : World} (h : GridAt W M g L) : RG W ((W.alloc (.cells #[.int .u16 r, .int .u16 l] 24)).alloc (.cells #[.int .i64 I, .slice (some ⟨g, 0, none⟩) M cp] 78)) r l M I L := by
  have k := two_boxes W (.cells #[.int .u16 r, .int .u16 l] 24) (.cells #[.int .i64 I, .slice (some ⟨g, 0, none⟩) M cp] 78)
  exact ⟨k.1, ⟨g, cp, k.2.1, h.on k.2.2.1 (Nat.le_refl _), by have := h.lt; omega⟩, k.2.2.1⟩
theorem RG.box {W w w3 : World} {r l M : Nat} {I : Int} {F : Nat → Bool} (h : RG W w r l M I F) (hb : Below w.heap.size w w3) : ∃ g cap, w3.heap[W.heap.size + 1]? = some (.cells #[.int .i64 I, .slice (some ⟨g, 0, none⟩) M cap] 78) := by
  obtain ⟨g, cap, hx, _⟩ := h.gx
  exact ⟨g, cap, (hb.block _ (lt_of_block hx)).trans hx⟩
theorem RG.step {W w w3 : World} {r l M g' cap : Nat} {I : Int} {F F' : Nat → Bool} (h : RG W w r l M I F) (hb : Below w.heap.size w w3) (hG : GridAt w3 M g' F') (hM : 0 < M := by decide) : RG W (w3.setRow (W.heap.size + 1) #[.int .i64 I, .slice (some ⟨g', 0, none⟩) M cap]) r l M I F' := by
  obtain ⟨g, cp, hx, _⟩ := h.gx
  have hx3 := (hb.block _ (lt_of_block hx)).trans hx
  have hne : ¬ g' = W.heap.size + 1 := fun e => by
    have h1 := hG.at_ 0 hM
    rw [e, cell_of_row _ _ 0 _ _ _ hx3] at h1
    cases h1
  refine ⟨?_, ⟨g', cap, setRow_heap _ _ _ _ _ _ hx3, grid_row hG hx3 hne, hne⟩, below_setRow (h.below.trans (hb.mono h.below.size)) _ (by omega) _⟩
  rw [setRow_other w3 (W.heap.size + 1) W.heap.size _ (by omega)]
  exact (hb.block _ (lt_of_block h.rb)).trans h.rb
set_option maxRecDepth 100000 in
set_option maxHeartbeats 4000000 in
theorem refGrow_16 (r l : Nat) (hr : r < 65536) (hl : l < 65536) (g cp : Nat) (L : Nat → Bool) (j : Nat) (hj : j ≤ 2) (w : World) (h : GridAt w 256 g L) :
    Calls Tryd.prog 15 #[.agg #[.int .u16 r, .int .u16 l], .slice (some ⟨g, 0, none⟩) 256 cp, .int .i64 4, .int .i64 j] w fun e w' => ∃ g' cap, e = .returned (.slice (some ⟨g', 0, none⟩) 64 cap) ∧ GridAt w' 64 g' (md16 (itP r l 16 L (2 ^ j))) ∧ Below w.heap.size w w' := by
  have HG := Lib.hid h
  have HNX := Lib.hid (fun gx cx F wx (hx : GridAt wx 256 gx F) => next_grid r l 16 256 gx cx 16 F hr hl (by unfold isN; omega) wx hx)
  unfold Rv Gv at HNX
  have HMD := Lib.hid (fun gx cx F wx hx => middle_16 gx cx F wx hx)
  have HA := Lib.hid (rg_start r l 16 256 cp h)
  have hp : 2 ^ j ≤ 16 := Nat.le_trans (Nat.pow_le_pow_right (by decide) hj) (by decide)
  have HP := Lib.hid hp
  have hj4 : (j : Int) ≤ 4 := by omega
  have hj0 : (0 : Int) ≤ (j : Int) := by omega
  have HJ := Lib.hid hj
  clear hr hl h hp hj
  go_enter Tryd.func15, Tryd.ntmps15
  go_wp2
  go_loop [9, 11] (fun a c => ∃ i : Nat, i ≤ 4 ∧ c = .int .i64 i ∧ a = .int .i64 ((2 ^ i : Nat) : Int)) (fun _ c => 4 - (intOf c).toNat)
  case atStart => exact ⟨0, by omega, rfl, rfl⟩
  case round =>
    obtain ⟨i, hi, rfl, rfl⟩ := hrel
    by_cases hlt : i < 4
    · have hd : 2 ^ i ≤ 64 := Nat.le_trans (Nat.pow_le_pow_right (by decide) (Nat.le_of_lt hlt)) (by decide)
      have hs : 2 ^ (i + 1) = 2 * 2 ^ i := by rw [Nat.pow_succ]; omega
      have HS := Lib.hid hs
      have HLT := Lib.hid hlt
      have i0 : (i : Int) < 4 := by omega
      have i1 : (0 : Int) ≤ (i : Int) := by omega
      clear hs hlt hi
      generalize 2 ^ i = q at *
      have q1 : (q : Int) ≤ 64 := by omega
      have q2 : (0 : Int) ≤ (q : Int) := by omega
      go_wp2
      go_round
      case rel => exact ⟨i + 1, by have := HLT.out; omega, by go_num, by rw [HS.out]; go_num⟩
      case measure => have := HLT.out; simp [intOf]; omega
    · obtain rfl : i = 4 := by omega
      rw [show (((2 ^ 4 : Nat)) : Int) = 16 by decide, show ((4 : Nat) : Int) = 4 by decide]
      clear hlt hi
      go_wp2
      go_loop [10, 12] (fun a c => ∃ i : Nat, i ≤ j ∧ c = .int .i64 i ∧ a = .int .i64 ((2 ^ i : Nat) : Int)) (fun _ c => j - (intOf c).toNat)
      case atStart => exact ⟨0, by omega, rfl, rfl⟩
      case round =>
        obtain ⟨i, hi, rfl, rfl⟩ := hrel
        by_cases hlt : i < j
        · have hd : 2 ^ i ≤ 16 := Nat.le_trans (Nat.pow_le_pow_right (by decide) (by have := HJ.out; omega : i ≤ 4)) (by decide)
          have hs : 2 ^ (i + 1) = 2 * 2 ^ i := by rw [Nat.pow_succ]; omega
          have HS := Lib.hid hs
          have HLT := Lib.hid hlt
          have i0 : (i : Int) < (j : Int) := by omega
          have i1 : (0 : Int) ≤ (i : Int) := by omega
          clear hs hlt hi
          generalize 2 ^ i = q at *
          have q1 : (q : Int) ≤ 16 := by omega
          have q2 : (0 : Int) ≤ (q : Int) := by omega
          go_wp2
          go_round
          case rel => exact ⟨i + 1, by have := HLT.out; omega, by go_num, by rw [HS.out]; go_num⟩
          case measure => have := HLT.out; simp [intOf]; omega
        · obtain rfl : i = j := by omega
          obtain ⟨T, hT⟩ : ∃ T, T = 2 ^ i := ⟨_, rfl⟩
          have hT16 : T ≤ 16 := by rw [hT]; exact HP.out
          have HTT := Lib.hid hT
          rw [← hT]
          clear hlt hi HP HJ hT
          go_wp2
          generalize World.alloc (World.alloc _ _) _ = W1 at HA ⊢
          go_loopw [14] (fun a wr => ∃ n : Nat, n ≤ T ∧ a = .int .i64 n ∧ Hid (RG w wr r l 256 16 (itP r l 16 L n))) (fun a _ => T - (intOf a).toNat)
          case atStart => exact ⟨0, by omega, rfl, HA⟩
          case round =>
            clear HA
            obtain ⟨n, hn, rfl, HR⟩ := hrel
            have n0 : (0 : Int) ≤ (n : Int) := by omega
            have t1 : (T : Int) ≤ 16 := by omega
            by_cases hlt : n < T
            · have n1 : (n : Int) < (T : Int) := by omega
              have HLT := Lib.hid hlt
              obtain ⟨gx, cx, hx, hG, hne⟩ := HR.out.gx
              obtain ⟨c0, c1⟩ := two_cells HR.out.rb
              obtain ⟨d0, d1⟩ := two_cells hx
              have HC := Lib.hid (HNX.out gx cx _ wr hG)
              clear hlt hn hx hG hne
              go_wp2_with (first
                | (go_at_call 31; refine HC.out.mono ?_; rintro e w3 ⟨g', cap, rfl, hG', hb⟩; obtain ⟨gy, cy, hy⟩ := HR.out.box hb; have HBX := Lib.hid hy; clear hy; have HRN := Lib.hid (HR.out.step (cap := cap) hb hG'); clear hb hG')
                | (refine wpList_store_row rfl 78 (.tmp 13) (.tmp 39) rfl (w.heap.size + 1) #[.int .i64 16, .slice (some ⟨g', 0, none⟩) 256 cap] rfl rfl 78 _ HBX.out (by kernel_rfl) rfl (one_grid _ _ _ _) ?_))
              go_roundw
              case rel => exact ⟨n + 1, by have := HLT.out; omega, by go_num, HRN⟩
              case measure => have := HLT.out; simp [intOf]; omega
            · obtain rfl : n = T := by omega
              have n1 : ¬ (n : Int) < (n : Int) := by omega
              obtain ⟨gx, cx, hx, hG, hne⟩ := HR.out.gx
              obtain ⟨d0, d1⟩ := two_cells hx
              have HC := Lib.hid (HMD.out gx cx _ wr hG)
              clear hlt hn hx hG hne
              go_wp2_with fail
              refine HC.out.mono ?_
              rintro e w3 ⟨g', cap, rfl, hG', hb⟩
              have HB := Lib.hid (And.intro hG' (HR.out.below.trans (hb.mono HR.out.below.size)))
              clear hb hG'
              go_wp2
              go_ret
              exact ⟨g', cap, rfl, by rw [← HTT.out]; exact HB.out.1, HB.out.2⟩
set_option maxRecDepth 100000 in
set_option maxHeartbeats 4000000 in
theorem refGrow_32 (r l : Nat) (hr : r < 65536) (hl : l < 65536) (g cp : Nat) (L : Nat → Bool) (j : Nat) (hj : j ≤ 3) (w : World) (h : GridAt w 1024 g L) :
    Calls Tryd.prog 15 #[.agg #[.int .u16 r, .int .u16 l], .slice (some ⟨g, 0, none⟩) 1024 cp, .int .i64 5, .int .i64 j] w fun e w' => ∃ g' cap, e = .returned (.slice (some ⟨g', 0, none⟩) 256 cap) ∧ GridAt w' 256 g' (md32 (itP r l 32 L (2 ^ j))) ∧ Below w.heap.size w w' := by
  have HG := Lib.hid h
  have HNX := Lib.hid (fun gx cx F wx (hx : GridAt wx 1024 gx F) => next_grid r l 32 1024 gx cx 32 F hr hl (by unfold isN; omega) wx hx)
  unfold Rv Gv at HNX
  have HMD := Lib.hid (fun gx cx F wx hx => middle_32 gx cx F wx hx)
  have HA := Lib.hid (rg_start r l 32 1024 cp h)
  have hp : 2 ^ j ≤ 16 := Nat.le_trans (Nat.pow_le_pow_right (by decide) hj) (by decide)
  have HP := Lib.hid hp
  have hj4 : (j : Int) ≤ 4 := by omega
  have hj0 : (0 : Int) ≤ (j : Int) := by omega
  have HJ := Lib.hid hj
  clear hr hl h hp hj
  go_enter Tryd.func15, Tryd.ntmps15
  go_wp2
  go_loop [9, 11] (fun a c => ∃ i : Nat, i ≤ 5 ∧ c = .int .i64 i ∧ a = .int .i64 ((2 ^ i : Nat) : Int)) (fun _ c => 5 - (intOf c).toNat)
  case atStart => exact ⟨0, by omega, rfl, rfl⟩
  case round =>
    obtain ⟨i, hi, rfl, rfl⟩ := hrel
    by_cases hlt : i < 5
    · have hd : 2 ^ i ≤ 64 := Nat.le_trans (Nat.pow_le_pow_right (by decide) (Nat.le_of_lt hlt)) (by decide)
      have hs : 2 ^ (i + 1) = 2 * 2 ^ i := by rw [Nat.pow_succ]; omega
      have HS := Lib.hid hs
      have HLT := Lib.hid hlt
      have i0 : (i : Int) < 5 := by omega
      have i1 : (0 : Int) ≤ (i : Int) := by omega
      clear hs hlt hi
      generalize 2 ^ i = q at *
      have q1 : (q : Int) ≤ 64 := by omega
      have q2 : (0 : Int) ≤ (q : Int) := by omega
      go_wp2
      go_round
      case rel => exact ⟨i + 1, by have := HLT.out; omega, by go_num, by rw [HS.out]; go_num⟩
      case measure => have := HLT.out; simp [intOf]; omega
    · obtain rfl : i = 5 := by omega
      rw [show (((2 ^ 5 : Nat)) : Int) = 32 by decide, show ((5 : Nat) : Int) = 5 by decide]
      clear hlt hi
      go_wp2
      go_loop [10, 12] (fun a c => ∃ i : Nat, i ≤ j ∧ c = .int .i64 i ∧ a = .int .i64 ((2 ^ i : Nat) : Int)) (fun _ c => j - (intOf c).toNat)
      case atStart => exact ⟨0, by omega, rfl, rfl⟩
      case round =>
        obtain ⟨i, hi, rfl, rfl⟩ := hrel
        by_cases hlt : i < j
        · have hd : 2 ^ i ≤ 16 := Nat.le_trans (Nat.pow_le_pow_right (by decide) (by have := HJ.out; omega : i ≤ 4)) (by decide)
          have hs : 2 ^ (i + 1) = 2 * 2 ^ i := by rw [Nat.pow_succ]; omega
          have HS := Lib.hid hs
          have HLT := Lib.hid hlt
          have i0 : (i : Int) < (j : Int) := by omega
          have i1 : (0 : Int) ≤ (i : Int) := by omega
          clear hs hlt hi
          generalize 2 ^ i = q at *
          have q1 : (q : Int) ≤ 16 := by omega
          have q2 : (0 : Int) ≤ (q : Int) := by omega
          go_wp2
          go_round
          case rel => exact ⟨i + 1, by have := HLT.out; omega, by go_num, by rw [HS.out]; go_num⟩
          case measure => have := HLT.out; simp [intOf]; omega
        · obtain rfl : i = j := by omega
          obtain ⟨T, hT⟩ : ∃ T, T = 2 ^ i := ⟨_, rfl⟩
          have hT16 : T ≤ 16 := by rw [hT]; exact HP.out
          have HTT := Lib.hid hT
          rw [← hT]
          clear hlt hi HP HJ hT
          go_wp2
          generalize World.alloc (World.alloc _ _) _ = W1 at HA ⊢
          go_loopw [14] (fun a wr => ∃ n : Nat, n ≤ T ∧ a = .int .i64 n ∧ Hid (RG w wr r l 1024 32 (itP r l 32 L n))) (fun a _ => T - (intOf a).toNat)
          case atStart => exact ⟨0, by omega, rfl, HA⟩
          case round =>
            clear HA
            obtain ⟨n, hn, rfl, HR⟩ := hrel
            have n0 : (0 : Int) ≤ (n : Int) := by omega
            have t1 : (T : Int) ≤ 16 := by omega
            by_cases hlt : n < T
            · have n1 : (n : Int) < (T : Int) := by omega
              have HLT := Lib.hid hlt
              obtain ⟨gx, cx, hx, hG, hne⟩ := HR.out.gx
              obtain ⟨c0, c1⟩ := two_cells HR.out.rb
              obtain ⟨d0, d1⟩ := two_cells hx
              have HC := Lib.hid (HNX.out gx cx _ wr hG)
              clear hlt hn hx hG hne
              go_wp2_with (first
                | (go_at_call 31; refine HC.out.mono ?_; rintro e w3 ⟨g', cap, rfl, hG', hb⟩; obtain ⟨gy, cy, hy⟩ := HR.out.box hb; have HBX := Lib.hid hy; clear hy; have HRN := Lib.hid (HR.out.step (cap := cap) hb hG'); clear hb hG')
                | (refine wpList_store_row rfl 78 (.tmp 13) (.tmp 39) rfl (w.heap.size + 1) #[.int .i64 32, .slice (some ⟨g', 0, none⟩) 1024 cap] rfl rfl 78 _ HBX.out (by kernel_rfl) rfl (one_grid _ _ _ _) ?_))
              go_roundw
              case rel => exact ⟨n + 1, by have := HLT.out; omega, by go_num, HRN⟩
              case measure => have := HLT.out; simp [intOf]; omega
            · obtain rfl : n = T := by omega
              have n1 : ¬ (n : Int) < (n : Int) := by omega
              obtain ⟨gx, cx, hx, hG, hne⟩ := HR.out.gx
              obtain ⟨d0, d1⟩ := two_cells hx
              have HC := Lib.hid (HMD.out gx cx _ wr hG)
              clear hlt hn hx hG hne
              go_wp2_with fail
              refine HC.out.mono ?_
              rintro e w3 ⟨g', cap, rfl, hG', hb⟩
              have HB := Lib.hid (And.intro hG' (HR.out.below.trans (hb.mono HR.out.below.size)))
              clear hb hG'
              go_wp2
              go_ret
              exact ⟨g', cap, rfl, by rw [← HTT.out]; exact HB.out.1, HB.out.2⟩
set_option maxRecDepth 100000 in
set_option maxHeartbeats 4000000 in
theorem refGrow_64 (r l : Nat) (hr : r < 65536) (hl : l < 65536) (g cp : Nat) (L : Nat → Bool) (j : Nat) (hj : j ≤ 4) (w : World) (h : GridAt w 4096 g L) :
    Calls Tryd.prog 15 #[.agg #[.int .u16 r, .int .u16 l], .slice (some ⟨g, 0, none⟩) 4096 cp, .int .i64 6, .int .i64 j] w fun e w' => ∃ g' cap, e = .returned (.slice (some ⟨g', 0, none⟩) 1024 cap) ∧ GridAt w' 1024 g' (md64 (itP r l 64 L (2 ^ j))) ∧ Below w.heap.size w w' := by
  have HG := Lib.hid h
  have HNX := Lib.hid (fun gx cx F wx (hx : GridAt wx 4096 gx F) => next_grid r l 64 4096 gx cx 64 F hr hl (by unfold isN; omega) wx hx)
  unfold Rv Gv at HNX
  have HMD := Lib.hid (fun gx cx F wx hx => middle_64 gx cx F wx hx)
  have HA := Lib.hid (rg_start r l 64 4096 cp h)
  have hp : 2 ^ j ≤ 16 := Nat.le_trans (Nat.pow_le_pow_right (by decide) hj) (by decide)
  have HP := Lib.hid hp
  have hj4 : (j : Int) ≤ 4 := by omega
  have hj0 : (0 : Int) ≤ (j : Int) := by omega
  have HJ := Lib.hid hj
  clear hr hl h hp hj
  go_enter Tryd.func15, Tryd.ntmps15
  go_wp2
  go_loop [9, 11] (fun a c => ∃ i : Nat, i ≤ 6 ∧ c = .int .i64 i ∧ a = .int .i64 ((2 ^ i : Nat) : Int)) (fun _ c => 6 - (intOf c).toNat)
  case atStart => exact ⟨0, by omega, rfl, rfl⟩
  case round =>
    obtain ⟨i, hi, rfl, rfl⟩ := hrel
    by_cases hlt : i < 6
    · have hd : 2 ^ i ≤ 64 := Nat.le_trans (Nat.pow_le_pow_right (by decide) (Nat.le_of_lt hlt)) (by decide)
      have hs : 2 ^ (i + 1) = 2 * 2 ^ i := by rw [Nat.pow_succ]; omega
      have HS := Lib.hid hs
      have HLT := Lib.hid hlt
      have i0 : (i : Int) < 6 := by omega
      have i1 : (0 : Int) ≤ (i : Int) := by omega
      clear hs hlt hi
      generalize 2 ^ i = q at *
      have q1 : (q : Int) ≤ 64 := by omega
      have q2 : (0 : Int) ≤ (q : Int) := by omega
      go_wp2
      go_round
      case rel => exact ⟨i + 1, by have := HLT.out; omega, by go_num, by rw [HS.out]; go_num⟩
      case measure => have := HLT.out; simp [intOf]; omega
    · obtain rfl : i = 6 := by omega
      rw [show (((2 ^ 6 : Nat)) : Int) = 64 by decide, show ((6 : Nat) : Int) = 6 by decide]
      clear hlt hi
      go_wp2
      go_loop [10, 12] (fun a c => ∃ i : Nat, i ≤ j ∧ c = .int .i64 i ∧ a = .int .i64 ((2 ^ i : Nat) : Int)) (fun _ c => j - (intOf c).toNat)
      case atStart => exact ⟨0, by omega, rfl, rfl⟩
      case round =>
        obtain ⟨i, hi, rfl, rfl⟩ := hrel
        by_cases hlt : i < j
        · have hd : 2 ^ i ≤ 16 := Nat.le_trans (Nat.pow_le_pow_right (by decide) (by have := HJ.out; omega : i ≤ 4)) (by decide)
          have hs : 2 ^ (i + 1) = 2 * 2 ^ i := by rw [Nat.pow_succ]; omega
          have HS := Lib.hid hs
          have HLT := Lib.hid hlt
          have i0 : (i : Int) < (j : Int) := by omega
          have i1 : (0 : Int) ≤ (i : Int) := by omega
          clear hs hlt hi
          generalize 2 ^ i = q at *
          have q1 : (q : Int) ≤ 16 := by omega
          have q2 : (0 : Int) ≤ (q : Int) := by omega
          go_wp2
          go_round
          case rel => exact ⟨i + 1, by have := HLT.out; omega, by go_num, by rw [HS.out]; go_num⟩
          case measure => have := HLT.out; simp [intOf]; omega
        · obtain rfl : i = j := by omega
          obtain ⟨T, hT⟩ : ∃ T, T = 2 ^ i := ⟨_, rfl⟩
          have hT16 : T ≤ 16 := by rw [hT]; exact HP.out
          have HTT := Lib.hid hT
          rw [← hT]
          clear hlt hi HP HJ hT
          go_wp2
          generalize World.alloc (World.alloc _ _) _ = W1 at HA ⊢
          go_loopw [14] (fun a wr => ∃ n : Nat, n ≤ T ∧ a = .int .i64 n ∧ Hid (RG w wr r l 4096 64 (itP r l 64 L n))) (fun a _ => T - (intOf a).toNat)
          case atStart => exact ⟨0, by omega, rfl, HA⟩
          case round =>
            clear HA
            obtain ⟨n, hn, rfl, HR⟩ := hrel
            have n0 : (0 : Int) ≤ (n : Int) := by omega
            have t1 : (T : Int) ≤ 16 := by omega
            by_cases hlt : n < T
            · have n1 : (n : Int) < (T : Int) := by omega
              have HLT := Lib.hid hlt
              obtain ⟨gx, cx, hx, hG, hne⟩ := HR.out.gx
              obtain ⟨c0, c1⟩ := two_cells HR.out.rb
              obtain ⟨d0, d1⟩ := two_cells hx
              have HC := Lib.hid (HNX.out gx cx _ wr hG)
              clear hlt hn hx hG hne
              go_wp2_with (first
                | (go_at_call 31; refine HC.out.mono ?_; rintro e w3 ⟨g', cap, rfl, hG', hb⟩; obtain ⟨gy, cy, hy⟩ := HR.out.box hb; have HBX := Lib.hid hy; clear hy; have HRN := Lib.hid (HR.out.step (cap := cap) hb hG'); clear hb hG')
                | (refine wpList_store_row rfl 78 (.tmp 13) (.tmp 39) rfl (w.heap.size + 1) #[.int .i64 64, .slice (some ⟨g', 0, none⟩) 4096 cap] rfl rfl 78 _ HBX.out (by kernel_rfl) rfl (one_grid _ _ _ _) ?_))
              go_roundw
              case rel => exact ⟨n + 1, by have := HLT.out; omega, by go_num, HRN⟩
              case measure => have := HLT.out; simp [intOf]; omega
            · obtain rfl : n = T := by omega
              have n1 : ¬ (n : Int) < (n : Int) := by omega
              obtain ⟨gx, cx, hx, hG, hne⟩ := HR.out.gx
              obtain ⟨d0, d1⟩ := two_cells hx
              have HC := Lib.hid (HMD.out gx cx _ wr hG)
              clear hlt hn hx hG hne
              go_wp2_with fail
              refine HC.out.mono ?_
              rintro e w3 ⟨g', cap, rfl, hG', hb⟩
              have HB := Lib.hid (And.intro hG' (HR.out.below.trans (hb.mono HR.out.below.size)))
              clear hb hG'
              go_wp2
              go_ret
              exact ⟨g', cap, rfl, by rw [← HTT.out]; exact HB.out.1, HB.out.2⟩
end Go.Proofs.YtgimphkamjojpaaDoor.Dr
namespace Go.Proofs.YtgimphkamjojpaaDoor.Dr
open Go.RowKit Ti Qd Ru

theorem trN_le (F : Nat → Bool) : ∀ k, trN F k ≤ k
  | 0 => Nat.le_refl _
  | k + 1 => by
    have := trN_le F k
    have := toNat_le (F k)
    show trN F k + (F k).toNat ≤ _
    omega
set_option maxRecDepth 100000 in
set_option maxHeartbeats 4000000 in
theorem has_8 {B : Nat} {w0 : World} {P : Nat} {L : List Sq} {room : Nat} {H : Nat → Prop} (h : St B w0 P L room H) (id : Int) (hl : Lv L 0 id) (g cp : Nat) (F : Nat → Bool) (hg : GridAt w0 64 g F)
    (hc : ∀ k, k < 64 → cel L 0 id (k % 8) (k / 8) = F k) (hn : (at' L id).cnt = (trN F 64 : Nat)) :
    Calls Tryd.prog 14 #[.pointer (some ⟨P, 0, none⟩), .int .i64 id, .slice (some ⟨g, 0, none⟩) 64 cp, .int .i64 8] w0 fun e w' => e = .returned (.bool true) ∧ Below w0.heap.size w0 w' := by
  have HGET := Lib.hid (show ∀ k, k < 64 → ∀ (wx : World), Below w0.heap.size w0 wx → Calls Tryd.prog 30 #[.pointer (some ⟨P, 0, none⟩), .int .i64 id, .int .i64 ((k % 8 : Nat) : Int), .int .i64 ((k / 8 : Nat) : Int)] wx fun e w' => e = .returned (.tuple #[.bool (F k), .nilIface]) ∧ Below wx.heap.size wx w' from fun k hk wx hb => by
    rw [← hc k hk]
    exact get_is 0 id (k % 8) (k / 8) wx (h.below hb (Nat.le_refl _)) hl (by decide) (by show _ < 8; omega) (by show _ < 8; omega))
  obtain ⟨cn, hcn⟩ : ∃ cn : Int, cn = ((trN F 64 : Nat) : Int) := ⟨_, rfl⟩
  have HCNT := Lib.hid (fun (wx : World) (hb : Below w0.heap.size w0 wx) => count_is (h.below hb (Nat.le_refl _)) id hl.1 cn (hn.trans hcn.symm))
  have HCN := Lib.hid hcn
  have HG := Lib.hid hg
  have HB0 := Lib.hid (Below.refl w0.heap.size w0)
  clear h hl hg hc hn hcn
  go_enter Tryd.func14, Tryd.ntmps14
  go_wp2
  go_loopw [9] (fun i wr => ∃ k : Nat, k ≤ 64 ∧ i = .int .i64 k ∧ Hid (Below w0.heap.size w0 wr)) (fun i _ => 64 - (intOf i).toNat)
  case atStart => exact ⟨0, by omega, rfl, HB0⟩
  case round =>
    clear HB0
    obtain ⟨k, hk, rfl, HB⟩ := hrel
    have k0 : (0 : Int) ≤ (k : Int) := by omega
    by_cases hlt : k < 64
    · have k1 : (k : Int) < 64 := by omega
      have HLT := Lib.hid hlt
      have HBD := Lib.hid (show Below w0.heap.size w0 wr.drew from HB.out.trans ((Below.refl _ wr).drew.mono HB.out.size))
      have HC := Lib.hid (HGET.out k hlt _ HBD.out)
      have HGC := Lib.hid (fun wx (hb : Below w0.heap.size w0 wx) => (HG.out.on hb (Nat.le_refl _)).at_ k HLT.out)
      obtain ⟨x, hx⟩ : ∃ x, x = k % 8 := ⟨_, rfl⟩
      obtain ⟨y, hy⟩ : ∃ y, y = k / 8 := ⟨_, rfl⟩
      rw [← hx, ← hy] at HC
      have ex : (k : Int) % 8 = (x : Int) := by omega
      have ey : (k : Int) / 8 = (y : Int) := by omega
      have ex2 : (k : Int).tmod 8 = (x : Int) := by rw [Int.tmod_eq_emod_of_nonneg (by omega)]; exact ex
      have ey2 : (k : Int).tdiv 8 = (y : Int) := by rw [Int.tdiv_eq_ediv_of_nonneg (by omega)]; exact ey
      have ew : IntKind.i64.wrap (y : Int) = (y : Int) := IntWalk.i64_in _ (by omega)
      obtain ⟨q, hq⟩ : ∃ q, q = F k := ⟨_, rfl⟩
      rw [← hq] at HC HGC
      have b1 : (q != q) = false := by simp
      clear hx hy hq hlt
      go_upto_region 4 with (fail)
      go_region_held3 (fun _ => True) (exact trivial)
        ((go_at_call 30; (with_reducible refine HC.out.mono ?_); rintro e w5 ⟨rfl, hb⟩; have HB5 := Lib.hid (HBD.out.trans (hb.mono HBD.out.size)); have gc := HGC.out _ HB5.out; clear hb))
      clear ex ey ex2 ey2 ew
      go_wp2
      go_roundw
      case rel => exact ⟨k + 1, by have := HLT.out; omega, by go_num, HB5⟩
      case measure => have := HLT.out; simp [intOf]; omega
    · obtain rfl : k = 64 := by omega
      rw [show ((64 : Nat) : Int) = 64 by decide]
      clear hlt hk k0
      go_upto_region 7 with (fail)
      go_wp2_with fail
      refine (HCNT.out _ HB.out).mono ?_
      rintro e w6 ⟨rfl, hb⟩
      have HB6 := Lib.hid (HB.out.trans (hb.mono HB.out.size))
      clear hb HB
      go_wp2
      go_loopw [14, 15] (fun a i wr => ∃ k : Nat, k ≤ 64 ∧ a = .int .i64 ((trN F k : Nat) : Int) ∧ i = .int .i64 k ∧ Hid (Below w0.heap.size w0 wr)) (fun _ i _ => 64 - (intOf i).toNat)
      case atStart => exact ⟨0, by omega, rfl, rfl, HB6⟩
      case round =>
        clear HB6
        obtain ⟨k, hk, rfl, rfl, HB⟩ := hrel
        have k0 : (0 : Int) ≤ (k : Int) := by omega
        by_cases hlt : k < 64
        · have k1 : (k : Int) < 64 := by omega
          have HLT := Lib.hid hlt
          have gc := (HG.out.on HB.out (Nat.le_refl _)).at_ k hlt
          have HT := Lib.hid (show trN F (k + 1) = trN F k + (F k).toNat from rfl)
          have hle := trN_le F k
          obtain ⟨t, ht⟩ : ∃ t, t = trN F k := ⟨_, rfl⟩
          rw [← ht] at HT hle ⊢
          have t0 : (0 : Int) ≤ (t : Int) := by omega
          have t1 : (t : Int) ≤ 4096 := by omega
          clear hlt ht hle
          generalize F k = q at gc HT
          cases q
          all_goals
            go_wp2
            go_roundw
            case rel => exact ⟨k + 1, by have := HLT.out; omega, by rw [HT.out]; simp, by go_num, HB⟩
            case measure => have := HLT.out; simp [intOf]; omega
        · obtain rfl : k = 64 := by omega
          rw [show ((64 : Nat) : Int) = 64 by decide, ← HCN.out]
          have b1 : (cn == cn) = true := by simp
          clear hlt hk k0
          go_wp2
          go_ret
          exact ⟨rfl, HB.out⟩
set_option maxRecDepth 100000 in
set_option maxHeartbeats 4000000 in
theorem has_16 {B : Nat} {w0 : World} {P : Nat} {L : List Sq} {room : Nat} {H : Nat → Prop} (h : St B w0 P L room H) (id : Int) (hl : Lv L 1 id) (g cp : Nat) (F : Nat → Bool) (hg : GridAt w0 256 g F)
    (hc : ∀ k, k < 256 → cel L 1 id (k % 16) (k / 16) = F k) (hn : (at' L id).cnt = (trN F 256 : Nat)) :
    Calls Tryd.prog 14 #[.pointer (some ⟨P, 0, none⟩), .int .i64 id, .slice (some ⟨g, 0, none⟩) 256 cp, .int .i64 16] w0 fun e w' => e = .returned (.bool true) ∧ Below w0.heap.size w0 w' := by
  have HGET := Lib.hid (show ∀ k, k < 256 → ∀ (wx : World), Below w0.heap.size w0 wx → Calls Tryd.prog 30 #[.pointer (some ⟨P, 0, none⟩), .int .i64 id, .int .i64 ((k % 16 : Nat) : Int), .int .i64 ((k / 16 : Nat) : Int)] wx fun e w' => e = .returned (.tuple #[.bool (F k), .nilIface]) ∧ Below wx.heap.size wx w' from fun k hk wx hb => by
    rw [← hc k hk]
    exact get_is 1 id (k % 16) (k / 16) wx (h.below hb (Nat.le_refl _)) hl (by decide) (by show _ < 16; omega) (by show _ < 16; omega))
  obtain ⟨cn, hcn⟩ : ∃ cn : Int, cn = ((trN F 256 : Nat) : Int) := ⟨_, rfl⟩
  have HCNT := Lib.hid (fun (wx : World) (hb : Below w0.heap.size w0 wx) => count_is (h.below hb (Nat.le_refl _)) id hl.1 cn (hn.trans hcn.symm))
  have HCN := Lib.hid hcn
  have HG := Lib.hid hg
  have HB0 := Lib.hid (Below.refl w0.heap.size w0)
  clear h hl hg hc hn hcn
  go_enter Tryd.func14, Tryd.ntmps14
  go_wp2
  go_loopw [9] (fun i wr => ∃ k : Nat, k ≤ 256 ∧ i = .int .i64 k ∧ Hid (Below w0.heap.size w0 wr)) (fun i _ => 256 - (intOf i).toNat)
  case atStart => exact ⟨0, by omega, rfl, HB0⟩
  case round =>
    clear HB0
    obtain ⟨k, hk, rfl, HB⟩ := hrel
    have k0 : (0 : Int) ≤ (k : Int) := by omega
    by_cases hlt : k < 256
    · have k1 : (k : Int) < 256 := by omega
      have HLT := Lib.hid hlt
      have HBD := Lib.hid (show Below w0.heap.size w0 wr.drew from HB.out.trans ((Below.refl _ wr).drew.mono HB.out.size))
      have HC := Lib.hid (HGET.out k hlt _ HBD.out)
      have HGC := Lib.hid (fun wx (hb : Below w0.heap.size w0 wx) => (HG.out.on hb (Nat.le_refl _)).at_ k HLT.out)
      obtain ⟨x, hx⟩ : ∃ x, x = k % 16 := ⟨_, rfl⟩
      obtain ⟨y, hy⟩ : ∃ y, y = k / 16 := ⟨_, rfl⟩
      rw [← hx, ← hy] at HC
      have ex : (k : Int) % 16 = (x : Int) := by omega
      have ey : (k : Int) / 16 = (y : Int) := by omega
      have ex2 : (k : Int).tmod 16 = (x : Int) := by rw [Int.tmod_eq_emod_of_nonneg (by omega)]; exact ex
      have ey2 : (k : Int).tdiv 16 = (y : Int) := by rw [Int.tdiv_eq_ediv_of_nonneg (by omega)]; exact ey
      have ew : IntKind.i64.wrap (y : Int) = (y : Int) := IntWalk.i64_in _ (by omega)
      obtain ⟨q, hq⟩ : ∃ q, q = F k := ⟨_, rfl⟩
      rw [← hq] at HC HGC
      have b1 : (q != q) = false := by simp
      clear hx hy hq hlt
      go_upto_region 4 with (fail)
      go_region_held3 (fun _ => True) (exact trivial)
        ((go_at_call 30; (with_reducible refine HC.out.mono ?_); rintro e w5 ⟨rfl, hb⟩; have HB5 := Lib.hid (HBD.out.trans (hb.mono HBD.out.size)); have gc := HGC.out _ HB5.out; clear hb))
      clear ex ey ex2 ey2 ew
      go_wp2
      go_roundw
      case rel => exact ⟨k + 1, by have := HLT.out; omega, by go_num, HB5⟩
      case measure => have := HLT.out; simp [intOf]; omega
    · obtain rfl : k = 256 := by omega
      rw [show ((256 : Nat) : Int) = 256 by decide]
      clear hlt hk k0
      go_upto_region 7 with (fail)
      go_wp2_with fail
      refine (HCNT.out _ HB.out).mono ?_
      rintro e w6 ⟨rfl, hb⟩
      have HB6 := Lib.hid (HB.out.trans (hb.mono HB.out.size))
      clear hb HB
      go_wp2
      go_loopw [14, 15] (fun a i wr => ∃ k : Nat, k ≤ 256 ∧ a = .int .i64 ((trN F k : Nat) : Int) ∧ i = .int .i64 k ∧ Hid (Below w0.heap.size w0 wr)) (fun _ i _ => 256 - (intOf i).toNat)
      case atStart => exact ⟨0, by omega, rfl, rfl, HB6⟩
      case round =>
        clear HB6
        obtain ⟨k, hk, rfl, rfl, HB⟩ := hrel
        have k0 : (0 : Int) ≤ (k : Int) := by omega
        by_cases hlt : k < 256
        · have k1 : (k : Int) < 256 := by omega
          have HLT := Lib.hid hlt
          have gc := (HG.out.on HB.out (Nat.le_refl _)).at_ k hlt
          have HT := Lib.hid (show trN F (k + 1) = trN F k + (F k).toNat from rfl)
          have hle := trN_le F k
          obtain ⟨t, ht⟩ : ∃ t, t = trN F k := ⟨_, rfl⟩
          rw [← ht] at HT hle ⊢
          have t0 : (0 : Int) ≤ (t : Int) := by omega
          have t1 : (t : Int) ≤ 4096 := by omega
          clear hlt ht hle
          generalize F k = q at gc HT
          cases q
          all_goals
            go_wp2
            go_roundw
            case rel => exact ⟨k + 1, by have := HLT.out; omega, by rw [HT.out]; simp, by go_num, HB⟩
            case measure => have := HLT.out; simp [intOf]; omega
        · obtain rfl : k = 256 := by omega
          rw [show ((256 : Nat) : Int) = 256 by decide, ← HCN.out]
          have b1 : (cn == cn) = true := by simp
          clear hlt hk k0
          go_wp2
          go_ret
          exact ⟨rfl, HB.out⟩
set_option maxRecDepth 100000 in
set_option maxHeartbeats 4000000 in
theorem has_32 {B : Nat} {w0 : World} {P : Nat} {L : List Sq} {room : Nat} {H : Nat → Prop} (h : St B w0 P L room H) (id : Int) (hl : Lv L 2 id) (g cp : Nat) (F : Nat → Bool) (hg : GridAt w0 1024 g F)
    (hc : ∀ k, k < 1024 → cel L 2 id (k % 32) (k / 32) = F k) (hn : (at' L id).cnt = (trN F 1024 : Nat)) :
    Calls Tryd.prog 14 #[.pointer (some ⟨P, 0, none⟩), .int .i64 id, .slice (some ⟨g, 0, none⟩) 1024 cp, .int .i64 32] w0 fun e w' => e = .returned (.bool true) ∧ Below w0.heap.size w0 w' := by
  have HGET := Lib.hid (show ∀ k, k < 1024 → ∀ (wx : World), Below w0.heap.size w0 wx → Calls Tryd.prog 30 #[.pointer (some ⟨P, 0, none⟩), .int .i64 id, .int .i64 ((k % 32 : Nat) : Int), .int .i64 ((k / 32 : Nat) : Int)] wx fun e w' => e = .returned (.tuple #[.bool (F k), .nilIface]) ∧ Below wx.heap.size wx w' from fun k hk wx hb => by
    rw [← hc k hk]
    exact get_is 2 id (k % 32) (k / 32) wx (h.below hb (Nat.le_refl _)) hl (by decide) (by show _ < 32; omega) (by show _ < 32; omega))
  obtain ⟨cn, hcn⟩ : ∃ cn : Int, cn = ((trN F 1024 : Nat) : Int) := ⟨_, rfl⟩
  have HCNT := Lib.hid (fun (wx : World) (hb : Below w0.heap.size w0 wx) => count_is (h.below hb (Nat.le_refl _)) id hl.1 cn (hn.trans hcn.symm))
  have HCN := Lib.hid hcn
  have HG := Lib.hid hg
  have HB0 := Lib.hid (Below.refl w0.heap.size w0)
  clear h hl hg hc hn hcn
  go_enter Tryd.func14, Tryd.ntmps14
  go_wp2
  go_loopw [9] (fun i wr => ∃ k : Nat, k ≤ 1024 ∧ i = .int .i64 k ∧ Hid (Below w0.heap.size w0 wr)) (fun i _ => 1024 - (intOf i).toNat)
  case atStart => exact ⟨0, by omega, rfl, HB0⟩
  case round =>
    clear HB0
    obtain ⟨k, hk, rfl, HB⟩ := hrel
    have k0 : (0 : Int) ≤ (k : Int) := by omega
    by_cases hlt : k < 1024
    · have k1 : (k : Int) < 1024 := by omega
      have HLT := Lib.hid hlt
      have HBD := Lib.hid (show Below w0.heap.size w0 wr.drew from HB.out.trans ((Below.refl _ wr).drew.mono HB.out.size))
      have HC := Lib.hid (HGET.out k hlt _ HBD.out)
      have HGC := Lib.hid (fun wx (hb : Below w0.heap.size w0 wx) => (HG.out.on hb (Nat.le_refl _)).at_ k HLT.out)
      obtain ⟨x, hx⟩ : ∃ x, x = k % 32 := ⟨_, rfl⟩
      obtain ⟨y, hy⟩ : ∃ y, y = k / 32 := ⟨_, rfl⟩
      rw [← hx, ← hy] at HC
      have ex : (k : Int) % 32 = (x : Int) := by omega
      have ey : (k : Int) / 32 = (y : Int) := by omega
      have ex2 : (k : Int).tmod 32 = (x : Int) := by rw [Int.tmod_eq_emod_of_nonneg (by omega)]; exact ex
      have ey2 : (k : Int).tdiv 32 = (y : Int) := by rw [Int.tdiv_eq_ediv_of_nonneg (by omega)]; exact ey
      have ew : IntKind.i64.wrap (y : Int) = (y : Int) := IntWalk.i64_in _ (by omega)
      obtain ⟨q, hq⟩ : ∃ q, q = F k := ⟨_, rfl⟩
      rw [← hq] at HC HGC
      have b1 : (q != q) = false := by simp
      clear hx hy hq hlt
      go_upto_region 4 with (fail)
      go_region_held3 (fun _ => True) (exact trivial)
        ((go_at_call 30; (with_reducible refine HC.out.mono ?_); rintro e w5 ⟨rfl, hb⟩; have HB5 := Lib.hid (HBD.out.trans (hb.mono HBD.out.size)); have gc := HGC.out _ HB5.out; clear hb))
      clear ex ey ex2 ey2 ew
      go_wp2
      go_roundw
      case rel => exact ⟨k + 1, by have := HLT.out; omega, by go_num, HB5⟩
      case measure => have := HLT.out; simp [intOf]; omega
    · obtain rfl : k = 1024 := by omega
      rw [show ((1024 : Nat) : Int) = 1024 by decide]
      clear hlt hk k0
      go_upto_region 7 with (fail)
      go_wp2_with fail
      refine (HCNT.out _ HB.out).mono ?_
      rintro e w6 ⟨rfl, hb⟩
      have HB6 := Lib.hid (HB.out.trans (hb.mono HB.out.size))
      clear hb HB
      go_wp2
      go_loopw [14, 15] (fun a i wr => ∃ k : Nat, k ≤ 1024 ∧ a = .int .i64 ((trN F k : Nat) : Int) ∧ i = .int .i64 k ∧ Hid (Below w0.heap.size w0 wr)) (fun _ i _ => 1024 - (intOf i).toNat)
      case atStart => exact ⟨0, by omega, rfl, rfl, HB6⟩
      case round =>
        clear HB6
        obtain ⟨k, hk, rfl, rfl, HB⟩ := hrel
        have k0 : (0 : Int) ≤ (k : Int) := by omega
        by_cases hlt : k < 1024
        · have k1 : (k : Int) < 1024 := by omega
          have HLT := Lib.hid hlt
          have gc := (HG.out.on HB.out (Nat.le_refl _)).at_ k hlt
          have HT := Lib.hid (show trN F (k + 1) = trN F k + (F k).toNat from rfl)
          have hle := trN_le F k
          obtain ⟨t, ht⟩ : ∃ t, t = trN F k := ⟨_, rfl⟩
          rw [← ht] at HT hle ⊢
          have t0 : (0 : Int) ≤ (t : Int) := by omega
          have t1 : (t : Int) ≤ 4096 := by omega
          clear hlt ht hle
          generalize F k = q at gc HT
          cases q
          all_goals
            go_wp2
            go_roundw
            case rel => exact ⟨k + 1, by have := HLT.out; omega, by rw [HT.out]; simp, by go_num, HB⟩
            case measure => have := HLT.out; simp [intOf]; omega
        · obtain rfl : k = 1024 := by omega
          rw [show ((1024 : Nat) : Int) = 1024 by decide, ← HCN.out]
          have b1 : (cn == cn) = true := by simp
          clear hlt hk k0
          go_wp2
          go_ret
          exact ⟨rfl, HB.out⟩
end Go.Proofs.YtgimphkamjojpaaDoor.Dr
namespace Go.Proofs.YtgimphkamjojpaaDoor.Dr
open Go.RowKit Ti Qd Ru

theorem itP_ag (b l N : Nat) (L : Nat → Bool) : ∀ n : Nat, Ag (gpl N (itP b l N L n)) (gens b l (gpl N L) n) n ((N : Int) - 1 - n) n ((N : Int) - 1 - n)
  | 0 => fun _ _ _ _ _ _ => rfl
  | n + 1 => by
    have ih := gen_ag b l (itP_ag b l N L n)
    have h := nxP_plane b l N (itP b l N L n)
    intro x y x0 x1 y0 y1
    exact (h x y (by omega) (by omega) (by omega) (by omega)).trans (ih x y (by omega) (by omega) (by omega) (by omega))
theorem trN_row (S : Nat) (hS : 0 < S) (F : Nat → Bool) (p : Pl) (ox oy : Int) (h : Nat) : ∀ c, c ≤ S → (∀ k, k < S * h + c → F k = p (ox + (k % S : Nat)) (oy + (k / S : Nat))) → trN F (S * h + c) = trN F (S * h) + rowC (fun x => p x (oy + h)) ox c
  | 0, _, _ => rfl
  | c + 1, hc, hk => by
    have ih := trN_row S hS F p ox oy h c (by omega) (fun k q => hk k (by omega))
    have e := hk (S * h + c) (by omega)
    rw [Nat.mul_add_mod, Nat.mod_eq_of_lt (by omega), Nat.mul_add_div hS, Nat.div_eq_of_lt (by omega), Nat.add_zero] at e
    show trN F (S * h + c) + (F (S * h + c)).toNat = trN F (S * h) + (rowC _ ox c + (p (ox + c) (oy + h)).toNat)
    rw [ih, e]
    omega
theorem trN_fld (S : Nat) (hS : 0 < S) (F : Nat → Bool) (p : Pl) (ox oy : Int) : ∀ h, (∀ k, k < S * h → F k = p (ox + (k % S : Nat)) (oy + (k / S : Nat))) → trN F (S * h) = fldC p ox oy S h
  | 0, _ => rfl
  | h + 1, hk => by
    have ih := trN_fld S hS F p ox oy h (fun k q => hk k (by rw [Nat.mul_succ]; omega))
    have := trN_row S hS F p ox oy h S (Nat.le_refl _) (fun k q => hk k (by rw [Nat.mul_succ]; exact q))
    rw [Nat.mul_succ, this, ih]
    rfl
theorem cnt_is {M : List Sq} (hi : Inv M) {m : Nat} (hm : m ≤ 27) {id : Int} (hl : Lv M m id) (S : Nat) (hS : S = 2 ^ (m + 3)) (h0 : 0 < S) {F : Nat → Bool} (h : ∀ k, k < S * S → cel M m id (k % S) (k / S) = F k) : (at' M id).cnt = ((trN F (S * S) : Nat) : Int) := by
  have w := Wn.self hl
  rw [cnt_wn hi m id _ _ _ hm w, ← hS, ← trN_fld S h0 F _ 0 0 S (fun k hk => by
    rw [← h k hk]
    have h1 := Nat.mod_lt k h0
    have h2 : k / S < S := by rw [Nat.div_lt_iff_lt_mul h0]; exact hk
    have := w.2 (k % S) (k / S) (by rw [← hS]; exact h1) (by rw [← hS]; exact h2)
    exact this)]
/-- all that the statement asks -/
structure GCells (r l m SS S : Nat) (R : List Sq × Int) (A C : GS × Int) (F G : Nat → Bool) : Prop where
  kS : GOk r l (R.1, fun _ _ => none)
  lS : Lv R.1 (m + 1) R.2
  kA : GOk r l A.1
  lA : Lv A.1.1 (m + 1) R.2
  eR : R.1.length ≤ 1000
  eA : A.1.1.length ≤ 2000
  eC : C.1.1.length ≤ 3000
  vA : Lv C.1.1 m A.2
  vC : Lv C.1.1 m C.2
  cA : ∀ k, k < SS → cel C.1.1 m A.2 (k % S) (k / S) = F k
  cC : ∀ k, k < SS → cel C.1.1 m C.2 (k % S) (k / S) = G k
  nA : (at' C.1.1 A.2).cnt = ((trN F SS : Nat) : Int)
  nC : (at' C.1.1 C.2).cnt = ((trN G SS : Nat) : Int)
theorem mdi_16 (b l : Nat) (L : Nat → Bool) (n : Nat) (hn : n ≤ 4) (k : Nat) (hk : k < 64) : md16 (itP b l 16 L n) k = gens b l (gpl 16 L) n ((4 : Int) + (k % 8 : Nat)) ((4 : Int) + (k / 8 : Nat)) := by
  have h := itP_ag b l 16 L n ((4 : Int) + (k % 8 : Nat)) ((4 : Int) + (k / 8 : Nat)) (by omega) (by omega) (by omega) (by omega)
  rw [← h, show (4 : Int) + (k % 8 : Nat) = ((4 + k % 8 : Nat) : Int) by omega, show (4 : Int) + (k / 8 : Nat) = ((4 + k / 8 : Nat) : Int) by omega, gpl_nat _ _ _ _ (by omega) (by omega)]
  rfl
theorem cst_16 : ∀ j ≤ 2, cst 0 j ≤ 365 := by decide
theorem cells_16 (r l : Nat) (F : Nat → Bool) (hF : trN F 256 ≤ 60) (j : Nat) (hj : j ≤ 2) (R : List Sq × Int) (A C : GS × Int) (hR : R = layQ [] 1 16 F 256) (hA : A = growQ r l 0 (R.1, fun _ _ => none) R.2 j) (hC : C = ctrG A.1 R.2) :
    GCells r l 0 64 8 R A C (md16 (itP r l 16 F (2 ^ j))) (md16 F) := by
  have ho := lay_ok inv_nil 1 16 (by decide) rfl F 256 (by decide)
  have hlen := ho.len
  have hcel := ho.cel
  have hlv := ho.lv
  have hinv := ho.inv
  rw [← hR] at hlen hcel hlv hinv
  simp only [List.length_nil] at hlen
  have h2 : trN F 256 * (1 + 1) ≤ 60 * 4 := Nat.mul_le_mul hF (by decide)
  have hw : Wn R.1 1 R.2 (gpl 16 F) 0 0 := ⟨hlv, fun x y hx hy => by
    have hx : x < 16 := hx
    have hy : y < 16 := hy
    rw [hcel x y hx hy, decide_eq_true (by omega), Bool.true_and, show (0 : Int) + x = ((x : Nat) : Int) by omega, show (0 : Int) + y = ((y : Nat) : Int) by omega, gpl_nat _ _ _ _ hx hy, Nat.mul_comm]⟩
  have ra := grow_ok r l 0 Tt _ (uni_any r l) (R.1, fun _ _ => none) R.2 j (gpl 16 F) 0 0 (gok_new r l hinv) (by decide) hj hw trivial
  rw [← hA] at ra
  have rc := ctr_res ra.ok (n := 0) (by decide) (hw.ext hinv ra.ext)
  rw [← hC] at rc
  have la := ra.len
  have lc := rc.len
  have e0 : ((R.1, fun _ _ => none) : GS).1.length = R.1.length := rfl
  have ec := cst_16 j hj
  have wa := ra.win.ext ra.ok.inv rc.ext
  have hq : 2 ^ j ≤ 4 := Nat.le_trans (Nat.pow_le_pow_right (by decide) hj) (by decide)
  have ka : ∀ k, k < 64 → cel C.1.1 0 A.2 (k % 8) (k / 8) = md16 (itP r l 16 F (2 ^ j)) k := fun k hk => by
    rw [mdi_16 r l F _ hq k hk, wa.2 _ _ (by show _ < 8; omega) (by show _ < 8; omega)]
    rfl
  have kc : ∀ k, k < 64 → cel C.1.1 0 C.2 (k % 8) (k / 8) = md16 F k := fun k hk => by
    have h0 := mdi_16 r l F 0 (by decide) k hk
    rw [show md16 F = md16 (itP r l 16 F 0) from rfl, h0, rc.win.2 _ _ (by show _ < 8; omega) (by show _ < 8; omega)]
    rfl
  exact ⟨gok_new r l hinv, hlv, ra.ok, hlv.ext ra.ext, by omega, by omega, by omega, wa.1, rc.win.1, ka, kc, cnt_is rc.ok.inv (by decide) wa.1 8 (by decide) (by decide) ka, cnt_is rc.ok.inv (by decide) rc.win.1 8 (by decide) (by decide) kc⟩
theorem mdi_32 (b l : Nat) (L : Nat → Bool) (n : Nat) (hn : n ≤ 8) (k : Nat) (hk : k < 256) : md32 (itP b l 32 L n) k = gens b l (gpl 32 L) n ((8 : Int) + (k % 16 : Nat)) ((8 : Int) + (k / 16 : Nat)) := by
  have h := itP_ag b l 32 L n ((8 : Int) + (k % 16 : Nat)) ((8 : Int) + (k / 16 : Nat)) (by omega) (by omega) (by omega) (by omega)
  rw [← h, show (8 : Int) + (k % 16 : Nat) = ((8 + k % 16 : Nat) : Int) by omega, show (8 : Int) + (k / 16 : Nat) = ((8 + k / 16 : Nat) : Int) by omega, gpl_nat _ _ _ _ (by omega) (by omega)]
  rfl
theorem cst_32 : ∀ j ≤ 3, cst 1 j ≤ 365 := by decide
theorem cells_32 (r l : Nat) (F : Nat → Bool) (hF : trN F 1024 ≤ 60) (j : Nat) (hj : j ≤ 3) (R : List Sq × Int) (A C : GS × Int) (hR : R = layQ [] 2 32 F 1024) (hA : A = growQ r l 1 (R.1, fun _ _ => none) R.2 j) (hC : C = ctrG A.1 R.2) :
    GCells r l 1 256 16 R A C (md32 (itP r l 32 F (2 ^ j))) (md32 F) := by
  have ho := lay_ok inv_nil 2 32 (by decide) rfl F 1024 (by decide)
  have hlen := ho.len
  have hcel := ho.cel
  have hlv := ho.lv
  have hinv := ho.inv
  rw [← hR] at hlen hcel hlv hinv
  simp only [List.length_nil] at hlen
  have h2 : trN F 1024 * (2 + 1) ≤ 60 * 4 := Nat.mul_le_mul hF (by decide)
  have hw : Wn R.1 2 R.2 (gpl 32 F) 0 0 := ⟨hlv, fun x y hx hy => by
    have hx : x < 32 := hx
    have hy : y < 32 := hy
    rw [hcel x y hx hy, decide_eq_true (by omega), Bool.true_and, show (0 : Int) + x = ((x : Nat) : Int) by omega, show (0 : Int) + y = ((y : Nat) : Int) by omega, gpl_nat _ _ _ _ hx hy, Nat.mul_comm]⟩
  have ra := grow_ok r l 1 Tt _ (uni_any r l) (R.1, fun _ _ => none) R.2 j (gpl 32 F) 0 0 (gok_new r l hinv) (by decide) hj hw trivial
  rw [← hA] at ra
  have rc := ctr_res ra.ok (n := 1) (by decide) (hw.ext hinv ra.ext)
  rw [← hC] at rc
  have la := ra.len
  have lc := rc.len
  have e0 : ((R.1, fun _ _ => none) : GS).1.length = R.1.length := rfl
  have ec := cst_32 j hj
  have wa := ra.win.ext ra.ok.inv rc.ext
  have hq : 2 ^ j ≤ 8 := Nat.le_trans (Nat.pow_le_pow_right (by decide) hj) (by decide)
  have ka : ∀ k, k < 256 → cel C.1.1 1 A.2 (k % 16) (k / 16) = md32 (itP r l 32 F (2 ^ j)) k := fun k hk => by
    rw [mdi_32 r l F _ hq k hk, wa.2 _ _ (by show _ < 16; omega) (by show _ < 16; omega)]
    rfl
  have kc : ∀ k, k < 256 → cel C.1.1 1 C.2 (k % 16) (k / 16) = md32 F k := fun k hk => by
    have h0 := mdi_32 r l F 0 (by decide) k hk
    rw [show md32 F = md32 (itP r l 32 F 0) from rfl, h0, rc.win.2 _ _ (by show _ < 16; omega) (by show _ < 16; omega)]
    rfl
  exact ⟨gok_new r l hinv, hlv, ra.ok, hlv.ext ra.ext, by omega, by omega, by omega, wa.1, rc.win.1, ka, kc, cnt_is rc.ok.inv (by decide) wa.1 16 (by decide) (by decide) ka, cnt_is rc.ok.inv (by decide) rc.win.1 16 (by decide) (by decide) kc⟩
theorem mdi_64 (b l : Nat) (L : Nat → Bool) (n : Nat) (hn : n ≤ 16) (k : Nat) (hk : k < 1024) : md64 (itP b l 64 L n) k = gens b l (gpl 64 L) n ((16 : Int) + (k % 32 : Nat)) ((16 : Int) + (k / 32 : Nat)) := by
  have h := itP_ag b l 64 L n ((16 : Int) + (k % 32 : Nat)) ((16 : Int) + (k / 32 : Nat)) (by omega) (by omega) (by omega) (by omega)
  rw [← h, show (16 : Int) + (k % 32 : Nat) = ((16 + k % 32 : Nat) : Int) by omega, show (16 : Int) + (k / 32 : Nat) = ((16 + k / 32 : Nat) : Int) by omega, gpl_nat _ _ _ _ (by omega) (by omega)]
  rfl
theorem cst_64 : ∀ j ≤ 4, cst 2 j ≤ 365 := by decide
theorem cells_64 (r l : Nat) (F : Nat → Bool) (hF : trN F 4096 ≤ 60) (j : Nat) (hj : j ≤ 4) (R : List Sq × Int) (A C : GS × Int) (hR : R = layQ [] 3 64 F 4096) (hA : A = growQ r l 2 (R.1, fun _ _ => none) R.2 j) (hC : C = ctrG A.1 R.2) :
    GCells r l 2 1024 32 R A C (md64 (itP r l 64 F (2 ^ j))) (md64 F) := by
  have ho := lay_ok inv_nil 3 64 (by decide) rfl F 4096 (by decide)
  have hlen := ho.len
  have hcel := ho.cel
  have hlv := ho.lv
  have hinv := ho.inv
  rw [← hR] at hlen hcel hlv hinv
  simp only [List.length_nil] at hlen
  have h2 : trN F 4096 * (3 + 1) ≤ 60 * 4 := Nat.mul_le_mul hF (by decide)
  have hw : Wn R.1 3 R.2 (gpl 64 F) 0 0 := ⟨hlv, fun x y hx hy => by
    have hx : x < 64 := hx
    have hy : y < 64 := hy
    rw [hcel x y hx hy, decide_eq_true (by omega), Bool.true_and, show (0 : Int) + x = ((x : Nat) : Int) by omega, show (0 : Int) + y = ((y : Nat) : Int) by omega, gpl_nat _ _ _ _ hx hy, Nat.mul_comm]⟩
  have ra := grow_ok r l 2 Tt _ (uni_any r l) (R.1, fun _ _ => none) R.2 j (gpl 64 F) 0 0 (gok_new r l hinv) (by decide) hj hw trivial
  rw [← hA] at ra
  have rc := ctr_res ra.ok (n := 2) (by decide) (hw.ext hinv ra.ext)
  rw [← hC] at rc
  have la := ra.len
  have lc := rc.len
  have e0 : ((R.1, fun _ _ => none) : GS).1.length = R.1.length := rfl
  have ec := cst_64 j hj
  have wa := ra.win.ext ra.ok.inv rc.ext
  have hq : 2 ^ j ≤ 16 := Nat.le_trans (Nat.pow_le_pow_right (by decide) hj) (by decide)
  have ka : ∀ k, k < 1024 → cel C.1.1 2 A.2 (k % 32) (k / 32) = md64 (itP r l 64 F (2 ^ j)) k := fun k hk => by
    rw [mdi_64 r l F _ hq k hk, wa.2 _ _ (by show _ < 32; omega) (by show _ < 32; omega)]
    rfl
  have kc : ∀ k, k < 1024 → cel C.1.1 2 C.2 (k % 32) (k / 32) = md64 F k := fun k hk => by
    have h0 := mdi_64 r l F 0 (by decide) k hk
    rw [show md64 F = md64 (itP r l 64 F 0) from rfl, h0, rc.win.2 _ _ (by show _ < 32; omega) (by show _ < 32; omega)]
    rfl
  exact ⟨gok_new r l hinv, hlv, ra.ok, hlv.ext ra.ext, by omega, by omega, by omega, wa.1, rc.win.1, ka, kc, cnt_is rc.ok.inv (by decide) wa.1 32 (by decide) (by decide) ka, cnt_is rc.ok.inv (by decide) rc.win.1 32 (by decide) (by decide) kc⟩
end Go.Proofs.YtgimphkamjojpaaDoor.Dr
namespace Go.Proofs.YtgimphkamjojpaaDoor
open Go.RowKit Ti Qd Go.Maps Go.WideMaps Ru Dr

/-- A slice of integers that came in: nil; or it leads to a row of 'cap' cells, the numbers 'zs' (the first 'len' are its elements, the rest its spare room), each fitting its kind. -/
def IsRow (k : IntKind) (w : World) (a : Option Addr) (len cap : Nat) (zs : List Int) : Prop :=
  (a = none ∧ len = 0 ∧ cap = 0 ∧ zs = []) ∨
  ∃ x, a = some x ∧ len ≤ cap ∧ cap ≤ maxLen ∧ zs.length = cap ∧ (∀ i, i < zs.length → w.cell? (x.add i) = some (.int k (zs.getD i 0))) ∧ ∀ n ∈ zs, (Lit.int k n).wf = true
theorem bounds_u64 {n : Int} (h : (Lit.int .u64 n).wf = true) : 0 ≤ n ∧ n ≤ 18446744073709551615 := by
  have h1 : IntKind.u64.min ≤ n ∧ n ≤ IntKind.u64.max := by simpa [Lit.wf] using h
  have e0 : IntKind.u64.min = 0 := rfl
  have e1 : IntKind.u64.max = 18446744073709551615 := rfl
  omega
theorem isrow_x {w : World} {a : Option Addr} {len cap : Nat} {zs : List Int} (h : IsRow .u64 w a len cap zs) : ∃ X : Nat → Nat, LiesX w a len X ∧ len ≤ 9223372036854775807 := by
  rcases h with ⟨rfl, rfl, rfl, rfl⟩ | ⟨x, rfl, hl, hm, hz, hc, hw⟩
  · exact ⟨fun _ => 0, fun i hi => absurd hi (by omega), by omega⟩
  · unfold maxLen at hm
    refine ⟨fun i => (zs.getD i 0).toNat, fun i hi => ?_, by omega⟩
    have hiz : i < zs.length := by omega
    obtain ⟨b, off, spot⟩ := x
    have c := hc i hiz
    have hspot : spot = none := by
      have c0 := hc 0 (by omega)
      simpa [Addr.add] using World.cell?_spot c0
    subst hspot
    have e : zs.getD i 0 = zs[i] := by simp [hiz]
    have hb := bounds_u64 (hw zs[i] (List.getElem_mem hiz))
    refine ⟨b, off, rfl, ?_, by show (zs.getD i 0).toNat < _; rw [e]; omega⟩
    rw [show (({ block := b, off := off, spot := none } : Addr).add i) = ⟨b, off + i, none⟩ from by simp [Addr.add]] at c
    show _ = some (Value.int .u64 (((zs.getD i 0).toNat : Nat) : Int))
    rw [c, e, show (((zs[i]).toNat : Nat) : Int) = zs[i] by omega]
theorem red_nat (x : Int) (m : Nat) (h0 : 0 < m) (h : m ≤ 1099511627776) : ∃ p : Nat, p < m ∧ wrap64 ((IntKind.u64.wrap x).tmod (m : Int)) = (p : Int) := by
  have h1 := wrap_u64_nonneg x
  obtain ⟨n, hn⟩ : ∃ n : Nat, IntKind.u64.wrap x = (n : Int) := ⟨(IntKind.u64.wrap x).toNat, by omega⟩
  rw [hn, tmod_nat]
  have := Nat.mod_lt n h0
  exact ⟨n % m, this, wrap_small (by omega)⟩
/-- a rule and an ask in boxes, since a world -/
structure AkAt (W w : World) (r l : Nat) (k j : Int) : Prop where
  rule : w.heap[W.heap.size]? = some (.cells #[.int .u16 r, .int .u16 l] 24)
  ask : w.heap[W.heap.size + 1]? = some (.cells #[.int .i64 k, .int .i64 j] 27)
  below : Below W.heap.size W w
theorem AkAt.on {W w w2 : World} {r l : Nat} {k j : Int} (h : AkAt W w r l k j) (b : Below w.heap.size w w2) : AkAt W w2 r l k j := ⟨(b.block _ (lt_of_block h.rule)).trans h.rule, (b.block _ (lt_of_block h.ask)).trans h.ask, h.below.trans (b.mono h.below.size)⟩
theorem AkAt.on2 {W w w2 : World} {r l B : Nat} {k j : Int} (h : AkAt W w r l k j) (b : Below B w w2) (hB : W.heap.size + 1 < B) : AkAt W w2 r l k j := ⟨(b.block _ (by omega)).trans h.rule, (b.block _ hB).trans h.ask, h.below.trans (b.mono (by omega))⟩
theorem ak_start (r l : Nat) (k j : Int) (W : World) : AkAt W ((W.alloc (.cells #[.int .u16 r, .int .u16 l] 24)).alloc (.cells #[.int .i64 k, .int .i64 j] 27)) r l k j := by
  have h := two_boxes W (.cells #[.int .u16 r, .int .u16 l] 24) (.cells #[.int .i64 k, .int .i64 j] 27)
  exact ⟨h.1, h.2.1, h.2.2.1⟩
theorem grid_br {w : World} {g M : Nat} {F : Nat → Bool} (h : w.heap[g]? = some (.cells (br F M) 4)) : GridAt w M g F := ⟨lt_of_block h, fun i hi => br_cell h i hi⟩
set_option maxRecDepth 100000 in
set_option maxHeartbeats 16000000 in
theorem cells_walk_16 (r l : Nat) (hr : r < 65536 ∧ l < 65536) (a : Option Addr) (len cap : Nat) (X : Nat → Nat) (kk J : Int) (W : World) (hm : mayR r l = true) (hx : LiesX W a len X) (hlen : len ≤ 9223372036854775807) (hlaid : Laid W) (ep : wrap64 ((IntKind.u64.wrap kk).tmod 3) = 0) :
    Calls Tryd.prog 3 #[Rv r l, .slice a len cap, .agg #[.int .i64 kk, .int .i64 J]] W fun e w' => e = .returned (.bool true) ∧ Below W.heap.size W w' := by
  have HM := Lib.hid (fun w => may_ref r l w)
  rw [hm] at HM
  have HLD := Lib.hid hlaid
  have HRL := Lib.hid hr
  have HMY := Lib.hid hm
  have HR0 := Lib.hid (ak_start r l kk J W)
  have HX := Lib.hid hx
  have HEP := Lib.hid ep
  have HLN := Lib.hid hlen
  unfold Rv at HM ⊢
  obtain ⟨c0, c1⟩ := two_cells HR0.out.rule
  obtain ⟨d0, d1⟩ := two_cells HR0.out.ask
  clear hm hx ep hlen hlaid hr
  go_enter Tryd.func3, Tryd.ntmps3
  go_wp2_with fail
  refine (HM.out _).mono ?_
  rintro e w1 ⟨rfl, hb⟩
  have HR1 := Lib.hid (HR0.out.on hb)
  clear hb c0 c1 d0 d1 HR0
  obtain ⟨d0, d1⟩ := two_cells HR1.out.ask
  go_upto_region 4 with (fail)
  rw [HEP.out, show wrap64 (4 + 0) = 4 from by unfold wrap64; omega]
  have HN := Lib.hid (new_lit 20000 20000 rfl w1 (by decide) (by decide))
  go_wp2_with fail
  refine HN.out.mono ?_
  rintro e w2 ⟨P, H, rfl, hs, hb⟩
  have HR2 := Lib.hid (HR1.out.on hb)
  have HSZ := Lib.hid (And.intro hb.size (lt_of_block HR1.out.ask))
  clear d0 d1
  obtain ⟨c0, c1⟩ := two_cells HR2.out.rule
  have HG := Lib.hid (show Calls Tryd.prog 8 #[.pointer (some ⟨P, 0, none⟩), .agg #[.int .u16 r, .int .u16 l]] w2 (GMade w1.heap.size w2 P r l 20000 [] H) from gnew_ok hs hb.size r l HMY.out)
  have HS2 := Lib.hid (fun x hx => (hs.lt x hx).1)
  clear hs hb HN HR1
  go_wp2_with fail
  refine HG.out.mono ?_
  rintro e w3 ⟨G, Mp, H', rfl, hgr, hst⟩
  have HR3 := Lib.hid (HR2.out.on2 (hst.below HS2.out HSZ.out.1) HSZ.out.2)
  have HH := Lib.hid (show (∀ x, H' x → w1.heap.size ≤ x) ∧ w1.heap.size ≤ w3.heap.size from ⟨fun x hx => (hgr.lt x hx).1, Nat.le_trans HSZ.out.1 hst.size⟩)
  have HS := Lib.hid (Gs.start hgr)
  clear hgr hst HG HS2 c0 c1 HR2
  have HAT := Lib.hid (fun (s : GS) bx w (gs : Gs w1.heap.size w3 H' G P Mp r l 20000 s bx w) => HR3.out.on2 (gs.bel HH.out.1 HH.out.2) HSZ.out.2)
  go_wp2_with fail
  refine (show Calls Tryd.prog 9 #[.slice a len cap, .int .i64 16] w3 fun e W' => e = .returned (.slice (some ⟨w3.heap.size, 0, none⟩) 256 256) ∧ FI w3 X 16 256 (min len 60) W' from field_ok a len cap X 16 w3 (HX.out.below HR3.out.below) HLN.out (by decide) (by decide)).mono ?_
  rintro e w4 ⟨rfl, hfi⟩
  have HS4 := Lib.hid (HS.out.made hfi.bel hfi.row)
  clear hfi HS HX
  obtain ⟨F, hF⟩ : ∃ F, F = fF X 16 (min len 60) := ⟨_, rfl⟩
  rw [← hF] at HS4
  have hfew : trN F 256 ≤ 60 := by rw [hF]; exact Nat.le_trans (fF_few X 16 256 _) (by omega)
  obtain ⟨gO, hgO⟩ : ∃ g, g = w3.heap.size := ⟨_, rfl⟩
  rw [← hgO] at HS4 ⊢
  have ho := lay_ok inv_nil 1 16 (by omega) rfl F 256 (by omega)
  obtain ⟨R, hR⟩ : ∃ R, R = layQ [] 1 16 F 256 := ⟨_, rfl⟩
  have hq := fun j hj A C hA hC => cells_16 r l F hfew j hj R A C hR hA hC
  obtain ⟨_, lS0, _, _, hrl, _⟩ := hq 0 (by decide) _ _ rfl rfl
  obtain ⟨Hs, hst, hno, hgo⟩ := HS4.out.store2
  have hL := (laid_16 hst F gO HS4.out.b0 (hno _ List.mem_cons_self) (by rw [← hR]; exact Nat.le_trans hrl (by decide)))
  rw [← hR] at hL
  have HL := Lib.hid hL
  have HGO := Lib.hid hgo
  have HQ := Lib.hid hq
  have HLS := Lib.hid lS0
  obtain ⟨T, hT⟩ : ∃ T : GS, T = (R.1, fun _ _ => none) := ⟨_, rfl⟩
  have HT := Lib.hid hT
  obtain ⟨id, hid⟩ : ∃ id, id = R.2 := ⟨_, rfl⟩
  have HID := Lib.hid hid
  rw [← hid] at HL
  clear hst hno hgo hL hF hfew ho hR hrl hq lS0 hgO hT hid
  go_wp2_with fail
  refine HL.out.mono ?_
  rintro e w5 ⟨rfl, hg⟩
  have HS5 := Lib.hid (show Gs _ _ _ _ _ _ _ _ _ T [(gO, .cells (br F 256) 4)] w5 from HT.out ▸ HGO.out _ _ hg)
  clear hg HL HGO HS4
  have HR5 := Lib.hid (HAT.out _ _ _ HS5.out)
  obtain ⟨d0, d1⟩ := two_cells HR5.out.ask
  have HLT := Lib.hid (show Lv T.1 (0 + 1) id from by rw [HT.out, HID.out]; exact HLS.out)
  clear HLS
  by_cases hJ : J < 0 ∨ 2 < J
  · obtain ⟨H1, h1, _⟩ := HS5.out.call
    have HC := Lib.hid (growN_bad h1 0 (by decide) id J HLT.out (by omega))
    clear h1
    go_wp2_with fail
    refine HC.out.mono ?_
    rintro e w6 ⟨rfl, hb⟩
    have HR6 := Lib.hid (HR5.out.on hb)
    clear hb HC HS5 HR5 d0 d1
    obtain ⟨d0, d1⟩ := two_cells HR6.out.ask
    by_cases hn : J < 0
    all_goals
      first | (have hp : 2 < J := by omega) | skip
      clear hJ
      go_wp2_with fail
      refine (num_err 1 _ (HLD.out.below HR6.out.below)).mono ?_
      rintro e w7 ⟨rfl, hb⟩
      have HB := Lib.hid (HR6.out.below.trans (hb.mono HR6.out.below.size))
      clear hb
      go_wp2_with (go_at_call 6; refine (sure_any _).mono ?_; rintro e w8 ⟨rfl, hb⟩; have HB2 := Lib.hid (HB.out.trans (hb.mono HB.out.size)); clear hb)
      go_ret
      exact ⟨rfl, HB2.out⟩
  · obtain ⟨j, rfl⟩ : ∃ j : Nat, J = j := ⟨J.toNat, by omega⟩
    have hj : j ≤ 2 := by omega
    have n0 : ¬ (j : Int) < 0 := by omega
    have n1 : ¬ 2 < (j : Int) := by omega
    have m0 : decide ((j : Int) < 0) = false := decide_eq_false (by omega)
    have m1 : decide ((2 : Int) < (j : Int)) = false := decide_eq_false (by omega)
    obtain ⟨A, hA⟩ : ∃ A, A = growQ r l 0 T id j := ⟨_, rfl⟩
    obtain ⟨C, hC⟩ : ∃ C, C = ctrG A.1 id := ⟨_, rfl⟩
    obtain ⟨D, hD⟩ : ∃ D : Nat → Bool, D = md16 (itP r l 16 F (2 ^ j)) := ⟨_, rfl⟩
    have hgc : GCells r l 0 64 8 R A C D (md16 F) := by
      rw [hD]
      exact HQ.out j hj A C (by rw [hA, HT.out, HID.out]) (by rw [hC, HID.out])
    have kT : GOk r l T := by rw [HT.out]; exact hgc.kS
    have lA : A.1.1.length ≤ 20000 := Nat.le_trans hgc.eA (by decide)
    have lC : C.1.1.length ≤ 20000 := Nat.le_trans hgc.eC (by decide)
    obtain ⟨H1, h1, h2⟩ := HS5.out.call
    have HC := Lib.hid (show Calls Tryd.prog 11 #[.pointer (some ⟨G, 0, none⟩), .int .i64 id, .int .i64 j] w5 fun e w' => e = .returned (.tuple #[.int .i64 A.2, .nilIface]) ∧ Gt w1.heap.size w5 G P Mp r l 20000 H1 A.1 w' from by
      rw [hA] at lA ⊢
      exact growP_ok HMY.out h1 kT 0 (by decide) id HLT.out j hj lA)
    have HX := Lib.hid h2
    have HCC := Lib.hid (fun (wx : World) (Hx : Nat → Prop) (hx : Gr w1.heap.size wx G P Mp r l A.1 20000 Hx) => (show Calls Tryd.prog 13 #[.pointer (some ⟨G, 0, none⟩), .int .i64 id] wx fun e w' => e = .returned (.tuple #[.int .i64 C.2, .nilIface]) ∧ Gt w1.heap.size wx G P Mp r l 20000 Hx C.1 w' from by
      have lA' : Lv A.1.1 (0 + 1) id := by rw [HID.out]; exact hgc.lA
      rw [hC] at lC ⊢
      exact center_ok hx 0 (by decide) id lA' lC))
    have HGC := Lib.hid hgc
    have HRG := Lib.hid (fun gx cx wx (hx : GridAt wx 256 gx F) => refGrow_16 r l HRL.out.1 HRL.out.2 gx cx F j hj wx hx)
    rw [← hD] at HRG
    clear hA hC hD hgc kT lA lC h1 h2 hJ hj HQ HT
    go_wp2_with fail
    refine HC.out.mono ?_
    rintro e w6 ⟨rfl, hg⟩
    have HS6 := Lib.hid (HX.out _ _ hg)
    clear hg HC HX HS5 d0 d1 HR5
    have HR6 := Lib.hid (HAT.out _ _ _ HS6.out)
    obtain ⟨d0, d1⟩ := two_cells HR6.out.ask
    obtain ⟨H1, h1, h2⟩ := HS6.out.call
    have HC := Lib.hid (HCC.out _ _ h1)
    have HX := Lib.hid h2
    clear h1 h2 HCC
    go_upto_region 14 with (fail)
    go_wp2_with fail
    refine HC.out.mono ?_
    rintro e w7 ⟨rfl, hg⟩
    have HS7 := Lib.hid (HX.out _ _ hg)
    clear hg HC HX HS6 d0 d1 HR6
    have HR7 := Lib.hid (HAT.out _ _ _ HS7.out)
    obtain ⟨d0, d1⟩ := two_cells HR7.out.ask
    obtain ⟨c0, c1⟩ := two_cells HR7.out.rule
    have HC := Lib.hid (HRG.out gO 256 w7 (grid_br HS7.out.b0))
    clear HRG
    go_upto_region 15 with (fail)
    go_wp2_with fail
    refine HC.out.mono ?_
    rintro e w8 ⟨g1, cp1, rfl, hgr, hb⟩
    have HS8 := Lib.hid (HS7.out.below hb)
    clear hb HC HS7 d0 d1 c0 c1 HR7
    obtain ⟨Hs, hst, _⟩ := HS8.out.store
    have HC := Lib.hid (has_8 hst A.2 HGC.out.vA g1 cp1 D hgr HGC.out.cA HGC.out.nA)
    clear hst hgr
    go_wp2_with fail
    refine HC.out.mono ?_
    rintro e w9 ⟨rfl, hb⟩
    have HS9 := Lib.hid (HS8.out.below hb)
    clear hb HC HS8
    have HC := Lib.hid (middle_16 gO 256 F w9 (grid_br HS9.out.b0))
    go_wp2_with fail
    refine HC.out.mono ?_
    rintro e w10 ⟨g2, cp2, rfl, hgr, hb⟩
    have HS10 := Lib.hid (HS9.out.below hb)
    clear hb HC HS9
    obtain ⟨Hs, hst, _⟩ := HS10.out.store
    have HC := Lib.hid (has_8 hst C.2 HGC.out.vC g2 cp2 (md16 F) hgr HGC.out.cC HGC.out.nC)
    clear hst hgr
    go_wp2_with fail
    refine HC.out.mono ?_
    rintro e w11 ⟨rfl, hb⟩
    have HS11 := Lib.hid (HS10.out.below hb)
    clear hb HC HS10
    have HB := Lib.hid (HAT.out _ _ _ HS11.out).below
    go_wp2_with (go_at_call 6; refine (sure_any _).mono ?_; rintro e w12 ⟨rfl, hb⟩; have HB2 := Lib.hid (HB.out.trans (hb.mono HB.out.size)); clear hb)
    go_ret
    exact ⟨rfl, HB2.out⟩
end Go.Proofs.YtgimphkamjojpaaDoor
namespace Go.Proofs.YtgimphkamjojpaaDoor
open Go.RowKit Ti Qd Go.Maps Go.WideMaps Ru Dr

set_option maxRecDepth 100000 in
set_option maxHeartbeats 2000000 in
theorem cells_walk_32 (r l : Nat) (hr : r < 65536 ∧ l < 65536) (a : Option Addr) (len cap : Nat) (X : Nat → Nat) (kk J : Int) (W : World) (hm : mayR r l = true) (hx : LiesX W a len X) (hlen : len ≤ 9223372036854775807) (hlaid : Laid W) (ep : wrap64 ((IntKind.u64.wrap kk).tmod 3) = 1) :
    Calls Tryd.prog 3 #[Rv r l, .slice a len cap, .agg #[.int .i64 kk, .int .i64 J]] W fun e w' => e = .returned (.bool true) ∧ Below W.heap.size W w' := by
  have HM := Lib.hid (fun w => may_ref r l w)
  rw [hm] at HM
  have HLD := Lib.hid hlaid
  have HRL := Lib.hid hr
  have HMY := Lib.hid hm
  have HR0 := Lib.hid (ak_start r l kk J W)
  have HX := Lib.hid hx
  have HEP := Lib.hid ep
  have HLN := Lib.hid hlen
  unfold Rv at HM ⊢
  obtain ⟨c0, c1⟩ := two_cells HR0.out.rule
  obtain ⟨d0, d1⟩ := two_cells HR0.out.ask
  clear hm hx ep hlen hlaid hr
  go_enter Tryd.func3, Tryd.ntmps3
  go_wp2_with fail
  refine (HM.out _).mono ?_
  rintro e w1 ⟨rfl, hb⟩
  have HR1 := Lib.hid (HR0.out.on hb)
  clear hb c0 c1 d0 d1 HR0
  obtain ⟨d0, d1⟩ := two_cells HR1.out.ask
  go_upto_region 4 with (fail)
  rw [HEP.out, show wrap64 (4 + 1) = 5 from by unfold wrap64; omega]
  have HN := Lib.hid (new_lit 20000 20000 rfl w1 (by decide) (by decide))
  go_wp2_with fail
  refine HN.out.mono ?_
  rintro e w2 ⟨P, H, rfl, hs, hb⟩
  have HR2 := Lib.hid (HR1.out.on hb)
  have HSZ := Lib.hid (And.intro hb.size (lt_of_block HR1.out.ask))
  clear d0 d1
  obtain ⟨c0, c1⟩ := two_cells HR2.out.rule
  have HG := Lib.hid (show Calls Tryd.prog 8 #[.pointer (some ⟨P, 0, none⟩), .agg #[.int .u16 r, .int .u16 l]] w2 (GMade w1.heap.size w2 P r l 20000 [] H) from gnew_ok hs hb.size r l HMY.out)
  have HS2 := Lib.hid (fun x hx => (hs.lt x hx).1)
  clear hs hb HN HR1
  go_wp2_with fail
  refine HG.out.mono ?_
  rintro e w3 ⟨G, Mp, H', rfl, hgr, hst⟩
  have HR3 := Lib.hid (HR2.out.on2 (hst.below HS2.out HSZ.out.1) HSZ.out.2)
  have HH := Lib.hid (show (∀ x, H' x → w1.heap.size ≤ x) ∧ w1.heap.size ≤ w3.heap.size from ⟨fun x hx => (hgr.lt x hx).1, Nat.le_trans HSZ.out.1 hst.size⟩)
  have HS := Lib.hid (Gs.start hgr)
  clear hgr hst HG HS2 c0 c1 HR2
  have HAT := Lib.hid (fun (s : GS) bx w (gs : Gs w1.heap.size w3 H' G P Mp r l 20000 s bx w) => HR3.out.on2 (gs.bel HH.out.1 HH.out.2) HSZ.out.2)
  go_wp2_with fail
  refine (show Calls Tryd.prog 9 #[.slice a len cap, .int .i64 32] w3 fun e W' => e = .returned (.slice (some ⟨w3.heap.size, 0, none⟩) 1024 1024) ∧ FI w3 X 32 1024 (min len 60) W' from field_ok a len cap X 32 w3 (HX.out.below HR3.out.below) HLN.out (by decide) (by decide)).mono ?_
  rintro e w4 ⟨rfl, hfi⟩
  have HS4 := Lib.hid (HS.out.made hfi.bel hfi.row)
  clear hfi HS HX
  obtain ⟨F, hF⟩ : ∃ F, F = fF X 32 (min len 60) := ⟨_, rfl⟩
  rw [← hF] at HS4
  have hfew : trN F 1024 ≤ 60 := by rw [hF]; exact Nat.le_trans (fF_few X 32 1024 _) (by omega)
  obtain ⟨gO, hgO⟩ : ∃ g, g = w3.heap.size := ⟨_, rfl⟩
  rw [← hgO] at HS4 ⊢
  have ho := lay_ok inv_nil 2 32 (by omega) rfl F 1024 (by omega)
  obtain ⟨R, hR⟩ : ∃ R, R = layQ [] 2 32 F 1024 := ⟨_, rfl⟩
  have hq := fun j hj A C hA hC => cells_32 r l F hfew j hj R A C hR hA hC
  obtain ⟨_, lS0, _, _, hrl, _⟩ := hq 0 (by decide) _ _ rfl rfl
  obtain ⟨Hs, hst, hno, hgo⟩ := HS4.out.store2
  have hL := (laid_32 hst F gO HS4.out.b0 (hno _ List.mem_cons_self) (by rw [← hR]; exact Nat.le_trans hrl (by decide)))
  rw [← hR] at hL
  have HL := Lib.hid hL
  have HGO := Lib.hid hgo
  have HQ := Lib.hid hq
  have HLS := Lib.hid lS0
  obtain ⟨T, hT⟩ : ∃ T : GS, T = (R.1, fun _ _ => none) := ⟨_, rfl⟩
  have HT := Lib.hid hT
  obtain ⟨id, hid⟩ : ∃ id, id = R.2 := ⟨_, rfl⟩
  have HID := Lib.hid hid
  rw [← hid] at HL
  clear hst hno hgo hL hF hfew ho hR hrl hq lS0 hgO hT hid
  go_wp2_with fail
  refine HL.out.mono ?_
  rintro e w5 ⟨rfl, hg⟩
  have HS5 := Lib.hid (show Gs _ _ _ _ _ _ _ _ _ T [(gO, .cells (br F 1024) 4)] w5 from HT.out ▸ HGO.out _ _ hg)
  clear hg HL HGO HS4
  have HR5 := Lib.hid (HAT.out _ _ _ HS5.out)
  obtain ⟨d0, d1⟩ := two_cells HR5.out.ask
  have HLT := Lib.hid (show Lv T.1 (1 + 1) id from by rw [HT.out, HID.out]; exact HLS.out)
  clear HLS
  by_cases hJ : J < 0 ∨ 3 < J
  · obtain ⟨H1, h1, _⟩ := HS5.out.call
    have HC := Lib.hid (growN_bad h1 1 (by decide) id J HLT.out (by omega))
    clear h1
    go_wp2_with fail
    refine HC.out.mono ?_
    rintro e w6 ⟨rfl, hb⟩
    have HR6 := Lib.hid (HR5.out.on hb)
    clear hb HC HS5 HR5 d0 d1
    obtain ⟨d0, d1⟩ := two_cells HR6.out.ask
    by_cases hn : J < 0
    all_goals
      first | (have hp : 3 < J := by omega) | skip
      clear hJ
      go_wp2_with fail
      refine (num_err 1 _ (HLD.out.below HR6.out.below)).mono ?_
      rintro e w7 ⟨rfl, hb⟩
      have HB := Lib.hid (HR6.out.below.trans (hb.mono HR6.out.below.size))
      clear hb
      go_wp2_with (go_at_call 6; refine (sure_any _).mono ?_; rintro e w8 ⟨rfl, hb⟩; have HB2 := Lib.hid (HB.out.trans (hb.mono HB.out.size)); clear hb)
      go_ret
      exact ⟨rfl, HB2.out⟩
  · obtain ⟨j, rfl⟩ : ∃ j : Nat, J = j := ⟨J.toNat, by omega⟩
    have hj : j ≤ 3 := by omega
    have n0 : ¬ (j : Int) < 0 := by omega
    have n1 : ¬ 3 < (j : Int) := by omega
    have m0 : decide ((j : Int) < 0) = false := decide_eq_false (by omega)
    have m1 : decide ((3 : Int) < (j : Int)) = false := decide_eq_false (by omega)
    obtain ⟨A, hA⟩ : ∃ A, A = growQ r l 1 T id j := ⟨_, rfl⟩
    obtain ⟨C, hC⟩ : ∃ C, C = ctrG A.1 id := ⟨_, rfl⟩
    obtain ⟨D, hD⟩ : ∃ D : Nat → Bool, D = md32 (itP r l 32 F (2 ^ j)) := ⟨_, rfl⟩
    have hgc : GCells r l 1 256 16 R A C D (md32 F) := by
      rw [hD]
      exact HQ.out j hj A C (by rw [hA, HT.out, HID.out]) (by rw [hC, HID.out])
    have kT : GOk r l T := by rw [HT.out]; exact hgc.kS
    have lA : A.1.1.length ≤ 20000 := Nat.le_trans hgc.eA (by decide)
    have lC : C.1.1.length ≤ 20000 := Nat.le_trans hgc.eC (by decide)
    obtain ⟨H1, h1, h2⟩ := HS5.out.call
    have HC := Lib.hid (show Calls Tryd.prog 11 #[.pointer (some ⟨G, 0, none⟩), .int .i64 id, .int .i64 j] w5 fun e w' => e = .returned (.tuple #[.int .i64 A.2, .nilIface]) ∧ Gt w1.heap.size w5 G P Mp r l 20000 H1 A.1 w' from by
      rw [hA] at lA ⊢
      exact growP_ok HMY.out h1 kT 1 (by decide) id HLT.out j hj lA)
    have HX := Lib.hid h2
    have HCC := Lib.hid (fun (wx : World) (Hx : Nat → Prop) (hx : Gr w1.heap.size wx G P Mp r l A.1 20000 Hx) => (show Calls Tryd.prog 13 #[.pointer (some ⟨G, 0, none⟩), .int .i64 id] wx fun e w' => e = .returned (.tuple #[.int .i64 C.2, .nilIface]) ∧ Gt w1.heap.size wx G P Mp r l 20000 Hx C.1 w' from by
      have lA' : Lv A.1.1 (1 + 1) id := by rw [HID.out]; exact hgc.lA
      rw [hC] at lC ⊢
      exact center_ok hx 1 (by decide) id lA' lC))
    have HGC := Lib.hid hgc
    have HRG := Lib.hid (fun gx cx wx (hx : GridAt wx 1024 gx F) => refGrow_32 r l HRL.out.1 HRL.out.2 gx cx F j hj wx hx)
    rw [← hD] at HRG
    clear hA hC hD hgc kT lA lC h1 h2 hJ hj HQ HT
    go_wp2_with fail
    refine HC.out.mono ?_
    rintro e w6 ⟨rfl, hg⟩
    have HS6 := Lib.hid (HX.out _ _ hg)
    clear hg HC HX HS5 d0 d1 HR5
    have HR6 := Lib.hid (HAT.out _ _ _ HS6.out)
    obtain ⟨d0, d1⟩ := two_cells HR6.out.ask
    obtain ⟨H1, h1, h2⟩ := HS6.out.call
    have HC := Lib.hid (HCC.out _ _ h1)
    have HX := Lib.hid h2
    clear h1 h2 HCC
    go_upto_region 14 with (fail)
    go_wp2_with fail
    refine HC.out.mono ?_
    rintro e w7 ⟨rfl, hg⟩
    have HS7 := Lib.hid (HX.out _ _ hg)
    clear hg HC HX HS6 d0 d1 HR6
    have HR7 := Lib.hid (HAT.out _ _ _ HS7.out)
    obtain ⟨d0, d1⟩ := two_cells HR7.out.ask
    obtain ⟨c0, c1⟩ := two_cells HR7.out.rule
    have HC := Lib.hid (HRG.out gO 1024 w7 (grid_br HS7.out.b0))
    clear HRG
    go_upto_region 15 with (fail)
    go_wp2_with fail
    refine HC.out.mono ?_
    rintro e w8 ⟨g1, cp1, rfl, hgr, hb⟩
    have HS8 := Lib.hid (HS7.out.below hb)
    clear hb HC HS7 d0 d1 c0 c1 HR7
    obtain ⟨Hs, hst, _⟩ := HS8.out.store
    have HC := Lib.hid (has_16 hst A.2 HGC.out.vA g1 cp1 D hgr HGC.out.cA HGC.out.nA)
    clear hst hgr
    go_wp2_with fail
    refine HC.out.mono ?_
    rintro e w9 ⟨rfl, hb⟩
    have HS9 := Lib.hid (HS8.out.below hb)
    clear hb HC HS8
    have HC := Lib.hid (middle_32 gO 1024 F w9 (grid_br HS9.out.b0))
    go_wp2_with fail
    refine HC.out.mono ?_
    rintro e w10 ⟨g2, cp2, rfl, hgr, hb⟩
    have HS10 := Lib.hid (HS9.out.below hb)
    clear hb HC HS9
    obtain ⟨Hs, hst, _⟩ := HS10.out.store
    have HC := Lib.hid (has_16 hst C.2 HGC.out.vC g2 cp2 (md32 F) hgr HGC.out.cC HGC.out.nC)
    clear hst hgr
    go_wp2_with fail
    refine HC.out.mono ?_
    rintro e w11 ⟨rfl, hb⟩
    have HS11 := Lib.hid (HS10.out.below hb)
    clear hb HC HS10
    have HB := Lib.hid (HAT.out _ _ _ HS11.out).below
    go_wp2_with (go_at_call 6; refine (sure_any _).mono ?_; rintro e w12 ⟨rfl, hb⟩; have HB2 := Lib.hid (HB.out.trans (hb.mono HB.out.size)); clear hb)
    go_ret
    exact ⟨rfl, HB2.out⟩
end Go.Proofs.YtgimphkamjojpaaDoor
namespace Go.Proofs.YtgimphkamjojpaaDoor
open Go.RowKit Ti Qd Go.Maps Go.WideMaps Ru Dr

set_option maxRecDepth 100000 in
set_option maxHeartbeats 2000000 in
theorem cells_walk_64 (r l : Nat) (hr : r < 65536 ∧ l < 65536) (a : Option Addr) (len cap : Nat) (X : Nat → Nat) (kk J : Int) (W : World) (hm : mayR r l = true) (hx : LiesX W a len X) (hlen : len ≤ 9223372036854775807) (hlaid : Laid W) (ep : wrap64 ((IntKind.u64.wrap kk).tmod 3) = 2) :
    Calls Tryd.prog 3 #[Rv r l, .slice a len cap, .agg #[.int .i64 kk, .int .i64 J]] W fun e w' => e = .returned (.bool true) ∧ Below W.heap.size W w' := by
  have HM := Lib.hid (fun w => may_ref r l w)
  rw [hm] at HM
  have HLD := Lib.hid hlaid
  have HRL := Lib.hid hr
  have HMY := Lib.hid hm
  have HR0 := Lib.hid (ak_start r l kk J W)
  have HX := Lib.hid hx
  have HEP := Lib.hid ep
  have HLN := Lib.hid hlen
  unfold Rv at HM ⊢
  obtain ⟨c0, c1⟩ := two_cells HR0.out.rule
  obtain ⟨d0, d1⟩ := two_cells HR0.out.ask
  clear hm hx ep hlen hlaid hr
  go_enter Tryd.func3, Tryd.ntmps3
  go_wp2_with fail
  refine (HM.out _).mono ?_
  rintro e w1 ⟨rfl, hb⟩
  have HR1 := Lib.hid (HR0.out.on hb)
  clear hb c0 c1 d0 d1 HR0
  obtain ⟨d0, d1⟩ := two_cells HR1.out.ask
  go_upto_region 4 with (fail)
  rw [HEP.out, show wrap64 (4 + 2) = 6 from by unfold wrap64; omega]
  have HN := Lib.hid (new_lit 20000 20000 rfl w1 (by decide) (by decide))
  go_wp2_with fail
  refine HN.out.mono ?_
  rintro e w2 ⟨P, H, rfl, hs, hb⟩
  have HR2 := Lib.hid (HR1.out.on hb)
  have HSZ := Lib.hid (And.intro hb.size (lt_of_block HR1.out.ask))
  clear d0 d1
  obtain ⟨c0, c1⟩ := two_cells HR2.out.rule
  have HG := Lib.hid (show Calls Tryd.prog 8 #[.pointer (some ⟨P, 0, none⟩), .agg #[.int .u16 r, .int .u16 l]] w2 (GMade w1.heap.size w2 P r l 20000 [] H) from gnew_ok hs hb.size r l HMY.out)
  have HS2 := Lib.hid (fun x hx => (hs.lt x hx).1)
  clear hs hb HN HR1
  go_wp2_with fail
  refine HG.out.mono ?_
  rintro e w3 ⟨G, Mp, H', rfl, hgr, hst⟩
  have HR3 := Lib.hid (HR2.out.on2 (hst.below HS2.out HSZ.out.1) HSZ.out.2)
  have HH := Lib.hid (show (∀ x, H' x → w1.heap.size ≤ x) ∧ w1.heap.size ≤ w3.heap.size from ⟨fun x hx => (hgr.lt x hx).1, Nat.le_trans HSZ.out.1 hst.size⟩)
  have HS := Lib.hid (Gs.start hgr)
  clear hgr hst HG HS2 c0 c1 HR2
  have HAT := Lib.hid (fun (s : GS) bx w (gs : Gs w1.heap.size w3 H' G P Mp r l 20000 s bx w) => HR3.out.on2 (gs.bel HH.out.1 HH.out.2) HSZ.out.2)
  go_wp2_with fail
  refine (show Calls Tryd.prog 9 #[.slice a len cap, .int .i64 64] w3 fun e W' => e = .returned (.slice (some ⟨w3.heap.size, 0, none⟩) 4096 4096) ∧ FI w3 X 64 4096 (min len 60) W' from field_ok a len cap X 64 w3 (HX.out.below HR3.out.below) HLN.out (by decide) (by decide)).mono ?_
  rintro e w4 ⟨rfl, hfi⟩
  have HS4 := Lib.hid (HS.out.made hfi.bel hfi.row)
  clear hfi HS HX
  obtain ⟨F, hF⟩ : ∃ F, F = fF X 64 (min len 60) := ⟨_, rfl⟩
  rw [← hF] at HS4
  have hfew : trN F 4096 ≤ 60 := by rw [hF]; exact Nat.le_trans (fF_few X 64 4096 _) (by omega)
  obtain ⟨gO, hgO⟩ : ∃ g, g = w3.heap.size := ⟨_, rfl⟩
  rw [← hgO] at HS4 ⊢
  have ho := lay_ok inv_nil 3 64 (by omega) rfl F 4096 (by omega)
  obtain ⟨R, hR⟩ : ∃ R, R = layQ [] 3 64 F 4096 := ⟨_, rfl⟩
  have hq := fun j hj A C hA hC => cells_64 r l F hfew j hj R A C hR hA hC
  obtain ⟨_, lS0, _, _, hrl, _⟩ := hq 0 (by decide) _ _ rfl rfl
  obtain ⟨Hs, hst, hno, hgo⟩ := HS4.out.store2
  have hL := (laid_64 hst F gO HS4.out.b0 (hno _ List.mem_cons_self) (by rw [← hR]; exact Nat.le_trans hrl (by decide)))
  rw [← hR] at hL
  have HL := Lib.hid hL
  have HGO := Lib.hid hgo
  have HQ := Lib.hid hq
  have HLS := Lib.hid lS0
  obtain ⟨T, hT⟩ : ∃ T : GS, T = (R.1, fun _ _ => none) := ⟨_, rfl⟩
  have HT := Lib.hid hT
  obtain ⟨id, hid⟩ : ∃ id, id = R.2 := ⟨_, rfl⟩
  have HID := Lib.hid hid
  rw [← hid] at HL
  clear hst hno hgo hL hF hfew ho hR hrl hq lS0 hgO hT hid
  go_wp2_with fail
  refine HL.out.mono ?_
  rintro e w5 ⟨rfl, hg⟩
  have HS5 := Lib.hid (show Gs _ _ _ _ _ _ _ _ _ T [(gO, .cells (br F 4096) 4)] w5 from HT.out ▸ HGO.out _ _ hg)
  clear hg HL HGO HS4
  have HR5 := Lib.hid (HAT.out _ _ _ HS5.out)
  obtain ⟨d0, d1⟩ := two_cells HR5.out.ask
  have HLT := Lib.hid (show Lv T.1 (2 + 1) id from by rw [HT.out, HID.out]; exact HLS.out)
  clear HLS
  by_cases hJ : J < 0 ∨ 4 < J
  · obtain ⟨H1, h1, _⟩ := HS5.out.call
    have HC := Lib.hid (growN_bad h1 2 (by decide) id J HLT.out (by omega))
    clear h1
    go_wp2_with fail
    refine HC.out.mono ?_
    rintro e w6 ⟨rfl, hb⟩
    have HR6 := Lib.hid (HR5.out.on hb)
    clear hb HC HS5 HR5 d0 d1
    obtain ⟨d0, d1⟩ := two_cells HR6.out.ask
    by_cases hn : J < 0
    all_goals
      first | (have hp : 4 < J := by omega) | skip
      clear hJ
      go_wp2_with fail
      refine (num_err 1 _ (HLD.out.below HR6.out.below)).mono ?_
      rintro e w7 ⟨rfl, hb⟩
      have HB := Lib.hid (HR6.out.below.trans (hb.mono HR6.out.below.size))
      clear hb
      go_wp2_with (go_at_call 6; refine (sure_any _).mono ?_; rintro e w8 ⟨rfl, hb⟩; have HB2 := Lib.hid (HB.out.trans (hb.mono HB.out.size)); clear hb)
      go_ret
      exact ⟨rfl, HB2.out⟩
  · obtain ⟨j, rfl⟩ : ∃ j : Nat, J = j := ⟨J.toNat, by omega⟩
    have hj : j ≤ 4 := by omega
    have n0 : ¬ (j : Int) < 0 := by omega
    have n1 : ¬ 4 < (j : Int) := by omega
    have m0 : decide ((j : Int) < 0) = false := decide_eq_false (by omega)
    have m1 : decide ((4 : Int) < (j : Int)) = false := decide_eq_false (by omega)
    obtain ⟨A, hA⟩ : ∃ A, A = growQ r l 2 T id j := ⟨_, rfl⟩
    obtain ⟨C, hC⟩ : ∃ C, C = ctrG A.1 id := ⟨_, rfl⟩
    obtain ⟨D, hD⟩ : ∃ D : Nat → Bool, D = md64 (itP r l 64 F (2 ^ j)) := ⟨_, rfl⟩
    have hgc : GCells r l 2 1024 32 R A C D (md64 F) := by
      rw [hD]
      exact HQ.out j hj A C (by rw [hA, HT.out, HID.out]) (by rw [hC, HID.out])
    have kT : GOk r l T := by rw [HT.out]; exact hgc.kS
    have lA : A.1.1.length ≤ 20000 := Nat.le_trans hgc.eA (by decide)
    have lC : C.1.1.length ≤ 20000 := Nat.le_trans hgc.eC (by decide)
    obtain ⟨H1, h1, h2⟩ := HS5.out.call
    have HC := Lib.hid (show Calls Tryd.prog 11 #[.pointer (some ⟨G, 0, none⟩), .int .i64 id, .int .i64 j] w5 fun e w' => e = .returned (.tuple #[.int .i64 A.2, .nilIface]) ∧ Gt w1.heap.size w5 G P Mp r l 20000 H1 A.1 w' from by
      rw [hA] at lA ⊢
      exact growP_ok HMY.out h1 kT 2 (by decide) id HLT.out j hj lA)
    have HX := Lib.hid h2
    have HCC := Lib.hid (fun (wx : World) (Hx : Nat → Prop) (hx : Gr w1.heap.size wx G P Mp r l A.1 20000 Hx) => (show Calls Tryd.prog 13 #[.pointer (some ⟨G, 0, none⟩), .int .i64 id] wx fun e w' => e = .returned (.tuple #[.int .i64 C.2, .nilIface]) ∧ Gt w1.heap.size wx G P Mp r l 20000 Hx C.1 w' from by
      have lA' : Lv A.1.1 (2 + 1) id := by rw [HID.out]; exact hgc.lA
      rw [hC] at lC ⊢
      exact center_ok hx 2 (by decide) id lA' lC))
    have HGC := Lib.hid hgc
    have HRG := Lib.hid (fun gx cx wx (hx : GridAt wx 4096 gx F) => refGrow_64 r l HRL.out.1 HRL.out.2 gx cx F j hj wx hx)
    rw [← hD] at HRG
    clear hA hC hD hgc kT lA lC h1 h2 hJ hj HQ HT
    go_wp2_with fail
    refine HC.out.mono ?_
    rintro e w6 ⟨rfl, hg⟩
    have HS6 := Lib.hid (HX.out _ _ hg)
    clear hg HC HX HS5 d0 d1 HR5
    have HR6 := Lib.hid (HAT.out _ _ _ HS6.out)
    obtain ⟨d0, d1⟩ := two_cells HR6.out.ask
    obtain ⟨H1, h1, h2⟩ := HS6.out.call
    have HC := Lib.hid (HCC.out _ _ h1)
    have HX := Lib.hid h2
    clear h1 h2 HCC
    go_upto_region 14 with (fail)
    go_wp2_with fail
    refine HC.out.mono ?_
    rintro e w7 ⟨rfl, hg⟩
    have HS7 := Lib.hid (HX.out _ _ hg)
    clear hg HC HX HS6 d0 d1 HR6
    have HR7 := Lib.hid (HAT.out _ _ _ HS7.out)
    obtain ⟨d0, d1⟩ := two_cells HR7.out.ask
    obtain ⟨c0, c1⟩ := two_cells HR7.out.rule
    have HC := Lib.hid (HRG.out gO 4096 w7 (grid_br HS7.out.b0))
    clear HRG
    go_upto_region 15 with (fail)
    go_wp2_with fail
    refine HC.out.mono ?_
    rintro e w8 ⟨g1, cp1, rfl, hgr, hb⟩
    have HS8 := Lib.hid (HS7.out.below hb)
    clear hb HC HS7 d0 d1 c0 c1 HR7
    obtain ⟨Hs, hst, _⟩ := HS8.out.store
    have HC := Lib.hid (has_32 hst A.2 HGC.out.vA g1 cp1 D hgr HGC.out.cA HGC.out.nA)
    clear hst hgr
    go_wp2_with fail
    refine HC.out.mono ?_
    rintro e w9 ⟨rfl, hb⟩
    have HS9 := Lib.hid (HS8.out.below hb)
    clear hb HC HS8
    have HC := Lib.hid (middle_64 gO 4096 F w9 (grid_br HS9.out.b0))
    go_wp2_with fail
    refine HC.out.mono ?_
    rintro e w10 ⟨g2, cp2, rfl, hgr, hb⟩
    have HS10 := Lib.hid (HS9.out.below hb)
    clear hb HC HS9
    obtain ⟨Hs, hst, _⟩ := HS10.out.store
    have HC := Lib.hid (has_32 hst C.2 HGC.out.vC g2 cp2 (md64 F) hgr HGC.out.cC HGC.out.nC)
    clear hst hgr
    go_wp2_with fail
    refine HC.out.mono ?_
    rintro e w11 ⟨rfl, hb⟩
    have HS11 := Lib.hid (HS10.out.below hb)
    clear hb HC HS10
    have HB := Lib.hid (HAT.out _ _ _ HS11.out).below
    go_wp2_with (go_at_call 6; refine (sure_any _).mono ?_; rintro e w12 ⟨rfl, hb⟩; have HB2 := Lib.hid (HB.out.trans (hb.mono HB.out.size)); clear hb)
    go_ret
    exact ⟨rfl, HB2.out⟩
end Go.Proofs.YtgimphkamjojpaaDoor
namespace Go.Proofs.YtgimphkamjojpaaDoor
open Go.RowKit Ti Qd Go.Maps Go.WideMaps Ru Dr

set_option maxRecDepth 100000 in
set_option maxHeartbeats 4000000 in
theorem cells_walk (r l : Nat) (a : Option Addr) (len cap : Nat) (zs : List Int) (c : Int × Int) (W : World) (w0 : r < 65536 ∧ l < 65536) (w1 : IsRow .u64 W a len cap zs) (_w2 : (-9223372036854775808 ≤ c.1 ∧ c.1 ≤ 9223372036854775807) ∧ (-9223372036854775808 ≤ c.2 ∧ c.2 ≤ 9223372036854775807)) (hlaid : Laid W) :
    Calls Tryd.prog 3 #[.agg #[.int .u16 r, .int .u16 l], .slice a len cap, .agg #[.int .i64 c.1, .int .i64 c.2]] W fun e w' => e = .returned (.bool true) ∧ Below W.heap.size W w' := by
  obtain ⟨kk, J⟩ := c
  obtain ⟨X, hx, hlen⟩ := isrow_x w1
  cases hm : mayR r l with
  | true =>
    obtain ⟨p, hp, ep⟩ := red_nat kk 3 (by decide) (by decide)
    have ep2 : wrap64 ((IntKind.u64.wrap kk).tmod 3) = (p : Int) := ep
    rcases (show p = 0 ∨ p = 1 ∨ p = 2 by omega) with rfl | rfl | rfl
    · exact cells_walk_16 r l w0 a len cap X kk J W hm hx hlen hlaid ep2
    · exact cells_walk_32 r l w0 a len cap X kk J W hm hx hlen hlaid ep2
    · exact cells_walk_64 r l w0 a len cap X kk J W hm hx hlen hlaid ep2
  | false =>
    have HM := Lib.hid (fun w => may_ref r l w)
    rw [hm] at HM
    have HR0 := Lib.hid (ak_start r l kk J W)
    unfold Rv at HM
    obtain ⟨c0, c1⟩ := two_cells HR0.out.rule
    clear hm hx hlen w1 w0 _w2 hlaid
    go_enter Tryd.func3, Tryd.ntmps3
    go_wp2_with fail
    refine (HM.out _).mono ?_
    rintro e w1 ⟨rfl, hb⟩
    have HB := Lib.hid (HR0.out.on hb).below
    clear hb
    go_wp2_with (go_at_call 6; refine (sure_any _).mono ?_; rintro e w2 ⟨rfl, hb⟩; have HB2 := Lib.hid (HB.out.trans (hb.mono HB.out.size)); clear hb)
    go_ret
    exact ⟨rfl, HB2.out⟩
end Go.Proofs.YtgimphkamjojpaaDoor

/-
  THE WALKS of fates.step and field.cut. No condition but those that each names.
  THE WALKS of rule.Next, and of the document's May. Conditions: the parts are numbers of 16 bits.
-/
import Derived.Deep.OwnRows
import Derived.Test.YtlejohclijjhnaaGreatDoorL19
import Derived.Test.YtlejohclijjhnaaGreatDoorL10
namespace Go.Proofs.YtlejohclijjhnaaGreatDoor
open Go.RowKit Ti Ru

def FieldAt (w : World) (g n : Nat) (F : Nat → R3) : Prop := w.heap[g]? = some (.cells (frow F n) 68)
theorem made_eq (v : Value) (n : Nat) : madeCells #[v] n = Array.replicate n v := by
  apply Array.ext
  · simp [madeCells]
  · intro i h1 h2
    simp [madeCells, Nat.mod_one]
theorem frow_zero (n : Nat) : Array.replicate n (Value.int .u32 0) = frow (fun _ => 0#32) n := by
  apply Array.ext_getElem?
  intro i
  by_cases h : i < n
  · rw [frow_get _ _ _ h]; simp [h]; rfl
  · simp [frow, h]
/-- the first k rows are the next ones -/
def parF (G : Nat → R3) (k : Nat) : Nat → R3 := fun j => if j < k then G j else 0#32
theorem par_step (G : Nat → R3) (k : Nat) : upd (parF G k) k (G k) = parF G (k + 1) := by
  funext j
  unfold upd parF
  by_cases e : j = k
  · subst e; simp
  · rw [if_neg e]
    by_cases q : j < k
    · rw [if_pos q, if_pos (by omega)]
    · rw [if_neg q, if_neg (by omega)]
theorem par_all (G : Nat → R3) (n : Nat) : frow (parF G n) n = frow G n := by
  apply Array.ext_getElem?
  intro i
  by_cases h : i < n
  · rw [frow_get _ _ _ h, frow_get _ _ _ h]; simp [parF, h]
  · simp [frow, h]
set_option maxRecDepth 100000 in
theorem info_u : (Tryz.prog.info? 68).map (fun i => (i.zero, i.size, i.bytes)) = some (some (.int .u32 0), 1, 4) := by kernel_rfl
set_option maxRecDepth 100000 in
theorem make_f (n : Nat) (x : Int) (hx : x = n) (hn : n ≤ 24) (w : World) : (Instr.makeSlice 177 (.int .i64 x) (.int .i64 x)).run Tryz.prog w = .ok (.slice (some ⟨w.heap.size, 0, none⟩) n n) (w.alloc (.cells (frow (fun _ => 0#32) n) 68)) := by
  subst hx
  rw [run_make_row' (P := Tryz.prog) 177 68 (.int .u32 0) 4 Tryz.underlying177 info_u rfl .i64 .i64 n (by omega) (by omega) w, made_eq, frow_zero]
theorem row_to (f b l : Nat) (x y z : R3) (mx mz : Int) (hx : mx = r3 x) (hz : mz = r3 z) (w : World) (h : FatAt w f b l) (ws : World) (hb : Below w.heap.size w ws) :
    Calls Tryz.prog 94 #[.pointer (some ⟨f, 0, none⟩), .int .u32 mx, .int .u32 (r3 y), .int .u32 mz] ws fun e w' => e = .returned (.int .u32 (r3 (rowM b l x y z))) ∧ Below ws.heap.size ws w' := by
  subst hx hz
  exact row_any f b l x y z ws ((hb.block _ (lt_of_block h)).trans h)
set_option maxRecDepth 100000 in
theorem step_any (f g b l n cp : Nat) (F : Nat → R3) (hn : n ≤ 24) (w : World) (hf : FatAt w f b l) (hg : FieldAt w g n F) :
    Calls Tryz.prog 86 #[.pointer (some ⟨f, 0, none⟩), .slice (some ⟨g, 0, none⟩) n cp] w fun e w' => ∃ g', e = .returned (.slice (some ⟨g', 0, none⟩) n n) ∧ FieldAt w' g' n (Ti.stM b l n F) ∧ Below w.heap.size w w' ∧ w.heap.size ≤ g' := by
  have HF := Lib.hid hf
  have HG := Lib.hid hg
  have n0 : (0 : Int) ≤ (n : Int) := by omega
  have n1 : (n : Int) ≤ 24 := by omega
  clear hf hg
  go_enter Tryz.func86, Tryz.ntmps86
  have hm := make_f n n rfl hn
  go_wp2
  have HX := Lib.hid (show (w.alloc (.cells (frow (fun _ => 0#32) n) 68)).heap[w.heap.size]? = some (.cells (frow (fun _ => 0#32) n) 68) from heap_alloc_new _ _)
  have HB := Lib.hid (alX w (.cells (frow (fun _ => 0#32) n) 68))
  clear hm
  obtain ⟨S, hS⟩ : ∃ S, S = Ti.stM b l n F := ⟨_, rfl⟩
  have HS := Lib.hid hS
  go_loopw [15] (fun i ws => ∃ k : Nat, k ≤ n ∧ i = .int .i64 (k : Int) ∧ Hid (ws.heap[w.heap.size]? = some (.cells (frow (parF S k) n) 68)) ∧ Hid (Below w.heap.size w ws)) (fun i _ => n - (intOf i).toNat)
  case atStart => exact ⟨0, by omega, rfl, by rw [show parF S 0 = fun _ => 0#32 from funext fun j => by simp [parF]]; exact HX, HB⟩
  case round =>
    obtain ⟨k, hk, rfl, HX2, HB2⟩ := hrel
    have k0 : (0 : Int) ≤ (k : Int) := by omega
    have HG2 := Lib.hid ((HB2.out.block _ (lt_of_block HG.out)).trans HG.out)
    by_cases hlt : k < n
    · have k1 : (k : Int) < (n : Int) := by omega
      have HC := Lib.hid (fr_cell HG2.out hlt)
      have c0 := HC.out.1
      have HP := Lib.hid (par_step S k)
      by_cases h0 : 0 < k
      · have i0 : (0 : Int) < (k : Int) := by omega
        have c1 := (fr_cell HG2.out (show k - 1 < n by omega)).1
        by_cases h1 : k + 1 < n
        · have i1 : (k : Int) < (n : Int) - 1 := by omega
          have c2 := (fr_cell HG2.out h1).1
          have HR := Lib.hid (row_to f b l (F (k - 1)) (F k) (F (k + 1)) (r3 (F (k - 1))) (r3 (F (k + 1))) rfl rfl w HF.out wr HB2.out)
          have HV := Lib.hid (show rowM b l (F (k - 1)) (F k) (F (k + 1)) = S k by rw [HS.out]; unfold Ti.stM; rw [if_pos h0, if_pos h1])
          go_wp2_with (go_at_call 94; with_reducible refine HR.out.mono ?_; rintro e w2 ⟨rfl, hb2⟩; have HX3 := Lib.hid ((hb2.block _ (lt_of_block HX2.out)).trans HX2.out); have HB3 := Lib.hid (HB2.out.trans (hb2.mono HB2.out.size)); clear hb2; obtain ⟨t0, t1⟩ := fr_cell HX3.out hlt)
          rw [HV.out]
          go_roundw
          case rel => exact ⟨k + 1, by omega, by go_num, by rw [← HP.out]; exact fr_set HX3.out _, HB3.out.setCell (p := ⟨w.heap.size, k, none⟩) (Nat.le_refl _) _⟩
          case measure => simp [intOf]; omega
        · have i1 : ¬ (k : Int) < (n : Int) - 1 := by omega
          have HR := Lib.hid (row_to f b l (F (k - 1)) (F k) (0#32) (r3 (F (k - 1))) 0 rfl rfl w HF.out wr HB2.out)
          have HV := Lib.hid (show rowM b l (F (k - 1)) (F k) (0#32) = S k by rw [HS.out]; unfold Ti.stM; rw [if_pos h0, if_neg h1])
          go_wp2_with (go_at_call 94; with_reducible refine HR.out.mono ?_; rintro e w2 ⟨rfl, hb2⟩; have HX3 := Lib.hid ((hb2.block _ (lt_of_block HX2.out)).trans HX2.out); have HB3 := Lib.hid (HB2.out.trans (hb2.mono HB2.out.size)); clear hb2; obtain ⟨t0, t1⟩ := fr_cell HX3.out hlt)
          rw [HV.out]
          go_roundw
          case rel => exact ⟨k + 1, by omega, by go_num, by rw [← HP.out]; exact fr_set HX3.out _, HB3.out.setCell (p := ⟨w.heap.size, k, none⟩) (Nat.le_refl _) _⟩
          case measure => simp [intOf]; omega
      · have i0 : ¬ (0 : Int) < (k : Int) := by omega
        by_cases h1 : k + 1 < n
        · have i1 : (k : Int) < (n : Int) - 1 := by omega
          have c2 := (fr_cell HG2.out h1).1
          have HR := Lib.hid (row_to f b l (0#32) (F k) (F (k + 1)) 0 (r3 (F (k + 1))) rfl rfl w HF.out wr HB2.out)
          have HV := Lib.hid (show rowM b l (0#32) (F k) (F (k + 1)) = S k by rw [HS.out]; unfold Ti.stM; rw [if_neg h0, if_pos h1])
          go_wp2_with (go_at_call 94; with_reducible refine HR.out.mono ?_; rintro e w2 ⟨rfl, hb2⟩; have HX3 := Lib.hid ((hb2.block _ (lt_of_block HX2.out)).trans HX2.out); have HB3 := Lib.hid (HB2.out.trans (hb2.mono HB2.out.size)); clear hb2; obtain ⟨t0, t1⟩ := fr_cell HX3.out hlt)
          rw [HV.out]
          go_roundw
          case rel => exact ⟨k + 1, by omega, by go_num, by rw [← HP.out]; exact fr_set HX3.out _, HB3.out.setCell (p := ⟨w.heap.size, k, none⟩) (Nat.le_refl _) _⟩
          case measure => simp [intOf]; omega
        · have i1 : ¬ (k : Int) < (n : Int) - 1 := by omega
          have HR := Lib.hid (row_to f b l (0#32) (F k) (0#32) 0 0 rfl rfl w HF.out wr HB2.out)
          have HV := Lib.hid (show rowM b l (0#32) (F k) (0#32) = S k by rw [HS.out]; unfold Ti.stM; rw [if_neg h0, if_neg h1])
          go_wp2_with (go_at_call 94; with_reducible refine HR.out.mono ?_; rintro e w2 ⟨rfl, hb2⟩; have HX3 := Lib.hid ((hb2.block _ (lt_of_block HX2.out)).trans HX2.out); have HB3 := Lib.hid (HB2.out.trans (hb2.mono HB2.out.size)); clear hb2; obtain ⟨t0, t1⟩ := fr_cell HX3.out hlt)
          rw [HV.out]
          go_roundw
          case rel => exact ⟨k + 1, by omega, by go_num, by rw [← HP.out]; exact fr_set HX3.out _, HB3.out.setCell (p := ⟨w.heap.size, k, none⟩) (Nat.le_refl _) _⟩
          case measure => simp [intOf]; omega
    · obtain rfl : k = n := by omega
      go_wp2
      go_ret
      exact ⟨_, rfl, by unfold FieldAt; rw [← HS.out, ← par_all]; exact HX2.out, HB2.out, Nat.le_refl _⟩
theorem and_255 (a : R3) : bits .and .u32 (r3 a) 255 = r3 (a &&& 255#32) := and_r3 a 255#32
set_option maxRecDepth 100000 in
theorem cut_any (g n x y : Nat) (F : Nat → R3) (hn : n ≤ 24) (hx : x ≤ 16) (hy : y + 8 ≤ n) (w : World) (hg : FieldAt w g n F) :
    Calls Tryz.prog 84 #[.slice (some ⟨g, 0, none⟩) n n, .int .i64 (x : Int), .int .i64 (y : Int)] w fun e w' => (∃ t : T6, e = .returned (.int .u64 (rg t)) ∧ CutAt F x y 8 t) ∧ w = w' := by
  have HG := Lib.hid hg
  clear hg
  have x0 : (0 : Int) ≤ (x : Int) := by omega
  have x1 : (x : Int) ≤ 16 := by omega
  have y0 : (0 : Int) ≤ (y : Int) := by omega
  have y1 : (y : Int) + 8 ≤ (n : Int) := by omega
  have n1 : (n : Int) ≤ 24 := by omega
  go_enter Tryz.func84, Tryz.ntmps84
  go_wp2
  go_loop [7, 16] (fun t i => ∃ (j : Nat) (t' : T6), j ≤ 8 ∧ i = .int .i64 (j : Int) ∧ t = .int .u64 (rg t') ∧ Hid (CutAt F x y j t')) (fun _ i => 8 - (intOf i).toNat)
  case atStart => exact ⟨0, 0#64, by omega, rfl, rfl, CutAt.nil _ _ _⟩
  case round =>
    obtain ⟨j, t, hj, rfl, rfl, HT⟩ := hrel
    have j0 : (0 : Int) ≤ (j : Int) := by omega
    by_cases hlt : j < 8
    · have j1 : (j : Int) < 8 := by omega
      have c0 := (fr_cell HG.out (show y + j < n by omega)).1
      have E1 := Lib.hid (show min (x : Int).toNat 32 = x by omega)
      have E2 := Lib.hid (show min (8 * (j : Int)).toNat 64 = 8 * j by omega)
      have HT2 := Lib.hid HT.out.row
      clear hlt
      go_wp2
      rw [shr_r3, and_255, to6_r3, shl_rg, or_rg]
      go_round
      case rel => exact ⟨j + 1, _, by omega, by go_num, rfl, HT2⟩
      case measure => simp [intOf]; omega
    · obtain rfl : j = 8 := by omega
      go_wp2
      go_ret
      exact ⟨⟨t, rfl, HT.out⟩, rfl⟩
end Go.Proofs.YtlejohclijjhnaaGreatDoor
namespace Go.Proofs.YtlejohclijjhnaaGreatDoor
open Go.RowKit Ru

theorem next_may (b l : Nat) (x : Bool) (n : Int) (hb : b < 65536) (hl : l < 65536) (h : mayR b l = false) (w : World) :
    Calls Tryz.prog 92 #[Rv b l, .bool x, .int .i64 n] w fun e w' => e = .returned (.tuple #[.bool false, .iface 63 (.int .i64 11)]) ∧ Below w.heap.size w w' := by
  have HC := Lib.hid (fun w => check_bad b l hb hl h w)
  unfold Rv at HC ⊢
  clear hb hl h
  go_enter Tryz.func92, Tryz.ntmps92
  go_wp2_with (go_at_call 26; refine (HC.out _).mono ?_; rintro e w1 ⟨rfl, hb1⟩; have HB1 := Lib.hid ((alX w _).trans (hb1.mono (by simp))); clear hb1)
  go_ret2
  exact ⟨rfl, HB1.out⟩
theorem next_arg (b l : Nat) (x : Bool) (n : Int) (h : mayR b l = true) (hn : n < 0 ∨ 8 < n) (w : World) :
    Calls Tryz.prog 92 #[Rv b l, .bool x, .int .i64 n] w fun e w' => e = .returned (.tuple #[.bool false, .iface 63 (.int .i64 1)]) ∧ Below w.heap.size w w' := by
  have HC := Lib.hid (fun w => check_ok b l h w)
  unfold Rv at HC ⊢
  clear h
  rcases (show n < 0 ∨ (¬ n < 0 ∧ 8 < n) by omega) with h1 | ⟨h1, h2⟩
  all_goals
    clear hn
    go_enter Tryz.func92, Tryz.ntmps92
    go_wp2_with (go_at_call 26; refine (HC.out _).mono ?_; rintro e w1 ⟨rfl, hb1⟩; have HB1 := Lib.hid ((alX w _).trans (hb1.mono (by simp))); clear hb1)
    go_ret2
    exact ⟨rfl, HB1.out⟩
def pick (b l : Nat) (x : Bool) (n : Nat) : Bool := if x then hs l n else hs b n
theorem next_ok (b l : Nat) (x : Bool) (n : Nat) (h : mayR b l = true) (hn : n ≤ 8) (w : World) :
    Calls Tryz.prog 92 #[Rv b l, .bool x, .int .i64 n] w fun e w' => e = .returned (.tuple #[.bool (pick b l x n), .nilIface]) ∧ Below w.heap.size w w' := by
  have HC := Lib.hid (fun w => check_ok b l h w)
  have hm := mayR_true h
  have HB := Lib.hid (fun w => has_any b n (by omega) (by omega) w)
  have HL := Lib.hid (fun w => has_any l n (by omega) (by omega) w)
  unfold Rv at HC ⊢
  have n0 : ¬ (n : Int) < 0 := by omega
  have n1 : ¬ (8 : Int) < (n : Int) := by omega
  clear h hm hn
  cases x
  all_goals
    go_enter Tryz.func92, Tryz.ntmps92
    go_wp2_with (first | (go_at_call 26; refine (HC.out _).mono ?_; rintro e w1 ⟨rfl, hb1⟩; have HB1 := Lib.hid ((alX w _).trans (hb1.mono (by simp))); have hn := (hb1.block w.heap.size (by simp)).trans (heap_alloc_new w _); have c0 := cell_of_row _ _ 0 _ _ _ hn; have c1 := cell_of_row _ _ 1 _ _ _ hn; clear hn hb1) | (go_at_call 104; (first | with_reducible refine (HB.out _).mono ?_ | with_reducible refine (HL.out _).mono ?_); rintro e w' ⟨rfl, rfl⟩))
    go_ret2
    exact ⟨rfl, HB1.out⟩
/-- the document's -/
theorem may_ref (b l : Nat) (w : World) :
    Calls Tryz.prog 4 #[Rv b l] w fun e w' => e = .returned (.bool (mayR b l)) ∧ Below w.heap.size w w' := by
  unfold Rv
  have b0 : (0 : Int) ≤ (b : Int) := by omega
  have l0 : (0 : Int) ≤ (l : Int) := by omega
  by_cases h1 : b < 512
  · by_cases h2 : l < 512
    · have HM := Lib.hid (show ((b : Int) % 2 == 0) = mayR b l by
        simp only [mayR, h1, h2, decide_true, Bool.true_and]
        rw [Bool.eq_iff_iff, beq_iff_eq, beq_iff_eq]
        omega)
      have i1 : (b : Int) < 512 := by omega
      have i2 : (l : Int) < 512 := by omega
      clear h1 h2
      go_enter Tryz.func4, Tryz.ntmps4
      go_wp2
      go_ret
      exact ⟨by rw [← HM.out]; rfl, alX _ _⟩
    · have HM := Lib.hid (show mayR b l = false by simp [mayR, h2])
      have i1 : (b : Int) < 512 := by omega
      have i2 : ¬ (l : Int) < 512 := by omega
      have i3 : decide ((l : Int) < 512) = false := by simpa using i2
      clear h1 h2
      go_enter Tryz.func4, Tryz.ntmps4
      go_wp2
      go_ret
      exact ⟨by rw [HM.out]; rfl, alX _ _⟩
  · have HM := Lib.hid (show mayR b l = false by simp [mayR, h1])
    have i1 : ¬ (b : Int) < 512 := by omega
    have i3 : decide ((b : Int) < 512) = false := by simpa using i1
    clear h1
    go_enter Tryz.func4, Tryz.ntmps4
    go_wp2
    go_ret
    exact ⟨by rw [HM.out]; rfl, alX _ _⟩
end Go.Proofs.YtlejohclijjhnaaGreatDoor

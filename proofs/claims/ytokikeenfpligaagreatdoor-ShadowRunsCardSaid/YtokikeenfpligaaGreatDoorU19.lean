/-
  THE WALKS of (*Disk).has, Writes, and of the atomic number. Conditions: a disk lies in memory.
  THE WALKS of (*Disk).Read. Conditions: a disk lies in memory.
-/
import Derived.WalkSpells
import Derived.WalkLawsBesides
import Derived.Laws.LoneSync
import Derived.OwnWalk
import Derived.Deep.QuietTactic
import Derived.BigQuiet
import Derived.Test.YtokikeenfpligaaGreatDoorU18
namespace Go.Proofs.YtokikeenfpligaaGreatDoor
open Go.RowKit

set_option maxRecDepth 100000 in
theorem has_yes {B : Nat} (s : St) (i : Nat) (w : World) (h : DiskAt B w s) (hi : i < s.n) :
    Calls Tryz.prog 69 #[.pointer (some ⟨s.D, 0, none⟩), .int .i64 i] w fun e w' => e = .returned (.bool true) ∧ w = w' := by
  have c0 := h.d0
  have h1 := h.ok.n1
  have HH := Lib.hid h
  clear h
  have i0 : (0 : Int) ≤ (i : Int) := by omega
  go_enter Tryz.func69, Tryz.ntmps69
  go_wp2
  go_ret
  exact ⟨rfl, rfl⟩
set_option maxRecDepth 100000 in
theorem has_no {B : Nat} (s : St) (i : Int) (w : World) (h : DiskAt B w s) (hi : i < 0 ∨ (s.n : Int) ≤ i) :
    Calls Tryz.prog 69 #[.pointer (some ⟨s.D, 0, none⟩), .int .i64 i] w fun e w' => e = .returned (.bool false) ∧ w = w' := by
  have c0 := h.d0
  have h1 := h.ok.n1
  have HH := Lib.hid h
  clear h
  rcases hi with hi | hi
  · have i0 : ¬ (0 : Int) ≤ i := by omega
    go_enter Tryz.func69, Tryz.ntmps69
    go_wp2
    go_ret
    exact ⟨rfl, rfl⟩
  · have i0 : (0 : Int) ≤ i := by omega
    have i1 : ¬ i < (s.n : Int) := by omega
    go_enter Tryz.func69, Tryz.ntmps69
    go_wp2
    go_ret
    exact ⟨rfl, rfl⟩
set_option maxRecDepth 100000 in
theorem add_any (D : Nat) (x : Int) (w : World) (c3 : w.cell? ⟨D, 3, none⟩ = some (.int .i64 x)) (f3 : w.frozen? ⟨D, 3, none⟩ = false) (h0 : 0 ≤ x) (h1 : x < 4611686018427387904) :
    Calls Tryz.prog 144 #[.pointer (some ⟨D, 3, none⟩), .int .i64 1] w fun e w' => e = .returned (.int .i64 (x + 1)) ∧ w' = w.setCell ⟨D, 3, none⟩ (.int .i64 (x + 1)) := by
  have hadd := run_call_add (P := Tryz.prog) Tryz.func157 (by kernel_rfl) (by kernel_rfl) (by kernel_rfl) .i64 (by kernel_rfl) (y := 1) (s := x + 1) c3 f3 (by simp [go_sem]; exact IntWalk.i64_in _ (by omega))
  go_enter Tryz.func144, Tryz.ntmps144
  go_wp2
  go_ret
  exact ⟨rfl, rfl⟩

/-- whole numbers that lie in memory from a on -/
def Ints (w : World) (a : Option Addr) (xs : List Int) : Prop :=
  ∀ i (h : i < xs.length), ∃ b off, a = some ⟨b, off, none⟩ ∧ w.cell? ⟨b, off + i, none⟩ = some (.int .i64 xs[i])
def il (xs : List Int) : List Value := xs.map (Value.int .i64)
theorem nats_il (l : List Nat) : nats l = il (l.map fun (n : Nat) => (n : Int)) := by simp [nats, il]
theorem Ints.below {w w' : World} {a : Option Addr} {xs : List Int} (h : Ints w a xs) (hb : Below w.heap.size w w') : Ints w' a xs := by
  intro i hi
  obtain ⟨b, off, ha, hc⟩ := h i hi
  exact ⟨b, off, ha, by rw [hb.cell (World.block_lt_of_cell? w _ hc)]; exact hc⟩
theorem ints_nil (w : World) (a : Option Addr) : Ints w a [] := fun i hi => absurd hi (by simp)
theorem own_ints {w : World} {B n : Nat} {v : Value} {xs : List Int} (h : w.ownsRow B 3 1 v n (il xs)) : ∃ ao cap, v = .slice ao n cap ∧ Ints w ao xs ∧ n ≤ cap ∧ xs.length = n := by
  obtain ⟨hl, h⟩ := h
  have hn : xs.length = n := by simp [il] at hl; omega
  rcases h with ⟨rfl, h0⟩ | ⟨g, cap, cur, rfl, _, hg, hnc, _, hcs, ht⟩
  · obtain rfl : xs = [] := List.eq_nil_of_length_eq_zero (by omega)
    exact ⟨none, 0, by rw [h0], fun i hi => absurd hi (by simp), by omega, by omega⟩
  · refine ⟨_, cap, rfl, ?_, by omega, hn⟩
    intro i hi
    refine ⟨g, 0, rfl, ?_⟩
    rw [Nat.zero_add, cell_of_row w g i _ _ _ hg]
    have e : (il xs)[i]? = some (Value.int .i64 xs[i]) := by simp [il, hi]
    rw [← ht, List.getElem?_take] at e
    have hi' : i < n * 1 := by omega
    rw [if_pos hi'] at e
    simpa using e
set_option maxRecDepth 100000 in
theorem info_i : (Tryz.prog.info? 3).map (fun i => (i.zero, i.size, i.bytes)) = some (some (.int .i64 0), 1, 8) := by kernel_rfl

set_option maxRecDepth 100000 in
theorem cloneB_at (b off c : Nat) (xs : List Int) (w : World) (hn : xs.length = 512) (hx : Lies w (some ⟨b, off, none⟩) xs) :
    Calls Tryz.prog 70 #[.slice (some ⟨b, off, none⟩) 512 c] w fun e w' => ∃ v', e = .returned v' ∧ w'.ownsRow w.heap.size 5 1 v' 512 (bl xs) ∧ Below w.heap.size w w' := by
  obtain ⟨i0, hi, hz0, hz1, hz2⟩ := info_parts info_b
  have q : ∀ (w : World) (a : Option Addr) (n c n' c' : Nat), (binOp .eql 72 (.slice a n c) (.slice none n' c')).run Tryz.prog w = .ok (.bool a.isNone) w := fun w a n c n' c' => Lib.run_eql_slice_nil w _ _ a n c n' c' Tryz.underlying72
  have HX := Lib.hid hx
  have HN := Lib.hid hn
  clear hx hn
  go_enter Tryz.func70, Tryz.ntmps70
  go_wp2_with (at_builtin; refine wpList_append_own _ rfl _ _ 72 rfl w.heap.size 5 i0 (.int .u8 0) 1 1 Tryz.underlying72 hi hz0 hz1 hz2 rfl (by decide) _ _ _ rfl (World.ownsRow_made w #[] 0 (Nat.le_refl _) (Nat.zero_le _) rfl) ⟨b, off, none⟩ 512 c (bl xs) rfl ?qc1 ?qc2 ?qc3 ?qc4 ?qc5 ?qc6 ?_)
  case qc1 => rw [bl_len, HN.out]
  case qc2 =>
    intro j u hj
    rw [Addr.add_mid]
    exact Lib.cell?_alloc_some _ (bl_lies HX.out j u hj)
  case qc3 => exact bl_one xs
  case qc4 => unfold maxLen; omega
  case qc5 => omega
  case qc6 => simp
  intro v' w1 hown hgrow hnil
  go_wp2
  go_ret
  refine ⟨v', rfl, by simpa using hown, ?_⟩
  exact ((Below.refl _ w).alloc (Nat.le_refl _) _).grown hgrow (by simp) (by intro k hk; simp [Value.ownBlock] at hk; omega)

def St.ints (s : St) : List Int := s.pend.map fun (n : Nat) => (n : Int)
theorem St.ints_len (s : St) : s.ints.length = s.pend.length := by simp [St.ints]
theorem nodup_le : ∀ (n : Nat) (l : List Nat), l.Nodup → (∀ x ∈ l, x < n) → l.length ≤ n
  | 0, l, _, h => by
    cases l with
    | nil => simp
    | cons x l => exact absurd (h x (by simp)) (by omega)
  | n + 1, l, hd, h => by
    by_cases hm : n ∈ l
    · have h1 := List.length_erase_of_mem hm
      have h2 := nodup_le n (l.erase n) (hd.erase n) (fun x hx => by
        have a := (hd.mem_erase_iff).1 hx
        have b := h x a.2
        have := a.1
        omega)
      omega
    · have := nodup_le n l hd (fun x hx => by
        have b := h x hx
        have : x ≠ n := fun e => hm (e ▸ hx)
        omega)
      omega
theorem pend_le {B : Nat} {s : St} (h : s.Ok B) : s.pend.length ≤ s.n :=
  nodup_le s.n s.pend h.nd fun x hx => h.lim x ((h.mem x).1 hx)
end Go.Proofs.YtokikeenfpligaaGreatDoor
namespace Go.Proofs.YtokikeenfpligaaGreatDoor
open Go.RowKit

/-- what a sector is now -/
def St.cur (s : St) (i j : Nat) : Int := match s.late i with | some _ => s.now i j | none => s.sure i j
/-- 512 bytes in new memory, and no error -/
def NewBytes (w : World) (f : Nat → Int) (e : Ending) (w' : World) : Prop :=
  ∃ g cap, e = .returned (.tuple #[.slice (some ⟨g, 0, none⟩) 512 cap, .nilIface]) ∧ Lies w' (some ⟨g, 0, none⟩) (rowOf f) ∧ 512 ≤ cap ∧ w.heap.size ≤ g ∧ Below w.heap.size w w'
set_option maxRecDepth 100000 in
theorem read_no {B : Nat} (s : St) (i : Int) (w : World) (h : DiskAt B w s) (hi : i < 0 ∨ (s.n : Int) ≤ i) :
    Calls Tryz.prog 32 #[.pointer (some ⟨s.D, 0, none⟩), .int .i64 i] w fun e w' => e = .returned (.tuple #[.slice none 0 0, .iface 78 (.int .i64 4)]) ∧ w = w' := by
  have HH := Lib.hid h
  have HI := Lib.hid hi
  clear h hi
  go_enter Tryz.func32, Tryz.ntmps32
  go_wp2_with (go_at_call 69; refine (has_no s i _ HH.out HI.out).mono ?_; rintro e w' ⟨rfl, rfl⟩)
  go_ret2
  exact ⟨rfl, rfl⟩
set_option maxRecDepth 100000 in
theorem read_any {B : Nat} (s : St) (i : Nat) (w : World) (h : DiskAt B w s) (hi : i < s.n) :
    Calls Tryz.prog 32 #[.pointer (some ⟨s.D, 0, none⟩), .int .i64 i] w (NewBytes w (s.cur i)) := by
  have c0 := h.d0
  have c1 := h.d1
  have cl := h.cL i hi
  have HH := Lib.hid h
  have i0 : (0 : Int) ≤ (i : Int) := by omega
  have n1 := h.ok.n1
  cases hlt : s.late i with
  | none =>
    have HL := Lib.hid (show Lies w (some ⟨s.S, i * 512, none⟩) (rowOf (s.cur i)) by
      have e : s.cur i = s.sure i := by funext j; unfold St.cur; rw [hlt]
      rw [e]
      exact Lies.row (fun j hj => h.cS i j hi hj) (h.ok.us i))
    have HLT := Lib.hid hlt
    rw [hlt] at cl
    change w.cell? _ = some (.pointer none) at cl
    clear h hlt
    go_enter Tryz.func32, Tryz.ntmps32
    go_wp2_with (first | (go_at_call 69; refine (has_yes s i _ HH.out hi).mono ?_; rintro e w' ⟨rfl, rfl⟩) | (go_at_call 70; refine (cloneB_at _ _ _ _ _ (rowOf_len _) HL.out).mono ?_; rintro e w1 ⟨v1, rfl, hown, hb⟩))
    obtain ⟨g, cap, rfl, hl, hc, hg⟩ := own_bytes hown (by omega) HL.out.byte
    go_ret2
    exact ⟨g, cap, rfl, hl, hc, hg, hb⟩
  | some b =>
    have HL := Lib.hid (show Lies w (some ⟨b, 0, none⟩) (rowOf (s.cur i)) by
      have e : s.cur i = s.now i := by funext j; unfold St.cur; rw [hlt]
      rw [e]
      exact Lies.row (fun j hj => by rw [Nat.zero_add]; exact h.cT i b hlt j hj) (h.ok.un i))
    have HLT := Lib.hid hlt
    rw [hlt] at cl
    change w.cell? _ = some (.pointer (some ⟨b, 0, none⟩)) at cl
    clear h hlt
    go_enter Tryz.func32, Tryz.ntmps32
    go_wp2_with (first | (go_at_call 69; refine (has_yes s i _ HH.out hi).mono ?_; rintro e w' ⟨rfl, rfl⟩) | (go_at_call 70; refine (cloneB_at _ _ _ _ _ (rowOf_len _) HL.out).mono ?_; rintro e w1 ⟨v1, rfl, hown, hb⟩))
    obtain ⟨g, cap, rfl, hl, hc, hg⟩ := own_bytes hown (by omega) HL.out.byte
    go_ret2
    exact ⟨g, cap, rfl, hl, hc, hg, hb⟩
end Go.Proofs.YtokikeenfpligaaGreatDoor

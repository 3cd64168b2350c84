/-
  THE DOCUMENT's OWN LISTS: strings and numbers that lie in memory; place, New, Flush of the reference. Conditions: those that each lemma names.
-/
import Derived.Test.YtibopcbebcikbaaDoorNil
namespace Go.Proofs.YtibopcbebcikbaaDoor
open Go.RowKit

/-- texts that lie in memory from a on -/
def Strs (w : World) (a : Option Addr) (xs : List ByteArray) : Prop :=
  ∀ i (h : i < xs.length), ∃ b off, a = some ⟨b, off, none⟩ ∧ w.cell? ⟨b, off + i, none⟩ = some (.string xs[i])
def sl (xs : List ByteArray) : List Value := xs.map Value.string
theorem Strs.below {w w' : World} {a : Option Addr} {xs : List ByteArray} (h : Strs w a xs) (hb : Below w.heap.size w w') : Strs w' a xs := by
  intro i hi
  obtain ⟨b, off, ha, hc⟩ := h i hi
  exact ⟨b, off, ha, by rw [hb.cell (World.block_lt_of_cell? w _ hc)]; exact hc⟩
theorem strs_nil (w : World) (a : Option Addr) : Strs w a [] := fun i hi => absurd hi (by simp)
theorem own_strs {w : World} {B n : Nat} {v : Value} {xs : List ByteArray} (h : w.ownsRow B 9 1 v n (sl xs)) : ∃ ao cap, v = .slice ao n cap ∧ Strs w ao xs ∧ n ≤ cap ∧ xs.length = n ∧ (∀ b off, ao = some ⟨b, off, none⟩ → B ≤ b ∧ off = 0) := by
  obtain ⟨hl, h⟩ := h
  have hn : xs.length = n := by simp [sl] at hl; omega
  rcases h with ⟨rfl, h0⟩ | ⟨g, cap, cur, rfl, hB, hg, hnc, _, hcs, ht⟩
  · obtain rfl : xs = [] := List.eq_nil_of_length_eq_zero (by omega)
    exact ⟨none, 0, by rw [h0], fun i hi => absurd hi (by simp), by omega, by omega, fun b off e => by cases e⟩
  · refine ⟨_, cap, rfl, ?_, by omega, hn, fun b off e => by injection e with e; injection e with e1 e2; exact ⟨by omega, e2.symm⟩⟩
    intro i hi
    refine ⟨g, 0, rfl, ?_⟩
    rw [Nat.zero_add, cell_of_row w g i _ _ _ hg]
    have e : (sl xs)[i]? = some (Value.string xs[i]) := by simp [sl, hi]
    rw [← ht, List.getElem?_take] at e
    have hi' : i < n * 1 := by omega
    rw [if_pos hi'] at e
    simpa using e
theorem info_str : (Tryd.prog.info? 9).map (fun i => (i.zero, i.size, i.bytes)) = some (some (.string ⟨#[]⟩), 1, 16) := by kernel_rfl

/-- the place of a number in a list, -1 where it is not -/
def plc (xs : List Int) (x : Int) : Int := if x ∈ xs then (xs.idxOf x : Int) else -1
theorem idx_at' {xs : List Int} {k : Nat} (hk : k < xs.length) (hn : xs[k] ∉ xs.take k) : xs.idxOf xs[k] = k := by
  have e : xs = xs.take k ++ xs[k] :: xs.drop (k + 1) := by
    rw [← List.drop_eq_getElem_cons hk, List.take_append_drop]
  have h2 : (xs.take k ++ xs[k] :: xs.drop (k + 1)).idxOf xs[k] = k := by
    rw [List.idxOf_append, if_neg hn, List.idxOf_cons_self, List.length_take]
    omega
  rw [← e] at h2
  exact h2
set_option maxRecDepth 100000 in
theorem place_any (a : Option Addr) (n c : Nat) (xs : List Int) (x : Int) (w : World) (ha : Ints w a xs) (hn : xs.length = n) (hm : n ≤ 9223372036854775807) :
    Calls Tryd.prog 37 #[.slice a n c, .int .i64 x] w fun e w' => e = .returned (.int .i64 (plc xs x)) ∧ w = w' := by
  have HA := Lib.hid ha
  have HN := Lib.hid hn
  clear ha hn
  go_enter Tryd.func37, Tryd.ntmps37
  go_wp2
  go_loop [5] (fun i => ∃ k : Nat, k ≤ n ∧ i = .int .i64 k ∧ Hid (x ∉ xs.take k)) (fun i => n - (intOf i).toNat)
  case atStart => exact ⟨0, by omega, rfl, by simp [Hid]⟩
  case round =>
    obtain ⟨k, hk, rfl, HT⟩ := hrel
    by_cases hlt : k < n
    · have hkl : k < xs.length := by rw [HN.out]; exact hlt
      obtain ⟨b, off, rfl, hc⟩ := HA.out k hkl
      have hlt' : (k : Int) < (n : Int) := by omega
      by_cases he : xs[k] = x
      · have HP := Lib.hid (show (k : Int) = plc xs x by
          have hmem : x ∈ xs := he ▸ List.getElem_mem hkl
          unfold plc
          rw [if_pos hmem, ← he, idx_at' hkl (by rw [he]; exact HT.out)])
        rw [he] at hc
        clear he
        go_wp2
        go_ret
        rw [HP.out]
        exact ⟨rfl, rfl⟩
      · have hb : (xs[k] == x) = false := by rw [beq_eq_false_iff_ne]; exact he
        have HT2 : Hid (x ∉ xs.take (k + 1)) := by
          show x ∉ xs.take (k + 1)
          rw [List.take_succ_eq_append_getElem hkl, List.mem_append, List.mem_singleton]
          exact fun q => q.elim HT.out (fun e => he e.symm)
        generalize xs[k] = y at hc hb he
        clear he
        go_wp2
        go_round
        case rel => exact ⟨k + 1, by omega, by go_num, HT2⟩
        case measure => simp [intOf]; omega
    · obtain rfl : k = n := by omega
      have HP := Lib.hid (show (-1 : Int) = plc xs x by
        have h := HT.out
        rw [← HN.out, List.take_length] at h
        unfold plc
        rw [if_neg h])
      go_wp2
      go_ret
      rw [← HP.out]
      exact ⟨rfl, rfl⟩

/-- the reference's disk -/
def rval (now sure : Value) (pend : Value) (writes left : Int) : List Value := [now, sure, pend, .int .i64 writes, .int .i64 left]
def ragg (now sure : Value) (pend : Value) (writes left : Int) : Value := .agg #[now, sure, pend, .int .i64 writes, .int .i64 left]
set_option maxRecDepth 100000 in
theorem refflush_any (now sure : Option Addr) (n1 c1 n2 c2 : Nat) (pa : Option Addr) (pn pc : Nat) (writes left : Int) (w : World) :
    Calls Tryd.prog 24 #[ragg (.slice now n1 c1) (.slice sure n2 c2) (.slice pa pn pc) writes left] w fun e w' => e = .returned (ragg (.slice now n1 c1) (.slice now n1 c1) (.slice none 0 0) writes left) ∧ Below w.heap.size w w' := by
  unfold ragg
  go_enter Tryd.func24, Tryd.ntmps24
  go_wp2
  refine bodyPost_ret (v := .agg #[.slice now n1 c1, .slice now n1 c1, .slice none 0 0, .int .i64 writes, .int .i64 left]) (by simp [results, Tryd.results24, go_sem]) rfl ⟨rfl, ?_⟩
  exact ((Below.refl _ _).alloc (Nat.le_refl _) _).alloc (by simp) _
end Go.Proofs.YtibopcbebcikbaaDoor

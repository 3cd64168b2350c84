/-
  THE DOCUMENT's OWN LISTS of pages: entries that lie in memory; find, Tables of the reference. Conditions: those that each lemma names.
  THE REFERENCE's without: a list without a number. Conditions: the entries lie in memory.
-/
import Derived.WalkKit
import Derived.Maps.AppendAt
import Derived.Test.YtokikeenfpligaaGreatDoorU12
namespace Go.Proofs.YtokikeenfpligaaGreatDoor
open Go.RowKit

structure Ent where
  n : Int
  ki : Int
  nu : Int
  ep : Int
  si : Int
  a : Option Addr
  q : Nat
  c : Nat
  late : Bool
def Ent.cells (x : Ent) : List Value := [.int .i64 x.n, .int .u8 x.ki, .int .u32 x.nu, .int .u64 x.ep, .int .i64 x.si, .slice x.a x.q x.c, .bool x.late]
def Ent.val (x : Ent) : Value := .agg #[.int .i64 x.n, .int .u8 x.ki, .int .u32 x.nu, .int .u64 x.ep, .int .i64 x.si, .slice x.a x.q x.c, .bool x.late]
/-- entries on end -/
def el : List Ent → List Value
  | [] => []
  | x :: L => x.cells ++ el L
theorem el_len : ∀ L : List Ent, (el L).length = L.length * 7
  | [] => rfl
  | x :: L => by
    show (x.cells ++ el L).length = _
    rw [List.length_append, el_len L, List.length_cons]
    show 7 + L.length * 7 = _
    omega
theorem el_app : ∀ L M : List Ent, el (L ++ M) = el L ++ el M
  | [], _ => rfl
  | x :: L, M => by
    show x.cells ++ el (L ++ M) = x.cells ++ el L ++ el M
    rw [el_app L M, List.append_assoc]
theorem el_snoc (L : List Ent) (x : Ent) : el L ++ x.cells = el (L ++ [x]) := by
  rw [el_app]
  show el L ++ x.cells = el L ++ (x.cells ++ [])
  rw [List.append_nil]
theorem cells_one (x : Ent) : ∀ u ∈ x.cells, u.oneCell' = true := by
  intro u hu
  simp [Ent.cells] at hu
  rcases hu with rfl | rfl | rfl | rfl | rfl | rfl | rfl <;> rfl
theorem el_one : ∀ L : List Ent, ∀ u ∈ el L, u.oneCell' = true
  | [], _, h => by cases h
  | x :: L, u, h => by
    rcases List.mem_append.1 h with h | h
    · exact cells_one x u h
    · exact el_one L u h
theorem el_at : ∀ (L : List Ent) (i : Nat) (h : i < L.length) (j : Nat), j < 7 → (el L)[i * 7 + j]? = (L[i].cells)[j]?
  | [], _, h, _, _ => absurd h (Nat.not_lt_zero _)
  | x :: L, 0, _, j, hj => by
    show (x.cells ++ el L)[0 * 7 + j]? = (x.cells)[j]?
    rw [Nat.zero_mul, Nat.zero_add, List.getElem?_append_left hj]
  | x :: L, i + 1, h, j, hj => by
    have h7 : x.cells.length = 7 := rfl
    show (x.cells ++ el L)[(i + 1) * 7 + j]? = _
    rw [List.getElem?_append_right (by rw [h7]; omega), h7, show (i + 1) * 7 + j - 7 = i * 7 + j by omega]
    exact el_at L i (by simpa using h) j hj
/-- entries that lie in memory -/
def Ents (w : World) (a : Option Addr) (L : List Ent) : Prop := ∀ i (h : i < L.length), ∃ b off, a = some ⟨b, off, none⟩ ∧ w.rangeAt b (off + i * 7) L[i].cells
theorem range_same {w w' : World} {b o : Nat} {cs : List Value} (h : w.rangeAt b o cs) (hb : w'.heap[b]? = w.heap[b]?) : w'.rangeAt b o cs := fun j v hv => (World.cell?_of_block hb).trans (h j v hv)
theorem Ents.same {w w' : World} {a : Option Addr} {L : List Ent} (h : Ents w a L) (hb : ∀ b o, a = some ⟨b, o, none⟩ → w'.heap[b]? = w.heap[b]?) : Ents w' a L := fun i hi => by
  obtain ⟨b, off, ha, hr⟩ := h i hi
  exact ⟨b, off, ha, range_same hr (hb b off ha)⟩
theorem Ents.below {w w' : World} {a : Option Addr} {L : List Ent} (h : Ents w a L) (hb : Below w.heap.size w w') : Ents w' a L := fun i hi => by
  obtain ⟨b, off, ha, hr⟩ := h i hi
  exact ⟨b, off, ha, range_same hr (hb.block b (World.block_lt_of_cell? w _ (hr 0 _ rfl)))⟩
theorem ents_nil (w : World) (a : Option Addr) : Ents w a [] := fun i hi => absurd hi (by simp)
/-- a list of its own in new memory -/
abbrev OwnE (w : World) (B : Nat) (v : Value) (n : Nat) (L : List Ent) : Prop := w.ownsRow B 96 7 v n (el L)
theorem own_ents {w : World} {B n : Nat} {v : Value} {L : List Ent} (h : OwnE w B v n L) : ∃ ao cap, v = .slice ao n cap ∧ Ents w ao L ∧ n ≤ cap ∧ cap ≤ 9223372036854775807 ∧ L.length = n ∧ (∀ b off, ao = some ⟨b, off, none⟩ → B ≤ b ∧ b < w.heap.size ∧ off = 0) := by
  obtain ⟨hl, h⟩ := h
  have hn : L.length = n := by rw [el_len] at hl; omega
  rcases h with ⟨rfl, h0⟩ | ⟨g, cap, cur, rfl, hB, hg, hnc, hm, hcs, ht⟩
  · obtain rfl : L = [] := List.eq_nil_of_length_eq_zero (by omega)
    exact ⟨none, 0, by rw [h0], ents_nil _ _, by omega, by omega, by omega, fun b off e => by cases e⟩
  · unfold maxLen at hm
    refine ⟨_, cap, rfl, ?_, by omega, by omega, hn, fun b off e => by injection e with e; injection e with e1 e2; exact ⟨by omega, by rw [← e1]; exact lt_of_block hg, e2.symm⟩⟩
    intro i hi
    refine ⟨g, 0, rfl, fun j v hv => ?_⟩
    have hj : j < 7 := (List.getElem?_eq_some_iff.1 hv).1
    rw [cell_of_row w _ _ _ _ _ hg, Nat.zero_add]
    have e := el_at L i hi j hj
    rw [← ht, List.getElem?_take, if_pos (by omega), hv] at e
    simpa using e
set_option maxRecDepth 100000 in
theorem info_ent : (Tryz.prog.info? 96).map (fun i => (i.zero, i.size, i.bytes)) = some (some (Ent.val ⟨0, 0, 0, 0, 0, none, 0, 0, false⟩), 7, 64) := by kernel_rfl

/-- the place of a number in a list, -1 where it is not -/
def plc (xs : List Int) (x : Int) : Int := if x ∈ xs then (xs.idxOf x : Int) else -1
theorem idx_at' {xs : List Int} {k : Nat} (hk : k < xs.length) (hn : xs[k] ∉ xs.take k) : xs.idxOf xs[k] = k := by
  have e : xs = xs.take k ++ xs[k] :: xs.drop (k + 1) := by
    rw [← List.drop_eq_getElem_cons hk, List.take_append_drop]
  have h2 : (xs.take k ++ xs[k] :: xs.drop (k + 1)).idxOf xs[k] = k := by
    rw [List.idxOf_append, if_neg hn, List.idxOf_cons_self, List.length_take]
    omega
  rw [← e] at h2
  exact h2
def nums5 (L : List Ent) : List Int := L.map Ent.n
set_option maxRecDepth 100000 in
theorem find_ref (a : Option Addr) (n c : Nat) (L : List Ent) (x : Int) (w : World) (ha : Ents w a L) (hn : L.length = n) (hm : n ≤ 9223372036854775807) :
    Calls Tryz.prog 46 #[.slice a n c, .int .i64 x] w fun e w' => e = .returned (.int .i64 (plc (nums5 L) x)) ∧ w = w' := by
  have HA := Lib.hid ha
  have HN := Lib.hid (show (nums5 L).length = n by unfold nums5; rw [List.length_map]; exact hn)
  have HL := Lib.hid hn
  clear ha hn
  go_enter Tryz.func46, Tryz.ntmps46
  go_wp2
  go_loop [5] (fun i => ∃ k : Nat, k ≤ n ∧ i = .int .i64 k ∧ Hid (x ∉ (nums5 L).take k)) (fun i => n - (intOf i).toNat)
  case atStart => exact ⟨0, by omega, rfl, by simp [Hid]⟩
  case round =>
    obtain ⟨k, hk, rfl, HT⟩ := hrel
    by_cases hlt : k < n
    · have hkl : k < (nums5 L).length := by rw [HN.out]; exact hlt
      obtain ⟨b, off, rfl, hc⟩ := HA.out k (by rw [HL.out]; exact hlt)
      have hc0 : w.cell? ⟨b, off + k * 7, none⟩ = some (.int .i64 ((nums5 L)[k])) := (hc 0 _ rfl).trans (by simp [nums5])
      have hlt' : (k : Int) < (n : Int) := by omega
      clear hc
      by_cases he : (nums5 L)[k] = x
      · have HP := Lib.hid (show (k : Int) = plc (nums5 L) x by
          have hmem : x ∈ nums5 L := he ▸ List.getElem_mem hkl
          unfold plc
          rw [if_pos hmem, ← he, idx_at' hkl (by rw [he]; exact HT.out)])
        rw [he] at hc0
        clear he
        go_wp2
        go_ret
        rw [HP.out]
        exact ⟨rfl, rfl⟩
      · have hb : ((nums5 L)[k] == x) = false := by rw [beq_eq_false_iff_ne]; exact he
        have HT2 : Hid (x ∉ (nums5 L).take (k + 1)) := by
          show x ∉ (nums5 L).take (k + 1)
          rw [List.take_succ_eq_append_getElem hkl, List.mem_append, List.mem_singleton]
          exact fun q => q.elim HT.out (fun e => he e.symm)
        generalize (nums5 L)[k] = y at hc0 hb he
        clear he
        go_wp2
        go_round
        case rel => exact ⟨k + 1, by omega, by go_num, HT2⟩
        case measure => simp [intOf]; omega
    · obtain rfl : k = n := by omega
      have HP := Lib.hid (show (-1 : Int) = plc (nums5 L) x by
        have h := HT.out
        rw [← HN.out, List.take_length] at h
        unfold plc
        rw [if_neg h])
      go_wp2
      go_ret
      rw [← HP.out]
      exact ⟨rfl, rfl⟩
/-- as many tables as the last one's number asks for -/
def tblsE (L : List Ent) : Int := match L.getLast? with | none => 0 | some x => x.n / 123 + 1
set_option maxRecDepth 100000 in
theorem tables_ref (a : Option Addr) (n c : Nat) (L : List Ent) (w : World) (ha : Ents w a L) (hn : L.length = n) (hm : n ≤ 9223372036854775807) (hb : ∀ x ∈ L, 0 ≤ x.n ∧ x.n < 15006) :
    Calls Tryz.prog 63 #[.slice a n c] w fun e w' => e = .returned (.int .i64 (tblsE L)) ∧ w = w' := by
  by_cases h0 : n = 0
  · subst h0
    have hl : L = [] := List.length_eq_zero_iff.1 hn
    have HT := Lib.hid (show tblsE L = 0 by rw [hl]; rfl)
    clear ha hn hl
    go_enter Tryz.func63, Tryz.ntmps63
    go_wp2
    go_ret
    rw [HT.out]
    exact ⟨rfl, rfl⟩
  · have hl : n - 1 < L.length := by omega
    obtain ⟨b, off, rfl, hr⟩ := ha (n - 1) hl
    have hc0 : w.cell? ⟨b, off + (n - 1) * 7, none⟩ = some (.int .i64 (L[n - 1].n)) := hr 0 _ rfl
    have hx := hb _ (List.getElem_mem hl)
    have HT := Lib.hid (show tblsE L = L[n - 1].n / 123 + 1 by
      unfold tblsE
      rw [List.getLast?_eq_getElem?, hn, List.getElem?_eq_getElem hl])
    generalize L[n - 1].n = y at hc0 hx HT
    have hy0 := hx.1
    have hy1 := hx.2
    obtain ⟨m, rfl⟩ : ∃ m, n = m + 1 := ⟨n - 1, by omega⟩
    rw [Nat.add_sub_cancel] at hc0
    clear ha hr hn hb hl hx h0
    have hm1 : ((m + 1 : Nat) : Int) - 1 = (m : Int) := by omega
    have hnz : ¬ ((m + 1 : Nat) : Int) = 0 := by omega
    go_enter Tryz.func63, Tryz.ntmps63
    go_wp2
    go_ret
    rw [HT.out]
    exact ⟨rfl, rfl⟩
end Go.Proofs.YtokikeenfpligaaGreatDoor
namespace Go.Proofs.YtokikeenfpligaaGreatDoor
open Go.RowKit

/-- a list in new memory -/
def NewE (w : World) (L : List Ent) (e : Ending) (w' : World) : Prop := ∃ v, e = .returned v ∧ OwnE w' w.heap.size v L.length L ∧ Below w.heap.size w w'
def wo (L : List Ent) (x : Int) : List Ent := L.filter fun y => decide (y.n ≠ x)
theorem wo_len (L : List Ent) (x : Int) : (wo L x).length ≤ L.length := List.length_filter_le _ _
theorem cells7 (w : World) (x : Ent) : ∀ j u, x.cells[j]? = some u → (w.alloc (.cells #[.int .i64 x.n, .int .u8 x.ki, .int .u32 x.nu, .int .u64 x.ep, .int .i64 x.si, .slice x.a x.q x.c, .bool x.late] 96)).cell? ((⟨w.heap.size, 0, none⟩ : Addr).add j) = some u := by
  intro j u hj
  rw [show (⟨w.heap.size, 0, none⟩ : Addr).add j = ⟨w.heap.size, j, none⟩ from by simp [Addr.add]; omega]
  rw [cell_of_row _ _ j _ _ _ (heap_alloc_new w _)]
  simpa [Ent.cells] using hj
set_option maxRecDepth 100000 in
set_option maxHeartbeats 1000000 in
theorem without_ref (a : Option Addr) (n c : Nat) (L : List Ent) (x : Int) (w : World) (ha : Ents w a L) (hn : L.length = n) (hm : n ≤ 1000) :
    Calls Tryz.prog 79 #[.slice a n c, .int .i64 x] w (NewE w (wo L x)) := by
  have HA := Lib.hid ha
  have HL := Lib.hid hn
  obtain ⟨i0, hi, hz0, hz1, hz2⟩ := info_parts info_ent
  have HI := Lib.hid hi
  have HI0 := Lib.hid hz0
  have HI1 := Lib.hid hz1
  have HI2 := Lib.hid hz2
  clear ha hn hi hz0 hz1 hz2
  go_enter Tryz.func79, Tryz.ntmps79
  go_wp2
  go_loopw [5, 6] (fun v i wr => ∃ k : Nat, k ≤ n ∧ i = .int .i64 k ∧ Hid (OwnE wr w.heap.size v (wo (L.take k) x).length (wo (L.take k) x)) ∧ Hid (Below w.heap.size w wr)) (fun _ i _ => n - (intOf i).toNat)
  case atStart => exact ⟨0, by omega, rfl, Lib.hid (World.ownsRow_nil _ _ _ _), Lib.hid (Below.refl _ _)⟩
  case round =>
    obtain ⟨k, hk, rfl, HO, HB⟩ := hrel
    by_cases hlt : k < n
    · have hkl : k < L.length := by rw [HL.out]; exact hlt
      obtain ⟨b, off, rfl, hr⟩ := HA.out.below HB.out |> fun h => (HA.out.below (HB.out.mono (Nat.le_refl _))) k hkl
      have c0 : wr.cell? ⟨b, off + k * 7, none⟩ = some (.int .i64 L[k].n) := hr 0 _ rfl
      have c1 : wr.cell? ⟨b, off + k * 7 + 1, none⟩ = some (.int .u8 L[k].ki) := hr 1 _ rfl
      have c2 : wr.cell? ⟨b, off + k * 7 + 2, none⟩ = some (.int .u32 L[k].nu) := hr 2 _ rfl
      have c3 : wr.cell? ⟨b, off + k * 7 + 3, none⟩ = some (.int .u64 L[k].ep) := hr 3 _ rfl
      have c4 : wr.cell? ⟨b, off + k * 7 + 4, none⟩ = some (.int .i64 L[k].si) := hr 4 _ rfl
      have c5 : wr.cell? ⟨b, off + k * 7 + 5, none⟩ = some (.slice L[k].a L[k].q L[k].c) := hr 5 _ rfl
      have c6 : wr.cell? ⟨b, off + k * 7 + 6, none⟩ = some (.bool L[k].late) := hr 6 _ rfl
      have HW := Lib.hid (show wo (L.take (k + 1)) x = wo (L.take k) x ++ (if decide (L[k].n ≠ x) = true then [L[k]] else []) by
        rw [List.take_succ_eq_append_getElem hkl]
        unfold wo
        rw [List.filter_append]
        congr 1
        simp [List.filter_cons])
      have HML := Lib.hid (show (wo (L.take k) x).length ≤ k from Nat.le_trans (wo_len _ _) (List.length_take_le _ _))
      have hlt' : (k : Int) < (n : Int) := by omega
      generalize L[k] = y at c0 c1 c2 c3 c4 c5 c6 HW
      clear hr
      by_cases he : y.n = x
      · have hb : (y.n != x) = false := by simp [he]
        rw [if_neg (by simp [he])] at HW
        rw [List.append_nil] at HW
        clear he
        go_wp2
        go_roundw
        case rel => exact ⟨k + 1, by omega, by go_num, by rw [HW.out]; exact HO, HB⟩
        case measure => simp [intOf]; omega
      · have hb : (y.n != x) = true := by simp [he]
        rw [if_pos (by simp [he])] at HW
        clear he
        go_wp2_with (at_builtin; refine wpList_append_own _ rfl (.tmp 20) (.tmp 25) 34 rfl w.heap.size 96 i0 (Ent.val ⟨0, 0, 0, 0, 0, none, 0, 0, false⟩) 7 64 Tryz.underlying34 HI.out HI0.out HI1.out HI2.out rfl (by decide) _ (wo (L.take k) x).length (el (wo (L.take k) x)) rfl (HO.out.alloc _) ⟨wr.heap.size, 0, none⟩ 1 1 y.cells rfl rfl (cells7 _ _) (cells_one y) (by have := HML.out; unfold maxLen; omega) (by have := HML.out; omega) (by have := HB.out.size; simp; omega) ?_; intro v2 w5 hown hgrow _; have HO5 := Lib.hid hown; have HB5 := Lib.hid ((HB.out.alloc HB.out.size (.cells #[.int .i64 y.n, .int .u8 y.ki, .int .u32 y.nu, .int .u64 y.ep, .int .i64 y.si, .slice y.a y.q y.c, .bool y.late] 96)).grown hgrow (by have := HB.out.size; simp; omega) (fun j hj => (HO.out.lt j hj).1)); clear hown hgrow)
        go_roundw
        case rel => exact ⟨k + 1, by omega, by go_num, by rw [HW.out, List.length_append]; exact Lib.hid (by have h := HO5.out; rw [el_snoc] at h; exact h), HB5⟩
        case measure => simp [intOf]; omega
    · obtain rfl : k = n := by omega
      have HT := Lib.hid (show L.take k = L from List.take_of_length_le (by rw [HL.out]; exact Nat.le_refl _))
      rw [HT.out] at HO
      obtain ⟨ao, cap, rfl, _⟩ := own_ents HO.out
      go_wp2
      go_ret
      exact ⟨_, rfl, HO.out, HB.out⟩
end Go.Proofs.YtokikeenfpligaaGreatDoor

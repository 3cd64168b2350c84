/-
  THE WALKS of the document's away, less, Has; the statement's give. Conditions: the cells lie in memory.
-/
import Derived.Test.YtbjpmefjfpefpaaDoorCq
namespace Go.Proofs.YtbjpmefjfpefpaaDoor
open Go.RowKit Ru Ce

set_option maxRecDepth 100000 in
theorem eql_q (x y : Cel) (w : World) : (binOp .eql 24 (.agg #[.int .i64 x.1, .int .i64 x.2]) (.agg #[.int .i64 y.1, .int .i64 y.2])).run Tryd.prog w = .ok (.bool (decide (x = y))) w := by
  have u3 := Tryd.underlying3
  have a3 := Tryd.isAgg3
  have z3 := Tryd.sizeOf3
  have hS : Tryd.prog.underlying 24 = some (.struct (Tryd.prog.fieldsOf 24)) := by kernel_rfl
  have hp : Tryd.prog.stoodInHeld 24 = false := by kernel_rfl
  rw [run_eql_struct, show (10000 : Nat) = 9999 + 1 from rfl, run_equalIn_agg w 9999 24 _ _ hS hp]
  simp only [Program.fieldsOf, Tryd.underlying24]
  go_simp
  obtain ⟨x1, x2⟩ := x
  obtain ⟨y1, y2⟩ := y
  by_cases h1 : x1 = y1 <;> by_cases h2 : x2 = y2 <;> simp [h1, h2]
set_option maxRecDepth 100000 in
theorem info_q : (Tryd.prog.info? 24).map (fun i => (i.zero, i.size, i.bytes)) = some (some (cv (0, 0)), 2, 16) := by kernel_rfl
theorem away_ref (c : Cel) (w : World) : Calls Tryd.prog 25 #[cv c] w fun e w' => e = .returned (.bool (!okc c)) ∧ Below w.heap.size w w' := by
  obtain ⟨x, y⟩ := c
  unfold cv
  by_cases h1 : x < -274877906944
  · have h0 : okc (x, y) = false := by rw [Bool.eq_false_iff, ne_eq, okc_iff]; simp only; omega
    rw [h0]
    clear h0
    go_enter Tryd.func25, Tryd.ntmps25
    go_wp2
    go_ret
    exact ⟨rfl, alX _ _⟩
  · by_cases h2 : 274877906944 < x
    · have h0 : okc (x, y) = false := by rw [Bool.eq_false_iff, ne_eq, okc_iff]; simp only; omega
      rw [h0]
      clear h0
      go_enter Tryd.func25, Tryd.ntmps25
      go_wp2
      go_ret
      exact ⟨rfl, alX _ _⟩
    · by_cases h3 : y < -274877906944
      · have h0 : okc (x, y) = false := by rw [Bool.eq_false_iff, ne_eq, okc_iff]; simp only; omega
        rw [h0]
        clear h0
        go_enter Tryd.func25, Tryd.ntmps25
        go_wp2
        go_ret
        exact ⟨rfl, alX _ _⟩
      · by_cases h4 : 274877906944 < y
        · have h0 : okc (x, y) = false := by rw [Bool.eq_false_iff, ne_eq, okc_iff]; simp only; omega
          rw [h0]
          clear h0
          go_enter Tryd.func25, Tryd.ntmps25
          go_wp2
          go_ret
          exact ⟨rfl, alX _ _⟩
        · have h0 : okc (x, y) = true := by rw [okc_iff]; simp only; omega
          rw [h0]
          clear h0
          go_enter Tryd.func25, Tryd.ntmps25
          go_wp2
          go_ret
          exact ⟨rfl, alX _ _⟩
theorem less_ref (a b : Cel) (w : World) : Calls Tryd.prog 39 #[cv a, cv b] w fun e w' => e = .returned (.bool (lt a b)) ∧ Below w.heap.size w w' := by
  obtain ⟨x, y⟩ := a
  obtain ⟨u, v⟩ := b
  unfold cv
  by_cases h1 : y < v
  · have h0 : lt (x, y) (u, v) = true := by rw [lt_iff]; simp only; omega
    rw [h0]
    clear h0
    go_enter Tryd.func39, Tryd.ntmps39
    go_wp2
    go_ret
    exact ⟨rfl, (alX _ _).trans ((alX _ _).mono (by simp))⟩
  · by_cases h2 : y = v
    · subst h2
      by_cases h3 : x < u
      · have h0 : lt (x, y) (u, y) = true := by rw [lt_iff]; exact Or.inr ⟨rfl, h3⟩
        rw [h0]
        clear h0
        go_enter Tryd.func39, Tryd.ntmps39
        go_wp2
        go_ret
        exact ⟨rfl, (alX _ _).trans ((alX _ _).mono (by simp))⟩
      · have h0 : lt (x, y) (u, y) = false := by rw [Bool.eq_false_iff, ne_eq, lt_iff]; simp only; omega
        rw [h0]
        clear h0
        go_enter Tryd.func39, Tryd.ntmps39
        go_wp2
        go_ret
        exact ⟨rfl, (alX _ _).trans ((alX _ _).mono (by simp))⟩
    · have h0 : lt (x, y) (u, v) = false := by rw [Bool.eq_false_iff, ne_eq, lt_iff]; simp only; omega
      have hb : (y == v) = false := by simpa using h2
      rw [h0]
      clear h0
      go_enter Tryd.func39, Tryd.ntmps39
      go_wp2
      go_ret
      exact ⟨rfl, (alX _ _).trans ((alX _ _).mono (by simp))⟩
set_option maxRecDepth 100000 in
set_option maxHeartbeats 1000000 in
theorem isin_ref (a : Option Addr) (n c : Nat) (L : List Cel) (x : Cel) (w : World) (ha : Cls w a L) (hn : L.length = n) (hm : n ≤ 9223372036854775807) :
    Calls Tryd.prog 13 #[.slice a n c, .agg #[.int .i64 x.1, .int .i64 x.2]] w
      fun e w' => e = .returned (.bool (decide (x ∈ L))) ∧ Below w.heap.size w w' := by
  have HA := Lib.hid ha
  have HL := Lib.hid hn
  obtain ⟨r, hr⟩ : ∃ r, r = decide (x ∈ L) := ⟨_, rfl⟩
  rw [← hr]
  have HR := Lib.hid hr
  clear ha hn hr
  go_enter Tryd.func13, Tryd.ntmps13
  go_wp2
  have hh := heap_alloc_new w (.cells #[.int .i64 x.1, .int .i64 x.2] 24)
  have HX := Lib.hid (And.intro (cell_of_row _ _ 0 _ _ _ hh) (cell_of_row _ _ 1 _ _ _ hh))
  have HB0 := Lib.hid (alX w (.cells #[.int .i64 x.1, .int .i64 x.2] 24))
  clear hh
  generalize w.alloc (.cells #[.int .i64 x.1, .int .i64 x.2] 24) = w0 at HX HB0 ⊢
  go_loopw [5] (fun i wr => ∃ k : Nat, k ≤ n ∧ i = .int .i64 k ∧ Hid (¬ x ∈ L.take k) ∧ Hid (∃ q, wr = w0.drewN q)) (fun i _ => n - (intOf i).toNat)
  case atStart => exact ⟨0, by omega, rfl, Lib.hid (by simp), Lib.hid ⟨0, rfl⟩⟩
  case round =>
    obtain ⟨k, hk, rfl, HT, HQ⟩ := hrel
    obtain ⟨q, hq⟩ := HQ.out
    have HB := Lib.hid (show Below w.heap.size w wr by rw [hq]; exact bdn HB0.out q)
    obtain ⟨a0, a1⟩ : wr.cell? ⟨w.heap.size, 0, none⟩ = some (.int .i64 x.1) ∧ wr.cell? ⟨w.heap.size, 1, none⟩ = some (.int .i64 x.2) := by rw [hq]; exact HX.out
    have HQ1 := Lib.hid (show ∀ m, ∃ q, wr.drewN m = w0.drewN q from fun m => ⟨q + m, by rw [hq, World.drewN_drewN]⟩)
    clear HQ hq
    by_cases hlt : k < n
    · have hkl : k < L.length := by rw [HL.out]; exact hlt
      obtain ⟨b, off, rfl, c0, c1⟩ := (HA.out.below HB.out (Nat.le_refl _)) k hkl
      have i0 : (0 : Int) ≤ (k : Int) := by omega
      have i1 : (k : Int) < (n : Int) := by omega
      have HS := Lib.hid (show L.take (k + 1) = L.take k ++ [L[k]] from List.take_succ_eq_append_getElem hkl)
      have HMem := Lib.hid (show L[k] ∈ L from List.getElem_mem hkl)
      obtain ⟨y, hy⟩ : ∃ y, y = L[k] := ⟨_, rfl⟩
      rw [← hy] at c0 c1 HS HMem
      clear hy
      have he := eql_q y x
      by_cases hxy : y = x
      · have hd : decide (y = x) = true := by simpa using hxy
        rw [hd] at he
        have HE := Lib.hid (show true = r by rw [HR.out, ← hxy, decide_eq_true HMem.out])
        clear hxy hd
        go_wp2
        go_quiet (fail)
        go_wp2
        go_ret
        exact ⟨by rw [← HE.out]; rfl, bdn HB.out _⟩
      · have hd : decide (y = x) = false := by simpa using hxy
        rw [hd] at he
        have HT2 := Lib.hid (show ¬ x ∈ L.take (k + 1) by
          rw [HS.out, List.mem_append, List.mem_singleton]
          exact fun z => z.elim HT.out (fun e => hxy e.symm))
        clear hxy hd
        go_wp2
        go_quiet (fail)
        go_wp2
        go_roundw
        case rel => exact ⟨k + 1, by omega, by go_num, HT2, Lib.hid (HQ1.out _)⟩
        case measure => simp [intOf]; omega
    · obtain rfl : k = n := by omega
      have HE := Lib.hid (show false = r by
        have e : L.take k = L := List.take_of_length_le (by rw [HL.out]; exact Nat.le_refl _)
        have := HT.out
        rw [e] at this
        rw [HR.out, decide_eq_false this])
      go_wp2
      go_ret
      exact ⟨by rw [← HE.out]; rfl, HB.out⟩
set_option maxRecDepth 100000 in
set_option maxHeartbeats 1000000 in
theorem give_any (a : Option Addr) (n c : Nat) (L : List Cel) (w : World) (ha : Cls w a L) (hn : L.length = n) (hm : n ≤ 100000) :
    Calls Tryd.prog 7 #[.slice a n c] w (NewC 38 w L) := by
  have HA := Lib.hid ha
  have HL := Lib.hid hn
  have HM := Lib.hid hm
  obtain ⟨i0, hi, hz0, hz1, hz2⟩ := info_parts info_a
  have HI := Lib.hid hi
  have HI0 := Lib.hid hz0
  have HI1 := Lib.hid hz1
  have HI2 := Lib.hid hz2
  clear ha hn hi hz0 hz1 hz2
  go_enter Tryd.func7, Tryd.ntmps7
  go_wp2
  go_loopw [4, 3] (fun i v wr => ∃ k : Nat, k ≤ n ∧ i = .int .i64 k ∧ Hid (OwnC 38 wr w.heap.size v k (L.take k)) ∧ Hid (Below w.heap.size w wr)) (fun i _ _ => n - (intOf i).toNat)
  case atStart => exact ⟨0, by omega, rfl, Lib.hid (by rw [List.take_zero]; exact World.ownsRow_nil _ _ _ _), Lib.hid (Below.refl _ _)⟩
  case round =>
    obtain ⟨k, hk, rfl, HO, HB⟩ := hrel
    by_cases hlt : k < n
    · have hkl : k < L.length := by rw [HL.out]; exact hlt
      obtain ⟨b, off, rfl, c0, c1⟩ := (HA.out.below HB.out (Nat.le_refl _)) k hkl
      have j0 : (0 : Int) ≤ (k : Int) := by omega
      have j1 : (k : Int) < (n : Int) := by omega
      have HS := Lib.hid (show L.take (k + 1) = L.take k ++ [L[k]] from List.take_succ_eq_append_getElem hkl)
      obtain ⟨y, hy⟩ : ∃ y, y = L[k] := ⟨_, rfl⟩
      rw [← hy] at c0 c1 HS
      clear hy
      have HK := Lib.hid (And.intro hlt hm)
      have HBS := Lib.hid HB.out.size
      go_wp2_with (at_builtin; refine wpList_append_own _ rfl (.tmp 11) (.tmp 16) 27 rfl w.heap.size 38 i0 (cv (0, 0)) 2 16 Tryd.underlying27 HI.out HI0.out HI1.out HI2.out rfl (by decide) _ k (cl (L.take k)) rfl (HO.out.alloc _) ⟨wr.heap.size, 0, none⟩ 1 1 (cc y) rfl rfl (cells2 _ _ y) (cc_one _) (by have := HK.out; unfold maxLen; omega) (by have := HK.out; omega) (by have := HBS.out; simp; omega) ?_; intro v2 w5 hown hgrow _; have HO5 := Lib.hid (show OwnC 38 w5 w.heap.size v2 (k + 1) (L.take (k + 1)) by have h9 := hown; rw [cl_snoc] at h9; rw [HS.out]; exact h9); have HB5 := Lib.hid ((HB.out.alloc HB.out.size (.cells #[.int .i64 y.1, .int .i64 y.2] 38)).grown hgrow (by have := HBS.out; simp; omega) (fun j hj => (HO.out.lt j hj).1)); clear hown hgrow)
      go_roundw
      case rel => exact ⟨k + 1, by omega, by go_num, HO5, HB5⟩
      case measure => simp [intOf]; omega
    · obtain rfl : k = n := by omega
      have HT := Lib.hid (show L.take k = L from List.take_of_length_le (by rw [HL.out]; exact Nat.le_refl _))
      have HO2 := Lib.hid (show OwnC 38 wr w.heap.size _ k L from (congrArg (fun z => OwnC 38 wr w.heap.size _ k z) HT.out).mp HO.out)
      obtain ⟨ao, cap, rfl, _⟩ := own_cls HO2.out
      go_wp2
      go_ret
      exact ⟨_, rfl, by rw [HL.out]; exact HO2.out, HB.out⟩
end Go.Proofs.YtbjpmefjfpefpaaDoor

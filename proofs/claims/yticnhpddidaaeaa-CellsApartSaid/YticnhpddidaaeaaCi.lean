/-
  THE WALK of slices.Compact. Conditions: the list is the call's own.
-/

import Derived.Test.YticnhpddidaaeaaCh
import Derived.OwnWalk
namespace Go.Proofs.Yticnhpddidaaeaa
open Go.RowKit Ru Ce

set_option maxRecDepth 100000 in
theorem eql_a (x y : Cel) (w : World) : (binOp .eql 31 (.agg #[.int .i64 x.1, .int .i64 x.2]) (.agg #[.int .i64 y.1, .int .i64 y.2])).run Try.prog w = .ok (.bool (decide (x = y))) w := by
  have u3 := Try.underlying3
  have a3 := Try.isAgg3
  have z3 := Try.sizeOf3
  have hS : Try.prog.underlying 31 = some (.struct (Try.prog.fieldsOf 31)) := by kernel_rfl
  have hp : Try.prog.stoodInHeld 31 = false := by kernel_rfl
  rw [run_eql_struct, show (10000 : Nat) = 9999 + 1 from rfl, run_equalIn_agg w 9999 31 _ _ hS hp]
  simp only [Program.fieldsOf, Try.underlying31]
  go_simp
  obtain ⟨x1, x2⟩ := x
  obtain ⟨y1, y2⟩ := y
  by_cases h1 : x1 = y1 <;> by_cases h2 : x2 = y2 <;> simp [h1, h2]
set_option maxRecDepth 100000 in
theorem neq_a (x y : Cel) (w : World) : (binOp .neq 31 (.agg #[.int .i64 x.1, .int .i64 x.2]) (.agg #[.int .i64 y.1, .int .i64 y.2])).run Try.prog w = .ok (.bool (!decide (x = y))) w := by
  have h := eql_a x y w
  rw [run_eql_struct] at h
  rw [run_neq_struct]
  cases hr : (Op.equalIn 10000 31 (.agg #[.int .i64 x.1, .int .i64 x.2]) (.agg #[.int .i64 y.1, .int .i64 y.2])).run Try.prog w with
  | ok b w' =>
    rw [hr] at h
    simp only [Result.andThen_ok] at h ⊢
    injection h with h1 h3
    injection h1 with h1
    rw [h1, h3]
  | halt a b => rw [hr] at h; cases h
theorem zero_cells (n : Nat) : (Builtin.zeroCells #[.int .i64 0, .int .i64 0] n).toList.length = n * 2 ∧ ∀ v ∈ (Builtin.zeroCells #[.int .i64 0, .int .i64 0] n).toList, v.oneCell' = true := by
  constructor
  · simp [Builtin.zeroCells]
  · intro v hv
    simp [Builtin.zeroCells] at hv
    obtain ⟨i, _, rfl⟩ := hv
    rcases (show i % 2 = 0 ∨ i % 2 = 1 by omega) with q | q <;> rw [q] <;> rfl
set_option maxRecDepth 100000 in
theorem clear_tail {w : World} {B n g cap k c : Nat} {M : List Cel} (h : OwnC 31 w B (.slice (some ⟨g, 0, none⟩) n cap) n M) (hk : k < n) :
    ∃ w', (∀ ty, (Builtin.clear_ #[28] ty #[.slice (some ⟨g, k * 2, none⟩) (n - k) c]).run Try.prog w = .ok (.tuple #[]) w') ∧ OwnC 31 w' B (.slice (some ⟨g, 0, none⟩) k cap) k (M.take k) ∧ w.grownBy w' (some g) := by
  obtain ⟨hl, ⟨e, _⟩ | ⟨g', cap', cur, e, hb, hg, hc, hm, hcs, ht⟩⟩ := h
  · cases e
  · simp at e
    obtain ⟨rfl, rfl⟩ := e
    have hM : M.length = n := by rw [cl_len] at hl; omega
    obtain ⟨z1, z2⟩ := zero_cells (n - k)
    have hs := run_storeCells_at (P := Try.prog) g (k * 2) 31 (Builtin.zeroCells #[.int .i64 0, .int .i64 0] (n - k)).toList 0 cur w hg (by rw [z1]; omega) z2
    have hcl : cur.toList.length = cap * 2 := by simp [hcs]
    obtain ⟨m, hm2⟩ : ∃ m, n - k = m + 1 := ⟨n - k - 1, by omega⟩
    refine ⟨_, ?_, ?_, grown_row w g (cur.toList.take (k * 2 + 0) ++ (Builtin.zeroCells #[.int .i64 0, .int .i64 0] (n - k)).toList ++ cur.toList.drop (k * 2 + 0 + (Builtin.zeroCells #[.int .i64 0, .int .i64 0] (n - k)).toList.length)).toArray⟩
    · intro ty
      rw [hm2] at hs ⊢
      have hv : (zeroValue 31).run Try.prog w = .ok (.agg #[.int .i64 0, .int .i64 0]) w := by kernel_rfl
      simp [Builtin.clear_, run_underlying Try.underlying28, hv, Value.cells, hs]
    · refine ⟨by rw [cl_len, List.length_take]; omega, .inr ⟨g, cap, _, rfl, hb, setRow_heap _ _ _ _ _ _ hg, by omega, hm, ?_, ?_⟩⟩
      · simp only [List.size_toArray, List.length_append, List.length_take, List.length_drop, z1, hcl]
        omega
      · show List.take (k * 2) (cur.toList.take (k * 2 + 0) ++ _ ++ _) = _
        rw [List.append_assoc, List.take_append_of_le_length (by rw [List.length_take]; omega), cl_take, ← ht, List.take_take, List.take_take, Nat.min_eq_left (by omega), Nat.min_eq_left (by omega)]
set_option maxRecDepth 100000 in
theorem tail_c (b off n c k : Nat) (x : Int) (hx : x = k) (hk : k ≤ n) (hc : k < c) (W : World) : (Instr.sliceAt 28 (.slice (some ⟨b, off, none⟩) n c) (some (.int .i64 x)) none none).run Try.prog W = .ok (.slice (some ⟨b, off + k * 2, none⟩) (n - k) (c - k)) W := by
  subst hx
  have e := run_sliceAt_slice (P := Try.prog) (w := W) 28 (.slice (some ⟨b, off, none⟩) n c) (some (.int .i64 (k : Int))) none none Try.underlying28
  rw [e]
  have i0 : (0 : Int) ≤ (k : Int) := by omega
  have i1 : (k : Int) ≤ (n : Int) := by omega
  have hu := Try.underlying28
  have hs : (Try.prog.info? 31).map (·.size) = some 2 := by kernel_rfl
  obtain ⟨ie, hie, hsz⟩ := Option.map_eq_some_iff.1 hs
  have h1 : ¬ c = k := by omega
  simp [Instr.slice, Instr.sliceBounds, run_underlying hu, i0, i1, h1, sizeOf, typeInfo, hie, hsz, go_sem]
set_option maxRecDepth 100000 in
theorem head_c (b off n c k : Nat) (x : Int) (hx : x = k) (hk : k ≤ c) (W : World) : (Instr.sliceAt 28 (.slice (some ⟨b, off, none⟩) n c) none (some (.int .i64 x)) none).run Try.prog W = .ok (.slice (some ⟨b, off, none⟩) k c) W := by
  subst hx
  have e := run_sliceAt_slice (P := Try.prog) (w := W) 28 (.slice (some ⟨b, off, none⟩) n c) none (some (.int .i64 (k : Int))) none Try.underlying28
  rw [e]
  have i0 : (0 : Int) ≤ (k : Int) := by omega
  have i1 : (k : Int) ≤ (c : Int) := by omega
  have hu := Try.underlying28
  have hs : (Try.prog.info? 31).map (·.size) = some 2 := by kernel_rfl
  obtain ⟨ie, hie, _⟩ := Option.map_eq_some_iff.1 hs
  simp [Instr.slice, Instr.sliceBounds, run_underlying hu, i0, i1, sizeOf, typeInfo, hie, go_sem]
theorem own_at {T : TypeId} {w : World} {B n m g cap : Nat} {M : List Cel} (h : OwnC T w B (.slice (some ⟨g, 0, none⟩) m cap) n M) (i : Nat) {x : Cel} (hx : M[i]? = some x) : w.cell? ⟨g, i * 2, none⟩ = some (.int .i64 x.1) ∧ w.cell? ⟨g, i * 2 + 1, none⟩ = some (.int .i64 x.2) := by
  obtain ⟨hi, rfl⟩ := List.getElem?_eq_some_iff.1 hx
  obtain ⟨ao, cap', e, hc, _⟩ := own_cls h
  simp at e
  obtain ⟨b, off, ha, h0, h1⟩ := hc i hi
  rw [← e.1] at ha
  obtain ⟨rfl, rfl⟩ : g = b ∧ 0 = off := by simpa using ha
  rw [Nat.zero_add] at h0 h1
  exact ⟨h0, h1⟩
theorem get_is {L : List Cel} {n k : Nat} (hL : L.length = n) (h : k < n) : ∃ x, L[k]? = some x := ⟨L[k]'(by omega), List.getElem?_eq_getElem (by omega)⟩
def Cpt (w : World) (B : Nat) (L : List Cel) (e : Ending) (w' : World) : Prop := ∃ v, e = .returned v ∧ OwnC 31 w' B v (dd L).length (dd L) ∧ Below B w w'
/-- what stands there while one strikes -/
def mids (L : List Cel) (m : Nat) : List Cel := dd (L.take m) ++ L.drop (dd (L.take m)).length
theorem dd_next {L : List Cel} {m : Nat} {x y : Cel} (h0 : 0 < m) (hx : L[m]? = some x) (hy : L[m - 1]? = some y) : dd (L.take (m + 1)) = dd (L.take m) ++ if x = y then [] else [x] := by
  obtain ⟨hi, rfl⟩ := List.getElem?_eq_some_iff.1 hx
  obtain ⟨hj, rfl⟩ := List.getElem?_eq_some_iff.1 hy
  exact dd_step L m h0 hi
theorem dd_apart {L : List Cel} {m : Nat} (hm : m ≤ L.length) (h : ∀ q, 0 < q → q < m → ¬ L[q]? = L[q - 1]?) : dd (L.take m) = L.take m :=
  dd_same L m hm (fun i hi h0 e => h i h0 hi (by rw [List.getElem?_eq_getElem (by omega), List.getElem?_eq_getElem (by omega), e]))
theorem mids_get {L : List Cel} {m i : Nat} (h : (dd (L.take m)).length ≤ i) : (mids L m)[i]? = L[i]? := by
  unfold mids
  rw [List.getElem?_append_right h, List.getElem?_drop]
  congr 1
  omega
theorem mids_set {L : List Cel} {m : Nat} {x : Cel} (h : dd (L.take (m + 1)) = dd (L.take m) ++ [x]) (hl : (dd (L.take m)).length < L.length) : (mids L m).set (dd (L.take m)).length x = mids L (m + 1) := by
  unfold mids
  rw [h, List.length_append, List.length_singleton, List.set_append_right _ _ (Nat.le_refl _), Nat.sub_self, List.drop_eq_getElem_cons hl, List.set_cons_zero, List.append_assoc]
  rfl
set_option maxRecDepth 100000 in
set_option maxHeartbeats 2000000 in
theorem compact_any {w : World} {B n : Nat} {v : Value} {L : List Cel} (h : OwnC 31 w B v n L) (hB : B ≤ w.heap.size) (hn : n ≤ 1000000) :
    Calls Try.prog 18 #[v] w (Cpt w B L) := by
  have hL : L.length = n := by have := h.1; rw [cl_len] at this; omega
  by_cases h2 : n < 2
  · obtain ⟨ao, cap, rfl, _⟩ := own_cls h
    have HO := Lib.hid (show OwnC 31 w B (.slice ao n cap) (dd L).length (dd L) by
      have e : dd L = L := by
        have := dd_same L n (by omega) (fun i hi h0 => by omega)
        rwa [List.take_of_length_le (by omega)] at this
      rw [e, hL]; exact h)
    have i1 : (n : Int) < 2 := by omega
    clear h hL
    go_enter Try.func18, Try.ntmps18
    go_wp2
    go_ret
    exact ⟨_, rfl, HO.out, Below.refl _ _⟩
  · obtain ⟨g, cap, hv, hgB, hnc⟩ : ∃ g cap, v = .slice (some ⟨g, 0, none⟩) n cap ∧ B ≤ g ∧ n ≤ cap := by
      rcases h.2 with ⟨_, h0⟩ | ⟨g, cap, cur, e, hb, hg, hc, _⟩
      · omega
      · exact ⟨g, cap, e, hb, hc⟩
    subst hv
    have HO := Lib.hid h
    have HL := Lib.hid hL
    have HB := Lib.hid hB
    have HG := Lib.hid hgB
    have HC := Lib.hid hnc
    have i1 : ¬ (n : Int) < 2 := by omega
    have HN := Lib.hid hn
    clear h hL hB hgB hnc hn
    go_enter Try.func18, Try.ntmps18
    go_wp2
    go_loopw [3] (fun i wr => ∃ k : Nat, k ≤ n ∧ 0 < k ∧ i = .int .i64 k ∧ Hid (∀ q, 0 < q → q < k → ¬ L[q]? = L[q - 1]?) ∧ Hid (OwnC 31 wr B (.slice (some ⟨g, 0, none⟩) n cap) n L) ∧ Hid (Below B w wr)) (fun i _ => n - (intOf i).toNat)
    case atStart => exact ⟨1, by omega, by omega, rfl, Lib.hid (fun q h0 h1 => by omega), HO, Lib.hid (Below.refl _ _)⟩
    case round =>
      obtain ⟨k, hk, hk0, rfl, HD, HOr, HBr⟩ := hrel
      have i0 : (0 : Int) ≤ (k : Int) := by omega
      have i3 : (k : Int) ≤ 1000000 := by have := HN.out; omega
      by_cases hlt : k < n
      · obtain ⟨p, hp⟩ : ∃ p, k = p + 1 := ⟨k - 1, by omega⟩
        have i2 : (k : Int) < (n : Int) := by omega
        have hs : IntKind.i64.wrap ((k : Int) - 1) = (p : Int) := by rw [IntWalk.i64_in _ (by omega)]; omega
        have i4 : (0 : Int) ≤ (p : Int) := by omega
        have i5 : (p : Int) < (n : Int) := by omega
        obtain ⟨x, hx⟩ := get_is (k := k) HL.out hlt
        obtain ⟨y, hy⟩ := get_is (k := p) HL.out (by omega)
        obtain ⟨c0, c1⟩ := own_at HOr.out k hx
        obtain ⟨c2, c3⟩ := own_at HOr.out p hy
        have HX := Lib.hid hx
        have HY := Lib.hid (show L[k - 1]? = some y by rw [hp]; exact hy)
        have heq := eql_a x y
        clear hx hy
        have HP := Lib.hid hp
        clear hp
        by_cases hxy : x = y
        · have hd : decide (x = y) = true := by simpa using hxy
          rw [hd] at heq
          obtain ⟨r, hr⟩ : ∃ r, n = k + r := ⟨n - k, by omega⟩
          have hcap := HC.out
          obtain ⟨rc, hrc⟩ : ∃ rc, cap = k + rc := ⟨cap - k, by omega⟩
          have ht : ∀ W : World, (Instr.sliceAt 28 (.slice (some ⟨g, 0, none⟩) n cap) (some (.int .i64 (k : Int))) none none).run Try.prog W = .ok (.slice (some ⟨g, k * 2, none⟩) r rc) W := fun W => by
            have := tail_c g 0 n cap k k rfl hk (by omega) W
            rwa [Nat.zero_add, show n - k = r by omega, show cap - k = rc by omega] at this
          have HA := Lib.hid (show dd (L.take k) = L.take k from dd_apart (by rw [HL.out]; exact hk) HD.out)
          have HA2 := Lib.hid (show dd (L.take (k + 1)) = L.take k by
            rw [dd_next hk0 HX.out HY.out, if_pos hxy, List.append_nil]; exact HA.out)
          have HM1 := Lib.hid (show mids L (k + 1) = L by
            unfold mids
            rw [HA2.out, List.length_take, HL.out, Nat.min_eq_left (by omega), List.take_append_drop])
          have HR := Lib.hid hr
          clear hrc hcap hd hxy hr
          go_wp2
          go_quiet (fail)
          go_wp2
          have HOq := Lib.hid (show OwnC 31 (wr.drewN nq) B (.slice (some ⟨g, 0, none⟩) n cap) n (mids L (k + 1)) by rw [HM1.out]; exact HOr.out)
          have HBq := Lib.hid (bdn HBr.out nq)
          go_loopw [3, 5] (fun i j w2 => ∃ kk m : Nat, 0 < m ∧ m ≤ r ∧ i = .int .i64 kk ∧ j = .int .i64 m ∧ Hid (kk = (dd (L.take (k + m))).length ∧ kk + 1 ≤ k + m) ∧ Hid (OwnC 31 w2 B (.slice (some ⟨g, 0, none⟩) n cap) n (mids L (k + m))) ∧ Hid (Below B w w2)) (fun _ j _ => r - (intOf j).toNat)
          case atStart => exact ⟨k, 1, by omega, by have := HR.out; omega, rfl, rfl, Lib.hid ⟨by rw [HA2.out, List.length_take, HL.out]; omega, by omega⟩, HOq, HBq⟩
          case round =>
            obtain ⟨kk, m, hm0, hm, rfl, rfl, HK, HO2, HB2⟩ := hrel
            have hnr := HR.out
            have j0 : (0 : Int) ≤ (m : Int) := by omega
            have j1 : (m : Int) ≤ 1000000 := by have := HN.out; omega
            have j2 : (0 : Int) ≤ (kk : Int) := by omega
            have j3 : (kk : Int) ≤ 1000000 := by have := HN.out; have := HK.out; omega
            have hkn : kk < n := by have := HK.out; omega
            by_cases hlt2 : m < r
            · obtain ⟨p2, hp2⟩ : ∃ p2, m = p2 + 1 := ⟨m - 1, by omega⟩
              have j4 : (m : Int) < (r : Int) := by omega
              have hs2 : IntKind.i64.wrap ((m : Int) - 1) = (p2 : Int) := by rw [IntWalk.i64_in _ (by omega)]; omega
              have j5 : (0 : Int) ≤ (p2 : Int) := by omega
              have j6 : (p2 : Int) < (r : Int) := by omega
              obtain ⟨x2, hx2⟩ := get_is (k := k + m) HL.out (by omega)
              obtain ⟨y2, hy2⟩ := get_is (k := k + p2) HL.out (by omega)
              have d0 := own_at HO2.out (k + m) ((mids_get (by have := HK.out; omega)).trans hx2)
              have d2 := own_at HO2.out (k + p2) ((mids_get (by have := HK.out; omega)).trans hy2)
              rw [Nat.add_mul] at d0 d2
              obtain ⟨d0, d1⟩ := d0
              obtain ⟨d2, d3⟩ := d2
              have HX2 := Lib.hid hx2
              have HY2 := Lib.hid (show L[k + m - 1]? = some y2 by rw [show k + m - 1 = k + p2 by omega]; exact hy2)
              have hne := neq_a x2 y2
              clear hx2 hy2 hp2 hnr
              by_cases hxy2 : x2 = y2
              · have hd2 : (!decide (x2 = y2)) = false := by simpa using hxy2
                rw [hd2] at hne
                have HS := Lib.hid (show dd (L.take (k + (m + 1))) = dd (L.take (k + m)) by
                  rw [show k + (m + 1) = k + m + 1 by omega, dd_next (by omega) HX2.out HY2.out, if_pos hxy2, List.append_nil])
                have HO3 := Lib.hid (show OwnC 31 wr B (.slice (some ⟨g, 0, none⟩) n cap) n (mids L (k + (m + 1))) by
                  have e : mids L (k + (m + 1)) = mids L (k + m) := by unfold mids; rw [HS.out]
                  rw [e]; exact HO2.out)
                clear hd2 hxy2 hkn
                go_wp2
                go_quiet (fail)
                go_wp2
                go_roundw
                case rel => exact ⟨kk, m + 1, by omega, by omega, rfl, by go_num, Lib.hid ⟨by rw [HS.out]; exact HK.out.1, by have := HK.out.2; omega⟩, HO3, Lib.hid (bdn HB2.out _)⟩
                case measure => simp [intOf]; omega
              · have hd2 : (!decide (x2 = y2)) = true := by simpa using hxy2
                rw [hd2] at hne
                have HS := Lib.hid (show dd (L.take (k + m + 1)) = dd (L.take (k + m)) ++ [x2] by
                  rw [dd_next (by omega) HX2.out HY2.out, if_neg hxy2])
                have HKL := Lib.hid hkn
                have HST := Lib.hid (show (mids L (k + m)).set kk x2 = mids L (k + (m + 1)) by
                  have h5 := HK.out.1
                  subst h5
                  exact mids_set HS.out (by rw [HL.out]; exact HKL.out))
                have j7 : (kk : Int) < (n : Int) := by omega
                clear hd2 hxy2 hkn
                go_wp2
                go_quiet (fail)
                have d0' : (wr.drewN nq).cell? ⟨g, k * 2 + m * 2, none⟩ = some (.int .i64 x2.1) := d0
                have d1' : (wr.drewN nq).cell? ⟨g, k * 2 + m * 2 + 1, none⟩ = some (.int .i64 x2.2) := d1
                have HO2q := Lib.hid (show OwnC 31 (wr.drewN nq) B (.slice (some ⟨g, 0, none⟩) n cap) n (mids L (k + m)) from HO2.out)
                have HB2q := Lib.hid (bdn HB2.out nq)
                have HBq2 := Lib.hid (show B ≤ (wr.drewN nq).heap.size from Nat.le_trans HB.out HB2.out.size)
                clear d0 d1 d2 d3 HO2 HB2
                generalize wr.drewN nq = w3 at d0' d1' HO2q HB2q HBq2 ⊢
                go_wp2_with (refine wpList_store_cell rfl (.tmp 51) (.tmp 50) rfl HO2q.out HKL.out x2 rfl rfl ?_; intro w4 ho4 hg4; have HO4 := Lib.hid ho4; have HB4 := Lib.hid (HB2q.out.grown hg4 HBq2.out (fun j hj => by cases hj; exact HG.out)); clear ho4 hg4)
                go_roundw
                case rel => exact ⟨kk + 1, m + 1, by omega, by omega, by go_num, by go_num, Lib.hid ⟨by rw [show k + (m + 1) = k + m + 1 by omega, HS.out, List.length_append, List.length_singleton, ← HK.out.1], by have := HK.out.2; omega⟩, by rw [← HST.out]; exact HO4, HB4⟩
                case measure => simp [intOf]; omega
            · obtain rfl : m = r := by omega
              obtain ⟨w5, hcl, hO5, hg5⟩ := clear_tail (c := cap - kk) HO2.out hkn
              have ht2 : ∀ W : World, (Instr.sliceAt 28 (.slice (some ⟨g, 0, none⟩) n cap) (some (.int .i64 (kk : Int))) none none).run Try.prog W = .ok (.slice (some ⟨g, kk * 2, none⟩) (n - kk) (cap - kk)) W := fun W => by
                have := tail_c g 0 n cap kk kk rfl (by omega) (by have := HC.out; omega) W
                rwa [Nat.zero_add] at this
              have hh2 : ∀ W : World, (Instr.sliceAt 28 (.slice (some ⟨g, 0, none⟩) n cap) none (some (.int .i64 (kk : Int))) none).run Try.prog W = .ok (.slice (some ⟨g, 0, none⟩) kk cap) W := fun W => head_c g 0 n cap kk kk rfl (by have := HC.out; omega) W
              have HF := Lib.hid (show OwnC 31 w5 B (.slice (some ⟨g, 0, none⟩) kk cap) (dd L).length (dd L) by
                have e : dd (L.take (k + m)) = dd L := by rw [List.take_of_length_le (by rw [HL.out]; omega)]
                have e1 : kk = (dd L).length := by rw [HK.out.1, e]
                have e2 : (mids L (k + m)).take kk = dd L := by unfold mids; rw [e, e1]; exact List.take_left' rfl
                rw [e2] at hO5
                rw [← e1]
                exact hO5)
              have HB5 := Lib.hid (HB2.out.grown hg5 (Nat.le_trans HB.out HB2.out.size) (fun j hj => by cases hj; exact HG.out))
              clear hO5 hg5 hnr hkn
              go_wp2
              go_ret
              exact ⟨_, rfl, HF.out, HB5.out⟩
        · have hd : decide (x = y) = false := by simpa using hxy
          rw [hd] at heq
          have HD2 := Lib.hid (show ∀ q, 0 < q → q < k + 1 → ¬ L[q]? = L[q - 1]? by
            intro q h0 h1 e
            rcases Nat.lt_or_ge q k with h3 | h3
            · exact HD.out q h0 h3 e
            · obtain rfl : q = k := by omega
              rw [HX.out, HY.out] at e
              exact hxy (Option.some.inj e))
          clear hd hxy
          go_wp2
          go_quiet (fail)
          go_wp2
          go_roundw
          case rel => exact ⟨k + 1, by omega, by omega, by go_num, HD2, HOr, Lib.hid (bdn HBr.out _)⟩
          case measure => simp [intOf]; omega
      · obtain rfl : k = n := by omega
        have HE := Lib.hid (show OwnC 31 wr B (.slice (some ⟨g, 0, none⟩) k cap) (dd L).length (dd L) by
          have e := dd_apart (L := L) (m := k) (by rw [HL.out]; exact Nat.le_refl _) HD.out
          rw [List.take_of_length_le (by rw [HL.out]; exact Nat.le_refl _)] at e
          rw [e, HL.out]
          exact HOr.out)
        go_wp2
        go_ret
        exact ⟨_, rfl, HE.out, HBr.out⟩
end Go.Proofs.Yticnhpddidaaeaa

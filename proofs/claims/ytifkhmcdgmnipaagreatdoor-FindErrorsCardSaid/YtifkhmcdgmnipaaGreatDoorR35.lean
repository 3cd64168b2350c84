/-
  THE WALK of living: of squares those of two of their four, each once, in which some cell lives. Conditions: the store lies in memory, the squares are there, of one level.
-/
import Derived.Test.YtifkhmcdgmnipaaGreatDoorR34
namespace Go.Proofs.YtifkhmcdgmnipaaGreatDoor.Qd
open Ti Ce
/-- of a square, the first j of the two at a side in which some cell lives -/
def livj (L : List Sq) (s : Nat) (id : Int) (j : Nat) : List Int := ((List.range j).map fun i => kid (at' L id) (ner s i)).filter fun k => decide (0 < (at' L k).cnt)
def livs (L : List Sq) (s : Nat) (S : List Int) : List Int := S.flatMap fun id => livj L s id 2
theorem livj_next (L : List Sq) (s : Nat) (id : Int) (j : Nat) : livj L s id (j + 1) = livj L s id j ++ if 0 < (at' L (kid (at' L id) (ner s j))).cnt then [kid (at' L id) (ner s j)] else [] := by
  unfold livj
  rw [List.range_succ, List.map_append, List.filter_append]
  congr 1
  simp only [List.map_cons, List.map_nil, List.filter_cons, List.filter_nil, decide_eq_true_eq]
theorem livs_next (L : List Sq) (s : Nat) (S : List Int) {i : Nat} {x : Int} (h : S[i]? = some x) : livs L s (S.take (i + 1)) = livs L s (S.take i) ++ livj L s x 2 := by
  unfold livs
  rw [List.take_add_one, h, List.flatMap_append]
  simp
theorem livj_len (L : List Sq) (s : Nat) (id : Int) (j : Nat) : (livj L s id j).length ≤ j := by
  unfold livj
  exact Nat.le_trans (List.length_filter_le _ _) (by simp)
theorem livs_len (L : List Sq) (s : Nat) : ∀ (S : List Int) (i : Nat), (livs L s (S.take i)).length ≤ 2 * i
  | S, 0 => by simp [livs]
  | S, i + 1 => by
    by_cases h : i < S.length
    · rw [livs_next L s S (List.getElem?_eq_getElem h), List.length_append]
      have := livs_len L s S i
      have := livj_len L s S[i] 2
      omega
    · have := livs_len L s S i
      rw [List.take_of_length_le (by omega)] at this ⊢
      omega
theorem livs_mem (L : List Sq) (s : Nat) (S : List Int) (k : Int) : k ∈ livs L s S ↔ ∃ id ∈ S, ∃ j < 2, k = kid (at' L id) (ner s j) ∧ 0 < (at' L k).cnt := by
  unfold livs livj
  rw [List.mem_flatMap]
  constructor
  · rintro ⟨id, hid, hk⟩
    obtain ⟨h1, h2⟩ := List.mem_filter.1 hk
    obtain ⟨j, hj, rfl⟩ := List.mem_map.1 h1
    exact ⟨id, hid, j, List.mem_range.1 hj, rfl, by simpa using h2⟩
  · rintro ⟨id, hid, j, hj, rfl, hc⟩
    exact ⟨id, hid, List.mem_filter.2 ⟨List.mem_map.2 ⟨j, List.mem_range.2 hj, rfl⟩, by simpa using hc⟩⟩
end Go.Proofs.YtifkhmcdgmnipaaGreatDoor.Qd
namespace Go.Proofs.YtifkhmcdgmnipaaGreatDoor
open Go.RowKit Ti Qd Ce Cl Go.Maps Go.WideMaps

theorem nx_of (L : List Sq) (s : Nat) (S : List Int) : Nx L S (Go.Lib.compact (srtI (livs L s S))) s :=
  ⟨(compact_srt _).2, fun k => by rw [(compact_srt _).1, livs_mem]⟩
abbrev tw2 (a b : Int) : Obj := .cells #[.int .i64 a, .int .i64 b] 97
set_option maxRecDepth 100000 in
theorem idx2_0 (a b : Int) (w : World) : (Instr.index 97 (.agg #[.int .i64 a, .int .i64 b]) (.int .i64 0)).run Tryz.prog w = .ok (.int .i64 a) w := by kernel_rfl
set_option maxRecDepth 100000 in
theorem idx2_1 (a b : Int) (w : World) : (Instr.index 97 (.agg #[.int .i64 a, .int .i64 b]) (.int .i64 1)).run Tryz.prog w = .ok (.int .i64 b) w := by kernel_rfl
theorem ner_idx (s : Nat) {j : Nat} (hj : j < 2) (w : World) : (Instr.index 97 (.agg #[.int .i64 (ner s 0 : Nat), .int .i64 (ner s 1 : Nat)]) (.int .i64 (j : Int))).run Tryz.prog w = .ok (.int .i64 (ner s j : Nat)) w := by
  have h : j = 0 ∨ j = 1 := by omega
  rcases h with rfl | rfl
  · exact idx2_0 _ _ w
  · exact idx2_1 _ _ w
set_option maxRecDepth 100000 in
theorem info_i : (Tryz.prog.info? 3).map (fun i => (i.zero, i.size, i.bytes)) = some (some (.int .i64 0), 1, 8) := by kernel_rfl
theorem own_keepI {A C : World} {B n n₀ : Nat} {v : Value} {S : List Int} (h : OwnI A B v n S) (k : Below n₀ A C) (hk : A.heap.size ≤ n₀) : OwnI C B v n S := by
  refine ⟨h.1, ?_⟩
  rcases h.2 with h2 | ⟨g, cap, cur, rfl, h3, h4, h5⟩
  · exact .inl h2
  · exact .inr ⟨g, cap, cur, rfl, h3, row_keep h4 k hk, h5⟩
/-- where living is: the list so far, and what stands -/
structure LvS (w0 : World) (B : Nat) (v : Value) (acc : List Int) (g5 : Nat) (two : Obj) (w : World) : Prop where
  own : OwnI w B v acc.length acc
  below : Below B w0 w
  row : w.heap[g5]? = some two
  nb : ¬ v.ownBlock = some g5
  le : B ≤ w.heap.size
theorem LvS.step {w0 w w' : World} {B : Nat} {v : Value} {acc : List Int} {g5 : Nat} {two : Obj} (h : LvS w0 B v acc g5 two w) (hb : Below w.heap.size w w') : LvS w0 B v acc g5 two w' :=
  ⟨own_keepI h.own hb (Nat.le_refl _), h.below.trans (hb.mono h.le), row_keep h.row hb (Nat.le_refl _), h.nb, Nat.le_trans h.le hb.size⟩
theorem LvS.app {w0 w w5 : World} {B : Nat} {v v2 : Value} {acc : List Int} {g5 : Nat} {two : Obj} (h : LvS w0 B v acc g5 two w) (k : Int) (o : Obj) (hown : w5.ownsRow B 3 1 v2 (acc.length + 1) (acc.map (Value.int .i64) ++ [.int .i64 k])) (hg : (w.alloc o).grownBy w5 v.ownBlock) (hat : v2.ownBlock = v.ownBlock ∨ v2.ownBlock = some (w.alloc o).heap.size) : LvS w0 B v2 (acc ++ [k]) g5 two w5 := by
  have hs := h.step (alX w o)
  refine ⟨?_, hs.below.grown hg hs.le (fun j hj => ?_), (hg.block g5 (lt_of_block hs.row) (fun e => h.nb e.symm)).trans hs.row, ?_, Nat.le_trans hs.le hg.size⟩
  · show w5.ownsRow _ _ _ _ _ ((acc ++ [k]).map _)
    rw [List.length_append, List.map_append]
    exact hown
  · rcases h.own.2 with ⟨rfl, _⟩ | ⟨g, cap, cur, rfl, h3, _⟩
    · cases hj
    · cases hj
      exact h3
  · rcases hat with e | e <;> rw [e]
    · exact h.nb
    · have := lt_of_block hs.row
      intro g
      have := Option.some.inj g
      omega
theorem wrap_k {k m : Nat} (h : k < m) (hm : m ≤ 65536) : wrap64 ((k : Int) + 1) = (k : Int) + 1 := by unfold wrap64; omega
theorem meas_k {k m : Nat} (h : k < m) : m - (intOf (Value.int .i64 ((k : Int) + 1))).toNat < m - (intOf (Value.int .i64 (k : Int))).toNat := by
  show m - ((k : Int) + 1).toNat < m - ((k : Int)).toNat
  omega
theorem not_own {v v5 : Value} {g n : Nat} (hat : v5.ownBlock = v.ownBlock ∨ v5.ownBlock = some n) (h : ¬ v.ownBlock = some g) (hn : g < n) : ¬ v5.ownBlock = some g := by
  rcases hat with e | e <;> rw [e]
  · exact h
  · intro k
    have := Option.some.inj k
    omega
set_option maxRecDepth 100000 in
set_option maxHeartbeats 4000000 in
theorem living_ok {B P : Nat} {L : List Sq} {room : Nat} {H : Nat → Prop} {w : World} (hs : St B w P L room H) (n : Nat) (S : List Int) (hS : ∀ id ∈ S, Lv L (n + 1) id) (hn : S.length ≤ 65536) (s : Nat) (hs4 : s < 4) (v : Value) (hv : Lyi w v S) :
    Calls Tryz.prog 44 #[.pointer (some ⟨P, 0, none⟩), v, .agg #[.int .i64 (ner s 0 : Nat), .int .i64 (ner s 1 : Nat)]] w fun e w' => ∃ v' N, e = .returned (.tuple #[v', .nilIface]) ∧ Lyi w' v' N ∧ Nx L S N s ∧ Below w.heap.size w w' := by
  obtain ⟨i0, hi, hzz⟩ := Option.map_eq_some_iff.1 info_i
  simp only [Prod.mk.injEq] at hzz
  have HI := Lib.hid (And.intro hi hzz)
  obtain ⟨a, cap, rfl, hls⟩ := id hv
  have HV := Lib.hid (fun (W : World) (hb : Below w.heap.size w W) => (show ∀ i x, S[i]? = some x → ∃ b off, a = some ⟨b, off, none⟩ ∧ W.cell? ⟨b, off + i, none⟩ = some (.int .i64 x) from by
    obtain ⟨a2, cap2, e, h⟩ := hv.below hb (Nat.le_refl _)
    cases e
    exact h))
  have HS := Lib.hid (And.intro hs (And.intro hS hn))
  have HNR := Lib.hid (fun (j : Nat) (hj : j < 2) (W : World) => ner_idx s hj W)
  have HN4 := Lib.hid (fun (j : Nat) (hj : j < 2) => ner_lt hs4 hj)
  have HI0 := Lib.hid (LvS.mk (w0 := w) (B := w.heap.size) (v := .slice none 0 0) (acc := livs L s (S.take 0)) (g5 := w.heap.size) (two := tw2 (ner s 0 : Nat) (ner s 1 : Nat)) (w := w.alloc (tw2 (ner s 0 : Nat) (ner s 1 : Nat))) (World.ownsRow_nil _ _ _ _) (alX w _) (heap_alloc_new w _) (by show ¬ none = some _; simp) (by simp))
  have HEND := Lib.hid (nx_of L s S)
  have HTK := Lib.hid (show S.take S.length = S from List.take_length ..)
  have HLL := Lib.hid (fun k => livs_len L s S k)
  have HGET := Lib.hid (fun k (hk : k < S.length) => (⟨S[k], List.getElem?_eq_getElem hk⟩ : ∃ x, S[k]? = some x))
  clear hs hS hv hls hi hzz hs4 hn
  generalize ner s 0 = n0 at *
  generalize ner s 1 = n1 at *
  generalize hm : S.length = m at *
  go_enter Tryz.func44, Tryz.ntmps44
  go_wp2_with fail
  go_loopw [19, 8] (fun i v wr => ∃ k : Nat, k ≤ m ∧ i = .int .i64 (k : Int) ∧ Hid (LvS w w.heap.size v (livs L s (S.take k)) w.heap.size (tw2 n0 n1) wr)) (fun i _ _ => m - (intOf i).toNat)
  case atStart => exact ⟨0, by omega, rfl, HI0⟩
  case round =>
    clear HI0
    obtain ⟨k, hk, rfl, HL⟩ := hrel
    have k0 : (0 : Int) ≤ (k : Int) := by omega
    by_cases hlt : k < m
    · have k1 : (k : Int) < (m : Int) := by omega
      obtain ⟨x, hx⟩ := HGET.out k hlt
      obtain ⟨b, off, rfl, hc⟩ := HV.out wr HL.out.below k x hx
      have hst := HS.out.1.below HL.out.below (Nat.le_refl _)
      have hlx := HS.out.2.1 x (List.mem_of_getElem? hx)
      have HLK := Lib.hid (look_ok hst x hlx.1)
      have HX := Lib.hid (And.intro hx (And.intro hlt hlx))
      clear hst hlx hx hlt
      go_wp2_with fail
      refine HLK.out.mono ?_
      rintro e w1 ⟨rfl, hb⟩
      generalize hq : at' L x = q at *
      have HL2 := Lib.hid ((HL.out.step hb).step (alX w1 (fq q)))
      have HG := Lib.hid (heap_alloc_new w1 (fq q))
      have HNG := Lib.hid (show ¬ u8.ownBlock = some w1.heap.size from fun e => by
        rcases (HL.out.step hb).own.2 with ⟨rfl, _⟩ | ⟨g, cap, cur, rfl, _, h3, _⟩
        · cases e
        · have h4 : g = w1.heap.size := Option.some.inj e
          have := lt_of_block h3
          omega)
      clear hb HLK HL hc
      unfold qv fq at *
      go_upto_region 6 with (fail)
      generalize World.alloc _ _ = w2 at HL2 HG ⊢
      generalize w1.heap.size = g11 at HG HNG ⊢
      obtain ⟨d0, d1, _, _⟩ := row_cl HL2.out.row
      go_wp2_with fail
      clear d0 d1
      go_loopw [33, 8] (fun i v2 wr2 => ∃ j : Nat, j ≤ 2 ∧ i = .int .i64 (j : Int) ∧ Hid (LvS w w.heap.size v2 (livs L s (S.take k) ++ livj L s x j) w.heap.size (tw2 n0 n1) wr2) ∧ Hid (wr2.heap[g11]? = some (fq q) ∧ ¬ v2.ownBlock = some g11)) (fun i _ _ => 2 - (intOf i).toNat)
      case atStart => exact ⟨0, by omega, rfl, Lib.hid (by rw [show livj L s x 0 = [] from rfl, List.append_nil]; exact HL2.out), Lib.hid ⟨HG.out, HNG.out⟩⟩
      case round =>
        clear HL2 HG HNG
        obtain ⟨j, hj, rfl, HJ, HR⟩ := hrel
        have j0 : (0 : Int) ≤ (j : Int) := by omega
        by_cases hjl : j < 2
        · have HJL := Lib.hid hjl
          have hnr := HNR.out j hjl
          have h4 := HN4.out j hjl
          generalize hi4 : ner s j = i4 at *
          have i40 : (0 : Int) ≤ (i4 : Int) := by omega
          have i44 : (i4 : Int) < 4 := by omega
          have hkc := kid_cell HR.out.1 i4 h4
          have hnx := livj_next L s x j
          rw [hq, hi4] at hnx
          have hst := HS.out.1.below HJ.out.below (Nat.le_refl _)
          have hkl := hst.inv.kid HX.out.2.2 i4
          rw [hq] at hkl
          have HCt := Lib.hid (count_ok hst (kid q i4) hkl.1)
          have HNX := Lib.hid hnx
          have HB4 := Lib.hid h4
          clear hst hkl hnx hjl h4
          generalize (at' L (kid q i4)).cnt = ct at *
          generalize hky : kid q i4 = ky at *
          have j1 : (j : Int) < 2 := by have := HJL.out; omega
          go_wp2_with fail
          refine HCt.out.mono ?_
          rintro e w3 ⟨rfl, hb⟩
          have HJ3 := Lib.hid (HJ.out.step hb)
          have HR3 := Lib.hid (row_keep HR.out.1 hb (Nat.le_refl _))
          have hk3 := kid_cell HR3.out i4 HB4.out
          rw [hky] at hk3
          clear hb HCt hkc HJ
          by_cases hct : 0 < ct
          · rw [if_pos hct] at HNX
            have HEQ := Lib.hid (show (livs L s (S.take k) ++ livj L s x j) ++ [ky] = livs L s (S.take k) ++ livj L s x (j + 1) by rw [HNX.out, List.append_assoc])
            have HLEN := Lib.hid (show (livs L s (S.take k) ++ livj L s x j).length ≤ 200000 by
              have h1 := HLL.out k
              have h2 := livj_len L s x j
              have h3 := HS.out.2.2
              have h4 := HX.out.2.1
              have h5 := HJL.out
              rw [List.length_append]
              omega)
            generalize livs L s (S.take k) ++ livj L s x j = acc at *
            have HNG := Lib.hid HR.out.2
            clear HNX HR
            go_wp2_with (at_builtin; refine wpList_append_own_at _ rfl (.tmp 50) (.tmp 55) 94 rfl w.heap.size 3 i0 (.int .i64 0) 1 8 Tryz.underlying94 HI.out.1 HI.out.2.1 HI.out.2.2.1 HI.out.2.2.2 rfl (by decide) _ acc.length (acc.map (Value.int .i64)) rfl (own_keepI HJ3.out.own (alX w3 _) (Nat.le_refl _)) ⟨w3.heap.size, 0, none⟩ 1 1 [.int .i64 ky] rfl rfl (cell_one_new _ _ _) (by intro u hu; rw [List.mem_singleton] at hu; subst hu; rfl) (by have := HLEN.out; unfold maxLen; omega) (by have := HLEN.out; omega) (Nat.le_trans HJ3.out.le (alX w3 _).size) ?_; intro v5 w5 hown hgrow _ hat; have HJ5 := Lib.hid (HJ3.out.app ky _ hown hgrow hat); have HR5 := Lib.hid (show w5.heap[g11]? = some (fq q) ∧ ¬ v5.ownBlock = some g11 from ⟨(hgrow.block g11 (Nat.lt_of_lt_of_le (lt_of_block HR3.out) (alX w3 _).size) (fun e => HNG.out e.symm)).trans (row_keep HR3.out (alX w3 _) (Nat.le_refl _)), not_own hat HNG.out (Nat.lt_of_lt_of_le (lt_of_block HR3.out) (alX w3 _).size)⟩); clear hown hgrow hat)
            go_roundw
            case rel => exact ⟨j + 1, by have := HJL.out; omega, by go_num, Lib.hid (by rw [← HEQ.out]; exact HJ5.out), HR5⟩
            case measure => have := HJL.out; simp [intOf]; omega
          · rw [if_neg hct] at HNX
            have HEQ := Lib.hid (show livs L s (S.take k) ++ livj L s x j = livs L s (S.take k) ++ livj L s x (j + 1) by rw [HNX.out, List.append_nil])
            have HR4 := Lib.hid (show w3.heap[g11]? = some (fq q) ∧ ¬ u8.ownBlock = some g11 from ⟨HR3.out, HR.out.2⟩)
            go_wp2
            go_roundw
            case rel => exact ⟨j + 1, by have := HJL.out; omega, by go_num, Lib.hid (by rw [← HEQ.out]; exact HJ3.out), HR4⟩
            case measure => have := HJL.out; simp [intOf]; omega
        · obtain rfl : j = 2 := by omega
          have HJ2 := Lib.hid (show LvS w w.heap.size u8 (livs L s (S.take (k + 1))) w.heap.size (tw2 n0 n1) wr from by
            rw [livs_next L s S HX.out.1]
            exact HJ.out)
          go_wp2
          go_roundw
          all_goals (have hm6 := HS.out.2.2; have hk6 := HX.out.2.1)
          all_goals (have ew := wrap_k hk6 hm6)
          case rel => exact ⟨k + 1, by omega, by rw [ew]; rfl, HJ2⟩
          case measure =>
            show m - (intOf (Value.int .i64 (wrap64 ((k : Int) + 1)))).toNat < m - (intOf (Value.int .i64 (k : Int))).toNat
            rw [ew]
            exact meas_k hk6
    · obtain rfl : k = m := by omega
      rw [HTK.out] at HL
      have HLEN := Lib.hid (show (livs L s S).length ≤ 200000 by
        have h1 := HLL.out k
        have h3 := HS.out.2.2
        rw [HTK.out] at h1
        omega)
      have HSO := Lib.hid (sortI_ok HL.out.own HL.out.le (by have := HLEN.out; omega))
      go_wp2_with fail
      refine HSO.out.mono ?_
      rintro e w5 ⟨rfl, ho5, hb5⟩
      have HCO := Lib.hid (compactI_ok ho5 (Nat.le_trans HL.out.le hb5.size) (by have := HLEN.out; omega))
      have HB5 := Lib.hid (HL.out.below.trans hb5)
      clear ho5 hb5 HSO
      go_wp2_with fail
      refine HCO.out.mono ?_
      rintro e w6 ⟨v6, rfl, ho6, hb6⟩
      have HX := Lib.hid (show ∃ v' N, (Ending.returned (.tuple #[v6, .nilIface]) : Ending) = .returned (.tuple #[v', .nilIface]) ∧ Lyi w6 v' N ∧ Nx L S N s ∧ Below w.heap.size w w6 from ⟨v6, _, rfl, own_lyi ho6, HEND.out, HB5.out.trans hb6⟩)
      clear ho6 hb6 HCO
      go_wp2
      go_ret2
      exact HX.out
end Go.Proofs.YtifkhmcdgmnipaaGreatDoor

/-
  THE WALK of Cells. Conditions: the store lies in memory, the library's table as its text lays it; no more cells live than may be told.
-/
import Derived.OwnWalk
import Derived.Test.YtifkhmcdgmnipaaGreatDoorR29
import Derived.Test.YtifkhmcdgmnipaaGreatDoorR32
namespace Go.Proofs.YtifkhmcdgmnipaaGreatDoor
open Go.RowKit Ti Qd Ce Cl Go.Maps Go.WideMaps

theorem own_same {T : TypeId} {w w' : World} {B n : Nat} {v : Value} {l : List Cel} (h : OwnC T w B v n l) (hb : ∀ b, v.ownBlock = some b → w'.heap[b]? = w.heap[b]?) : OwnC T w' B v n l := by
  refine ⟨h.1, ?_⟩
  rcases h.2 with h2 | ⟨g, cap, cur, rfl, h3, h4, h5⟩
  · exact .inl h2
  · exact .inr ⟨g, cap, cur, rfl, h3, (hb g rfl).trans h4, h5⟩
theorem own_lt {T : TypeId} {w : World} {B n : Nat} {v : Value} {l : List Cel} (h : OwnC T w B v n l) {b : Nat} (hb : v.ownBlock = some b) : B ≤ b ∧ b < w.heap.size := by
  rcases h.2 with ⟨rfl, _⟩ | ⟨g, cap, cur, rfl, h3, h4, h5⟩
  · cases hb
  · cases hb
    exact ⟨h3, lt_of_block h4⟩
theorem row_set1 {w : World} {g : Nat} {a0 : Value} {t : TypeId} (h : w.heap[g]? = some (.cells #[a0] t (0, 0))) (v0 : Value) : (w.setCell ⟨g, 0, none⟩ v0).heap[g]? = some (.cells #[v0] t (0, 0)) := by
  have h0 := heap_setCell_same w g 0 _ _ v0 h
  rw [h0]
  rfl
set_option maxRecDepth 100000 in
theorem makeC (n : Nat) (hn : n ≤ 4096) (w : World) : (Instr.makeSlice 26 (.int .i64 0) (.int .i64 (n : Int))).run Tryz.prog w = .ok (.slice (some ⟨w.heap.size, 0, none⟩) 0 n) (w.alloc (.cells (madeCells #[.int .i64 0, .int .i64 0] (n * 2)) 30)) := by
  obtain ⟨i, hi, hzz⟩ := Option.map_eq_some_iff.1 info_a
  simp only [Prod.mk.injEq] at hzz
  obtain ⟨hz, hs, hb⟩ := hzz
  have hr := run_make (P := Tryz.prog) w 26 30 i _ Tryz.underlying26 hi hz .i64 .i64 0 (n : Int) (by omega) (by omega) (by rw [hb]; omega) (by omega)
  rw [hs] at hr
  simp only [Int.toNat_natCast] at hr
  exact hr
/-- the list of what was found so far -/
def Ic (B g8 : Nat) (pre : List Cel) (W : World) (F : Nat → Prop) : Prop :=
  ∃ v, W.heap[g8]? = some (.cells #[v] 26 (0, 0)) ∧ OwnC 30 W B v pre.length pre ∧ ¬ v.ownBlock = some g8 ∧ B ≤ W.heap.size ∧ F = fun b => b = g8 ∨ v.ownBlock = some b
set_option maxRecDepth 100000 in
set_option maxHeartbeats 2000000 in
theorem cells1_ok (B g8 : Nat) (pre : List Cel) (c : Cel) (w : World) (F : Nat → Prop) (hN : pre.length < 4096) (hI : Ic B g8 pre w F) :
    Calls Tryz.prog 19 #[cv c, .pointer (some ⟨g8, 0, none⟩)] w fun e w' => e = .returned (.tuple #[]) ∧ ∃ F', Ic B g8 (pre ++ [c]) w' F' ∧ Stp w F w' F' := by
  obtain ⟨v, h8, hown, hne, hB, rfl⟩ := hI
  obtain ⟨i0, hi, hz0, hz1, hz2⟩ := info_parts info_a
  have HI := Lib.hid hi
  have HI0 := Lib.hid hz0
  have HI1 := Lib.hid hz1
  have HI2 := Lib.hid hz2
  have hb2 : Below w.heap.size w ((w.alloc (ca2 c)).alloc (ca2 c)) := (alX w _).trans ((alX _ _).mono (by simp))
  have HO := Lib.hid (own_keep hown hb2 (Nat.le_refl _))
  have H8 := Lib.hid (row_keep h8 hb2 (Nat.le_refl _))
  have HX := Lib.hid (And.intro hne (And.intro hB (And.intro (lt_of_block h8) (And.intro hb2 hN))))
  obtain ⟨c0, f0⟩ := row_cl1 (row_keep h8 (alX w (ca2 c)) (Nat.le_refl _))
  have HC2 := Lib.hid (show ∀ j u, (cc c)[j]? = some u → ((w.alloc (ca2 c)).alloc (ca2 c)).cell? ((⟨w.heap.size + 1, 0, none⟩ : Addr).add j) = some u from by have h := cells2 30 (w.alloc (ca2 c)) c; rw [World.size_alloc] at h; exact h)
  have HEND := Lib.hid (fun (v2 : Value) (w5 : World) (hown2 : World.ownsRow w5 B 30 2 v2 (pre.length + 1) (cl pre ++ cc c)) (hgrow : ((w.alloc (ca2 c)).alloc (ca2 c)).grownBy w5 v.ownBlock) (hat : v2.ownBlock = v.ownBlock ∨ v2.ownBlock = some (w.heap.size + 1 + 1)) =>
    (show ∃ F', Ic B g8 (pre ++ [c]) (w5.setCell ⟨g8, 0, none⟩ v2) F' ∧ Stp w (fun b => b = g8 ∨ v.ownBlock = some b) (w5.setCell ⟨g8, 0, none⟩ v2) F' from by
      have hsz : w5.heap.size ≤ (w5.setCell ⟨g8, 0, none⟩ v2).heap.size := by simp
      have h85 : w5.heap[g8]? = some (.cells #[v] 26 (0, 0)) := (hgrow.block g8 (Nat.lt_of_lt_of_le HX.out.2.2.1 hb2.size) (fun e => hne e.symm)).trans (row_keep h8 hb2 (Nat.le_refl _))
      have hn2 : ¬ v2.ownBlock = some g8 := by
        rcases hat with e | e <;> rw [e]
        · exact hne
        · have := HX.out.2.2.1
          simp
          omega
      refine ⟨_, ⟨v2, row_set1 h85 v2, ?_, hn2, Nat.le_trans hB (Nat.le_trans hb2.size (Nat.le_trans hgrow.size hsz)), rfl⟩, ?_⟩
      · rw [cl_snoc] at hown2
        rw [List.length_append]
        exact own_same hown2 (fun b hb => Below.heap_setCell _ _ _ _ (fun e => hn2 (by rw [hb, e])))
      · refine ⟨?_, ?_, ?_, Nat.le_trans hb2.size (Nat.le_trans hgrow.size hsz), fun k hk hn => ?_, fun k hk => ?_⟩
        · show w5.os = _
          exact hgrow.os.trans hb2.os
        · show w5.tape = _
          exact hgrow.tape.trans hb2.tape
        · show w5.output = _
          exact hgrow.output.trans hb2.output
        · refine (Below.heap_setCell _ _ _ _ (fun e => hn (.inl e))).trans ((hgrow.block k (Nat.lt_of_lt_of_le hk hb2.size) (fun e => hn (.inr e.symm))).trans (hb2.block k hk))
        · rcases hk with rfl | hk
          · exact .inl (.inl rfl)
          · rcases hat with e | e
            · exact .inl (.inr (e ▸ hk))
            · rw [e] at hk
              have : w.heap.size + 1 + 1 = k := Option.some.inj hk
              exact .inr (by omega)))
  have HSZ := Lib.hid (show ((w.alloc (ca2 c)).alloc (ca2 c)).heap.size = w.heap.size + 1 + 1 by simp)
  have HBS := Lib.hid (show B ≤ ((w.alloc (ca2 c)).alloc (ca2 c)).heap.size from Nat.le_trans hB hb2.size)
  have HG8 := Lib.hid (show g8 < ((w.alloc (ca2 c)).alloc (ca2 c)).heap.size from lt_of_block H8.out)
  clear hi hz0 hz1 hz2 h8 hown hne hB hb2 hN
  obtain ⟨cx, cy⟩ := c
  unfold cv at *
  go_enter Tryz.func19, Tryz.ntmps19
  go_wp2_with (at_builtin; refine wpList_append_own_at _ rfl (.tmp 3) (.tmp 5) 26 rfl B 30 i0 (cv (0, 0)) 2 16 Tryz.underlying26 HI.out HI0.out HI1.out HI2.out rfl (by decide) _ pre.length (cl pre) rfl HO.out ⟨w.heap.size + 1, 0, none⟩ 1 1 (cc (cx, cy)) rfl rfl HC2.out (cc_one _) (by have := HX.out.2.2.2.2; unfold maxLen; omega) (by have := HX.out.2.2.2.2; omega) HBS.out ?_; intro v2 w5 hown2 hgrow _ hat; have HE := Lib.hid (HEND.out v2 w5 hown2 hgrow (by rw [HSZ.out] at hat; exact hat)); obtain ⟨c85, f85⟩ := row_cl1 ((hgrow.block g8 HG8.out (fun e => HX.out.1 e.symm)).trans H8.out); have hq := hown2; rw [cl_snoc] at hq; obtain ⟨ao2, cap2, rfl, _⟩ := own_cls hq; clear hq hown2 hgrow hat)
  go_end0
  exact ⟨rfl, HE.out⟩
theorem cells_tk (B g8 : Nat) : Tk 4096 1099511627776 19 #[] #[.pointer (some ⟨g8, 0, none⟩)] (Ic B g8) where
  enter := enter_run Tryz.func19 (by kernel_rfl) (by kernel_rfl)
  lt := by
    rintro pre w F ⟨v, h1, h2, h3, h4, rfl⟩ b (rfl | hb)
    · exact lt_of_block h1
    · exact (own_lt h2 hb).2
  up := by
    rintro pre w w' F ⟨v, h1, h2, h3, h4, rfl⟩ hs hb
    exact ⟨v, (hb g8 (.inl rfl)).trans h1, own_same h2 (fun b hv => hb b (.inr hv)), h3, Nat.le_trans h4 hs, rfl⟩
  call := fun pre c w F hn _ hI => cells1_ok B g8 pre c w F hn hI
/-- each, whatever level -/
theorem each_ok {N : Nat} {M : Int} {fid : Nat} {fi ca : Array Value} {I : List Cel → World → (Nat → Prop) → Prop} (hk : Tk N M fid fi ca I) {B P : Nat} {L : List Sq} {room : Nat} {H : Nat → Prop} (hM : M ≤ 4611686018427387904) : ∀ n, n ≤ 37 → EachP N M fid fi ca I B P L room H n
  | 0, _ => by
    intro id a pre w F hs hd hT hF hI hl ha hN
    by_cases hc : (at' L id).cnt = 0
    · refine (each_none hk id a pre w F hs hI hl.1 hc).mono ?_
      rintro e w' ⟨rfl, h⟩
      rw [(cnt_zero hs.inv hl).1 hc]
      exact ⟨rfl, by simpa using h⟩
    · exact each_tile hk id a pre w F hs hT hF hI hl hc ha hM hN
  | n + 1, hn => by
    intro id a pre w F hs hd hT hF hI hl ha hN
    by_cases hc : (at' L id).cnt = 0
    · refine (each_none hk id a pre w F hs hI hl.1 hc).mono ?_
      rintro e w' ⟨rfl, h⟩
      rw [(cnt_zero hs.inv hl).1 hc]
      exact ⟨rfl, by simpa using h⟩
    · exact each_node hk hM n (by omega) (each_ok hk hM n (by omega)) id a pre w F hs hd hT hF hI hl hc ha hN
theorem sh_zero (l : List Cel) : l.map (sh (0, 0)) = l := by
  rw [show sh (0, 0) = id from funext fun c => by unfold sh; simp]
  simp
/-- what Cells leaves -/
def CellsR (w : World) (l : List Cel) (e : Ending) (w' : World) : Prop := ∃ v, e = .returned (.tuple #[v, .nilIface]) ∧ OwnC 30 w' w.heap.size v (srt l).length (srt l) ∧ Below w.heap.size w w'
set_option maxRecDepth 100000 in
set_option maxHeartbeats 2000000 in
theorem cells_ok {B P : Nat} {L : List Sq} {room : Nat} {H : Nat → Prop} {w : World} (hs : St B w P L room H) (n : Nat) (hn : n ≤ 37) (id : Int) (hl : Lv L n id) (hc : (at' L id).cnt ≤ 4096) (hT : TabZ w) :
    Calls Tryz.prog 6 #[.pointer (some ⟨P, 0, none⟩), .int .i64 id] w (CellsR w (lst L n id)) := by
  have hcnt := cnt_few hs.inv hl (by unfold big; omega)
  have hnd := lst_nodup hs.inv n id hl
  obtain ⟨m, hm⟩ : ∃ m, m = (lst L n id).length := ⟨_, rfl⟩
  rw [← hm] at hcnt
  have hm4 : m ≤ 4096 := by omega
  have HL := Lib.hid (look_ok hs id hl.1)
  have HST := Lib.hid (And.intro hs (And.intro hT hm4))
  have hmk := makeC m hm4
  have HEA := Lib.hid (fun (W : World) (F : Nat → Prop) (g8 : Nat) (h1 : Below w.heap.size w W) (h2 : Ic w.heap.size g8 [] W F) (h3 : w.heap.size ≤ g8) => each_ok (cells_tk w.heap.size g8) (by decide) n hn id (0, 0) [] W F (hs.below h1 (Nat.le_refl _))
    (fun b hb hf => by
      have := (hs.lt b hb).2
      obtain ⟨v, k1, k2, k3, k4, rfl⟩ := h2
      rcases hf with rfl | hf
      · omega
      · have := (own_lt k2 hf).1
        omega)
    (hT.below h1) (fun hf => by
      have := hT.lt
      obtain ⟨v, k1, k2, k3, k4, rfl⟩ := h2
      rcases hf with rfl | hf
      · omega
      · have := (own_lt k2 hf).1
        omega) h2 hl ⟨⟨Int.le_refl _, by have := two40 hn; show (0 : Int) + _ ≤ _; omega⟩, ⟨Int.le_refl _, by have := two40 hn; show (0 : Int) + _ ≤ _; omega⟩⟩ (by rw [← hm]; simpa using hm4))
  have HND := Lib.hid (And.intro hnd hm)
  have HC := Lib.hid hc
  clear hs hT hl hnd hm hc hm4
  unfold cv qv at *
  generalize lst L n id = ll at *
  generalize at' L id = q at *
  obtain ⟨lev, cnt, til, k0, k1, k2, k3⟩ := q
  simp only at *
  have hcg : ¬ (4096 < (m : Int)) := by have := HC.out; omega
  subst hcnt
  go_enter Tryz.func6, Tryz.ntmps6
  go_wp2_with fail
  refine HL.out.mono ?_
  rintro e w1 ⟨rfl, hb⟩
  have HB1 := Lib.hid (hb.trans ((alX w1 (fq ⟨lev, m, til, k0, k1, k2, k3⟩)).mono hb.size))
  have HR1 := Lib.hid (heap_alloc_new w1 (fq ⟨lev, m, til, k0, k1, k2, k3⟩))
  clear hb HL
  unfold fq at HB1 HR1
  go_upto_region 6 with (fail)
  generalize World.alloc _ _ = W1 at HB1 HR1 ⊢
  obtain ⟨⟨c0, c1, _, _, _, _, _⟩, _⟩ := row7 HR1.out
  have hmk1 := hmk W1
  generalize hZ : madeCells #[.int .i64 0, .int .i64 0] (m * 2) = Z at hmk1
  have e7 : (W1.alloc (.cells Z 30)).heap.size = W1.heap.size + 1 := by simp
  have hb2 : Below w.heap.size w ((W1.alloc (.cells Z 30)).alloc (.cells #[.slice (some ⟨W1.heap.size, 0, none⟩) 0 m] 26)) := HB1.out.trans (((alX W1 _).trans ((alX _ _).mono (by simp))).mono HB1.out.size)
  have h8 := heap_alloc_new (W1.alloc (.cells Z 30)) (.cells #[.slice (some ⟨W1.heap.size, 0, none⟩) 0 m] 26)
  rw [e7] at h8
  have hA := row_keep (heap_alloc_new W1 (.cells Z 30)) (alX _ (.cells #[.slice (some ⟨W1.heap.size, 0, none⟩) 0 m] 26)) (Nat.le_refl _)
  have HIC := Lib.hid (show Ic w.heap.size (W1.heap.size + 1) [] ((W1.alloc (.cells Z 30)).alloc (.cells #[.slice (some ⟨W1.heap.size, 0, none⟩) 0 m] 26)) (fun b => b = W1.heap.size + 1 ∨ (Value.slice (some ⟨W1.heap.size, 0, none⟩) 0 m).ownBlock = some b) from
    ⟨_, h8, ⟨rfl, .inr ⟨W1.heap.size, m, Z, rfl, HB1.out.size, hA, Nat.zero_le _, by have := HST.out.2.2; unfold maxLen; omega, by rw [← hZ, size_madeCells], rfl⟩⟩, by show ¬ some W1.heap.size = some (W1.heap.size + 1); simp, hb2.size, rfl⟩)
  have HE1 := Lib.hid (HEA.out _ _ _ hb2 HIC.out (Nat.le_trans HB1.out.size (Nat.le_succ _)))
  have HB2 := Lib.hid hb2
  clear hZ hb2 h8 hA HEA hmk
  go_wp2_with fail
  refine HE1.out.mono ?_
  rintro e w4 ⟨rfl, F4, hI4, hs4⟩
  rw [sh_zero, List.nil_append] at hI4
  obtain ⟨v4, k1', k2', k3', k4', rfl⟩ := hI4
  have hb4 := HB2.out.trans (hs4.below (B := w.heap.size) (fun b hb => by
    have h1 := HB1.out.size
    rcases hb with rfl | hb
    · omega
    · have : W1.heap.size = b := Option.some.inj hb
      omega) HB2.out.size)
  have HS5 := Lib.hid (sort_any k2' k4' (by have := HND.out.2; have := HST.out.2.2; omega))
  have H8 := Lib.hid (And.intro k1' (And.intro k3' hb4))
  obtain ⟨d0, _⟩ := row_cl1 k1'
  clear hs4 k2' k4' k1' k3' hb4 HE1
  go_wp2_with fail
  refine HS5.out.mono ?_
  rintro e w5 ⟨rfl, l5, hp5, hw5, ho5, hb5, hg5⟩
  obtain ⟨d1, _⟩ := row_cl1 ((hg5.block _ (lt_of_block H8.out.1) (fun e => H8.out.2.1 e.symm)).trans H8.out.1)
  have HX := Lib.hid (show CellsR w ll (.returned (.tuple #[v4, .nilIface])) w5 from by
    have hs5 : Srt l5 := wk_srt hw5 (hp5.nodup_iff.2 HND.out.1)
    have he5 : srt ll = l5 := srt_of hs5 (fun x => hp5.mem_iff)
    refine ⟨v4, rfl, ?_, H8.out.2.2.trans hb5⟩
    rw [he5, hp5.length_eq]
    exact ho5)
  clear hp5 hw5 ho5 hb5 hg5 HS5
  go_wp2
  go_ret2
  exact HX.out
end Go.Proofs.YtifkhmcdgmnipaaGreatDoor

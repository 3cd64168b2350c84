/-
  THE WALK of the statement on rot: bytes that were marked are good; with one to three bits changed, or some within 32 on end, they are not. Conditions: what came in could be read.
-/
import Derived.Test.YtefdmocfoopghaaOnceW
import Derived.BigRegion
namespace Go.Proofs.Ytefdmocfoopghaa
open Go.RowKit Crc

/-- block g holds the bytes zs, may be written, and nothing but it has turned since w0 -/
structure Holds (w0 w : World) (g : Nat) (zs : List Int) : Prop where
  lies : Lies w (some ⟨g, 0, none⟩) zs
  free : ∀ j, w.frozen? ⟨g, j, none⟩ = false
  grown : w0.grownBy w (some g)
theorem Holds.drew {w0 w : World} {g : Nat} {zs : List Int} (h : Holds w0 w g zs) : Holds w0 w.drew g zs :=
  ⟨h.lies.drew, h.free, ⟨h.grown.os, h.grown.tape, h.grown.output, h.grown.size, h.grown.block⟩⟩
theorem Holds.put {w0 w : World} {g : Nat} {zs : List Int} (h : Holds w0 w g zs) (k : Nat) (v : Int) (v0 : 0 ≤ v) (v1 : v < 256) : Holds w0 (w.setCell ⟨g, k, none⟩ (.int .u8 v)) g (zs.set k v) := by
  refine ⟨?_, fun j => by rw [World.frozen?_setCell]; exact h.free j, ⟨h.grown.os, h.grown.tape, h.grown.output, by rw [World.size_setCell]; exact h.grown.size, fun j hj hne => ?_⟩⟩
  · have := lies_set h.lies k v v0 v1
    rw [Nat.zero_add] at this
    exact this
  · rw [Below.heap_setCell _ _ _ _ (fun e => hne (by rw [e]))]
    exact h.grown.block j hj hne
theorem Holds.first {w : World} {B g n cap : Nat} {zs : List Int} (h : w.ownsRow B 5 1 (.slice (some ⟨g, 0, none⟩) n cap) n (bl zs)) (hb : Byte zs) : Holds w w g zs :=
  ⟨(own_lies_at h hb).1, fun j => h.frozenAt j, ⟨rfl, rfl, rfl, Nat.le_refl _, fun _ _ _ => rfl⟩⟩
/-- what lay in another block lies there -/
theorem Holds.other {w0 w : World} {g b : Nat} {off : Nat} {zs xs : List Int} (h : Holds w0 w g zs) (hx : Lies w0 (some ⟨b, off, none⟩) xs) (hne : b ≠ g) : Lies w (some ⟨b, off, none⟩) xs := by
  intro i hi
  obtain ⟨b', off', ha, h1, h2, h3⟩ := hx i hi
  obtain ⟨rfl, rfl⟩ : b = b' ∧ off = off' := by simpa using ha
  exact ⟨b, off, rfl, h.grown.cell h1 (fun e => hne (by simpa using e)), h2, h3⟩
theorem Holds.cell {w0 w : World} {g b j : Nat} {zs : List Int} {v : Value} (h : Holds w0 w g zs) (hx : w0.cell? ⟨b, j, none⟩ = some v) (hne : b ≠ g) : w.cell? ⟨b, j, none⟩ = some v :=
  h.grown.cell hx (fun e => hne (by simpa using e))
theorem Holds.below {w0 w wb : World} {B g : Nat} {zs : List Int} (h : Holds w0 w g zs) (hb : Below B wb w0) (hB : B ≤ w0.heap.size) (hg : B ≤ g) : Below B wb w :=
  hb.grown h.grown hB (fun k hk => by simp at hk; omega)

theorem mark_h (a : Option Addr) (c n : Nat) (xs : List Int) (w : World) (H : Nat) (hH : w.heap.size = H) (hn : xs.length = n) (h4 : 4 ≤ n) (hx : Lies w a xs) (hm : n ≤ 281474976710656) (hc : n ≤ c) :
    Calls Try.prog 14 #[.slice a n c] w fun e w' => e = .returned (.tuple #[.slice (some ⟨H, 0, none⟩) n n, .nilIface]) ∧ Lies w' (some ⟨H, 0, none⟩) (mkd xs) ∧ Below H w w' ∧ H < w'.heap.size := by
  subst hH
  exact mark_n a c n xs w hn h4 hx hm hc

set_option maxRecDepth 100000 in
set_option maxHeartbeats 1600000 in
theorem rot_walk (a0 : Option Addr) (len0 cap0 : Nat) (z0 : List Int) (x1 y1 u1 : Int) (a2 : Int) (w : World) (w0 : IsRow .u8 w a0 len0 cap0 z0) (_w1 : (Lit.int .i64 x1).wf = true ∧ (Lit.int .i64 y1).wf = true ∧ (Lit.int .i64 u1).wf = true) (w2 : (Lit.int .u32 a2).wf = true) :
    Calls Try.prog 6 #[.slice a0 len0 cap0, .agg #[.int .i64 x1, .int .i64 y1, .int .i64 u1], .int .u32 a2] w fun e w' => e = .returned (.bool true) ∧ Below w.heap.size w w' := by
  obtain ⟨xs, hx, lx, cx, mx⟩ := isrow_open w0
  have hba := (Below.refl w.heap.size w).alloc (Nat.le_refl _) (.cells #[.int .i64 x1, .int .i64 y1, .int .i64 u1] 32)
  by_cases hbig : 4096 < len0
  · go_enter Try.func6, Try.ntmps6
    go_wp2_with (first | (go_at_call 9; refine (sure_any _).mono ?_; rintro e wk ⟨rfl, hb2⟩))
    go_ret
    exact ⟨rfl, hba.trans (hb2.mono hba.size)⟩
  by_cases hsmall : len0 < 4
  · go_enter Try.func6, Try.ntmps6
    go_wp2_with (first | (go_at_call 9; refine (sure_any _).mono ?_; rintro e wk ⟨rfl, hb2⟩))
    go_ret
    exact ⟨rfl, hba.trans (hb2.mono hba.size)⟩
  obtain ⟨p, rfl⟩ : ∃ s, a2 = rg s := ⟨b8 a2, (rg_b8 a2 (bounds_u32 w2).1 (by have := (bounds_u32 w2).2; omega)).symm⟩
  have hml : (mkd xs).length = len0 := by rw [mkd_len (by omega), hx]
  obtain ⟨b, off, rfl⟩ : ∃ b off, a0 = some ⟨b, off, none⟩ := by
    obtain ⟨b, off, h, _⟩ := lx 0 (by omega)
    exact ⟨b, off, h⟩
  have hgm := good_mkd xs
  have SX := Lib.hid (lx.below hba)
  have LX := Lib.hid hx
  have LM := Lib.hid hml
  have HBA := Lib.hid hba
  have HBM := Lib.hid (byte_mkd lx.byte)
  obtain ⟨i0, hi, hz0, hz1, hz2⟩ := info_parts info_b
  have HI := Lib.hid hi
  have HI0 := Lib.hid hz0
  have HI1 := Lib.hid hz1
  have HI2 := Lib.hid hz2
  have HA := Lib.hid (show (w.alloc (.cells #[.int .i64 x1, .int .i64 y1, .int .i64 u1] 32)).heap[w.heap.size]? = some (.cells #[.int .i64 x1, .int .i64 y1, .int .i64 u1] 32 (0, 0)) from heap_alloc_new _ _)
  clear lx hx hml hba w0 w2 hi hz0 hz1 hz2
  go_enter Try.func6, Try.ntmps6
  go_wp2_with (first | (go_at_call 14; refine (mark_h _ _ _ _ _ (w.heap.size + 1) (World.size_alloc _ _) LX.out (by omega) SX.out (by omega) (by omega)).mono ?_; rintro e wa ⟨rfl, hla, hbb, hza⟩; have HLA := Lib.hid hla; have HBB := Lib.hid hbb; have HZA := Lib.hid hza; clear hla hbb hza) | (go_at_call 15; refine (good_n _ _ _ _ _ LM.out (by omega) HLA.out (by omega) (Nat.le_refl _)).mono ?_; rintro e wc ⟨rfl, hbc⟩; have HLC := Lib.hid (HLA.out.below hbc); have HBC := Lib.hid (HBB.out.trans (hbc.mono (Nat.le_of_lt HZA.out))); have HZC := Lib.hid hbc.size; clear hbc) | (at_builtin; refine wpList_append_lies _ rfl (.tmp 43) (.tmp 44) 22 rfl (w.heap.size + 1) 5 i0 (.int .u8 0) 1 1 Try.underlying22 HI.out HI0.out HI1.out HI2.out rfl (by decide) (.slice none 0 0) 0 [] rfl (World.ownsRow_nil _ _ _ _) ⟨w.heap.size + 1, 0, none⟩ len0 len0 (bl (mkd xs)) rfl (by rw [bl_len, LM.out, Nat.mul_one]) (bl_lies HLC.out) (bl_one _) (by omega) (by unfold maxLen; omega) (by omega) (Nat.le_trans (Nat.le_of_lt HZA.out) HZC.out) _ rfl ?_; intro g cap w4 hown hgrow hat hglt; simp only [Nat.zero_add, List.nil_append] at hown))
  have hza := HZA.out
  have hzc := HZC.out
  have hgw : g = wc.heap.size := by
    rcases hat with h | h
    · cases h
    · exact h
  have hg1 : w.heap.size + 1 < g := by omega
  have HF := Lib.hid (Holds.first hown HBM.out)
  have HL4 := Lib.hid (show Lies w4 (some ⟨w.heap.size + 1, 0, none⟩) (mkd xs) from fun i hi => by
    obtain ⟨b', off', ha, h1, h2, h3⟩ := HLC.out i hi
    exact ⟨b', off', ha, hgrow.cell h1 (fun e => by cases e), h2, h3⟩)
  have HB4 := Lib.hid ((HBA.out.trans (HBC.out.mono (Nat.le_succ _))).grown hgrow (by omega) (fun j hj => by cases hj))
  have HX4 := Lib.hid (show w4.heap[w.heap.size]? = some (.cells #[.int .i64 x1, .int .i64 y1, .int .i64 u1] 32 (0, 0)) from by
    rw [hgrow.block _ (by omega) (fun e => by cases e), HBC.out.block _ (by omega)]
    exact HA.out)
  have HCP := Lib.hid (own_lies_at hown HBM.out).2
  have HG1 := Lib.hid hg1
  have HGL := Lib.hid hglt
  clear hza hzc hgw hg1 hown hgrow hat hglt
  go_loopw [10, 11] (fun i _ wr => ∃ (k : Nat) (zs : List Int), k ≤ 3 ∧ i = .int .i64 k ∧ zs.length = len0 ∧ par8 zs = (decide (k % 2 = 1)) ∧ Holds w4 wr g zs) (fun i _ _ => 3 - (intOf i).toNat)
  case atStart => exact ⟨0, mkd xs, by omega, rfl, LM.out, good_par hgm, HF.out⟩
  case round =>
    obtain ⟨k, zs, hk, rfl, hzl, hpar, hh⟩ := hrel
    have HP := Lib.hid hpar
    have HH := Lib.hid hh
    have HZL := Lib.hid hzl
    clear hpar hh hzl
    by_cases hlt : k < 3
    · obtain ⟨ak, hak⟩ : ∃ ak, w4.cell? ⟨w.heap.size, k, none⟩ = some (.int .i64 ak) := by
        rw [cell_of_row w4 _ k _ _ _ HX4.out]
        match k, hlt with
        | 0, _ => exact ⟨_, rfl⟩
        | 1, _ => exact ⟨_, rfl⟩
        | 2, _ => exact ⟨_, rfl⟩
      have hck := HH.out.cell hak (by have := HG1.out; omega)
      have hr := red_bd ak (8 * (len0 : Int)) (by omega) (by omega)
      obtain ⟨Q, hQ⟩ : ∃ Q : Nat, wrap64 ((IntKind.u64.wrap ak).tmod (8 * (len0 : Int))) = (Q : Int) := ⟨(wrap64 ((IntKind.u64.wrap ak).tmod (8 * (len0 : Int)))).toNat, by omega⟩
      rw [hQ] at hr
      have hql : Q / 8 < zs.length := by have := HZL.out; omega
      obtain ⟨x, hxk⟩ : ∃ x, zs[Q / 8]? = some x := ⟨_, List.getElem?_eq_getElem hql⟩
      have hxe := (List.getElem?_eq_some_iff.1 hxk).2
      have hxb := HH.out.lies.byte (Q / 8) hql
      rw [hxe] at hxb
      have hcq := lies_cell HH.out.lies hxk
      have hfq := HH.out.free (Q / 8)
      have HXK := Lib.hid hxk
      have HXB := Lib.hid hxb
      have q0 : (0 : Int) ≤ (Q : Int) := by omega
      have q1 : (Q : Int) / 8 < (len0 : Int) := by omega
      have q2 : (0 : Int) ≤ (Q : Int) / 8 := by omega
      have hki : (k : Int) < 3 := by omega
      clear hak hr hql hxe hxb hxk
      go_wp2
      go_region
      go_wp2
      go_roundw
      case rel =>
        have hm : Q % 8 < 8 := Nat.mod_lt _ (by decide)
        refine ⟨k + 1, zs.set (Q / 8) (bits .xor .u8 x (2 ^ (Q % 8) % 256)), by omega, by go_num, by rw [List.length_set]; exact HZL.out, ?_, (HH.out.put _ _ (flip_byte HXB.out.1 HXB.out.2 _ hm).2.1 (flip_byte HXB.out.1 HXB.out.2 _ hm).2.2).drew⟩
        rw [par_flip HXK.out HXB.out.1 HXB.out.2 _ hm, HP.out, ← decide_not, decide_eq_decide]
        omega
      case measure => simp [intOf]; omega
    · obtain rfl : k = 3 := by omega
      have hbad : isGood zs = false := odd_bad HP.out
      have hne : ((strOfNums zs).toList == (strOfNums (mkd xs)).toList) = false := by
        rw [ByteArray.toList_eq, ByteArray.toList_eq, beq_eq_false_iff_ne]
        intro e
        rw [str_inj HH.out.lies.byte HBM.out e, hgm] at hbad
        cases hbad
      have hlr := Lib.hid (HH.out.other HL4.out (by have := HG1.out; omega))
      have cy := conv_lies (c := cap) HH.out.lies HZL.out
      have cm := conv_lies (c := len0) hlr.out LM.out
      have hbr := Lib.hid (HH.out.below HB4.out HB4.out.size (by have := HG1.out; omega))
      have HC0 := Lib.hid (HH.out.cell (show w4.cell? ⟨w.heap.size, 0, none⟩ = some (.int .i64 x1) by rw [cell_of_row w4 _ 0 _ _ _ HX4.out]; rfl) (by have := HG1.out; omega))
      have hpb := rg_bd p
      by_cases hp : p = 0#32
      · have hpt : (rg p == 0) = true := by rw [hp]; rfl
        go_wp2_with (first | (go_at_call 15; refine (good_n _ _ _ _ _ HZL.out (by omega) HH.out.lies (by omega) HCP.out).mono ?_; rintro e wd ⟨rfl, hbd⟩; have HBD := Lib.hid (hbr.out.trans (hbd.mono hbr.out.size)); have hcd := (hbd.cell (p := ⟨w.heap.size, 0, none⟩) (World.block_lt_of_cell? wr _ HC0.out)).trans HC0.out; have HLD := Lib.hid (hlr.out.below hbd); have HSD := Lib.hid (Nat.lt_of_lt_of_le (lt_of_block HX4.out) (Nat.le_trans HH.out.grown.size hbd.size)); clear hbd) | (go_at_call 9; refine (sure_any _).mono ?_; rintro e we ⟨rfl, hbe⟩))
        go_ret
        exact ⟨rfl, HBD.out.trans (hbe.mono HBD.out.size)⟩
      · have hpt : (rg p == 0) = false := by
          rw [beq_eq_false_iff_ne]
          intro e
          exact hp (rg_inj e)
        have HPN := Lib.hid hp
        have hr := red_bd x1 (8 * (len0 : Int) - 31) (by omega) (by omega)
        obtain ⟨Q, hQ⟩ : ∃ Q : Nat, wrap64 ((IntKind.u64.wrap x1).tmod (8 * (len0 : Int) - 31)) = (Q : Int) := ⟨(wrap64 ((IntKind.u64.wrap x1).tmod (8 * (len0 : Int) - 31))).toNat, by omega⟩
        rw [hQ] at hr
        have hq0 : (0 : Int) ≤ (Q : Int) := by omega
        have hq1 : Q + 32 ≤ 8 * len0 := by omega
        clear hr hp
        go_wp2_with (first | (go_at_call 15; refine (good_n _ _ _ _ _ HZL.out (by omega) HH.out.lies (by omega) HCP.out).mono ?_; rintro e wd ⟨rfl, hbd⟩; have HBD := Lib.hid (hbr.out.trans (hbd.mono hbr.out.size)); have hcd := (hbd.cell (p := ⟨w.heap.size, 0, none⟩) (World.block_lt_of_cell? wr _ HC0.out)).trans HC0.out; have HLD := Lib.hid (hlr.out.below hbd); have HSD := Lib.hid (Nat.lt_of_lt_of_le (lt_of_block HX4.out) (Nat.le_trans HH.out.grown.size hbd.size)); clear hbd) | (at_builtin; refine wpList_append_lies _ rfl (.tmp 95) (.tmp 96) 22 rfl w.heap.size 5 i0 (.int .u8 0) 1 1 Try.underlying22 HI.out HI0.out HI1.out HI2.out rfl (by decide) (.slice none 0 0) 0 [] rfl (World.ownsRow_nil _ _ _ _) ⟨w.heap.size + 1, 0, none⟩ len0 len0 (bl (mkd xs)) rfl (by rw [bl_len, LM.out, Nat.mul_one]) (bl_lies HLD.out) (bl_one _) (by omega) (by unfold maxLen; omega) (by omega) HBD.out.size _ rfl ?_; intro g2 cap2 w7 hown hgrow hat hglt; simp only [Nat.zero_add, List.nil_append] at hown; have HB7 := Lib.hid (HBD.out.grown hgrow HBD.out.size (fun j hj => by cases hj)); have HF7 := Lib.hid (Holds.first hown HBM.out); have HC7 := Lib.hid (own_lies_at hown HBM.out).2; have HG7 := Lib.hid (hown.lt g2 rfl).1; clear hown hgrow hat hglt))
        clear cy cm hcd hQ
        go_loopw [14] (fun i wq => ∃ (k : Nat) (ys : List Int), k ≤ 32 ∧ i = .int .i64 k ∧ ys.length = len0 ∧ Turned (pat p Q k) (mkd xs) ys ∧ Holds w7 wq g2 ys) (fun i _ => 32 - (intOf i).toNat)
        case atStart => exact ⟨0, mkd xs, by omega, rfl, LM.out, Turned.first _ _ _, HF7.out⟩
        case round =>
          obtain ⟨k, ys, hk, rfl, hyl, htu, hh⟩ := hrel
          have HT := Lib.hid htu
          have HHY := Lib.hid hh
          have HYL := Lib.hid hyl
          clear htu hh hyl
          by_cases hlt : k < 32
          · have hki : (k : Int) < 32 := by omega
            cases hbit : p.getLsbD k
            · have hbt : (bits .and .u32 (rg p / 2 ^ k) 1 == 1) = false := by rw [bit_test]; exact hbit
              have HBT := Lib.hid hbit
              clear hbit
              go_wp2
              go_roundw
              case rel => exact ⟨k + 1, ys, by omega, by go_num, HYL.out, HT.out.skip HBT.out, HHY.out⟩
              case measure => simp [intOf]; omega
            · have hbt : (bits .and .u32 (rg p / 2 ^ k) 1 == 1) = true := by rw [bit_test]; exact hbit
              have HBT := Lib.hid hbit
              clear hbit
              have hql : (Q + k) / 8 < ys.length := by have := HYL.out; omega
              obtain ⟨x, hxk⟩ : ∃ x, ys[(Q + k) / 8]? = some x := ⟨_, List.getElem?_eq_getElem hql⟩
              have hxe := (List.getElem?_eq_some_iff.1 hxk).2
              have hxb := HHY.out.lies.byte ((Q + k) / 8) hql
              rw [hxe] at hxb
              have hcq := lies_cell HHY.out.lies hxk
              have hfq := HHY.out.free ((Q + k) / 8)
              have HXK := Lib.hid hxk
              have HXB := Lib.hid hxb
              have j1 : ((Q : Int) + (k : Int)) / 8 < (len0 : Int) := by omega
              have j2 : (0 : Int) ≤ ((Q : Int) + (k : Int)) / 8 := by omega
              clear hql hxe hxb hxk
              go_wp2
              go_region
              go_wp2
              go_roundw
              case rel =>
                have hm : (Q + k) % 8 < 8 := Nat.mod_lt _ (by decide)
                exact ⟨k + 1, ys.set ((Q + k) / 8) (bits .xor .u8 x (2 ^ ((Q + k) % 8) % 256)), by omega, by go_num, by rw [List.length_set]; exact HYL.out, HT.out.flip HBT.out HXK.out HXB.out.1 HXB.out.2, (HHY.out.put _ _ (flip_byte HXB.out.1 HXB.out.2 _ hm).2.1 (flip_byte HXB.out.1 HXB.out.2 _ hm).2.2).drew⟩
              case measure => simp [intOf]; omega
          · obtain rfl : k = 32 := by omega
            have hbad2 : isGood ys = false := burst_bad HPN.out (by rw [LM.out]; exact hq1) (by rw [LM.out]; exact HYL.out) hgm HT.out
            have HBY := Lib.hid (HHY.out.below HB7.out HB7.out.size HG7.out)
            go_wp2_with (first | (go_at_call 15; refine (good_n _ _ _ _ _ HYL.out (by omega) HHY.out.lies (by omega) HC7.out).mono ?_; rintro e wf ⟨rfl, hbf⟩) | (go_at_call 9; refine (sure_any _).mono ?_; rintro e we ⟨rfl, hbe⟩))
            go_ret
            have hbz := HBY.out.trans (hbf.mono HBY.out.size)
            exact ⟨rfl, hbz.trans (hbe.mono hbz.size)⟩
end Go.Proofs.Ytefdmocfoopghaa

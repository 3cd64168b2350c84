/-
  THE STATEMENTS' OWN marked. Conditions: the text is one that a machine can hold.
-/
import Derived.Test.YtkmedlbokneegaaDoorNp
import Derived.Test.YtkmedlbokneegaaDoorRefm
import Derived.Lib.AppendStr
namespace Go.Proofs.YtkmedlbokneegaaDoor
open Go.RowKit Go.Maps

def pre (s : ByteArray) : List Int := (nums s).take 508
def padd (s : ByteArray) (k : Nat) : List Int := pre s ++ List.replicate (k - (pre s).length) 0
/-- a text as a sector that is good -/
def mkT (s : ByteArray) : ByteArray := strOfNums (Sm.mkd (padd s 512))
theorem pre_len (s : ByteArray) : (pre s).length = min 508 s.size := by unfold pre; rw [List.length_take, nums_len]
theorem padd_len (s : ByteArray) (k : Nat) (h : 508 ≤ k) : (padd s k).length = k := by
  unfold padd
  have := pre_len s
  rw [List.length_append, List.length_replicate]
  omega
theorem padd_byte (s : ByteArray) (k : Nat) : ∀ i (h : i < (padd s k).length), 0 ≤ (padd s k)[i] ∧ (padd s k)[i] < 256 := by
  intro i h
  have hx : (padd s k)[i] ∈ padd s k := List.getElem_mem h
  generalize (padd s k)[i] = x at hx ⊢
  unfold padd at hx
  rcases List.mem_append.1 hx with q | q
  · unfold pre at q
    obtain ⟨j, hj, rfl⟩ := List.getElem_of_mem (List.mem_of_mem_take q)
    exact nums_byte s j hj
  · rw [List.eq_of_mem_replicate q]; omega
theorem mkd_byte (s : ByteArray) : ∀ i (h : i < (Sm.mkd (padd s 512)).length), 0 ≤ (Sm.mkd (padd s 512))[i] ∧ (Sm.mkd (padd s 512))[i] < 256 := Sm.byte_mkd (padd_byte s 512)
theorem nums_mkT (s : ByteArray) : nums (mkT s) = Sm.mkd (padd s 512) := nums_str (mkd_byte s)
theorem mkT_size (s : ByteArray) : (mkT s).size = 512 := by
  unfold mkT
  rw [strOfNums_size, Sm.mkd_len (by rw [padd_len s 512 (by omega)]; omega), padd_len s 512 (by omega)]
theorem mkT_good (s : ByteArray) : goodT (mkT s) = true := by
  unfold goodT
  rw [nums_mkT]
  exact Sm.good_mkd _
def sliceLen : Value → Nat
  | .slice _ n _ => n
  | _ => 0
theorem padd_self (s : ByteArray) : padd s (pre s).length = pre s := by unfold padd; rw [Nat.sub_self]; simp
theorem padd_more (s : ByteArray) (k : Nat) (h : (pre s).length ≤ k) : bl (padd s k) ++ [Value.int .u8 0] = bl (padd s (k + 1)) := by
  unfold padd bl
  rw [show k + 1 - (pre s).length = (k - (pre s).length) + 1 by omega, List.replicate_succ']
  simp
theorem own_first {w : World} {B : Nat} {v : Value} {t s : ByteArray} (h : w.ownsRow B 5 1 v (0 + t.size) ([] ++ Lib.strCells t)) (hc : Lib.strCells t = bl (pre s)) (hz : t.size = (pre s).length) : w.ownsRow B 5 1 v (pre s).length (bl (pre s)) := by
  rw [Nat.zero_add, List.nil_append, hc, hz] at h
  exact h
theorem cells_nums (t : ByteArray) : Lib.strCells t = bl (nums t) := by unfold Lib.strCells bl nums; rw [List.map_map]; rfl
theorem nums_take (s : ByteArray) : nums (s.extract 0 508) = pre s := by
  unfold nums pre nums
  rw [← List.map_take]
  congr 1
  rw [ByteArray.data_extract]
  simp
theorem Sm.Lies.out {w : World} {a : Option Addr} {xs : List Int} (h : Sm.Lies w a xs) : Go.Proofs.YtkmedlbokneegaaDoor.Lies w a xs := fun i hi => h i hi
set_option maxRecDepth 100000 in
set_option maxHeartbeats 1000000 in
theorem marked_any (s : ByteArray) (w : World) (hs : s.size ≤ 9223372036854775807) :
    Calls Tryd.prog 23 #[.string s] w fun e w' => e = .returned (.string (mkT s)) ∧ Below w.heap.size w w' := by
  obtain ⟨i0, hi, hz0, hz1, hz2⟩ := info_parts info_b
  have HI := Lib.hid hi
  have HI0 := Lib.hid hz0
  have HI3 := HI0
  have HI1 := Lib.hid hz1
  have HI2 := Lib.hid hz2
  have HMK := Lib.hid (show (Sm.mkd (padd s 512)).length = 512 by rw [Sm.mkd_len (by rw [padd_len s 512 (by omega)]; omega), padd_len s 512 (by omega)])
  have hpl := pre_len s
  clear hi hz0 hz1 hz2
  by_cases hb : s.size ≤ 508
  · have h1 : (s.size : Int) ≤ 508 := by omega
    have HSZ := Lib.hid (show s.size = (pre s).length by omega)
    have HCE := Lib.hid (show Lib.strCells s = bl (pre s) by rw [cells_nums]; unfold pre; rw [List.take_of_length_le (by rw [nums_len]; omega)])
    go_enter Tryd.func23, Tryd.ntmps23
    go_wp2_with (at_builtin; refine Lib.wpList_append_own_string _ rfl (.tmp 6) (.tmp 11) 48 9 rfl w.heap.size 5 i0 Tryd.underlying48 Tryd.underlying9 HI.out HI0.out HI1.out HI2.out (.slice none 0 0) 0 [] rfl (World.ownsRow_nil _ _ _ _) (s) rfl (by rw [HSZ.out]; unfold maxLen; omega) (by rw [HSZ.out]; omega) (Nat.le_refl _) ?_; intro v1 w1 hown hgrow _; have HO1 := Lib.hid (own_first hown HCE.out HSZ.out); have HB1 := Lib.hid ((Below.refl w.heap.size w).grown hgrow (Nat.le_refl _) (fun j hj => by cases hj)); clear hown hgrow)
    go_loopw [3] (fun v wr => ∃ k : Nat, (pre s).length ≤ k ∧ k ≤ 512 ∧ Hid (wr.ownsRow w.heap.size 5 1 v k (bl (padd s k))) ∧ Hid (Below w.heap.size w wr)) (fun v _ => 512 - sliceLen v)
    case atStart => exact ⟨(pre s).length, Nat.le_refl _, by omega, Lib.hid (by rw [padd_self]; exact HO1.out), HB1⟩
    case round =>
      obtain ⟨k, hk1, hk2, HO, HB⟩ := hrel
      obtain ⟨ao, cap, hv⟩ := own_slice HO.out
      subst hv
      have HS := Lib.hid HB.out.size
      by_cases hlt : k < 512
      · have hki : (k : Int) < 512 := by omega
        go_wp2_with (at_builtin; refine wpList_append_own _ rfl (.tmp 16) (.tmp 17) 48 rfl w.heap.size 5 i0 (.int .u8 0) 1 1 Tryd.underlying48 HI.out HI3.out HI1.out HI2.out rfl (by decide) (.slice ao k cap) k (bl (padd s k)) rfl (HO.out.alloc _) ⟨wr.heap.size, 0, none⟩ 1 1 [.int .u8 0] rfl rfl (cell_one_new _ _ _) (by simp [Value.oneCell']) (by unfold maxLen; omega) (by omega) (by have := HS.out; simp; omega) ?_; intro v2 w2 hown hgrow _)
        have HO2 := Lib.hid hown
        have HG2 := Lib.hid ((HB.out.alloc HS.out (.cells #[.int .u8 0] 5)).grown hgrow (by have := HS.out; simp; omega) (fun q hq => (HO.out.lt q hq).1))
        obtain ⟨ao2, cap2, hv2⟩ := own_slice hown
        subst hv2
        clear hown hgrow
        go_roundw
        case rel => exact ⟨k + 1, by omega, by omega, Lib.hid (by rw [← padd_more s k hk1]; exact HO2.out), HG2⟩
        case measure => simp [sliceLen]; omega
      · obtain rfl : k = 512 := by omega
        obtain ⟨g, cap', hv, hl, hc, _⟩ := own_bytes HO.out (by omega) (padd_byte s 512)
        obtain ⟨rfl, rfl⟩ : ao = some ⟨g, 0, none⟩ ∧ cap = cap' := by simpa using hv
        have HL := Lib.hid hl.sm
        clear hl hv
        go_wp2_with (go_at_call 43; refine (Sm.refmark_any g 0 cap 512 (padd s 512) _ (padd_len s 512 (by omega)) (by omega) HL.out (by omega) hc).mono ?_; rintro e w5 ⟨bo, cp, rfl, hl6, hb6⟩; have HL6 := Lib.hid (Sm.Lies.out hl6); have HB6 := Lib.hid hb6; have hcv := conv_any (c := cp) HL6.out HMK.out; clear hl6 hb6)
        go_ret
        exact ⟨rfl, HB.out.trans (HB6.out.mono HS.out)⟩
  · have h1 : ¬ (s.size : Int) ≤ 508 := by omega
    have h2 : (508 : Int) ≤ (s.size : Int) := by omega
    have HCE := Lib.hid (show Lib.strCells (s.extract 0 508) = bl (pre s) by rw [cells_nums, nums_take])
    have HSZ := Lib.hid (show (s.extract 0 508).size = (pre s).length by rw [← nums_len, nums_take])
    go_enter Tryd.func23, Tryd.ntmps23
    go_wp2_with (at_builtin; refine Lib.wpList_append_own_string _ rfl (.tmp 6) (.tmp 11) 48 9 rfl w.heap.size 5 i0 Tryd.underlying48 Tryd.underlying9 HI.out HI0.out HI1.out HI2.out (.slice none 0 0) 0 [] rfl (World.ownsRow_nil _ _ _ _) (s.extract 0 508) rfl (by rw [HSZ.out]; unfold maxLen; omega) (by rw [HSZ.out]; omega) (Nat.le_refl _) ?_; intro v1 w1 hown hgrow _; have HO1 := Lib.hid (own_first hown HCE.out HSZ.out); have HB1 := Lib.hid ((Below.refl w.heap.size w).grown hgrow (Nat.le_refl _) (fun j hj => by cases hj)); clear hown hgrow)
    go_loopw [3] (fun v wr => ∃ k : Nat, (pre s).length ≤ k ∧ k ≤ 512 ∧ Hid (wr.ownsRow w.heap.size 5 1 v k (bl (padd s k))) ∧ Hid (Below w.heap.size w wr)) (fun v _ => 512 - sliceLen v)
    case atStart => exact ⟨(pre s).length, Nat.le_refl _, by omega, Lib.hid (by rw [padd_self]; exact HO1.out), HB1⟩
    case round =>
      obtain ⟨k, hk1, hk2, HO, HB⟩ := hrel
      obtain ⟨ao, cap, hv⟩ := own_slice HO.out
      subst hv
      have HS := Lib.hid HB.out.size
      by_cases hlt : k < 512
      · have hki : (k : Int) < 512 := by omega
        go_wp2_with (at_builtin; refine wpList_append_own _ rfl (.tmp 16) (.tmp 17) 48 rfl w.heap.size 5 i0 (.int .u8 0) 1 1 Tryd.underlying48 HI.out HI3.out HI1.out HI2.out rfl (by decide) (.slice ao k cap) k (bl (padd s k)) rfl (HO.out.alloc _) ⟨wr.heap.size, 0, none⟩ 1 1 [.int .u8 0] rfl rfl (cell_one_new _ _ _) (by simp [Value.oneCell']) (by unfold maxLen; omega) (by omega) (by have := HS.out; simp; omega) ?_; intro v2 w2 hown hgrow _)
        have HO2 := Lib.hid hown
        have HG2 := Lib.hid ((HB.out.alloc HS.out (.cells #[.int .u8 0] 5)).grown hgrow (by have := HS.out; simp; omega) (fun q hq => (HO.out.lt q hq).1))
        obtain ⟨ao2, cap2, hv2⟩ := own_slice hown
        subst hv2
        clear hown hgrow
        go_roundw
        case rel => exact ⟨k + 1, by omega, by omega, Lib.hid (by rw [← padd_more s k hk1]; exact HO2.out), HG2⟩
        case measure => simp [sliceLen]; omega
      · obtain rfl : k = 512 := by omega
        obtain ⟨g, cap', hv, hl, hc, _⟩ := own_bytes HO.out (by omega) (padd_byte s 512)
        obtain ⟨rfl, rfl⟩ : ao = some ⟨g, 0, none⟩ ∧ cap = cap' := by simpa using hv
        have HL := Lib.hid hl.sm
        clear hl hv
        go_wp2_with (go_at_call 43; refine (Sm.refmark_any g 0 cap 512 (padd s 512) _ (padd_len s 512 (by omega)) (by omega) HL.out (by omega) hc).mono ?_; rintro e w5 ⟨bo, cp, rfl, hl6, hb6⟩; have HL6 := Lib.hid (Sm.Lies.out hl6); have HB6 := Lib.hid hb6; have hcv := conv_any (c := cp) HL6.out HMK.out; clear hl6 hb6)
        go_ret
        exact ⟨rfl, HB.out.trans (HB6.out.mono HS.out)⟩
end Go.Proofs.YtkmedlbokneegaaDoor

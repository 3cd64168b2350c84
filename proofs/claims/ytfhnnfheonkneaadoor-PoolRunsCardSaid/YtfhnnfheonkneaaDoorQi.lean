/-
  THE DOCUMENT'S OWN MARK, and bytes as texts. Conditions: those that each lemma names.
-/
import Derived.Test.YtfhnnfheonkneaaDoorQd
namespace Go.Proofs.YtfhnnfheonkneaaDoor.Sm
open Go.RowKit Crc

theorem str_inj {xs ys : List Int} (hx : Byte xs) (hy : Byte ys) (h : (strOfNums xs).data.toList = (strOfNums ys).data.toList) : xs = ys := by
  rw [strOfNums_data, strOfNums_data] at h
  have hl := congrArg List.length h
  simp only [List.length_map] at hl
  apply List.ext_getElem hl
  intro i h1 h2
  have e : (xs.map fun n => UInt8.ofNat n.toNat)[i]? = (ys.map fun n => UInt8.ofNat n.toNat)[i]? := by rw [h]
  rw [List.getElem?_map, List.getElem?_map, List.getElem?_eq_getElem h1, List.getElem?_eq_getElem h2] at e
  simp only [Option.map_some, Option.some.injEq] at e
  have a := hx i h1
  have b := hy i h2
  have e2 := congrArg UInt8.toNat e
  simp only [UInt8.toNat_ofNat'] at e2
  omega
theorem good_same {xs : List Int} (hb : Byte xs) (h4 : 4 ≤ xs.length) (hg : isGood xs = true) : mkd xs = xs := by
  obtain ⟨ys, t0, t1, t2, t3, rfl⟩ := four_last xs h4
  have g0 := hb ys.length (by simp)
  have g1 := hb (ys.length + 1) (by simp)
  have g2 := hb (ys.length + 2) (by simp)
  have g3 := hb (ys.length + 3) (by simp)
  simp at g0 g1 g2 g3
  rw [← four_good ys t0 t1 t2 t3 g0 g1 g2 g3] at hg
  simp only [Four, Bool.and_eq_true, beq_iff_eq] at hg
  obtain ⟨e0, e1, e2, e3⟩ := hg
  have hl : (ys ++ [t0, t1, t2, t3]).length - 4 = ys.length := by simp
  unfold mkd
  rw [hl, List.take_left']
  · unfold mk tls
    rw [← e0, ← e1, ← e2, ← e3]
  · rfl
theorem good_str {xs : List Int} (hb : Byte xs) (h4 : 4 ≤ xs.length) : ((strOfNums (mkd xs)).toList == (strOfNums xs).toList) = isGood xs := by
  rw [ByteArray.toList_eq, ByteArray.toList_eq]
  cases hg : isGood xs
  · rw [beq_eq_false_iff_ne]
    intro e
    have := str_inj (byte_mkd hb) hb e
    rw [← this, good_mkd] at hg
    cases hg
  · rw [good_same hb h4 hg]
    exact beq_self_eq_true _

/-- the document's own Mark: the marked bytes, in new memory -/
def RefMarked (w : World) (xs : List Int) (n : Nat) (e : Ending) (w' : World) : Prop :=
  ∃ ao cap, e = .returned (.tuple #[.slice ao n cap, .int .i64 0]) ∧ Lies w' ao (mkd xs) ∧ Below w.heap.size w w'
theorem tls_get (ys : List Int) (k : Nat) (hk : k < 4) : (tls ys)[k]? = some (rg (tb (more 0#32 ys) k)) := by
  match k, hk with
  | 0, _ => rfl
  | 1, _ => rfl
  | 2, _ => rfl
  | 3, _ => rfl
theorem ref_next (ys : List Int) (k : Nat) (hk : k < 4) : bl (ys ++ (tls ys).take k) ++ [Value.int .u8 (rg (more 0#32 ys >>> (8 * k)) % 256)] = bl (ys ++ (tls ys).take (k + 1)) := by
  have e : rg (more 0#32 ys >>> (8 * k)) % 256 = rg (tb (more 0#32 ys) k) := by rw [← shr_rg, tb_int]
  have hl : k < (tls ys).length := hk
  have e2 : (tls ys)[k] = rg (tb (more 0#32 ys) k) := by
    have := tls_get ys k hk
    rw [List.getElem?_eq_getElem hl] at this
    exact Option.some.inj this
  rw [e, List.take_succ_eq_append_getElem hl, e2]
  simp [bl]
theorem shr8 (x : BitVec 32) (k : Nat) : rg (x >>> (8 * k)) / (256 : Int) = rg (x >>> (8 * (k + 1))) := by
  have h := shr_rg (x >>> (8 * k)) 8
  have e : 8 * (k + 1) = 8 * k + 8 := by omega
  rw [e, BitVec.shiftRight_add, ← h]
  rfl

set_option maxRecDepth 100000 in
set_option maxHeartbeats 1000000 in
theorem refmark_any (b off c n : Nat) (xs : List Int) (w : World) (hn : xs.length = n) (h4 : 4 ≤ n) (hx : Lies w (some ⟨b, off, none⟩) xs) (hm : n ≤ 3000) (hc : n ≤ c) :
    Calls Tryd.prog 37 #[.slice (some ⟨b, off, none⟩) n c] w (RefMarked w xs n) := by
  have hty : (xs.take (n - 4)).length = n - 4 := by rw [List.length_take]; omega
  obtain ⟨i0, hi, hz0, hz1, hz2⟩ := info_parts info_b
  have HI := Lib.hid hi
  have HI0 := Lib.hid hz0
  have HI1 := Lib.hid hz1
  have HI2 := Lib.hid hz2
  have HT := Lib.hid hty
  have HN := Lib.hid hn
  have HY := Lib.hid (hx.take (n - 4))
  have HBX := Lib.hid hx.byte
  have k0 : (0 : Int) ≤ (n : Int) - 4 := by omega
  have k1 : (n : Int) - 4 ≤ (c : Int) := by omega
  have E4 := Lib.hid (show ((n : Int) - 4).toNat = n - 4 by omega)
  clear hi hz0 hz1 hz2 hty hn hx
  go_enter Tryd.func37, Tryd.ntmps37
  go_wp2_with (first | (go_at_call 58; refine (ref_0 _ _ _ _ _ HY.out HT.out (by omega)).mono ?_; rintro e w' ⟨rfl, rfl⟩) | (at_builtin; refine wpList_append_own _ rfl (.tmp 18) (.tmp 21) 60 rfl w.heap.size 5 i0 (.int .u8 0) 1 1 Tryd.underlying60 HI.out HI0.out HI1.out HI2.out rfl (by decide) (.slice none 0 0) 0 [] rfl (World.ownsRow_nil _ _ _ _) ⟨b, off, none⟩ (n - 4) c (bl (xs.take (n - 4))) rfl (by rw [bl_len, HT.out, Nat.mul_one]) (bl_lies HY.out) (bl_one _) (by unfold maxLen; omega) (by omega) (Nat.le_refl _) ?_; intro v1 w1 hown hgrow _; simp only [Nat.zero_add, List.nil_append] at hown))
  have HO1 := Lib.hid hown
  have HB1 := Lib.hid ((Below.refl w.heap.size w).grown hgrow (Nat.le_refl _) (fun j hj => by cases hj))
  clear hown hgrow
  have HMK := Lib.hid (show mkd xs = xs.take (n - 4) ++ tls (xs.take (n - 4)) by unfold mkd mk; rw [HN.out])
  have HBY := Lib.hid (show Byte (mkd xs) from byte_mkd HBX.out)
  generalize xs.take (n - 4) = ys at HT HY HO1 HMK ⊢
  go_loopw [5, 6, 7] (fun s v i wr => ∃ k : Nat, k ≤ 4 ∧ i = .int .i64 k ∧ s = .int .u32 (rg (more 0#32 ys >>> (8 * k))) ∧ wr.ownsRow w.heap.size 5 1 v (n - 4 + k) (bl (ys ++ (tls ys).take k)) ∧ Below w.heap.size w wr) (fun _ _ i _ => 4 - (intOf i).toNat)
  case atStart => exact ⟨0, by omega, rfl, by rw [Nat.mul_zero, BitVec.ushiftRight_zero], by rw [List.take_zero, List.append_nil]; exact HO1.out, HB1.out⟩
  case round =>
    obtain ⟨k, hk, rfl, rfl, hown, hb⟩ := hrel
    have HO := Lib.hid hown
    have HB := Lib.hid hb
    clear hown hb
    have hs := rg_bd (more 0#32 ys >>> (8 * k))
    by_cases hlt : k < 4
    · have HN2 := Lib.hid (ref_next ys k hlt)
      have HS := Lib.hid (shr8 (more 0#32 ys) k)
      generalize more 0#32 ys >>> (8 * k) = X at hs HN2 HS ⊢
      have hki : (k : Int) < 4 := by omega
      go_wp2_with (first | (at_builtin; refine wpList_append_own _ rfl (.tmp 27) (.tmp 31) 60 rfl w.heap.size 5 i0 (.int .u8 0) 1 1 Tryd.underlying60 HI.out HI0.out HI1.out HI2.out rfl (by decide) u6 (n - 4 + k) (bl (ys ++ (tls ys).take k)) rfl (HO.out.alloc _) ⟨wr.heap.size, 0, none⟩ 1 1 [Value.int .u8 (rg X % 256)] rfl rfl (cell_one_new _ _ _) (by simp [Value.oneCell']) (by unfold maxLen; omega) (by omega) (by have := HB.out.size; simp; omega) ?_; intro v2 w2 hown hgrow _))
      have HO2 := Lib.hid hown
      have HB2 := Lib.hid ((HB.out.alloc HB.out.size (.cells #[Value.int .u8 (rg X % 256)] 5)).grown hgrow (by have := HB.out.size; simp; omega) (fun j hj => (HO.out.lt j hj).1))
      clear hown hgrow
      go_roundw
      case rel => exact ⟨k + 1, by omega, by go_num, by rw [HS.out], by rw [← HN2.out]; exact HO2.out, HB2.out⟩
      case measure => simp [intOf]; omega
    · obtain rfl : k = 4 := by omega
      have e4 : n - 4 + 4 = n := by omega
      have e5 : ys ++ (tls ys).take 4 = mkd xs := by rw [HMK.out]; rfl
      obtain ⟨ao, cap, rfl, hl, hcp, hq⟩ := own_lies HO.out (by rw [e5]; exact HBY.out)
      rw [e5] at hl
      have HL := Lib.hid hl
      have E := Lib.hid e4
      clear hl e4 e5 hs hcp hq HO
      go_wp2
      go_ret2
      exact ⟨ao, cap, by show Ending.returned (.tuple #[.slice ao (n - 4 + 4) cap, .int .i64 0]) = _; rw [E.out], HL.out, HB.out⟩

theorem refmark_short (a : Option Addr) (n c : Nat) (w : World) (h : n < 4) :
    Calls Tryd.prog 37 #[.slice a n c] w fun e w' => e = .returned (.tuple #[.slice none 0 0, .int .i64 1]) ∧ w = w' := by
  go_enter Tryd.func37, Tryd.ntmps37
  go_wp2
  go_ret2
  exact ⟨rfl, rfl⟩

theorem conv_any {w : World} {a : Option Addr} {n c : Nat} {xs : List Int} (h : Lies w a xs) (hn : xs.length = n) :
    (convert 60 9 (.slice a n c)).run Tryd.prog w = .ok (.string (strOfNums xs)) w := by
  cases a with
  | some x =>
    cases n with
    | zero =>
      obtain rfl : xs = [] := List.eq_nil_of_length_eq_zero hn
      rw [run_convert_bytes_string w 60 9 5 _ 0 c Tryd.underlying60 Tryd.underlying5 Tryd.underlying9]
      rw [run_bytesToString w x 0 c [] (by rfl)]
      rfl
    | succ m =>
      obtain ⟨b, off, ha, _⟩ := h 0 (by omega)
      obtain rfl : x = ⟨b, off, none⟩ := by simpa using ha
      exact conv_lies h hn
  | none =>
    obtain rfl : xs = [] := by
      cases xs with
      | nil => rfl
      | cons x xs =>
        obtain ⟨b, off, ha, _⟩ := h 0 (by simp)
        cases ha
    exact run_convert_bytes_nil w 60 5 Tryd.underlying60 Tryd.underlying5 n c 9 Tryd.underlying9

end Go.Proofs.YtfhnnfheonkneaaDoor.Sm

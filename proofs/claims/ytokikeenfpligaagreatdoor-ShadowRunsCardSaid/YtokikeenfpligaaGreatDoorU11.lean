/-
  THE DOCUMENT'S OWN MARK, and bytes as texts. Conditions: those that each lemma names.
  A PAGE AND ITS BYTES, one from the other and back: plain mathematics. Conditions: those that each lemma names.
-/
import Derived.Test.YtokikeenfpligaaGreatDoorU07
import Derived.Test.YtokikeenfpligaaGreatDoorU10
namespace Go.Proofs.YtokikeenfpligaaGreatDoor.Sm
open Go.RowKit Crc

theorem str_inj {xs ys : List Int} (hx : Byte xs) (hy : Byte ys) (h : (strOfNums xs).data.toList = (strOfNums ys).data.toList) : xs = ys := by
  rw [strOfNums_data, strOfNums_data] at h
  have hl := congrArg List.length h
  simp only [List.length_map] at hl
  apply List.ext_getElem hl
  intro i h1 h2
  have e : (xs.map fun n => UInt8.ofNat n.toNat)[i]? = (ys.map fun n => UInt8.ofNat n.toNat)[i]? := by rw [h]
  rw [List.getElem?_map, List.getElem?_map, List.getElem?_eq_getElem h1, List.getElem?_eq_getElem h2] at e
  simp only [Option.map_some, Option.some.injEq] at e
  have a := hx i h1
  have b := hy i h2
  have e2 := congrArg UInt8.toNat e
  simp only [UInt8.toNat_ofNat'] at e2
  omega
theorem good_same {xs : List Int} (hb : Byte xs) (h4 : 4 ≤ xs.length) (hg : isGood xs = true) : mkd xs = xs := by
  obtain ⟨ys, t0, t1, t2, t3, rfl⟩ := four_last xs h4
  have g0 := hb ys.length (by simp)
  have g1 := hb (ys.length + 1) (by simp)
  have g2 := hb (ys.length + 2) (by simp)
  have g3 := hb (ys.length + 3) (by simp)
  simp at g0 g1 g2 g3
  rw [← four_good ys t0 t1 t2 t3 g0 g1 g2 g3] at hg
  simp only [Four, Bool.and_eq_true, beq_iff_eq] at hg
  obtain ⟨e0, e1, e2, e3⟩ := hg
  have hl : (ys ++ [t0, t1, t2, t3]).length - 4 = ys.length := by simp
  unfold mkd
  rw [hl, List.take_left']
  · unfold mk tls
    rw [← e0, ← e1, ← e2, ← e3]
  · rfl
theorem good_str {xs : List Int} (hb : Byte xs) (h4 : 4 ≤ xs.length) : ((strOfNums (mkd xs)).toList == (strOfNums xs).toList) = isGood xs := by
  rw [ByteArray.toList_eq, ByteArray.toList_eq]
  cases hg : isGood xs
  · rw [beq_eq_false_iff_ne]
    intro e
    have := str_inj (byte_mkd hb) hb e
    rw [← this, good_mkd] at hg
    cases hg
  · rw [good_same hb h4 hg]
    exact beq_self_eq_true _

/-- the document's own Mark: the marked bytes, in new memory -/
def RefMarked (w : World) (xs : List Int) (n : Nat) (e : Ending) (w' : World) : Prop :=
  ∃ ao cap, e = .returned (.tuple #[.slice ao n cap, .int .i64 0]) ∧ Lies w' ao (mkd xs) ∧ Below w.heap.size w w'
theorem tls_get (ys : List Int) (k : Nat) (hk : k < 4) : (tls ys)[k]? = some (rg (tb (more 0#32 ys) k)) := by
  match k, hk with
  | 0, _ => rfl
  | 1, _ => rfl
  | 2, _ => rfl
  | 3, _ => rfl
theorem ref_next (ys : List Int) (k : Nat) (hk : k < 4) : bl (ys ++ (tls ys).take k) ++ [Value.int .u8 (rg (more 0#32 ys >>> (8 * k)) % 256)] = bl (ys ++ (tls ys).take (k + 1)) := by
  have e : rg (more 0#32 ys >>> (8 * k)) % 256 = rg (tb (more 0#32 ys) k) := by rw [← shr_rg, tb_int]
  have hl : k < (tls ys).length := hk
  have e2 : (tls ys)[k] = rg (tb (more 0#32 ys) k) := by
    have := tls_get ys k hk
    rw [List.getElem?_eq_getElem hl] at this
    exact Option.some.inj this
  rw [e, List.take_succ_eq_append_getElem hl, e2]
  simp [bl]
theorem shr8 (x : BitVec 32) (k : Nat) : rg (x >>> (8 * k)) / (256 : Int) = rg (x >>> (8 * (k + 1))) := by
  have h := shr_rg (x >>> (8 * k)) 8
  have e : 8 * (k + 1) = 8 * k + 8 := by omega
  rw [e, BitVec.shiftRight_add, ← h]
  rfl

set_option maxRecDepth 100000 in
set_option maxHeartbeats 1000000 in
theorem refmark_any (b off c n : Nat) (xs : List Int) (w : World) (hn : xs.length = n) (h4 : 4 ≤ n) (hx : Lies w (some ⟨b, off, none⟩) xs) (hm : n ≤ 3000) (hc : n ≤ c) :
    Calls Tryz.prog 68 #[.slice (some ⟨b, off, none⟩) n c] w (RefMarked w xs n) := by
  have hty : (xs.take (n - 4)).length = n - 4 := by rw [List.length_take]; omega
  obtain ⟨i0, hi, hz0, hz1, hz2⟩ := info_parts info_b
  have HI := Lib.hid hi
  have HI0 := Lib.hid hz0
  have HI1 := Lib.hid hz1
  have HI2 := Lib.hid hz2
  have HT := Lib.hid hty
  have HN := Lib.hid hn
  have HY := Lib.hid (hx.take (n - 4))
  have HBX := Lib.hid hx.byte
  have k0 : (0 : Int) ≤ (n : Int) - 4 := by omega
  have k1 : (n : Int) - 4 ≤ (c : Int) := by omega
  have E4 := Lib.hid (show ((n : Int) - 4).toNat = n - 4 by omega)
  clear hi hz0 hz1 hz2 hty hn hx
  go_enter Tryz.func68, Tryz.ntmps68
  go_wp2_with (first | (go_at_call 101; refine (ref_0 _ _ _ _ _ HY.out HT.out (by omega)).mono ?_; rintro e w' ⟨rfl, rfl⟩) | (at_builtin; refine wpList_append_own _ rfl (.tmp 18) (.tmp 21) 72 rfl w.heap.size 5 i0 (.int .u8 0) 1 1 Tryz.underlying72 HI.out HI0.out HI1.out HI2.out rfl (by decide) (.slice none 0 0) 0 [] rfl (World.ownsRow_nil _ _ _ _) ⟨b, off, none⟩ (n - 4) c (bl (xs.take (n - 4))) rfl (by rw [bl_len, HT.out, Nat.mul_one]) (bl_lies HY.out) (bl_one _) (by unfold maxLen; omega) (by omega) (Nat.le_refl _) ?_; intro v1 w1 hown hgrow _; simp only [Nat.zero_add, List.nil_append] at hown))
  have HO1 := Lib.hid hown
  have HB1 := Lib.hid ((Below.refl w.heap.size w).grown hgrow (Nat.le_refl _) (fun j hj => by cases hj))
  clear hown hgrow
  have HMK := Lib.hid (show mkd xs = xs.take (n - 4) ++ tls (xs.take (n - 4)) by unfold mkd mk; rw [HN.out])
  have HBY := Lib.hid (show Byte (mkd xs) from byte_mkd HBX.out)
  generalize xs.take (n - 4) = ys at HT HY HO1 HMK ⊢
  go_loopw [5, 6, 7] (fun s v i wr => ∃ k : Nat, k ≤ 4 ∧ i = .int .i64 k ∧ s = .int .u32 (rg (more 0#32 ys >>> (8 * k))) ∧ wr.ownsRow w.heap.size 5 1 v (n - 4 + k) (bl (ys ++ (tls ys).take k)) ∧ Below w.heap.size w wr) (fun _ _ i _ => 4 - (intOf i).toNat)
  case atStart => exact ⟨0, by omega, rfl, by rw [Nat.mul_zero, BitVec.ushiftRight_zero], by rw [List.take_zero, List.append_nil]; exact HO1.out, HB1.out⟩
  case round =>
    obtain ⟨k, hk, rfl, rfl, hown, hb⟩ := hrel
    have HO := Lib.hid hown
    have HB := Lib.hid hb
    clear hown hb
    have hs := rg_bd (more 0#32 ys >>> (8 * k))
    by_cases hlt : k < 4
    · have HN2 := Lib.hid (ref_next ys k hlt)
      have HS := Lib.hid (shr8 (more 0#32 ys) k)
      generalize more 0#32 ys >>> (8 * k) = X at hs HN2 HS ⊢
      have hki : (k : Int) < 4 := by omega
      go_wp2_with (first | (at_builtin; refine wpList_append_own _ rfl (.tmp 27) (.tmp 31) 72 rfl w.heap.size 5 i0 (.int .u8 0) 1 1 Tryz.underlying72 HI.out HI0.out HI1.out HI2.out rfl (by decide) u6 (n - 4 + k) (bl (ys ++ (tls ys).take k)) rfl (HO.out.alloc _) ⟨wr.heap.size, 0, none⟩ 1 1 [Value.int .u8 (rg X % 256)] rfl rfl (cell_one_new _ _ _) (by simp [Value.oneCell']) (by unfold maxLen; omega) (by omega) (by have := HB.out.size; simp; omega) ?_; intro v2 w2 hown hgrow _))
      have HO2 := Lib.hid hown
      have HB2 := Lib.hid ((HB.out.alloc HB.out.size (.cells #[Value.int .u8 (rg X % 256)] 5)).grown hgrow (by have := HB.out.size; simp; omega) (fun j hj => (HO.out.lt j hj).1))
      clear hown hgrow
      go_roundw
      case rel => exact ⟨k + 1, by omega, by go_num, by rw [HS.out], by rw [← HN2.out]; exact HO2.out, HB2.out⟩
      case measure => simp [intOf]; omega
    · obtain rfl : k = 4 := by omega
      have e4 : n - 4 + 4 = n := by omega
      have e5 : ys ++ (tls ys).take 4 = mkd xs := by rw [HMK.out]; rfl
      obtain ⟨ao, cap, rfl, hl, hcp, hq⟩ := own_lies HO.out (by rw [e5]; exact HBY.out)
      rw [e5] at hl
      have HL := Lib.hid hl
      have E := Lib.hid e4
      clear hl e4 e5 hs hcp hq HO
      go_wp2
      go_ret2
      exact ⟨ao, cap, by show Ending.returned (.tuple #[.slice ao (n - 4 + 4) cap, .int .i64 0]) = _; rw [E.out], HL.out, HB.out⟩

theorem refmark_short (a : Option Addr) (n c : Nat) (w : World) (h : n < 4) :
    Calls Tryz.prog 68 #[.slice a n c] w fun e w' => e = .returned (.tuple #[.slice none 0 0, .int .i64 1]) ∧ w = w' := by
  go_enter Tryz.func68, Tryz.ntmps68
  go_wp2
  go_ret2
  exact ⟨rfl, rfl⟩

theorem conv_any {w : World} {a : Option Addr} {n c : Nat} {xs : List Int} (h : Lies w a xs) (hn : xs.length = n) :
    (convert 72 9 (.slice a n c)).run Tryz.prog w = .ok (.string (strOfNums xs)) w := by
  cases a with
  | some x =>
    cases n with
    | zero =>
      obtain rfl : xs = [] := List.eq_nil_of_length_eq_zero hn
      rw [run_convert_bytes_string w 72 9 5 _ 0 c Tryz.underlying72 Tryz.underlying5 Tryz.underlying9]
      rw [run_bytesToString w x 0 c [] (by rfl)]
      rfl
    | succ m =>
      obtain ⟨b, off, ha, _⟩ := h 0 (by omega)
      obtain rfl : x = ⟨b, off, none⟩ := by simpa using ha
      exact conv_lies h hn
  | none =>
    obtain rfl : xs = [] := by
      cases xs with
      | nil => rfl
      | cons x xs =>
        obtain ⟨b, off, ha, _⟩ := h 0 (by simp)
        cases ha
    exact run_convert_bytes_nil w 72 5 Tryz.underlying72 Tryz.underlying5 n c 9 Tryz.underlying9

end Go.Proofs.YtokikeenfpligaaGreatDoor.Sm
namespace Go.Proofs.YtokikeenfpligaaGreatDoor.Sm
open Go.RowKit Crc

theorem cutb_app (A B C : List Int) (i m : Nat) (hA : A.length = i) (hB : B.length = m) : cutb (A ++ (B ++ C)) i m = B := by
  unfold cutb
  rw [List.drop_append_of_le_length (by omega), List.drop_of_length_le (by omega), List.nil_append, List.take_left' hB]
theorem cutb_join (xs : List Int) (i m k : Nat) : cutb xs i m ++ cutb xs (i + m) k = cutb xs i (m + k) := by
  unfold cutb
  rw [List.take_add, List.drop_drop]
theorem cutb_zero (xs : List Int) (m : Nat) : cutb xs 0 m = xs.take m := rfl
/-- a page's numbers fit -/
structure Pg.Fit (p : Pg) : Prop where
  k0 : 0 ≤ p.kind
  k1 : p.kind < 256
  n0 : 0 ≤ p.number
  n1 : p.number < 4294967296
  e0 : 0 ≤ p.epoch
  e1 : p.epoch < 18446744073709551616
theorem drop_flat (s : Nat) (rs : List (List Int)) (h : ∀ r ∈ rs, r.length = s) (i : Nat) (hi : i ≤ rs.length) : rs.flatten.drop (i * s) = (rs.drop i).flatten := by
  induction rs generalizing i with
  | nil => simp
  | cons r rs ih =>
    cases i with
    | zero => simp
    | succ i =>
      have hr := h r (by simp)
      rw [List.flatten_cons, List.drop_succ_cons, Nat.succ_mul, List.drop_append, List.drop_of_length_le (by omega), List.nil_append, hr]
      have e : i * s + s - s = i * s := by omega
      rw [e]
      exact ih (fun q hq => h q (by simp [hq])) i (by simpa using hi)
theorem prts_flat (s : Nat) (rs : List (List Int)) (T : List Int) (h : ∀ r ∈ rs, r.length = s) : prts (rs.flatten ++ T) s rs.length = rs := by
  apply List.ext_getElem
  · exact prts_len _ _ _
  · intro i h1 h2
    rw [prts_get]
    have hle : i * s ≤ rs.flatten.length := by rw [flat_len s rs h]; exact Nat.mul_le_mul_right s (by omega)
    unfold prt
    rw [List.drop_append_of_le_length hle, drop_flat s rs h i (by omega), List.drop_eq_getElem_cons h2, List.flatten_cons, List.append_assoc, List.take_left' (h _ (List.getElem_mem h2))]
theorem bytes_eq (p : Pg) : p.bytes = p.head ++ (p.recs.flatten ++ (List.replicate (508 - p.front.length) 0 ++ tls (pad 508 p.front))) := by
  unfold Pg.bytes mk
  rw [pad]
  unfold Pg.front
  simp only [List.append_assoc]
theorem head_eq (p : Pg) (R : List Int) : p.head ++ R = be 1 p.kind ++ (be 4 p.number ++ (be 8 p.epoch ++ (be 2 p.size ++ (be 1 p.recs.length ++ R)))) := by
  unfold Pg.head
  simp only [List.append_assoc]
theorem bytes_number (p : Pg) (hf : p.Fit) : num256 (cutb p.bytes 1 4) = p.number := by
  rw [bytes_eq, head_eq, cutb_app _ _ _ 1 4 (be_len _ _) (be_len _ _), num_be 4 _ hf.n0 hf.n1]
theorem bytes_epoch (p : Pg) (hf : p.Fit) : num256 (cutb p.bytes 5 8) = p.epoch := by
  rw [bytes_eq, head_eq, ← List.append_assoc, cutb_app _ _ _ 5 8 (by simp [be_len]) (be_len _ _), num_be 8 _ hf.e0 hf.e1]
theorem bytes_size (p : Pg) (h : p.may = true) : num256 (cutb p.bytes 13 2) = p.size := by
  have hs := may_size h
  rw [bytes_eq, head_eq, ← List.append_assoc, ← List.append_assoc, cutb_app _ _ _ 13 2 (by simp [be_len]) (be_len _ _), num_be 2 _ (by omega) (by have : (256 : Int) ^ 2 = 65536 := rfl; omega)]
theorem bytes_count (p : Pg) (h : p.may = true) : p.bytes[15]? = some (p.recs.length : Int) := by
  obtain ⟨s, _, _, _, hl, _⟩ := may_nat h
  have hb := be1 (p.recs.length : Int) (by omega) (by omega)
  rw [bytes_eq, head_eq, ← List.append_assoc, ← List.append_assoc, ← List.append_assoc, List.getElem?_append_right (by simp [be_len])]
  simp [be_len, hb]
theorem bytes_kind (p : Pg) (hf : p.Fit) : p.bytes.getD 0 0 = p.kind := by
  rw [bytes_eq, head_eq, be1 _ hf.k0 hf.k1]
  rfl
theorem bytes_drop (p : Pg) : p.bytes.drop 16 = p.recs.flatten ++ (List.replicate (508 - p.front.length) 0 ++ tls (pad 508 p.front)) := by
  rw [bytes_eq, List.drop_append_of_le_length (by rw [head_len]; omega), List.drop_of_length_le (by rw [head_len]; omega), List.nil_append]
theorem zeros_bad (n : Nat) : (List.replicate n (0 : Int)).any badN = false := by
  rw [List.any_eq_false]
  intro x hx
  rw [List.eq_of_mem_replicate hx]
  decide
theorem bytes_form (p : Pg) (s : Nat) (h : p.may = true) (hs : p.size = s) : formOk p.bytes s p.recs.length = true := by
  obtain ⟨s', hs', _, _, _, hm, hr⟩ := may_nat h
  have e : s' = s := by omega
  subst e
  have hfl := flat_len s' p.recs hr
  have hfr : p.front.length = 16 + p.recs.length * s' := by rw [Pg.front, List.length_append, head_len, hfl]
  unfold formOk
  have hfit : fitsB (s' : Int) p.recs.length = true := by
    have h2 := h
    unfold Pg.may at h2
    rw [Bool.and_eq_true, hs'] at h2
    exact h2.1
  rw [hfit, bytes_eq, ← List.append_assoc, cutb_app _ _ _ _ _ (by rw [List.length_append, head_len, hfl]) (by rw [List.length_replicate, hfr]), zeros_bad]
  rfl
/-- the page of a page's bytes is it -/
theorem page_back (p : Pg) (s : Nat) (hf : p.Fit) (h : p.may = true) (hs : p.size = s) : pgOf p.bytes s p.recs.length = p := by
  obtain ⟨s', hs', _, _, _, hm, hr⟩ := may_nat h
  have e : s' = s := by omega
  subst e
  unfold pgOf
  rw [bytes_kind p hf, bytes_number p hf, bytes_epoch p hf, bytes_drop, prts_flat s' p.recs _ hr, ← hs']
theorem bytes_good (p : Pg) : isGood p.bytes = true := good_mk _
/-! ### and the other way round -/
theorem be_cutb {xs : List Int} (h : Byte xs) (i m : Nat) (hl : i + m ≤ xs.length) : be m (num256 (cutb xs i m)) = cutb xs i m := by
  have := be_num _ (h.cutb i m)
  rwa [cutb_len hl] at this
theorem flat_prts (ys : List Int) (s n : Nat) (h : n * s ≤ ys.length) : (prts ys s n).flatten = ys.take (n * s) := by
  induction n with
  | zero => simp [prts]
  | succ n ih =>
    have e : prts ys s (n + 1) = prts ys s n ++ [prt ys s n] := by simp [prts, List.range_succ]
    rw [Nat.succ_mul] at h ⊢
    rw [e, List.flatten_append, ih (by omega), List.take_add]
    simp [prt]
theorem all_zero (xs : List Int) (h : xs.any badN = false) : xs = List.replicate xs.length 0 := by
  rw [List.any_eq_false] at h
  apply List.eq_replicate_of_mem
  intro x hx
  have := h x hx
  simpa [badN] using this
theorem pgOf_may {xs : List Int} {s n : Nat} (hl : xs.length = 512) (hf : formOk xs s n = true) : (pgOf xs s n).may = true := by
  unfold formOk at hf
  rw [Bool.and_eq_true] at hf
  obtain ⟨m1, m2, m3, m4⟩ := fits_mul hf.1
  unfold Pg.may pgOf
  simp only [prts_len]
  rw [hf.1, Bool.true_and, Bool.not_eq_true', List.any_eq_false]
  intro r hr
  simp only [prts, List.mem_map, List.mem_range] at hr
  obtain ⟨i, hi, rfl⟩ := hr
  have h1 : (i + 1) * s ≤ n * s := Nat.mul_le_mul_right s (by omega)
  rw [Nat.succ_mul] at h1
  have e : (prt (xs.drop 16) s i).length = s := by unfold prt; rw [List.length_take, List.length_drop, List.length_drop]; omega
  simp [badB, e]
theorem bytes_back {xs : List Int} {s n : Nat} (hb : Byte xs) (hl : xs.length = 512) (hg : isGood xs = true) (hs : num256 (cutb xs 13 2) = s) (hk : xs[15]? = some (n : Int)) (hf : formOk xs s n = true) : (pgOf xs s n).bytes = xs := by
  have hf' := hf
  unfold formOk at hf
  rw [Bool.and_eq_true, Bool.not_eq_true'] at hf
  obtain ⟨m1, m2, m3, m4⟩ := fits_mul hf.1
  have hz := all_zero _ hf.2
  rw [cutb_len (by omega)] at hz
  have hh : (pgOf xs s n).head = xs.take 16 := by
    unfold Pg.head pgOf
    simp only [prts_len]
    obtain ⟨h15, e15⟩ := List.getElem?_eq_some_iff.1 hk
    have e0 : be 1 (xs.getD 0 0) = cutb xs 0 1 := by
      have h0 : xs.getD 0 0 = num256 (cutb xs 0 1) := by
        cases xs with
        | nil => simp at hl
        | cons x xs => simp [cutb, num256]
      rw [h0, be_cutb hb 0 1 (by omega)]
    have e4 : be 1 (n : Int) = cutb xs 15 1 := by
      have h0 : (n : Int) = num256 (cutb xs 15 1) := by
        have hd : cutb xs 15 1 = [xs[15]] := by
          unfold cutb
          rw [List.drop_eq_getElem_cons h15]
          rfl
        rw [hd, e15]
        simp [num256]
      rw [h0, be_cutb hb 15 1 (by omega)]
    rw [e0, be_cutb hb 1 4 (by omega), be_cutb hb 5 8 (by omega), ← hs, be_cutb hb 13 2 (by omega), e4, cutb_join xs 0 1 4, cutb_join xs 0 5 8, cutb_join xs 0 13 2, cutb_join xs 0 15 1]
    rfl
  have hfl : (pgOf xs s n).recs.flatten = cutb xs 16 (n * s) := flat_prts _ _ _ (by rw [List.length_drop, hl]; omega)
  have hfr : (pgOf xs s n).front = xs.take (16 + n * s) := by
    unfold Pg.front
    rw [hh, hfl, ← cutb_zero xs 16, ← cutb_zero xs, ← cutb_join xs 0 16]
  have hp : pad 508 (pgOf xs s n).front = xs.take 508 := by
    unfold pad
    rw [hfr, List.length_take, hl, Nat.min_eq_left (by omega), ← hz, ← cutb_zero xs, ← cutb_zero xs 508]
    have e2 := cutb_join xs 0 (16 + n * s) (508 - (16 + n * s))
    rw [Nat.zero_add] at e2
    rw [e2]
    congr 1
    omega
  unfold Pg.bytes
  rw [hp]
  have := good_same hb (by omega) hg
  unfold mkd at this
  rwa [hl] at this
end Go.Proofs.YtokikeenfpligaaGreatDoor.Sm

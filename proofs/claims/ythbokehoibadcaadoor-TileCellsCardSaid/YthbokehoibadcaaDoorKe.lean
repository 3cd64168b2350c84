/-
  THE WALKS of tile.Next and tile.Grow where nothing is wrong. Conditions: the rule may be; no more than four generations.
-/
import Derived.Test.YthbokehoibadcaaDoorKd
namespace Go.Proofs.YthbokehoibadcaaDoor
open Go.RowKit Ti Ru

theorem fat_keep (r l : Nat) : ∀ w w' f, FatAt w f r l → Below w.heap.size w w' → FatAt w' f r l := fun _ _ _ h hb => (hb.block _ (lt_of_block h)).trans h
/-- the fates are stored whole into a block that is new -/
theorem wpList_store_fat {ops : Array Oper} {rest : List Oper} {o : Oper} {a : Act} {w1 : World} {Q : Exit → Act → World → Prop} (hgd : o.guard = none) (x y : Operand) (ho : o.op = .store 70 x y) (FF : Nat → R3) (old : Array Value)
    (hx : a.eval x = .pointer (some ⟨w1.heap.size, 0, none⟩)) (hy : a.eval y = .agg (frow FF 18)) (hold : old.size = 18)
    (h : ∀ w2, w2.heap[w1.heap.size]? = some (.cells (frow FF 18) 70) → Below w1.heap.size w1 w2 → wpList Tryd.prog ops Q rest (a.put o.dst undef) w2) : wpList Tryd.prog ops Q (o :: rest) a (w1.alloc (.cells old 70)) :=
  wpList_store_row hgd _ x y ho w1.heap.size (frow FF 18) hx hy _ old (heap_alloc_new _ _) (info_f _) (by rw [hold, frow_size]) (frow_one _ _) (h _ (setRow_heap _ _ _ _ _ _ (heap_alloc_new w1 (.cells old 70))) (below_setRow (alX w1 _) _ (Nat.le_refl _) _))
set_option maxRecDepth 100000 in
theorem next_fine (r l : Nat) (h : mayR r l = true) (a b c d e f g i j : T6) (w : World) :
    Calls Tryd.prog 22 #[Rv r l, .agg #[.int .u64 (rg a), .int .u64 (rg b), .int .u64 (rg c), .int .u64 (rg d), .int .u64 (rg e), .int .u64 (rg f), .int .u64 (rg g), .int .u64 (rg i), .int .u64 (rg j)]] w fun x w' => x = .returned (.tuple #[.int .u64 (rg (nextB r l (q9 a b c d e f g i j))), .nilIface]) ∧ Below w.heap.size w w' := by
  have HF := Lib.hid (fun w => fates_ok r l h w)
  have HT := Lib.hid (two_boxes w (.cells #[.int .u16 r, .int .u16 l] 42) (box9 a b c d e f g i j))
  have HS := Lib.hid (fun (fb gb : Nat) (F : Nat → R3) w => step_any fb gb r l 24 24 F (by omega) w)
  have HQ := Lib.hid (fun gb F hl w h => cut_24 r l gb F (q9 a b c d e f g i j) hl w h)
  have HFK := Lib.hid (fat_keep r l)
  unfold Rv at HF ⊢
  clear h
  have HFT := Lib.hid (show ∀ w f, w.heap[f]? = some (.cells (frow (fatF r l) 18) 70) → FatAt w f r l from fun _ _ h => h)
  generalize fatF r l = FF at HF HFT
  go_enter Tryd.func22, Tryd.ntmps22
  go_wp2_with (first
    | (go_at_call 31; refine (HF.out _).mono ?_; rintro x w1 ⟨rfl, hb⟩; have HB1 := Lib.hid (HT.out.2.2.1.trans (hb.mono HT.out.2.2.1.size)); have HX1 := Lib.hid ((hb.block _ (lt_of_block HT.out.2.1)).trans HT.out.2.1); clear hb)
    | (refine wpList_store_fat rfl (.tmp 6) (.tmp 11) rfl FF _ rfl rfl rfl ?_; intro w2 hr hb2; have HR := Lib.hid (HFT.out _ _ hr); have HX2 := Lib.hid ((hb2.block _ (lt_of_block HX1.out)).trans HX1.out); have HB2 := Lib.hid (HB1.out.trans (hb2.mono HB1.out.size)); clear hr hb2)
    | (go_at_call 32; refine (lay_3 (w.heap.size + 1) 9 (q9 a b c d e f g i j) w2 (lt_of_block HX2.out) (box9_cells HX2.out)).mono ?_; rintro x w3 ⟨gb, F, rfl, hf, hl, hb, hg⟩; have HF3 := Lib.hid hf; have HL3 := Lib.hid hl; have HFat := Lib.hid (HFK.out _ _ _ HR.out hb); have HB3 := Lib.hid (HB2.out.trans (hb.mono HB2.out.size)); clear hf hl hb hg)
    | (go_at_call 33; refine (HS.out _ _ _ _ HFat.out HF3.out).mono ?_; rintro x w4 ⟨g4, rfl, hf, hb, hg⟩; have HF4 := Lib.hid hf; have HB4 := Lib.hid (HB3.out.trans (hb.mono HB3.out.size)); clear hf hb hg)
    | (go_at_call 34; refine (HQ.out _ _ HL3.out _ HF4.out).mono ?_; rintro x w5 ⟨rfl, rfl⟩))
  go_ret2
  exact ⟨rfl, HB4.out⟩
set_option maxRecDepth 100000 in
theorem grow_fine (r l : Nat) (h : mayR r l = true) (a b c d : T6) (n : Nat) (hn : n ≤ 4) (w : World) :
    Calls Tryd.prog 15 #[Rv r l, .agg #[.int .u64 (rg a), .int .u64 (rg b), .int .u64 (rg c), .int .u64 (rg d)], .int .i64 (n : Int)] w fun x w' => x = .returned (.tuple #[.int .u64 (rg (growB r l n (q4 a b c d))), .nilIface]) ∧ Below w.heap.size w w' := by
  have HF := Lib.hid (fun w => fates_ok r l h w)
  have HT := Lib.hid (two_boxes w (.cells #[.int .u16 r, .int .u16 l] 42) (box4 a b c d))
  have HS := Lib.hid (fun (fb gb : Nat) (F : Nat → R3) w => step_any fb gb r l 16 16 F (by omega) w)
  have HQ := Lib.hid (fun gb F hl w h => cut_16 r l n gb F (q4 a b c d) hn hl w h)
  have n0 : (0 : Int) ≤ (n : Int) := by omega
  have n1 : ¬ (4 : Int) < (n : Int) := by omega
  have HN := Lib.hid hn
  clear hn
  have HFK := Lib.hid (fat_keep r l)
  unfold Rv at HF ⊢
  clear h
  have HFT := Lib.hid (show ∀ w f, w.heap[f]? = some (.cells (frow (fatF r l) 18) 70) → FatAt w f r l from fun _ _ h => h)
  generalize fatF r l = FF at HF HFT
  go_enter Tryd.func15, Tryd.ntmps15
  go_wp2_with (first
    | (go_at_call 31; refine (HF.out _).mono ?_; rintro x w1 ⟨rfl, hb⟩; have HB1 := Lib.hid (HT.out.2.2.1.trans (hb.mono HT.out.2.2.1.size)); have HX1 := Lib.hid ((hb.block _ (lt_of_block HT.out.2.1)).trans HT.out.2.1); clear hb)
    | (refine wpList_store_fat rfl (.tmp 8) (.tmp 14) rfl FF _ rfl rfl rfl ?_; intro w2 hr hb2; have HR := Lib.hid (HFT.out _ _ hr); have HX2 := Lib.hid ((hb2.block _ (lt_of_block HX1.out)).trans HX1.out); have HB2 := Lib.hid (HB1.out.trans (hb2.mono HB1.out.size)); clear hr hb2)
    | (go_at_call 32; refine (lay_2 (w.heap.size + 1) 4 (q4 a b c d) w2 (lt_of_block HX2.out) (box4_cells HX2.out)).mono ?_; rintro x w3 ⟨gb, F, rfl, hf, hl, hb, hg⟩; have HF3 := Lib.hid hf; have HL3 := Lib.hid hl; have HFat := Lib.hid (HFK.out _ _ _ HR.out hb); have HB3 := Lib.hid (HB2.out.trans (hb.mono HB2.out.size)); clear hf hl hb hg))
  go_loopw [10, 29] (fun f i ws => ∃ (k : Nat) (g : Nat), k ≤ n ∧ i = .int .i64 (k : Int) ∧ f = .slice (some ⟨g, 0, none⟩) 16 16 ∧ Hid (FieldAt ws g 16 (stsM r l 16 F k)) ∧ Hid (FatAt ws w1.heap.size r l) ∧ Hid (Below w.heap.size w ws)) (fun _ i _ => n - (intOf i).toNat)
  case atStart => exact ⟨0, gb, Nat.zero_le _, rfl, rfl, HF3, HFat, HB3⟩
  case round =>
    obtain ⟨k, g, hk, rfl, rfl, HFk, HFatk, HBk⟩ := hrel
    have k0 : (0 : Int) ≤ (k : Int) := by omega
    by_cases hlt : k < n
    · have k1 : (k : Int) < (n : Int) := by omega
      go_wp2_with (go_at_call 33; refine (HS.out _ _ _ _ HFatk.out HFk.out).mono ?_; rintro x w4 ⟨g4, rfl, hf, hb, hg⟩; have HF4 := Lib.hid hf; have HFat4 := Lib.hid (HFK.out _ _ _ HFatk.out hb); have HB4 := Lib.hid (HBk.out.trans (hb.mono HBk.out.size)); clear hf hb hg)
      go_roundw
      case rel => exact ⟨k + 1, g4, hlt, by go_num, rfl, HF4, HFat4, HB4⟩
      case measure => simp [intOf]; omega
    · obtain rfl : k = n := by omega
      go_wp2_with (go_at_call 34; refine (HQ.out _ _ HL3.out _ HFk.out).mono ?_; rintro x w5 ⟨rfl, rfl⟩)
      go_ret2
      exact ⟨rfl, HBk.out⟩
end Go.Proofs.YthbokehoibadcaaDoor

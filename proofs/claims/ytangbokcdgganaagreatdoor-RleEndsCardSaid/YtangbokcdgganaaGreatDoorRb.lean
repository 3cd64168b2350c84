/-
  THE WALK of rule.read: a text gone over rune by rune. Condition: the text's length.
-/

import Derived.Test.YtangbokcdgganaaGreatDoorRa
import Derived.Laws.RangeAny
import Derived.BigRegion
import Derived.Deep.RegionHeld3
import Derived.StillTailTactics
namespace Go.Proofs.YtangbokcdgganaaGreatDoor
open Go.RowKit Ru

/-- a text's bytes -/
def lb (s : ByteArray) : List Nat := s.data.toList.map UInt8.toNat
theorem lb_len (s : ByteArray) : (lb s).length = s.size := by unfold lb; simp
theorem lb_drop (s : ByteArray) (k : Nat) (h : k < s.size) : (lb s).drop k = s[k].toNat :: (lb s).drop (k + 1) := by
  have hk : k < (lb s).length := by rw [lb_len]; exact h
  rw [List.drop_eq_getElem_cons hk]
  congr 1
  simp only [lb, List.getElem_map]
  rfl
theorem lb_end (s : ByteArray) : (lb s).drop s.size = [] := by
  rw [List.drop_eq_nil_iff, lb_len]; exact Nat.le_refl _
theorem width_pos (s : ByteArray) (pos : Nat) (h : pos < s.size) : 1 ≤ (Utf8.decode s pos).2 := by
  by_cases ha : (s[pos]'h).toNat < 128
  · rw [decode_ascii s pos h ha]
    exact Nat.le_refl _
  · exact (decode_high s pos h (by omega)).2
theorem R_high (t : List Nat) (c k b l : Nat) (hc : 128 ≤ c) : R (c :: t) k b l = none := by
  have h1 : sgn c k = false := by
    match k with
    | 0 => simp [sgn]; omega
    | 1 => simp [sgn]; omega
    | 2 => simp [sgn]; omega
    | n + 3 => rfl
  have h2 : ∀ x, nw c x = false := fun x => by
    have : isDig c = false := by simp [isDig]; omega
    simp [nw, this]
  simp [R, h1, h2]
theorem sgn_high (c k : Nat) (hc : 128 ≤ c) : sgn c k = false := by
  match k with
  | 0 => simp [sgn]; omega
  | 1 => simp [sgn]; omega
  | 2 => simp [sgn]; omega
  | n + 3 => rfl
theorem nw_high (c b : Nat) (hc : 128 ≤ c) : nw c b = false := by
  have : isDig c = false := by simp [isDig]; omega
  simp [nw, this]
/-- one step: the rune that comes, how wide it is, and what the machine makes of it -/
theorem step_rune (s : ByteArray) (pos k b l : Nat) (h : pos < s.size) : ∃ c d : Nat, Utf8.decode s pos = (c, d) ∧ 1 ≤ d ∧ c ≤ 2147483647 ∧
    (sgn c k = true → d = 1 ∧ R ((lb s).drop pos) k b l = R ((lb s).drop (pos + 1)) (k + 1) b l) ∧
    (sgn c k = false → k = 1 → nw c b = true → d = 1 ∧ 48 ≤ c ∧ c ≤ 56 ∧ hs b (c - 48) = false ∧ R ((lb s).drop pos) k b l = R ((lb s).drop (pos + 1)) k (b + 2 ^ (c - 48)) l) ∧
    (sgn c k = false → k = 3 → nw c l = true → d = 1 ∧ 48 ≤ c ∧ c ≤ 56 ∧ hs l (c - 48) = false ∧ R ((lb s).drop pos) k b l = R ((lb s).drop (pos + 1)) k b (l + 2 ^ (c - 48))) ∧
    (sgn c k = false → ¬ (k = 1 ∧ nw c b = true) → ¬ (k = 3 ∧ nw c l = true) → R ((lb s).drop pos) k b l = none) := by
  have hle := decode_le s pos
  by_cases ha : (s[pos]'h).toNat < 128
  · have e := decode_ascii s pos h ha
    refine ⟨(s[pos]'h).toNat, 1, e, Nat.le_refl _, by omega, ?_, ?_, ?_, ?_⟩
    all_goals rw [lb_drop s pos h]
    · intro g; exact ⟨rfl, by simp [R, g]⟩
    · intro g hk hn
      have hn' := hn
      unfold nw at hn
      rw [Bool.and_eq_true, Bool.not_eq_true'] at hn
      have hd := isDig_true hn.1
      exact ⟨rfl, hd.1, hd.2, hn.2, by subst hk; simp [R, g, hn']⟩
    · intro g hk hn
      have hn' := hn
      unfold nw at hn
      rw [Bool.and_eq_true, Bool.not_eq_true'] at hn
      have hd := isDig_true hn.1
      exact ⟨rfl, hd.1, hd.2, hn.2, by subst hk; simp [R, g, hn']⟩
    · intro g h1 h3
      simp only [R]
      rw [if_neg (by rw [g]; decide), if_neg h1, if_neg h3]
  · have e := decode_high s pos h (by omega)
    generalize Utf8.decode s pos = y at e hle ⊢
    obtain ⟨c, d⟩ := y
    simp only at e hle
    have g1 := sgn_high c k e.1
    have g2 := fun x => nw_high c x e.1
    refine ⟨c, d, rfl, e.2, hle, ?_, ?_, ?_, ?_⟩
    · intro g; rw [g1] at g; cases g
    · intro _ _ g; rw [g2] at g; cases g
    · intro _ _ g; rw [g2] at g; cases g
    · intro _ _ _
      rw [lb_drop s pos h]
      exact R_high _ _ _ _ _ (by omega)
theorem hs_bit (b c : Nat) (hb : b < 512) (h1 : 48 ≤ c) (h2 : c ≤ 56) (hh : hs b (c - 48) = false) : bits .or .u16 (b : Int) ((2 ^ (c - 48) : Nat) : Int) = ((b + 2 ^ (c - 48) : Nat) : Int) ∧ b + 2 ^ (c - 48) < 512 := by
  have hl := add_lt b hb (c - 48) (by omega) hh
  rw [u16_or_nat b _ (by omega) (by omega), or_eq b hb (c - 48) (by omega) hh]
  exact ⟨rfl, hl⟩
def ReadOut (o : Option (Nat × Nat)) (e : Ending) : Prop := match o with
  | some (b, l) => e = .returned (.tuple #[Rv b l, .bool true])
  | none => ∃ b l : Nat, e = .returned (.tuple #[Rv b l, .bool false])
/-- a loop's world: what it answers, what it has read, the text's iterator -/
structure RdW (w V : World) (s : ByteArray) (pos b l : Nat) : Prop where
  h0 : V.heap[w.heap.size]? = some (.cells #[.int .u16 0, .int .u16 0] 32)
  h1 : V.heap[w.heap.size + 1]? = some (.cells #[.int .u16 b, .int .u16 l] 32)
  h2 : V.heap[w.heap.size + 2]? = some (.stringIter s pos)
  bl : Below w.heap.size w V
theorem rd_start (w : World) (s : ByteArray) : RdW w (((w.alloc (.cells #[.int .u16 0, .int .u16 0] 32)).alloc (.cells #[.int .u16 0, .int .u16 0] 32)).alloc (.stringIter s 0)) s 0 0 0 := by
  have e1 : (w.alloc (.cells #[.int .u16 0, .int .u16 0] 32)).heap.size = w.heap.size + 1 := by simp
  have e2 : ((w.alloc (.cells #[.int .u16 0, .int .u16 0] 32)).alloc (.cells #[.int .u16 0, .int .u16 0] 32)).heap.size = w.heap.size + 2 := by simp
  refine ⟨?_, ?_, ?_, (((Below.refl _ _).alloc (Nat.le_refl _) _).alloc (by omega) _).alloc (by omega) _⟩
  · rw [Below.heap_alloc _ _ _ (by omega), Below.heap_alloc _ _ _ (by omega), heap_alloc_new]
  · rw [Below.heap_alloc _ _ _ (by omega), ← e1, heap_alloc_new]; rfl
  · rw [← e2, heap_alloc_new]
theorem RdW.drew {w V : World} {s : ByteArray} {pos b l : Nat} (h : RdW w V s pos b l) : RdW w V.drew s pos b l := ⟨h.h0, h.h1, h.h2, h.bl.drew⟩
theorem RdW.next {w V : World} {s : ByteArray} {pos b l : Nat} (h : RdW w V s pos b l) (hp : pos < s.size) (c d : Nat) (hd : Utf8.decode s pos = (c, d)) : ∃ V', (∀ ty, (Instr.next (.pointer (some ⟨w.heap.size + 1 + 1, 0, none⟩)) true ty).run Tryz.prog V = .ok (.tuple #[.bool true, .int .i64 pos, .int .i32 c]) V') ∧ RdW w V' s (pos + d) b l := by
  have h2 := h.h2
  have hlt := lt_of_block h2
  refine ⟨{ V with heap := V.heap.setIfInBounds (w.heap.size + 2) (.stringIter s (pos + d)) }, fun ty => ?_, ?_, ?_, ?_, ?_⟩
  · simp only [Instr.next, getObj, setObj, Sem.run_bind, Sem.run, h2, Result.andThen, hp, if_true, hd]
    simp [goInt]
  · show (V.heap.setIfInBounds _ _)[_]? = _
    rw [Array.getElem?_setIfInBounds_ne (by omega)]; exact h.h0
  · show (V.heap.setIfInBounds _ _)[_]? = _
    rw [Array.getElem?_setIfInBounds_ne (by omega)]; exact h.h1
  · show (V.heap.setIfInBounds _ _)[_]? = _
    rw [Array.getElem?_setIfInBounds_self_of_lt hlt]
  · refine h.bl.trans ⟨rfl, rfl, rfl, by show V.heap.size ≤ (V.heap.setIfInBounds _ _).size; simp, fun k hk => ?_⟩
    show (V.heap.setIfInBounds _ _)[k]? = _
    rw [Array.getElem?_setIfInBounds_ne (by omega)]
theorem RdW.stop {w V : World} {s : ByteArray} {pos b l : Nat} (h : RdW w V s pos b l) (hp : ¬ pos < s.size) (ty : TypeId) : (Instr.next (.pointer (some ⟨w.heap.size + 1 + 1, 0, none⟩)) true ty).run Tryz.prog V = .ok (.tuple #[.bool false]) V := by
  have h2 := h.h2
  simp [Instr.next, getObj, Sem.run, h2, hp]
theorem RdW.set0 {w V : World} {s : ByteArray} {pos b l : Nat} (h : RdW w V s pos b l) (b' : Nat) : RdW w (V.setCell ⟨w.heap.size + 1, 0, none⟩ (.int .u16 b')) s pos b' l :=
  ⟨(heap_setCell_other _ _ _ _ (by show w.heap.size ≠ w.heap.size + 1; omega)).trans h.h0, heap_setCell_same _ _ 0 _ _ _ h.h1, (heap_setCell_other _ _ _ _ (by show w.heap.size + 2 ≠ w.heap.size + 1; omega)).trans h.h2, h.bl.setCell (by show w.heap.size ≤ w.heap.size + 1; omega) _⟩
theorem RdW.set1 {w V : World} {s : ByteArray} {pos b l : Nat} (h : RdW w V s pos b l) (l' : Nat) : RdW w (V.setCell ⟨w.heap.size + 1, 1, none⟩ (.int .u16 l')) s pos b l' :=
  ⟨(heap_setCell_other _ _ _ _ (by show w.heap.size ≠ w.heap.size + 1; omega)).trans h.h0, heap_setCell_same _ _ 1 _ _ _ h.h1, (heap_setCell_other _ _ _ _ (by show w.heap.size + 2 ≠ w.heap.size + 1; omega)).trans h.h2, h.bl.setCell (by show w.heap.size ≤ w.heap.size + 1; omega) _⟩
theorem RdW.cells {w V : World} {s : ByteArray} {pos b l : Nat} (h : RdW w V s pos b l) : V.cell? ⟨w.heap.size + 1, 0, none⟩ = some (.int .u16 b) ∧ V.cell? ⟨w.heap.size + 1, 1, none⟩ = some (.int .u16 l) ∧ V.frozen? ⟨w.heap.size + 1, 0, none⟩ = false ∧ V.frozen? ⟨w.heap.size + 1, 1, none⟩ = false :=
  ⟨cell_of_row _ _ 0 _ _ _ h.h1, cell_of_row _ _ 1 _ _ _ h.h1, frozen_of_row _ _ 0 _ _ h.h1, frozen_of_row _ _ 1 _ _ h.h1⟩
theorem RdW.res {w V : World} {s : ByteArray} {pos b l : Nat} (h : RdW w V s pos b l) : V.cell? ⟨w.heap.size, 0, none⟩ = some (.int .u16 0) ∧ V.cell? ⟨w.heap.size, 1, none⟩ = some (.int .u16 0) ∧ V.frozen? ⟨w.heap.size, 0, none⟩ = false ∧ V.frozen? ⟨w.heap.size, 1, none⟩ = false :=
  ⟨cell_of_row _ _ 0 _ _ _ h.h0, cell_of_row _ _ 1 _ _ _ h.h0, frozen_of_row _ _ 0 _ _ h.h0, frozen_of_row _ _ 1 _ _ h.h0⟩
theorem RdW.iterPos {w V : World} {s : ByteArray} {pos b l : Nat} (h : RdW w V s pos b l) : V.iterPos (w.heap.size + 2) = pos := by
  unfold World.iterPos
  rw [h.h2]
theorem RdW.out {w V : World} {s : ByteArray} {pos b l : Nat} (h : RdW w V s pos b l) (u v : Value) : Below w.heap.size w ((V.setCell ⟨w.heap.size, 0, none⟩ u).setCell ⟨w.heap.size, 1, none⟩ v) :=
  (h.bl.setCell (Nat.le_refl _) _).setCell (Nat.le_refl _) _
theorem RdW.outs {w V : World} {s : ByteArray} {pos b l : Nat} (h : RdW w V s pos b l) (u v : Value) : (V.setCell ⟨w.heap.size, 0, none⟩ u).cell? ⟨w.heap.size, 0, none⟩ = some u ∧ ((V.setCell ⟨w.heap.size, 0, none⟩ u).setCell ⟨w.heap.size, 1, none⟩ v).cell? ⟨w.heap.size, 0, none⟩ = some u ∧ ((V.setCell ⟨w.heap.size, 0, none⟩ u).setCell ⟨w.heap.size, 1, none⟩ v).cell? ⟨w.heap.size, 1, none⟩ = some v := by
  have h0 := heap_setCell_same _ _ 0 _ _ u h.h0
  have h1 := heap_setCell_same _ _ 1 _ _ v h0
  exact ⟨cell_of_row _ _ 0 _ _ _ h0, cell_of_row _ _ 0 _ _ _ h1, cell_of_row _ _ 1 _ _ _ h1⟩
/-- what is left -/
def Left (s : ByteArray) (pos k b l : Nat) : Prop := k ≤ 3 ∧ b < 512 ∧ l < 512 ∧ R ((lb s).drop pos) k b l = R (lb s) 0 0 0
set_option maxHeartbeats 1000000 in
set_option maxRecDepth 100000 in
theorem read_any (s : ByteArray) (w : World) :
    Calls Tryz.prog 59 #[.string s] w fun e w' => ReadOut (R (lb s) 0 0 0) e ∧ Below w.heap.size w w' := by
  go_enter Tryz.func59, Tryz.ntmps59
  go_wp2
  go_loopw [5] (fun x ws => ∃ (pos k b l : Nat), x = .int .i64 k ∧ Hid (RdW w ws s pos b l) ∧ Hid (Left s pos k b l)) (fun _ ws => s.size - ws.iterPos (w.heap.size + 2))
  case atStart => exact ⟨0, 0, 0, 0, rfl, rd_start w s, by omega, by omega, by omega, rfl⟩
  case round =>
    obtain ⟨pos, k, b, l, rfl, HV, HR⟩ := hrel
    have k0 : (0 : Int) ≤ (k : Int) := by omega
    have k1 : (k : Int) ≤ 3 := by have := HR.out.1; omega
    by_cases hp : pos < s.size
    · obtain ⟨c, d, hdec, hd1, hcm, hA, hB, hC, hD⟩ := step_rune s pos k b l hp
      obtain ⟨V, hnx, hv⟩ := HV.out.next hp c d hdec
      have HSG := Lib.hid (fun w => sgn_any c k HR.out.1 w)
      have HNB := Lib.hid (fun w => isNew_any c b HR.out.2.1 w)
      have HNL := Lib.hid (fun w => isNew_any c l HR.out.2.2.1 w)
      have HD := Lib.hid hD
      have HA := Lib.hid hA
      have HB := Lib.hid hB
      have HC := Lib.hid hC
      have HD1 := Lib.hid hd1
      have HV1 := Lib.hid hv
      obtain ⟨c0, c1, f0, f1⟩ := hv.cells
      obtain ⟨z0, z1, g0, g1⟩ := hv.res
      have HO := Lib.hid hv.out
      have HY := Lib.hid hv.outs
      have HPP := Lib.hid (show wr.iterPos (w.heap.size + 2) = pos from HV.out.iterPos)
      clear hA hB hC hD hdec hd1 hv
      cases hsg : sgn c k
      · rw [hsg] at HSG HA HB HC HD
        clear hsg HA
        by_cases h1 : k = 1
        · subst h1
          clear HC
          cases hn : nw c b
          · rw [hn] at HNB HB HD
            have HZ := Lib.hid ((HD.out rfl (fun q => by cases q.2) (fun q => absurd q.1 (by decide))).symm.trans HR.out.2.2.2)
            clear hn HB HD
            go_wp2_with (first | (go_at_call 87; refine (HSG.out _).mono ?_; rintro e w' ⟨rfl, rfl⟩) | (go_at_call 88; refine (HNB.out _).mono ?_; rintro e w' ⟨rfl, rfl⟩))
            refine bodyPost_ret (v := .tuple #[Rv 0 0, .bool false]) (by simp [results, Tryz.results59, go_sem, Rv, (HY.out (.int .u16 0) (.int .u16 0)).2.1, (HY.out (.int .u16 0) (.int .u16 0)).2.2]) rfl ⟨?_, ?_⟩
            · rw [← HZ.out]; exact ⟨0, 0, rfl⟩
            · exact HO.out _ _
          · rw [hn] at HNB HB HD
            obtain ⟨rfl, hc1, hc2, hh, hr⟩ := HB.out rfl rfl rfl
            have hor := hs_bit b c HR.out.2.1 hc1 hc2 hh
            have HT := Lib.hid (fun w => bit_dig (c - 48) (by omega) (c : Int) (by omega) w)
            have HX := Lib.hid (show Left s (pos + 1) 1 (b + 2 ^ (c - 48)) l from ⟨by omega, hor.2, HR.out.2.2.1, hr.symm.trans HR.out.2.2.2⟩)
            have ho := hor.1
            have HS0 := Lib.hid (HV1.out.drew.set0 (b + 2 ^ (c - 48)))
            generalize b + 2 ^ (c - 48) = b2 at ho HX HS0
            generalize ((2 ^ (c - 48) : Nat) : Int) = z at ho HT
            clear hn HB HD hc1 hc2 hh hr hor HO
            go_wp2_with (first | (go_at_call 87; refine (HSG.out _).mono ?_; rintro e w' ⟨rfl, rfl⟩) | (go_at_call 88; refine (HNB.out _).mono ?_; rintro e w' ⟨rfl, rfl⟩))
            go_still_tail 6, (by kernel_rfl)
            still_call ((HT.out _).mono fun _ _ ⟨h1, h2⟩ => ⟨h1, h2.symm⟩)
            repeat still_step
            refine wpStill_nil ?_
            change wpList _ _ _ _ _ V.drew
            go_wp2
            go_roundw
            case rel => exact ⟨pos + 1, 1, b2, l, rfl, HS0, HX⟩
            case measure => rw [HPP.out]; exact Nat.lt_of_le_of_lt (Nat.le_of_eq (congrArg (fun x => s.size - x) HS0.out.iterPos)) (by omega)
        · by_cases h3 : k = 3
          · subst h3
            clear HB h1
            cases hn : nw c l
            · rw [hn] at HNL HC HD
              have HZ := Lib.hid ((HD.out rfl (fun q => absurd q.1 (by decide)) (fun q => by cases q.2)).symm.trans HR.out.2.2.2)
              clear hn HC HD
              go_wp2_with (first | (go_at_call 87; refine (HSG.out _).mono ?_; rintro e w' ⟨rfl, rfl⟩) | (go_at_call 88; refine (HNL.out _).mono ?_; rintro e w' ⟨rfl, rfl⟩))
              refine bodyPost_ret (v := .tuple #[Rv 0 0, .bool false]) (by simp [results, Tryz.results59, go_sem, Rv, (HY.out (.int .u16 0) (.int .u16 0)).2.1, (HY.out (.int .u16 0) (.int .u16 0)).2.2]) rfl ⟨?_, ?_⟩
              · rw [← HZ.out]; exact ⟨0, 0, rfl⟩
              · exact HO.out _ _
            · rw [hn] at HNL HC HD
              obtain ⟨rfl, hc1, hc2, hh, hr⟩ := HC.out rfl rfl rfl
              have hor := hs_bit l c HR.out.2.2.1 hc1 hc2 hh
              have HT := Lib.hid (fun w => bit_dig (c - 48) (by omega) (c : Int) (by omega) w)
              have HX := Lib.hid (show Left s (pos + 1) 3 b (l + 2 ^ (c - 48)) from ⟨by omega, HR.out.2.1, hor.2, hr.symm.trans HR.out.2.2.2⟩)
              have ho := hor.1
              have HS0 := Lib.hid (HV1.out.drew.set1 (l + 2 ^ (c - 48)))
              generalize l + 2 ^ (c - 48) = b2 at ho HX HS0
              generalize ((2 ^ (c - 48) : Nat) : Int) = z at ho HT
              clear hn HC HD hc1 hc2 hh hr hor HO
              go_wp2_with (first | (go_at_call 87; refine (HSG.out _).mono ?_; rintro e w' ⟨rfl, rfl⟩) | (go_at_call 88; refine (HNL.out _).mono ?_; rintro e w' ⟨rfl, rfl⟩))
              go_still_tail 6, (by kernel_rfl)
              still_call ((HT.out _).mono fun _ _ ⟨h1, h2⟩ => ⟨h1, h2.symm⟩)
              repeat still_step
              refine wpStill_nil ?_
              change wpList _ _ _ _ _ V.drew
              go_wp2
              go_roundw
              case rel => exact ⟨pos + 1, 3, b, b2, rfl, HS0, HX⟩
              case measure => rw [HPP.out]; exact Nat.lt_of_le_of_lt (Nat.le_of_eq (congrArg (fun x => s.size - x) HS0.out.iterPos)) (by omega)
          · have e1 : ((k : Int) == 1) = false := by rw [beq_eq_false_iff_ne]; omega
            have e3 : ((k : Int) == 3) = false := by rw [beq_eq_false_iff_ne]; omega
            have HZ := Lib.hid ((HD.out rfl (fun q => h1 q.1) (fun q => h3 q.1)).symm.trans HR.out.2.2.2)
            clear HB HC HD h1 h3
            go_wp2_with (go_at_call 87; refine (HSG.out _).mono ?_; rintro e w' ⟨rfl, rfl⟩)
            refine bodyPost_ret (v := .tuple #[Rv 0 0, .bool false]) (by simp [results, Tryz.results59, go_sem, Rv, (HY.out (.int .u16 0) (.int .u16 0)).2.1, (HY.out (.int .u16 0) (.int .u16 0)).2.2]) rfl ⟨?_, ?_⟩
            · rw [← HZ.out]; exact ⟨0, 0, rfl⟩
            · exact HO.out _ _
      · rw [hsg] at HSG HA
        obtain ⟨rfl, hr⟩ := HA.out rfl
        have HX := Lib.hid (show Left s (pos + 1) (k + 1) b l from ⟨by
          have h3 := HR.out.1
          by_cases q : k = 3
          · subst q; cases hsg
          · omega, HR.out.2.1, HR.out.2.2.1, hr.symm.trans HR.out.2.2.2⟩)
        clear hsg HA HB HC HD hr
        go_wp2_with (go_at_call 87; refine (HSG.out _).mono ?_; rintro e w' ⟨rfl, rfl⟩)
        go_roundw
        case rel => exact ⟨pos + 1, k + 1, b, l, by go_num, HV1, HX⟩
        case measure => rw [HPP.out, HV1.out.iterPos]; omega
    · have hnx := HV.out.stop hp
      have HZ := Lib.hid (show (if k = 3 then some (b, l) else none) = R (lb s) 0 0 0 by
        rw [← HR.out.2.2.2, List.drop_eq_nil_iff.2 (by rw [lb_len]; omega)]; rfl)
      obtain ⟨c0, c1, f0, f1⟩ := HV.out.cells
      obtain ⟨z0, z1, g0, g1⟩ := HV.out.res
      have HO := Lib.hid HV.out.out
      have HY := Lib.hid HV.out.outs
      by_cases h3 : k = 3
      · subst h3
        go_wp2
        refine bodyPost_ret (v := .tuple #[Rv b l, .bool true]) (by simp [results, Tryz.results59, go_sem, Rv, (HY.out (.int .u16 (b : Int)) (.int .u16 (l : Int))).2.1, (HY.out (.int .u16 (b : Int)) (.int .u16 (l : Int))).2.2]) rfl ⟨?_, ?_⟩
        · rw [← HZ.out]; rfl
        · exact HO.out _ _
      · have hb : ((k : Int) == 3) = false := by rw [beq_eq_false_iff_ne]; omega
        rw [if_neg h3] at HZ
        clear h3
        go_wp2
        refine bodyPost_ret (v := .tuple #[Rv b l, .bool false]) (by simp [results, Tryz.results59, go_sem, Rv, (HY.out (.int .u16 (b : Int)) (.int .u16 (l : Int))).2.1, (HY.out (.int .u16 (b : Int)) (.int .u16 (l : Int))).2.2]) rfl ⟨?_, ?_⟩
        · rw [← HZ.out]; exact ⟨b, l, rfl⟩
        · exact HO.out _ _
end Go.Proofs.YtangbokcdgganaaGreatDoor

/-
  THE WALK of the statement on marks: what is marked again is the same; another byte ahead of its sum tells. Conditions: what came in could be read.
-/
import Derived.Test.YtefdmocfoopghaaRotM
import Derived.Test.YtefdmocfoopghaaTurnedW
import Derived.Laws.BytesArg
import Derived.Laws.OwnMore
namespace Go.Proofs.Ytefdmocfoopghaa
open Go.RowKit Crc

theorem mark_n (a : Option Addr) (c n : Nat) (xs : List Int) (w : World) (hn : xs.length = n) (h4 : 4 ≤ n) (hx : Lies w a xs) (hm : n ≤ 281474976710656) (hc : n ≤ c) :
    Calls Try.prog 14 #[.slice a n c] w fun e w' => e = .returned (.tuple #[.slice (some ⟨w.heap.size, 0, none⟩) n n, .nilIface]) ∧ Lies w' (some ⟨w.heap.size, 0, none⟩) (mkd xs) ∧ Below w.heap.size w w' ∧ w.heap.size < w'.heap.size := by
  subst hn
  exact (mark_any a c xs w h4 hx hm hc).mono fun e w' ⟨h1, h2, h3⟩ => ⟨h1, lies_block h2 (byte_mkd hx.byte), h3, lt_of_block h2⟩
theorem good_n (a : Option Addr) (c n : Nat) (xs : List Int) (w : World) (hn : xs.length = n) (h4 : 4 ≤ n) (hx : Lies w a xs) (hm : n ≤ 9223372036854775807) (hc : n ≤ c) :
    Calls Try.prog 15 #[.slice a n c] w fun e w' => e = .returned (.bool (isGood xs)) ∧ Below w.heap.size w w' := by
  subst hn
  exact good_any a c xs w h4 hx hm hc
theorem mkd_take {xs : List Int} (h : 4 ≤ xs.length) : (mkd xs).take (xs.length - 4) = xs.take (xs.length - 4) := by
  unfold mkd mk
  rw [List.take_append_of_le_length (by rw [List.length_take]; omega), List.take_of_length_le (by rw [List.length_take]; omega)]
theorem mkd_mkd {xs : List Int} (h : 4 ≤ xs.length) : mkd (mkd xs) = mkd xs := by
  have e : mkd (mkd xs) = mk ((mkd xs).take ((mkd xs).length - 4)) := rfl
  rw [e, mkd_len h, mkd_take h]
  rfl
theorem conv_lies {w : World} {b off n c : Nat} {xs : List Int} (h : Lies w (some ⟨b, off, none⟩) xs) (hn : xs.length = n) :
    (convert 22 9 (.slice (some ⟨b, off, none⟩) n c)).run Try.prog w = .ok (.string (strOfNums xs)) w := by
  refine run_convert_bytes_arg w 22 5 Try.underlying22 Try.underlying5 b off n c xs hn (fun i hi => ?_) 9 Try.underlying9
  obtain ⟨b', off', ha, h1, _⟩ := h i (by omega)
  obtain ⟨rfl, rfl⟩ : b = b' ∧ off = off' := by simpa using ha
  rw [h1]
  simp [show i < xs.length by omega]
theorem lies_set {w : World} {g off : Nat} {xs : List Int} (h : Lies w (some ⟨g, off, none⟩) xs) (k : Nat) (v : Int) (v0 : 0 ≤ v) (v1 : v < 256) : Lies (w.setCell ⟨g, off + k, none⟩ (.int .u8 v)) (some ⟨g, off, none⟩) (xs.set k v) := by
  intro i hi
  have hi' : i < xs.length := by simpa using hi
  obtain ⟨b', off', ha, h1, h2, h3⟩ := h i hi'
  obtain ⟨rfl, rfl⟩ : g = b' ∧ off = off' := by simpa using ha
  refine ⟨g, off, rfl, ?_, ?_⟩
  · by_cases e : k = i
    · subst e
      rw [World.cell?_setCell_same _ _ _ h1]
      simp
    · rw [World.cell?_setCell_other _ _ _ _ (by intro q; simp only [Addr.mk.injEq] at q; omega), h1]
      simp [e]
  · by_cases e : k = i
    · subst e; simp [v0, v1]
    · simp [e, h2, h3]
theorem own_lies_at {w : World} {B n g cap : Nat} {xs : List Int} (h : w.ownsRow B 5 1 (.slice (some ⟨g, 0, none⟩) n cap) n (bl xs)) (hb : Byte xs) : Lies w (some ⟨g, 0, none⟩) xs ∧ n ≤ cap := by
  obtain ⟨ao, c, hv, hl, hc, _⟩ := own_lies h hb
  simp at hv
  obtain ⟨rfl, rfl⟩ := hv
  exact ⟨hl, hc⟩

theorem lies_cell {w : World} {g : Nat} {xs : List Int} (h : Lies w (some ⟨g, 0, none⟩) xs) {k : Nat} {x : Int} (hx : xs[k]? = some x) : w.cell? ⟨g, k, none⟩ = some (.int .u8 x) := by
  obtain ⟨hk, rfl⟩ := List.getElem?_eq_some_iff.1 hx
  obtain ⟨b', off', ha, h1, _⟩ := h k hk
  obtain ⟨rfl, rfl⟩ : g = b' ∧ 0 = off' := by simpa using ha
  rw [Nat.zero_add] at h1
  exact h1

set_option maxRecDepth 100000 in
set_option maxHeartbeats 2000000 in
theorem once_walk (a0 : Option Addr) (len0 cap0 : Nat) (z0 : List Int) (a1 a2 : Int) (w : World) (w0 : IsRow .u8 w a0 len0 cap0 z0) (_w1 : (Lit.int .i64 a1).wf = true) (w2 : (Lit.int .u8 a2).wf = true) :
    Calls Try.prog 8 #[.slice a0 len0 cap0, .int .i64 a1, .int .u8 a2] w fun e w' => e = .returned (.bool true) ∧ Below w.heap.size w w' := by
  obtain ⟨xs, hx, lx, cx, mx⟩ := isrow_open w0
  by_cases hsmall : len0 < 5
  · go_enter Try.func8, Try.ntmps8
    go_wp2_with (first | (go_at_call 9; refine (sure_any _).mono ?_; rintro e wk ⟨rfl, hb2⟩))
    go_ret
    exact ⟨rfl, hb2⟩
  by_cases hbig : 3000 < len0
  · go_enter Try.func8, Try.ntmps8
    go_wp2_with (first | (go_at_call 9; refine (sure_any _).mono ?_; rintro e wk ⟨rfl, hb2⟩))
    go_ret
    exact ⟨rfl, hb2⟩
  have by0 := bounds_u8 w2
  have hr := red_bd a1 ((len0 : Int) - 4) (by omega) (by omega)
  obtain ⟨K, hK⟩ : ∃ K : Nat, wrap64 ((IntKind.u64.wrap a1).tmod ((len0 : Int) - 4)) = (K : Int) := ⟨(wrap64 ((IntKind.u64.wrap a1).tmod ((len0 : Int) - 4))).toNat, by omega⟩
  rw [hK] at hr
  have hml : (mkd xs).length = len0 := by rw [mkd_len (by omega), hx]
  have hmm : mkd (mkd xs) = mkd xs := mkd_mkd (by omega)
  have hmt : (mkd xs).take (len0 - 4) = xs.take (len0 - 4) := by rw [← hx]; exact mkd_take (by omega)
  obtain ⟨b, off, rfl⟩ : ∃ b off, a0 = some ⟨b, off, none⟩ := by
    obtain ⟨b, off, h, _⟩ := lx 0 (by omega)
    exact ⟨b, off, h⟩
  have SX := Lib.hid lx
  have LX := Lib.hid hx
  have LM := Lib.hid hml
  have MM := Lib.hid hmm
  have MT := Lib.hid hmt
  have HB := Lib.hid (Below.refl w.heap.size w)
  clear lx hx hml hmm hmt w0
  go_enter Try.func8, Try.ntmps8
  have hki : (0 : Int) ≤ (len0 : Int) - 4 := by omega
  have hkj : (len0 : Int) - 4 ≤ (len0 : Int) := by omega
  have hkc : (len0 : Int) - 4 ≤ (cap0 : Int) := by omega
  have e4 : ((len0 : Int) - 4).toNat = len0 - 4 := by omega
  have E4 := Lib.hid e4
  clear e4
  go_wp2_with (first | (go_at_call_of 14 (Value.slice (some { block := b, off := off }) len0 cap0); refine (mark_n _ _ _ _ _ LX.out (by omega) SX.out (by omega) (by omega)).mono ?_; rintro e wa ⟨rfl, hla, hba, hza⟩) | (go_at_call 14; refine (mark_n _ _ _ _ _ LM.out (by omega) hla (by omega) (by omega)).mono ?_; rintro e wb ⟨rfl, hlb, hbb, hzb⟩))
  have HLA := Lib.hid (hla.below hbb)
  have HLB : Hid (Lies wb (some ⟨wa.heap.size, 0, none⟩) (mkd xs)) := by
    rw [MM.out] at hlb
    exact hlb
  have HXB := Lib.hid ((SX.out.below hba).below hbb)
  have HB2 := Lib.hid (hba.trans (hbb.mono hba.size))
  have HZ := Lib.hid hza
  clear hla hlb hba hbb hza hzb
  have c1 : ∀ n, (convert 22 9 (.slice (some ⟨w.heap.size, 0, none⟩) len0 len0)).run Try.prog (wb.drewN n) = .ok (.string (strOfNums (mkd xs))) (wb.drewN n) := fun n => conv_lies (HLA.out.drewN n) LM.out
  have c2 : ∀ n, (convert 22 9 (.slice (some ⟨wa.heap.size, 0, none⟩) len0 len0)).run Try.prog (wb.drewN n) = .ok (.string (strOfNums (mkd xs))) (wb.drewN n) := fun n => conv_lies (HLB.out.drewN n) LM.out
  have c3 : ∀ n, (convert 22 9 (.slice (some ⟨w.heap.size, 0, none⟩) (len0 - 4) len0)).run Try.prog (wb.drewN n) = .ok (.string (strOfNums (xs.take (len0 - 4)))) (wb.drewN n) := fun n => by
    have h := HLA.out.take (len0 - 4)
    rw [MT.out] at h
    exact conv_lies (h.drewN n) (by rw [List.length_take, LX.out]; omega)
  have c4 : ∀ n, (convert 22 9 (.slice (some ⟨b, off, none⟩) (len0 - 4) cap0)).run Try.prog (wb.drewN n) = .ok (.string (strOfNums (xs.take (len0 - 4)))) (wb.drewN n) := fun n => conv_lies ((HXB.out.take (len0 - 4)).drewN n) (by rw [List.length_take, LX.out]; omega)
  go_quiet (fail)
  clear c1 c2 c3 c4
  obtain ⟨x, hxk⟩ : ∃ x, (mkd xs)[K]? = some x := ⟨(mkd xs)[K]'(by rw [LM.out]; omega), List.getElem?_eq_getElem _⟩
  have hkl : K < (mkd xs).length := by rw [LM.out]; omega
  have hxe : (mkd xs)[K] = x := (List.getElem?_eq_some_iff.1 hxk).2
  have hBY := SX.out.byte
  have hBM := byte_mkd hBY
  have hxb := hBM K hkl
  rw [hxe] at hxb
  have hv := xor8_b8 x a2 hxb.1 hxb.2 by0.1 (by omega)
  have q : (isGood ((mkd xs).set K (bits .xor .u8 x a2)) == (a2 == 0)) = true := beq_iff_eq.2 (good_set (mkd xs) K _ a2 hkl (good_mkd xs) (by rw [hv.1, hxe]) by0.1 (by omega))
  have HBM := Lib.hid hBM
  have HV := Lib.hid hv
  have HXK := Lib.hid hxk
  have LS := Lib.hid (show ((mkd xs).set K (bits .xor .u8 x a2)).length = len0 by rw [List.length_set]; exact LM.out)
  obtain ⟨i0, hi, hz0, hz1, hz2⟩ := info_parts info_b
  have HI := Lib.hid hi
  have HI0 := Lib.hid hz0
  have HI1 := Lib.hid hz1
  have HI2 := Lib.hid hz2
  have HB3 := Lib.hid (below_drewN HB2.out nq)
  have HL3 := Lib.hid (HLA.out.drewN nq)
  have hk0 : (K : Int) < (len0 : Int) := by omega
  clear hv hxk hkl hxe hxb hBY hBM hi hz0 hz1 hz2
  generalize wb.drewN nq = wc at HB3 HL3 ⊢
  go_wp2_with (first | (at_builtin; refine wpList_append_lies _ rfl (.tmp 67) (.tmp 68) 22 rfl w.heap.size 5 i0 (.int .u8 0) 1 1 Try.underlying22 HI.out HI0.out HI1.out HI2.out rfl (by decide) (.slice none 0 0) 0 [] rfl (World.ownsRow_nil _ _ _ _) ⟨w.heap.size, 0, none⟩ len0 len0 (bl (mkd xs)) rfl (by rw [bl_len, LM.out, Nat.mul_one]) (bl_lies HL3.out) (bl_one _) (by omega) (by unfold maxLen; omega) (by omega) HB3.out.size _ rfl ?_; intro g cap w4 hown hgrow hat hglt; simp only [Nat.zero_add, List.nil_append] at hown; have hl4 := (own_lies_at hown HBM.out).1; have hc4 := lies_cell hl4 HXK.out; have hf4 := hown.frozenAt K; have HB4 := Lib.hid (HB3.out.grown hgrow HB3.out.size (fun j hj => by cases hj))) | (go_at_call 15; refine (good_n _ _ _ _ _ LS.out (by omega) (by have := lies_set hl4 K _ HV.out.2.1 HV.out.2.2; rw [Nat.zero_add] at this; exact this) (by omega) (own_lies_at hown HBM.out).2).mono ?_; rintro e w5 ⟨rfl, hb5⟩) | (go_at_call 9; refine (sure_any _).mono ?_; rintro e w6 ⟨rfl, hb6⟩))
  have hg0 := (hown.lt g rfl).1
  have HB5 := (HB4.out.setCell (p := ⟨g, K, none⟩) hg0 (.int .u8 (bits .xor .u8 x a2))).trans (hb5.mono (by rw [World.size_setCell]; exact HB4.out.size))
  go_ret
  exact ⟨rfl, HB5.trans (hb6.mono HB5.size)⟩
end Go.Proofs.Ytefdmocfoopghaa

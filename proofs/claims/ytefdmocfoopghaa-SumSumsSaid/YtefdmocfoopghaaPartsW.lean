/-
  THE WALK of the statement on parts: the sum of bytes is that of their first part, with the rest behind. Conditions: what came in could be read.
-/
import Derived.Test.YtefdmocfoopghaaTurnedW
namespace Go.Proofs.Ytefdmocfoopghaa
open Go.RowKit Crc

theorem more_n (s : BitVec 32) (a : Option Addr) (c n : Nat) (xs : List Int) (w : World) (hx : Lies w a xs) (hn : xs.length = n) (hm : n ≤ 9223372036854775807) :
    Calls Try.prog 12 #[.int .u32 (rg s), .slice a n c] w fun e w' => e = .returned (.int .u32 (rg (more s xs))) ∧ w = w' := by
  subst hn
  exact more_any s a c xs w hx hm
theorem noughts_0 (n : Int) (h0 : -9223372036854775808 ≤ n) (w : World) :
    Calls Try.prog 13 #[.int .u32 0, .int .i64 n] w fun e w' => e = .returned (.int .u32 (rg (nts 0#32 n))) ∧ Below w.heap.size w w' :=
  noughts_any 0#32 n h0 w
theorem more_parts (A B : List Int) : more (more 0#32 A) B = more 0#32 (A ++ B) := by
  rw [more_zero, more_zero]
  unfold more
  rw [BitVec.not_not, up_append]
theorem up_split (r : BitVec 32) (xs : List Int) : up r xs = it z xs.length r ^^^ up 0#32 xs := by
  unfold up
  rw [upv_split, List.length_map]
theorem noughts_parts (A B : List Int) (n : Nat) (hn : B.length = n) (h : n ≤ 1099511627776) : nts (more 0#32 A) n ^^^ nts 0#32 n ^^^ more 0#32 B = more 0#32 (A ++ B) := by
  rw [more_zero, more_zero, more_zero, up_append, up_split (up ones A) B, up_split ones B]
  unfold nts
  have e1 : (min (n : Int) 1099511627776).toNat = B.length := by omega
  rw [e1, BitVec.not_not, not_zero]
  apply BitVec.eq_of_getLsbD_eq
  intro i hi
  simp only [BitVec.getLsbD_xor, BitVec.getLsbD_not, hi, decide_true, Bool.true_and]
  generalize (it z B.length (up ones A)).getLsbD i = p
  generalize (it z B.length ones).getLsbD i = q
  generalize (up 0#32 B).getLsbD i = t
  cases p <;> cases q <;> cases t <;> rfl

set_option maxRecDepth 100000 in
set_option maxHeartbeats 1000000 in
theorem parts_walk (a0 : Option Addr) (len0 cap0 : Nat) (z0 : List Int) (a1 : Int) (w : World) (w0 : IsRow .u8 w a0 len0 cap0 z0) (_w1 : (Lit.int .i64 a1).wf = true) :
    Calls Try.prog 5 #[.slice a0 len0 cap0, .int .i64 a1] w fun e w' => e = .returned (.bool true) ∧ Below w.heap.size w w' := by
  obtain ⟨xs, hx, lx, cx, mx⟩ := isrow_open w0
  by_cases hbig : 5000 < len0
  · go_enter Try.func5, Try.ntmps5
    go_wp2_with (first | (go_at_call 9; refine (sure_any _).mono ?_; rintro e w2 ⟨rfl, hb2⟩))
    go_ret
    exact ⟨rfl, hb2⟩
  · have hr := red_bd a1 ((len0 : Int) + 1) (by omega) (by omega)
    obtain ⟨K, hK⟩ : ∃ K : Nat, wrap64 ((IntKind.u64.wrap a1).tmod ((len0 : Int) + 1)) = (K : Int) := ⟨(wrap64 ((IntKind.u64.wrap a1).tmod ((len0 : Int) + 1))).toNat, by omega⟩
    rw [hK] at hr
    have hkl : K ≤ len0 := by omega
    have ea : xs.take K ++ xs.drop K = xs := List.take_append_drop _ _
    have q1 : (rg (more (more 0#32 (xs.take K)) (xs.drop K)) == rg (more 0#32 xs)) = true := by
      rw [more_parts, ea]; exact beq_self_eq_true _
    have q2 : (bits .xor .u32 (bits .xor .u32 (rg (nts (more 0#32 (xs.take K)) ((len0 : Int) - (K : Int)))) (rg (nts 0#32 ((len0 : Int) - (K : Int))))) (rg (more 0#32 (xs.drop K))) == rg (more 0#32 xs)) = true := by
      have e : (len0 : Int) - (K : Int) = ((len0 - K : Nat) : Int) := by omega
      rw [e, xor_rg, xor_rg, noughts_parts _ _ _ (by rw [List.length_drop, hx]) (by omega), ea]; exact beq_self_eq_true _
    have lt : (xs.take K).length = K := by rw [List.length_take]; omega
    have ld : (xs.drop K).length = len0 - K := by rw [List.length_drop, hx]
    have ST := Lib.hid (lx.take K)
    have SX := Lib.hid lx
    have LT := Lib.hid lt
    have LD := Lib.hid ld
    have LX := Lib.hid hx
    have d0 : (0 : Int) ≤ (K : Int) := by omega
    have d1 : (K : Int) ≤ (cap0 : Int) := by omega
    have d2 : (K : Int) ≤ (len0 : Int) := by omega
    clear hr lt ld hx ea
    by_cases hcap : cap0 = K
    · have hl : len0 = K := by omega
      subst hcap
      subst hl
      have p1 : (rg (more (more 0#32 xs) []) == rg (more 0#32 xs)) = true := by
        exact beq_of (by rw [more_parts, List.append_nil])
      have p2 : (bits .xor .u32 (bits .xor .u32 (rg (nts (more 0#32 xs) 0)) (rg (nts 0#32 0))) (rg (more 0#32 [])) == rg (more 0#32 xs)) = true := by
        have e := noughts_parts xs [] 0 rfl (by decide)
        rw [List.append_nil] at e
        have e' : nts (more 0#32 xs) 0 ^^^ nts 0#32 0 ^^^ more 0#32 [] = more 0#32 xs := e
        exact beq_of (by rw [xor_rg, xor_rg, e'])
      have HB := Lib.hid (Below.refl w.heap.size w)
      clear lx w0 q1 q2 ST LT LD
      go_enter Try.func5, Try.ntmps5
      go_wp2
      go_quiet (first | (go_at_call_of 10 (Value.slice a0 len0 len0); exact Calls.quiet_of_same ((sum_n _ _ _ _ _ (SX.out.drewN _) LX.out (by omega)).mono fun e w' ⟨h1, h2⟩ => ⟨h1, h2.symm⟩)) | (go_at_call 10; exact Calls.quiet_of_same ((sum_n a0 0 0 [] (w.drewN _) (lies_nil _ _) rfl (by omega)).mono fun e w' ⟨h1, h2⟩ => ⟨h1, h2.symm⟩)))
      have HB := Lib.hid (below_drewN HB.out nq)
      have SX := Lib.hid (SX.out.drewN nq)
      generalize w.drewN nq = wa at HB SX ⊢
      go_wp2_with (first | (go_at_call 12; refine (more_n (more 0#32 xs) a0 0 0 [] _ (lies_nil _ _) rfl (by decide)).mono ?_; rintro e w' ⟨rfl, rfl⟩) | (go_at_call 10; refine (sum_n _ _ _ _ _ SX.out LX.out (by omega)).mono ?_; rintro e w' ⟨rfl, rfl⟩) | (go_at_call_of 13 (Value.int .u32 0); refine (noughts_0 _ (by omega) _).mono ?_; rintro e wk ⟨rfl, hbk⟩; have SX := Lib.hid (SX.out.below hbk); have HB := Lib.hid (HB.out.trans (hbk.mono HB.out.size)); clear hbk) | (go_at_call 13; refine (noughts_any _ _ (by omega) _).mono ?_; rintro e wk ⟨rfl, hbk⟩; have SX := Lib.hid (SX.out.below hbk); have HB := Lib.hid (HB.out.trans (hbk.mono HB.out.size)); clear hbk) | (go_at_call 9; refine (sure_any _).mono ?_; rintro e wk ⟨rfl, hbk⟩; have HB := Lib.hid (HB.out.trans (hbk.mono HB.out.size)); clear hbk))
      go_ret
      exact ⟨rfl, HB.out⟩
    · obtain ⟨b, off, rfl⟩ : ∃ b off, a0 = some ⟨b, off, none⟩ := by
        rcases isrow_addr w0 with h | h
        · omega
        · exact h
      have SD := Lib.hid (lx.drop K)
      clear lx w0
      have hcf : (cap0 = K) = False := by simp [hcap]
      have HB := Lib.hid (Below.refl w.heap.size w)
      go_enter Try.func5, Try.ntmps5
      go_wp2
      go_quiet (first | (go_at_call_of 10 (Value.slice (some { block := b, off := off }) K cap0); exact Calls.quiet_of_same ((sum_n _ _ _ _ _ (ST.out.drewN _) LT.out (by omega)).mono fun e w' ⟨h1, h2⟩ => ⟨h1, h2.symm⟩)) | (go_at_call 10; exact Calls.quiet_of_same ((sum_n _ _ _ _ _ (SD.out.drewN _) LD.out (by omega)).mono fun e w' ⟨h1, h2⟩ => ⟨h1, h2.symm⟩)))
      have HB := Lib.hid (below_drewN HB.out nq)
      have SX := Lib.hid (SX.out.drewN nq)
      have SD := Lib.hid (SD.out.drewN nq)
      generalize w.drewN nq = wa at HB SX SD ⊢
      go_wp2_with (first | (go_at_call 12; refine (more_n _ _ _ _ _ _ SD.out LD.out (by omega)).mono ?_; rintro e w' ⟨rfl, rfl⟩) | (go_at_call 10; refine (sum_n _ _ _ _ _ SX.out LX.out (by omega)).mono ?_; rintro e w' ⟨rfl, rfl⟩) | (go_at_call_of 13 (Value.int .u32 0); refine (noughts_0 _ (by omega) _).mono ?_; rintro e wk ⟨rfl, hbk⟩; have SX := Lib.hid (SX.out.below hbk); have HB := Lib.hid (HB.out.trans (hbk.mono HB.out.size)); clear hbk) | (go_at_call 13; refine (noughts_any _ _ (by omega) _).mono ?_; rintro e wk ⟨rfl, hbk⟩; have SX := Lib.hid (SX.out.below hbk); have HB := Lib.hid (HB.out.trans (hbk.mono HB.out.size)); clear hbk) | (go_at_call 9; refine (sure_any _).mono ?_; rintro e wk ⟨rfl, hbk⟩; have HB := Lib.hid (HB.out.trans (hbk.mono HB.out.size)); clear hbk))
      go_ret
      exact ⟨rfl, HB.out⟩
end Go.Proofs.Ytefdmocfoopghaa

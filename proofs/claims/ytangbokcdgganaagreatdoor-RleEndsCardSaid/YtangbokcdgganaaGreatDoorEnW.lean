/-
  RleEnds, the walk. Conditions: that the input could be read, and the listed package-level variables.
-/
import Derived.Test.YtangbokcdgganaaGreatDoorMr
import Derived.Test.YtangbokcdgganaaGreatDoorSu
import Derived.Test.YtangbokcdgganaaGreatDoorErr
import Derived.Test.YtangbokcdgganaaGreatDoorCin
namespace Go.Proofs.YtangbokcdgganaaGreatDoor
open Go.RowKit Ru Ce

namespace Rl
/-- what Parse answers where a text is wrong -/
theorem wrong_of (X : ByteArray) (hx : X.size ≤ 9223372036854775807) (k : Nat) (h : parseL (bl X) = ⟨(0, 0), [], k, 3⟩) (W : World) :
    Calls Tryz.prog 7 #[.string X] W fun e w' => Below W.heap.size W w' ∧ ∃ ao cap, e = .returned (.tuple #[.agg #[.int .u16 0, .int .u16 0], .slice ao 0 cap, .int .i64 k, .iface 48 (.int .i64 3)]) := by
  have hp := parse_rle X W hx
  rw [h] at hp
  refine hp.mono ?_
  rintro e w' ⟨h1, v, rfl, hv⟩
  obtain ⟨ao, cap, rfl, _⟩ := own_cls hv
  exact ⟨h1, ao, cap, rfl⟩
theorem drop2 (t : List UInt8) : (st t).extract 0 (t.length - 2) = st (t.take (t.length - 2)) := by
  rw [st_take, bl_st]
theorem one_conv {w : World} {b : Nat} {c : UInt8} (h : w.heap[b]? = some (.cells #[.int .u8 (c.toNat : Nat)] 5 (0, 0))) : (convert 41 9 (.slice (some ⟨b, 0, none⟩) 1 1)).run Tryz.prog w = .ok (.string (st [c])) w := by
  refine run_convert_bytes_back w 41 9 5 ⟨b, 0, none⟩ 1 [c] Tryz.underlying41 Tryz.underlying5 Tryz.underlying9 (fun j hj => ?_)
  obtain rfl : j = 0 := by simpa using hj
  exact cell_of_row _ _ 0 _ _ _ h
set_option maxRecDepth 100000 in
set_option maxHeartbeats 8000000 in
theorem ends_walk (a : Option Addr) (n c : Nat) (L : List Cel) (q : Int) (w : World) (hI : IsC w a n L) (hq : (Lit.int .u8 q).wf = true) (ht : Tb w) (hl : Laid w) : Calls Tryz.prog 4 #[.slice a n c, .int .u8 q] w fun e w' => e = .returned (.bool true) ∧ Below w.heap.size w w' := by
  have HS := Lib.hid (fun W => sure_any W)
  have HL := Lib.hid hl
  have HT := Lib.hid ht
  by_cases hn : 100 < n
  · have hn' : (100 : Int) < (n : Int) := by omega
    clear hI hq
    go_enter Tryz.func4, Tryz.ntmps4
    go_wp2_with (go_at_call 8; refine (HS.out _).mono ?_; rintro e w1 ⟨rfl, hb1⟩)
    go_ret
    exact ⟨rfl, hb1⟩
  · have hn' : (n : Int) ≤ 100 := by omega
    have HGV := Lib.hid (give_any a n c L w hI.cls hI.len (by omega))
    have HLN := Lib.hid (show L.length ≤ 100 by rw [hI.len]; omega)
    have hmay : mayR 8 12 = true := by decide
    have HWR := Lib.hid (fun (W : World) (ao : Option Addr) (cp : Nat) (h1 : Cls W ao L) (h2 : ao = none → L.length = 0) (h3 : Tb W) => write_any 8 12 hmay ao L.length cp L W h1 rfl h2 (by have := HLN.out; omega) h3)
    rw [law_b3] at HWR
    obtain ⟨S, hS⟩ : ∃ S, srt L = S := ⟨_, rfl⟩
    by_cases hg : Good lawB3 L
    · obtain ⟨g1, g2, g3, g4⟩ := hg
      have hsk : ∀ x ∈ srt L, okc x = true := fun x hx => (chkN_zero g1).2 x ((srt_mem L x).1 hx)
      have he := ends_parse (srt L) (srt_srt L) hsk (Nat.le_trans (srt_len L) (chkN_zero g1).1) g2 g3 g4
      obtain ⟨T, hT⟩ : ∃ T, (wT lawB3 (srt L)).1 = T := ⟨_, rfl⟩
      rw [hT] at he g4
      obtain ⟨e1, e2, e3⟩ := he
      have HW2 : Hid (∀ (W : World) (ao : Option Addr) (cp : Nat), Cls W ao L → (ao = none → L.length = 0) → Tb W → Calls Tryz.prog 5 #[.agg #[.int .u16 8, .int .u16 12], .slice ao L.length cp] W fun e w' => e = .returned (.tuple #[.string (st T), .nilIface]) ∧ Below W.heap.size W w') := Lib.hid (fun W ao cp h1 h2 h3 => (HWR.out W ao cp h1 h2 h3).mono fun e w' hw => by
        rcases hw with ⟨hb, ⟨_, h⟩ | ⟨h, _⟩⟩
        · exact ⟨by rw [h, hT], hb⟩
        · exact absurd ⟨g1, g2, g3, by rw [hT]; exact g4⟩ h)
      obtain ⟨m, hm⟩ : ∃ m, T.length = m := ⟨_, rfl⟩
      have hsz : (st T).size = m := by rw [st_size, hm]
      have hx : (st T).extract 0 (m - 2) = st (T.take (m - 2)) := by rw [← hm]; exact drop2 T
      rw [hm] at e1 e2 e3 g4
      have hcz : (st (T.take (m - 2))).size = m - 2 := by rw [st_size, List.length_take]; omega
      have HP1 := Lib.hid (fun W => wrong_of (st (T.take (m - 2))) (by rw [hcz]; omega) (m - 2) (by rw [bl_st]; exact e2) W)
      have m0 : (2 : Int) ≤ (m : Int) := by omega
      have m1 : (m : Int) ≤ 65536 := by omega
      have hcm : ((m - 2 : Nat) : Int) = (m : Int) - 2 := by omega
      clear hsk g1 g2 g3 hS hI HWR hmay
      rw [← hx] at HP1 hcz
      have hq0 : 0 ≤ q ∧ q ≤ 255 := by
        have h1 : IntKind.u8.min ≤ q ∧ q ≤ IntKind.u8.max := by simpa [Lit.wf] using hq
        have e0 : IntKind.u8.min = 0 := rfl
        have e1 : IntKind.u8.max = 255 := rfl
        omega
      obtain ⟨qa, qb⟩ := hq0
      obtain ⟨cq, hcq⟩ : ∃ cq : UInt8, ((cq.toNat : Nat) : Int) = q := ⟨UInt8.ofNat q.toNat, by rw [UInt8.toNat_ofNat_of_lt' (by show q.toNat < 256; omega)]; omega⟩
      have hcv : ∀ W : World, (convert 41 9 (.slice (some ⟨W.heap.size, 0, none⟩) 1 1)).run Tryz.prog (W.alloc (.cells #[.int .u8 q] 5)) = .ok (.string (st [cq])) (W.alloc (.cells #[.int .u8 q] 5)) := fun W => by
        rw [← hcq]; exact one_conv (heap_alloc_new W _)
      have HGO : Hid (isNum cq = false → isTag cq = false → btw.contains cq = false → ¬ cq = 33 → parseL (T.take (m - 2) ++ [cq, 33]) = ⟨(0, 0), [], m - 2, 3⟩) := Lib.hid (e3 cq)
      have hs1 : (st [cq]).size = 1 := rfl
      have hs2 : (⟨#[33]⟩ : ByteArray).size = 1 := rfl
      have hbl : bl ((st T).extract 0 (m - 2) ++ st [cq] ++ (⟨#[33]⟩ : ByteArray)) = T.take (m - 2) ++ [cq, 33] := by
        rw [hx]
        show bl (st (T.take (m - 2)) ++ st [cq] ++ st [33]) = _
        rw [st_app, st_app, bl_st]; simp
      have HBL := Lib.hid hbl
      have HCQ := Lib.hid hcq
      clear hx e1 e2 e3 hbl hcq hm hT g4
      generalize st T = TT at *
      obtain ⟨CC, hCC⟩ : ∃ CC, TT.extract 0 (m - 2) = CC := ⟨_, rfl⟩
      have HCC := Lib.hid hCC
      have e5 : ∀ w, (Op.stringOp .add (TT.extract 0 (m - 2)) (st [cq])).run Tryz.prog w = .ok (.string (TT.extract 0 (m - 2) ++ st [cq])) w := fun w => run_string_add_sum w _ _ (by rw [hcz, hs1]; omega)
      have e6 : ∀ w, (Op.stringOp .add (TT.extract 0 (m - 2) ++ st [cq]) (⟨#[33]⟩ : ByteArray)).run Tryz.prog w = .ok (.string (TT.extract 0 (m - 2) ++ st [cq] ++ ⟨#[33]⟩)) w := fun w => run_string_add_sum w _ _ (by rw [ByteArray.size_append, hcz, hs1, hs2]; omega)
      clear hCC hs1 hs2
      go_enter Tryz.func4, Tryz.ntmps4
      go_upto_region 10 with (first
        | (go_at_call 9; refine HGV.out.mono ?_; rintro e w1 ⟨v, rfl, hv, hb1⟩; obtain ⟨ao, cap, rfl, hcl, _, _, _, _, hno⟩ := own_cls hv; have HB1 := Lib.hid hb1; have HC1 := Lib.hid hcl; have HNO := Lib.hid hno; clear hb1 hv hcl hno)
        | (go_at_call 5; refine (HW2.out _ _ _ HC1.out HNO.out (HT.out.below HB1.out)).mono ?_; rintro e w2 ⟨rfl, hb2⟩; have HB2 := Lib.hid (b_go HB1.out hb2); clear hb2)
        | (go_at_call 7; refine (HP1.out _).mono ?_; rintro e w3 ⟨hb3, a3, c3, rfl⟩; have HBr := Lib.hid (b_go HB2.out (hb3.alloc hb3.size (.cells #[.int .u16 0, .int .u16 0] 32))); clear hb3)
        | (go_at_call 10; refine (num_err 3 _ (HL.out.below HBr.out)).mono ?_; rintro e w4 ⟨rfl, hb4⟩; have HBr := Lib.hid (b_go HBr.out hb4); clear hb4))
      by_cases kr : 48 ≤ q ∧ q ≤ 57
      · obtain ⟨ka, kb⟩ := kr
        clear hcv e5 e6
        go_wp2_with (go_at_call 8; refine (HS.out _).mono ?_; rintro e w9 ⟨rfl, hb9⟩; have HBr := Lib.hid (b_go HBr.out hb9); clear hb9)
        go_ret
        exact ⟨rfl, HBr.out⟩
      · by_cases kx : q = 98 ∨ q = 111 ∨ q = 36 ∨ q = 33 ∨ q = 32 ∨ q = 9 ∨ q = 10 ∨ q = 13
        · clear hcv e5 e6
          rcases kx with kx | kx | kx | kx | kx | kx | kx | kx
          all_goals
            subst kx
            go_wp2_with (go_at_call 8; refine (HS.out _).mono ?_; rintro e w9 ⟨rfl, hb9⟩; have HBr := Lib.hid (b_go HBr.out hb9); clear hb9)
            go_ret
            exact ⟨rfl, HBr.out⟩
        · have n1 : ¬ q = 98 := by omega
          have b1 : (q == 98) = false := by simpa using n1
          have n2 : ¬ q = 111 := by omega
          have b2 : (q == 111) = false := by simpa using n2
          have n3 : ¬ q = 36 := by omega
          have b3 : (q == 36) = false := by simpa using n3
          have n4 : ¬ q = 33 := by omega
          have b4 : (q == 33) = false := by simpa using n4
          have n5 : ¬ q = 32 := by omega
          have b5 : (q == 32) = false := by simpa using n5
          have n6 : ¬ q = 9 := by omega
          have b6 : (q == 9) = false := by simpa using n6
          have n7 : ¬ q = 10 := by omega
          have b7 : (q == 10) = false := by simpa using n7
          have n8 : ¬ q = 13 := by omega
          have b8 : (q == 13) = false := by simpa using n8
          have HPQ := Lib.hid (fun W => wrong_of (TT.extract 0 (m - 2) ++ st [cq] ++ (⟨#[33]⟩ : ByteArray)) (by rw [ByteArray.size_append, ByteArray.size_append, hcz]; show m - 2 + 1 + 1 ≤ _; omega) (m - 2) (by
            rw [HBL.out]
            have hcq := HCQ.out
            have hne : ∀ d : UInt8, ¬ q = ((d.toNat : Nat) : Int) → ¬ cq = d := fun d hd e => hd (by rw [← e]; exact hcq.symm)
            refine HGO.out ?_ ?_ ?_ ?_
            · unfold isNum
              simp only [Bool.and_eq_false_iff, decide_eq_false_iff_not]
              omega
            · have h1 := hne 98 n1
              have h2 := hne 111 n2
              have h3 := hne 36 n3
              unfold isTag; simp [h1, h2, h3]
            · have h1 := hne 32 n5
              have h2 := hne 9 n6
              have h3 := hne 13 n8
              have h4 := hne 10 n7
              simp [btw, h1, h2, h3, h4]
            · exact hne 33 n4) W)
          by_cases kl : q < 48
          · have kl' : ¬ 48 ≤ q := by omega
            go_wp2_with (first
              | (go_at_call 7; refine (HPQ.out _).mono ?_; rintro e w5 ⟨hb5, a5, c5, rfl⟩; have HBr := Lib.hid (b_go (b_go HBr.out (alX _ _)) (hb5.alloc hb5.size (.cells #[.int .u16 0, .int .u16 0] 32))); clear hb5)
              | (go_at_call 10; refine (num_err 3 _ (HL.out.below HBr.out)).mono ?_; rintro e w6 ⟨rfl, hb6⟩; have HBr := Lib.hid (b_go HBr.out hb6); clear hb6)
              | (go_at_call 8; refine (HS.out _).mono ?_; rintro e w9 ⟨rfl, hb9⟩; have HBr := Lib.hid (b_go HBr.out hb9); clear hb9))
            go_ret
            exact ⟨rfl, HBr.out⟩
          · have kl1 : 48 ≤ q := by omega
            have kl2 : 57 < q := by omega
            have kl3 : ¬ q ≤ 57 := by omega
            go_wp2_with (first
              | (go_at_call 7; refine (HPQ.out _).mono ?_; rintro e w5 ⟨hb5, a5, c5, rfl⟩; have HBr := Lib.hid (b_go (b_go HBr.out (alX _ _)) (hb5.alloc hb5.size (.cells #[.int .u16 0, .int .u16 0] 32))); clear hb5)
              | (go_at_call 10; refine (num_err 3 _ (HL.out.below HBr.out)).mono ?_; rintro e w6 ⟨rfl, hb6⟩; have HBr := Lib.hid (b_go HBr.out hb6); clear hb6)
              | (go_at_call 8; refine (HS.out _).mono ?_; rintro e w9 ⟨rfl, hb9⟩; have HBr := Lib.hid (b_go HBr.out hb9); clear hb9))
            go_ret
            exact ⟨rfl, HBr.out⟩
    · have HW2 : Hid (∀ (W : World) (ao : Option Addr) (cp : Nat), Cls W ao L → (ao = none → L.length = 0) → Tb W → Calls Tryz.prog 5 #[.agg #[.int .u16 8, .int .u16 12], .slice ao L.length cp] W fun e w' => (∃ n : Nat, e = .returned (.tuple #[.string ⟨#[]⟩, .iface 48 (.int .i64 n)])) ∧ Below W.heap.size W w') := Lib.hid (fun W ao cp h1 h2 h3 => (HWR.out W ao cp h1 h2 h3).mono fun e w' hw => by
        rcases hw with ⟨hb, ⟨h, _⟩ | ⟨_, n, _, h⟩⟩
        · exact absurd h hg
        · exact ⟨⟨n, h⟩, hb⟩)
      clear hg hS hI HWR hmay
      go_enter Tryz.func4, Tryz.ntmps4
      go_wp2_with (first
        | (go_at_call 9; refine HGV.out.mono ?_; rintro e w1 ⟨v, rfl, hv, hb1⟩; obtain ⟨ao, cap, rfl, hcl, _, _, _, _, hno⟩ := own_cls hv; have HB1 := Lib.hid hb1; have HC1 := Lib.hid hcl; have HNO := Lib.hid hno; clear hb1 hv hcl hno)
        | (go_at_call 5; refine (HW2.out _ _ _ HC1.out HNO.out (HT.out.below HB1.out)).mono ?_; rintro e w2 ⟨⟨k, rfl⟩, hb2⟩; have HB2 := Lib.hid (b_go HB1.out hb2); clear hb2)
        | (go_at_call 8; refine (HS.out _).mono ?_; rintro e w3 ⟨rfl, hb3⟩; have HB3 := Lib.hid (b_go HB2.out hb3); clear hb3))
      go_ret
      exact ⟨rfl, HB3.out⟩
end Rl
end Go.Proofs.YtangbokcdgganaaGreatDoor

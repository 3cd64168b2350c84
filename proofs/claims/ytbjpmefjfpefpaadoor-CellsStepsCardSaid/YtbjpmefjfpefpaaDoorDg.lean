/-
  THE WALK of the document's Next. Conditions: the cells lie in memory, each once, and where they may be.
-/
import Derived.Test.YtbjpmefjfpefpaaDoorDf
import Derived.Test.YtbjpmefjfpefpaaDoorDn
import Derived.BigRegion
namespace Go.Proofs.YtbjpmefjfpefpaaDoor
open Go.RowKit Ru Ce

theorem wr_in {x : Int} (h : -9223372036854775808 ≤ x ∧ x ≤ 9223372036854775807) : IntKind.i64.wrap x = x := by
  simp [IntKind.wrap, IntKind.bits, IntKind.signed]
  omega
theorem place_x (x : Int) (k : Nat) (h0 : -300000000000 ≤ x) (h1 : x ≤ 300000000000) : IntKind.i64.wrap (IntKind.i64.wrap (x + (k : Int).tmod 3) - 1) = x + ((k % 3 : Nat) : Int) - 1 := by
  have e : (k : Int).tmod 3 = ((k % 3 : Nat) : Int) := by rw [Int.tmod_eq_emod_of_nonneg (by omega)]; omega
  rw [e, wr_in (x := x + ((k % 3 : Nat) : Int)) (by omega), wr_in (by omega)]
theorem place_y (x : Int) (k : Nat) (hk : k < 9) (h0 : -300000000000 ≤ x) (h1 : x ≤ 300000000000) : IntKind.i64.wrap (IntKind.i64.wrap (x + IntKind.i64.wrap ((k : Int) / 3)) - 1) = x + ((k / 3 : Nat) : Int) - 1 := by
  have e : (k : Int) / 3 = ((k / 3 : Nat) : Int) := by omega
  rw [e, wr_in (x := ((k / 3 : Nat) : Int)) (by omega), wr_in (x := x + ((k / 3 : Nat) : Int)) (by omega), wr_in (by omega)]
/-- the rule's box, and a cell's -/
def S6 (w : World) (g : Nat) (bb ll : Nat) (b : Nat) (x : Cel) : Prop := (w.cell? ⟨g, 0, none⟩ = some (.int .u16 bb) ∧ w.cell? ⟨g, 1, none⟩ = some (.int .u16 ll)) ∧ w.cell? ⟨b, 0, none⟩ = some (.int .i64 x.1) ∧ w.cell? ⟨b, 1, none⟩ = some (.int .i64 x.2)
theorem S6.of {w0 w : World} {bb ll : Nat} {L Mo Ms : List Cel} {vo vs : Value} {b : Nat} {x : Cel} (h : NQ w0 w bb ll L Mo Ms vo vs) (hx : Bx w b x) : S6 w w0.heap.size bb ll b x := ⟨⟨cell_of_row _ _ 0 _ _ _ h.rb, cell_of_row _ _ 1 _ _ _ h.rb⟩, hx⟩
set_option maxRecDepth 100000 in
set_option maxHeartbeats 4000000 in
theorem next_q (bb ll : Nat) (hb : bb < 65536) (hl : ll < 65536) (a : Option Addr) (n c : Nat) (L : List Cel) (w : World) (ha : Cls w a L) (hn : L.length = n) (hm : n ≤ 4096) (hnd : L.Nodup) (hok : ∀ x ∈ L, okc x = true) :
    Calls Tryd.prog 33 #[Rv bb ll, .slice a n c] w (NextQ w (rul bb ll) L) := by
  have HA := Lib.hid ha
  have HL := Lib.hid hn
  have HND := Lib.hid hnd
  have HOK := Lib.hid hok
  have HIS := Lib.hid (fun W (hb : Below w.heap.size w W) x => isin_ref a n c L x W (ha.below hb (Nat.le_refl _)) hn (by omega))
  have HNX := Lib.hid (fun x k hk W => next_ref bb ll x k hb hl hk W)
  unfold Rv at HNX ⊢
  clear ha hn hnd hok hb hl
  go_enter Tryd.func33, Tryd.ntmps33
  go_wp2
  have HQ0 := Lib.hid (show NQ w (w.alloc (.cells #[.int .u16 bb, .int .u16 ll] 48)) bb ll L [] [] (.slice none 0 0) (.slice none 0 0) from NQ.nil (heap_alloc_new _ _) (alX _ _))
  generalize w.alloc (.cells #[.int .u16 bb, .int .u16 ll] 48) = w0 at HQ0 ⊢
  go_loopw [7, 5, 6] (fun i vo vs wr => ∃ k : Nat, k ≤ n ∧ i = .int .i64 k ∧ Hid (NQ w wr bb ll L (nbs (L.take k)) (nbs (L.take k)) vo vs)) (fun i _ _ _ => n - (intOf i).toNat)
  case atStart => exact ⟨0, by omega, rfl, by rw [List.take_zero]; exact HQ0⟩
  case round =>
    obtain ⟨i, hi, rfl, HQ⟩ := hrel
    clear HQ0
    have i0 : (0 : Int) ≤ (i : Int) := by omega
    by_cases hlt : i < n
    · have hil : i < L.length := by rw [HL.out]; exact hlt
      have i1 : (i : Int) < (n : Int) := by omega
      obtain ⟨p, hp⟩ : ∃ p, p = L[i] := ⟨_, rfl⟩
      have HP := Lib.hid hp
      have HPO := Lib.hid (show -274877906944 ≤ p.1 ∧ p.1 ≤ 274877906944 ∧ -274877906944 ≤ p.2 ∧ p.2 ≤ 274877906944 by rw [hp]; exact (okc_iff _).1 (HOK.out _ (List.getElem_mem hil)))
      have HCP := Lib.hid (show ∀ W, Below w.heap.size w W → ∃ b off, a = some ⟨b, off, none⟩ ∧ W.cell? ⟨b, off + i * 2, none⟩ = some (.int .i64 p.1) ∧ W.cell? ⟨b, off + i * 2 + 1, none⟩ = some (.int .i64 p.2) from fun W hW => by
        rw [hp]; exact (HA.out.below hW (Nat.le_refl _)) i hil)
      obtain ⟨b, off, hab, _⟩ := HCP.out _ HQ.out.bel
      subst hab
      clear hp
      go_wp2
      go_loopw [8, 5, 6] (fun j vo vs wr => ∃ k : Nat, k ≤ 9 ∧ j = .int .i64 k ∧ Hid (NQ w wr bb ll L (mk L i p k) (mk L i p k) vo vs)) (fun j _ _ _ => 9 - (intOf j).toNat)
      case atStart => exact ⟨0, by omega, rfl, by rw [mk_zero]; exact HQ⟩
      case round =>
        obtain ⟨k, hk, rfl, HK⟩ := hrel
        have k0 : (0 : Int) ≤ (k : Int) := by omega
        by_cases hk9 : k < 9
        · have k1 : (k : Int) < 9 := by omega
          obtain ⟨b', off', hab, c0, c1⟩ := HCP.out _ HK.out.bel
          obtain ⟨rfl, rfl⟩ : b = b' ∧ off = off' := by simpa using hab
          clear hab
          obtain ⟨x0, x1, y0, y1⟩ := HPO.out
          go_upto_region 8 with (fail)
          have KA := Lib.hid (And.intro c0 c1)
          have KD := Lib.hid (show wr.drew.cell? ⟨b, off + i * 2, none⟩ = some (.int .i64 p.1) ∧ wr.drew.cell? ⟨b, off + i * 2 + 1, none⟩ = some (.int .i64 p.2) from ⟨c0, c1⟩)
          have n1 := World.new_ne wr _ c0
          have n2 := World.new_ne wr _ c1
          go_region_held3 (fun w' => w'.cell? ⟨b, off + i * 2, none⟩ = some (.int .i64 p.1) ∧ w'.cell? ⟨b, off + i * 2 + 1, none⟩ = some (.int .i64 p.2)) (first | with_reducible exact KA.out | with_reducible exact KD.out | go_keep) (fail)
          rw [place_x p.1 k (by omega) (by omega), place_y p.2 k hk9 (by omega) (by omega)]
          obtain ⟨x, hx⟩ : ∃ x, x = pos p k := ⟨_, rfl⟩
          have HXP := Lib.hid hx
          have hx1 : p.1 + ((k % 3 : Nat) : Int) - 1 = x.1 := by rw [hx]; rfl
          have hx2 : p.2 + ((k / 3 : Nat) : Int) - 1 = x.2 := by rw [hx]; rfl
          have HXO := Lib.hid (show -300000000000 ≤ x.1 ∧ x.1 ≤ 300000000000 ∧ -300000000000 ≤ x.2 ∧ x.2 ≤ 300000000000 by omega)
          rw [hx1, hx2]
          have HK8 := Lib.hid (HK.out.on ((alX wr (.cells #[.int .i64 x.1, .int .i64 x.2] 24)).drew))
          have HB8 := Lib.hid (show Bx ((wr.alloc (.cells #[.int .i64 x.1, .int .i64 x.2] 24)).drew) wr.heap.size x from bx_new wr x)
          obtain ⟨S, hS1, hS2, hS3⟩ := HK.out.os
          have HNG := Lib.hid (show ¬ some wr.heap.size = _ from fun e => Nat.lt_irrefl _ (hS1.lt _ e.symm).2)
          have HSN := Lib.hid (show S.length ≤ 9 * L.length + 9 from Nat.le_trans hS3 (mk_len L i p k hk))
          obtain ⟨sa, sc, rfl, hsc, hsr⟩ := own_cls hS1
          have HSC := Lib.hid (hsc.below ((alX wr (.cells #[.int .i64 x.1, .int .i64 x.2] 24)).drew) (Nat.le_refl _))
          clear hsc hsr
          have HS1 := Lib.hid (own_keep hS1 ((alX wr (.cells #[.int .i64 x.1, .int .i64 x.2] 24)).drew) (Nat.le_refl _))
          have HS2 := Lib.hid hS2
          have HS3 := Lib.hid hS3
          clear hx hx1 hx2 hS1 hS2 hS3 KA KD n1 n2 x0 x1 y0 y1
          generalize (wr.alloc (.cells #[.int .i64 x.1, .int .i64 x.2] 24)).drew = w8 at HK8 HB8 HS1 HSC ⊢
          generalize wr.heap.size = gb at HB8 HNG ⊢
          have HHS := Lib.hid (fun W (hb : Below w8.heap.size w8 W) => isin_ref sa S.length sc S x W (HSC.out.below hb (Nat.le_refl _)) rfl (by have := HSN.out; have := HL.out; omega))
          obtain ⟨d0, d1⟩ := HB8.out
          by_cases hin : x ∈ S
          · rw [decide_eq_true hin] at HHS
            have HIN := Lib.hid ((HS2.out x).1 hin)
            clear hin
            go_wp2_with (go_at_call 13; refine (HHS.out _ (Below.refl _ _)).mono ?_; rintro e w9 ⟨rfl, hb9⟩; have HK9 := Lib.hid ((HK8.out.on hb9).seen HIN.out); clear hb9)
            go_roundw
            case rel => exact ⟨k + 1, by omega, by go_num, by rw [mk_succ, ← HXP.out]; exact HK9⟩
            case measure => simp [intOf]; omega
          · rw [decide_eq_false hin] at HHS
            clear hin
            obtain ⟨i0', hi', hz0, hz1, hz2⟩ := info_parts info_q
            have HI := Lib.hid hi'
            have HI0 := Lib.hid hz0
            have HI1 := Lib.hid hz1
            have HI2 := Lib.hid hz2
            clear hi' hz0 hz1 hz2
            have HGB := Lib.hid HB8.out.lt
            have HMM := Lib.hid hm
            go_wp2_with (first
              | (go_at_call 13; refine (HHS.out _ (Below.refl _ _)).mono ?_; rintro e w9 ⟨rfl, hb9⟩; have HK9 := Lib.hid (HK8.out.on hb9); have HS9 := Lib.hid (own_keep HS1.out hb9 (Nat.le_refl _)); have HB9 := Lib.hid (HB8.out.below hb9 HGB.out); obtain ⟨d2, d3⟩ := HB9.out; clear hb9)
              | (at_builtin; refine wpList_append_own_at _ rfl (.tmp 44) (.tmp 46) 22 rfl (w.heap.size + 1) 24 i0' (cv (0, 0)) 2 16 Tryd.underlying22 HI.out HI0.out HI1.out HI2.out rfl (by decide) _ S.length (cl S) rfl (HS9.out.alloc _) ⟨w9.heap.size, 0, none⟩ 1 1 (cc x) rfl rfl (cells2 _ _ x) (cc_one _) (by have := HSN.out; have := HL.out; have := HMM.out; unfold maxLen; omega) (by have := HSN.out; have := HL.out; have := HMM.out; omega) (by have := HK9.out.size; simp; omega) ?_; intro v2 w5 hown hgrow _ hat; have HK5 := Lib.hid (HK9.out.app (S := S) (c := x) HS2.out HS3.out (by have h9 := hown; rw [cl_snoc] at h9; exact h9) hgrow hat); have HB5 := Lib.hid (show Bx w5 gb x from ⟨hgrow.cell (cell_al _ HB9.out.1) HNG.out, hgrow.cell (cell_al _ HB9.out.2) HNG.out⟩); clear hown hgrow hat))
            clear HK9 HS9 HB9 HHS HK8 HS1 HSC HB8 HS2 HS3 HSN d0 d1 d2 d3 hm
            go_loopw [11, 10] (fun j m ws => ∃ q : Nat, q ≤ 9 ∧ j = .int .i64 q ∧ m = .int .i64 ((ab L x q : Nat) : Int) ∧ Hid (NQ w ws bb ll L (mk L i p k) (mk L i p k ++ [x]) _ v2) ∧ Hid (Bx ws gb x)) (fun j _ _ => 9 - (intOf j).toNat)
            case atStart => exact ⟨0, by omega, rfl, rfl, HK5, HB5⟩
            case round =>
              obtain ⟨q, hq, rfl, rfl, HKq, HBq⟩ := hrel
              clear HK5 HB5
              have q0 : (0 : Int) ≤ (q : Int) := by omega
              have HAL := Lib.hid (ab_le L x q)
              have e0 : (0 : Int) ≤ ((ab L x q : Nat) : Int) := by omega
              have e1 : ((ab L x q : Nat) : Int) ≤ 9 := by have := HAL.out; omega
              obtain ⟨d0, d1⟩ := HBq.out
              by_cases hq9 : q < 9
              · have q1 : (q : Int) < 9 := by omega
                have HSU := Lib.hid (ab_succ L x q)
                by_cases h4 : q = 4
                · subst h4
                  have HSU2 := Lib.hid (show ab L x 5 = ab L x 4 from HSU.out.trans (by simp))
                  go_wp2
                  go_roundw
                  case rel => exact ⟨5, by omega, rfl, by rw [HSU2.out], HKq, HBq⟩
                  case measure => simp [intOf]
                · have h4i : ¬ (q : Int) = 4 := by omega
                  rw [if_neg h4] at HSU
                  obtain ⟨x0, x1, y0, y1⟩ := HXO.out
                  have HHL := Lib.hid (fun W (hb : Below w.heap.size w W) => HIS.out W hb (x.1 + (q : Int) % 3 - 1, x.2 + (q : Int) / 3 - 1))
                  have hpq : ((x.1 + (q : Int) % 3 - 1, x.2 + (q : Int) / 3 - 1) : Cel) = pos x q := by unfold pos; simp
                  rw [hpq] at HHL
                  have hpq1 : (pos x q).1 = x.1 + (q : Int) % 3 - 1 := by rw [← hpq]
                  have hpq2 : (pos x q).2 = x.2 + (q : Int) / 3 - 1 := by rw [← hpq]
                  rw [hpq1, hpq2] at HHL
                  clear hpq hpq1 hpq2
                  by_cases hin : pos x q ∈ L
                  · rw [if_pos hin] at HSU
                    rw [decide_eq_true hin] at HHL
                    clear hin
                    go_wp2_with (go_at_call 13; refine (HHL.out _ HKq.out.bel).mono ?_; rintro e w9 ⟨rfl, hb9⟩; have HK9 := Lib.hid (HKq.out.on hb9); have HB9 := Lib.hid (HBq.out.below hb9 HBq.out.lt); clear hb9)
                    go_roundw
                    case rel => exact ⟨q + 1, by omega, by go_num, by rw [HSU.out]; go_num, HK9, HB9⟩
                    case measure => simp [intOf]; omega
                  · rw [if_neg hin] at HSU
                    rw [decide_eq_false hin] at HHL
                    clear hin
                    go_wp2_with (go_at_call 13; refine (HHL.out _ HKq.out.bel).mono ?_; rintro e w9 ⟨rfl, hb9⟩; have HK9 := Lib.hid (HKq.out.on hb9); have HB9 := Lib.hid (HBq.out.below hb9 HBq.out.lt); clear hb9)
                    go_roundw
                    case rel => exact ⟨q + 1, by omega, by go_num, by rw [HSU.out]; rfl, HK9, HB9⟩
                    case measure => simp [intOf]; omega
              · obtain rfl : q = 9 := by omega
                have HCN := Lib.hid (ab_all L HND.out x)
                have HC8 := Lib.hid (cnt_le L HND.out x)
                have HHX := Lib.hid (fun W (hb : Below w.heap.size w W) => HIS.out W hb x)
                have HNx := Lib.hid (fun W => HNX.out (decide (x ∈ L)) (cnt L x) HC8.out W)
                obtain ⟨al, hal⟩ : ∃ al, al = alive (rul bb ll) L x := ⟨_, rfl⟩
                have hpk : pick bb ll (decide (x ∈ L)) (cnt L x) = al := hal.symm
                rw [hpk] at HNx
                have HALV := Lib.hid hal
                rw [HCN.out] at e0 e1 ⊢
                clear hal hpk HCN
                generalize decide (x ∈ L) = dx at HHX HNx
                generalize cnt L x = cx at HNx HC8 e0 e1 ⊢
                have HSV := Lib.hid (S6.of HKq.out HBq.out)
                have HBD := Lib.hid HKq.out.bel.drew
                have HSD := Lib.hid (show S6 wr.drew w.heap.size bb ll gb x from HSV.out)
                have HKB := Lib.hid (show ∀ w1, Below wr.drew.heap.size wr.drew w1 → S6 w1 w.heap.size bb ll gb x from fun w1 hb => S6.of (HKq.out.on (und hb)) (HBq.out.below (und hb) HBq.out.lt))
                have HKC := Lib.hid (show ∀ w1, Below wr.drew.heap.size wr.drew w1 → ∀ w2, Below w1.heap.size w1 w2 → Below wr.heap.size wr w2 from fun w1 hb w2 hb2 => (und hb).trans (hb2.mono (und hb).size))
                have HKD := Lib.hid (show ∀ w2, Below wr.heap.size wr w2 → S6 w2 w.heap.size bb ll gb x from fun w1 hb => S6.of (HKq.out.on hb) (HBq.out.below hb HBq.out.lt))
                have HOL := Lib.hid (show (outs (rul bb ll) L (mk L i p k)).length ≤ 100000 from Nat.le_trans (outs_len _ _ _) (Nat.le_trans (mk_len L i p k hk) (by have := HL.out; have := HMM.out; omega)))
                unfold S6 at HSV HSD HKB HKD
                clear d0 d1 HIS HNX
                go_upto_region 17 with (fail)
                go_region_held3 (fun w' => (w'.cell? ⟨w.heap.size, 0, none⟩ = some (.int .u16 bb) ∧ w'.cell? ⟨w.heap.size, 1, none⟩ = some (.int .u16 ll)) ∧ w'.cell? ⟨gb, 0, none⟩ = some (.int .i64 x.1) ∧ w'.cell? ⟨gb, 1, none⟩ = some (.int .i64 x.2)) (first | with_reducible exact HSV.out | with_reducible exact HSD.out | with_reducible exact KE.out | with_reducible exact KF.out) (first | (go_at_call 13; refine (HHX.out _ HBD.out).mono ?_; rintro e w9 ⟨rfl, hb9⟩; have KE := Lib.hid (HKB.out w9 hb9)) | (go_at_call 47; refine (HNx.out _).mono ?_; rintro e w10 ⟨rfl, hb10⟩; have HB10 := Lib.hid (HKC.out w9 hb9 w10 hb10); have KF := Lib.hid (HKD.out w10 HB10.out)))
                have HK10 := Lib.hid (HKq.out.on HB10.out)
                have HX10 := Lib.hid (show Bx w10 gb x from KF.out.2)
                clear hb9 hb10 KE KF HSV HSD HKB HKC HKD HBD
                cases al
                · have HKN := Lib.hid (HK10.out.skip HALV.out.symm)
                  go_wp2
                  go_roundw
                  case rel => exact ⟨k + 1, by omega, by go_num, by rw [mk_succ, ← HXP.out]; exact HKN⟩
                  case measure => simp [intOf]; omega
                · obtain ⟨d0, d1⟩ := HX10.out
                  have HPUT := Lib.hid (put_ref HK10.out.oo HK10.out.size HOL.out x)
                  unfold cv at HPUT
                  go_wp2_with (go_at_call 26; refine HPUT.out.mono ?_; rintro e w11 ⟨v11, rfl, ho11, hv11, hb11⟩; have HKN := Lib.hid (HK10.out.puts HALV.out.symm ho11 hv11 hb11); clear ho11 hv11 hb11)
                  go_roundw
                  case rel => exact ⟨k + 1, by omega, by go_num, by rw [mk_succ, ← HXP.out]; exact HKN⟩
                  case measure => simp [intOf]; omega
        · obtain rfl : k = 9 := by omega
          have HME := Lib.hid (show mk L i p 9 = nbs (L.take (i + 1)) by rw [HP.out]; exact mk_all L i hil)
          rw [HME.out] at HK
          go_wp2
          go_roundw
          case rel => exact ⟨i + 1, by omega, by go_num, HK⟩
          case measure => simp [intOf]; omega
    · obtain rfl : i = n := by omega
      have HT := Lib.hid (show outs (rul bb ll) L (nbs (L.take i)) = nxt (rul bb ll) L by rw [List.take_of_length_le (by rw [HL.out]; exact Nat.le_refl _)]; rfl)
      have HOO := HQ.out.oo
      rw [HT.out] at HOO
      have HO := Lib.hid (own_monoC HOO (Nat.le_succ _))
      obtain ⟨ao, cap, rfl, hz⟩ := own_cls HOO
      clear HOO hz
      go_wp2
      go_ret
      exact ⟨_, rfl, HO.out, HQ.out.bel⟩
end Go.Proofs.YtbjpmefjfpefpaaDoor

/-
  THE WALK of FindBack. Conditions: the cells lie in memory; the library's table and the near sides lie as the texts lay them.
-/
import Derived.Test.YtifkhmcdgmnipaaDoorB48
import Derived.Test.YtifkhmcdgmnipaaDoorB49
namespace Go.Proofs.YtifkhmcdgmnipaaDoor
open Go.RowKit Ti Qd Ce Cl Go.Maps Go.WideMaps

set_option maxRecDepth 100000 in
set_option maxHeartbeats 4000000 in
theorem back_walk (lv : Int) (a : Option Addr) (n cap : Nat) (l : List Cel) (w : World) (hI : IsC w a n l) (hT : TabZ w) (hZ : NearZ w) :
    Calls Tryd.prog 3 #[.int .i64 lv, .slice a n cap] w fun e w' => e = .returned (.bool true) ∧ Below w.heap.size w w' := by
  have HT := Lib.hid (And.intro hT hZ)
  have HI := Lib.hid hI
  have n0 : (0 : Int) ≤ (n : Int) := by omega
  have HSU0 := Lib.hid (sure_any w hT hZ)
  clear hT hZ hI
  go_enter Tryd.func3, Tryd.ntmps3
  by_cases h60 : n ≤ 60
  · have h61 : ¬ (60 : Int) < (n : Int) := by omega
    have H60 := Lib.hid h60
    clear h60 HSU0
    obtain ⟨p, hp, ep⟩ := red_nat lv 12 (by decide) (by decide)
    have HP := Lib.hid (And.intro hp (show p < 38 by omega))
    have HK := Lib.hid (lvl_k (show p < 38 by omega))
    have HN := Lib.hid (new_lit 4000 4000 rfl w (by decide) (by decide))
    go_upto_region 4 with (fail)
    rw [show wrap64 (3 + wrap64 ((IntKind.u64.wrap lv).tmod 12)) = (p : Int) + 3 from by rw [show wrap64 ((IntKind.u64.wrap lv).tmod 12) = (p : Int) from ep]; exact HK.out]
    clear ep hp
    go_wp2_with fail
    refine HN.out.mono ?_
    rintro e w1 ⟨P, H, rfl, hs, hb⟩
    have HS := Lib.hid (And.intro hs hb)
    clear hs hb HN
    go_upto_region 9 with (fail)
    go_loopw [8, 9] (fun u i wr => ∃ k : Nat, k ≤ n ∧ i = .int .i64 k ∧ Hid (OwnC 33 wr w1.heap.size u k ((om (2 ^ (p + 3)) l).take k)) ∧ Hid (Below w1.heap.size w1 wr)) (fun _ i _ => n - (intOf i).toNat)
    case atStart => exact ⟨0, by omega, rfl, Lib.hid (by rw [List.take_zero]; exact World.ownsRow_nil _ _ _ _), Lib.hid (Below.refl _ _)⟩
    case round =>
      obtain ⟨k, hk, rfl, HO, HB⟩ := hrel
      have k0 : (0 : Int) ≤ (k : Int) := by omega
      by_cases hlt : k < n
      · have k1 : (k : Int) < (n : Int) := by omega
        have k2 : (k : Int) < 60 := by have := H60.out; omega
        have HLT := Lib.hid hlt
        have hkl : k < l.length := by rw [HI.out.len]; exact hlt
        obtain ⟨b, off, rfl, d0, d1⟩ := (HI.out.cls.below HS.out.2 (Nat.le_refl _)) k hkl
        have HTK := Lib.hid (om_take (2 ^ (p + 3)) l hkl)
        obtain ⟨x, hx⟩ : ∃ x, x = l[k] := ⟨_, rfl⟩
        rw [← hx] at d0 d1 HTK
        have HLD := Lib.hid (fun (W' : World) (h : Below w1.heap.size w1 W') => (⟨(h.cell (p := ⟨b, off + k * 2, none⟩) (World.block_lt_of_cell? w1 _ d0)).trans d0, (h.cell (p := ⟨b, off + k * 2 + 1, none⟩) (World.block_lt_of_cell? w1 _ d1)).trans d1⟩ : W'.cell? ⟨b, off + k * 2, none⟩ = some (.int .i64 x.1) ∧ W'.cell? ⟨b, off + k * 2 + 1, none⟩ = some (.int .i64 x.2)))
        obtain ⟨c0, c1⟩ := HLD.out _ HB.out
        clear d0 d1
        clear hx hkl
        obtain ⟨M, hM⟩ : ∃ M, M = 2 ^ (p + 3) := ⟨_, rfl⟩
        have HM := Lib.hid hM
        clear hM
        have hz : ¬ (IntKind.u64.wrap (2 ^ min (IntKind.u64.wrap ((p : Int) + 3)).toNat 64) = 0) := by
          rw [u64_lvl HP.out.2, shl_u64 HP.out.2 HM.out]
          have := HM.out
          have := Nat.two_pow_pos (p + 3)
          omega
        go_upto_region 11 with (fail)
        have HBX := Lib.hid (fun (o : Obj) => (HB.out.trans ((alX wr o).mono HB.out.size) : Below w1.heap.size w1 (wr.alloc o)))
        go_region_held3 (fun w' => w'.cell? ⟨b, off + k * 2, none⟩ = some (.int .i64 x.1) ∧ w'.cell? ⟨b, off + k * 2 + 1, none⟩ = some (.int .i64 x.2)) (first | exact HLD.out _ HB.out | exact HLD.out _ (HBX.out _) | exact HLD.out _ (HBX.out _).drew | exact HLD.out _ HB.out.drew | exact HLD.out _ (by assumption)) (first | (refine step_appA rfl (.tmp 56) (.tmp 80) rfl w1.heap.size k u8 ((om (2 ^ (p + 3)) l).take k) rfl (own_keep HO.out (alX wr _).drew (Nat.le_refl _)) ⟨wr.heap.size, 0, none⟩ (IntKind.i64.wrap ((IntKind.u64.wrap x.fst).tmod (IntKind.u64.wrap (2 ^ min (IntKind.u64.wrap ((p : Int) + 3)).toNat 64))), IntKind.i64.wrap ((IntKind.u64.wrap x.snd).tmod (IntKind.u64.wrap (2 ^ min (IntKind.u64.wrap ((p : Int) + 3)).toNat 64)))) rfl (cells2 _ _ _) (by have := HLT.out; have := H60.out; omega) (by have := (HBX.out (.cells #[] 3)).size; exact Nat.le_trans HB.out.size (by simp)) ?_; intro vA wA hoA hgA hatA; have hbA : Below w1.heap.size w1 wA := (HBX.out _).drew.grown hgA (Nat.le_trans HB.out.size (alX wr _).drew.size) (fun j hj => (HO.out.lt j hj).1)))
        all_goals (
          have HOA := Lib.hid (show OwnC 33 wA w1.heap.size vA (k + 1) ((om (2 ^ (p + 3)) l).take (k + 1)) from by
            rw [HTK.out]
            have h9 := hoA
            rw [u64_lvl HP.out.2, shl_u64 HP.out.2 HM.out, rd_is, rd_is, HM.out] at h9
            exact h9)
          have HBA := Lib.hid hbA
          clear hoA hgA hatA hbA c0 c1 hz
          go_wp2
          go_roundw
          case rel => exact ⟨k + 1, by have := HLT.out; omega, by go_num, HOA, HBA⟩
          case measure => have := HLT.out; simp [intOf]; omega)
      · obtain rfl : k = n := by omega
        have k1 : ¬ (k : Int) < (k : Int) := by omega
        have hol := HO.out
        rw [List.take_of_length_le (by rw [om_len, HI.out.len]; exact Nat.le_refl _)] at hol
        obtain ⟨ao, co, rfl, hly, hnb⟩ := own_lyc hol
        have hen : (om (2 ^ (p + 3)) l).length = k := by rw [om_len, HI.out.len]
        rw [hen]
        have hin := om_in HP.out.2 l
        have hsr := HS.out.1.below HB.out (Nat.le_refl _)
        have hof := of_of hsr.inv (n := p) (by have := HP.out.1; omega) _ hin
        have hbw := HS.out.2.trans (HB.out.mono HS.out.2.size)
        have HOF := Lib.hid (of_lit hsr p (by have := HP.out.1; omega) ((p : Int) + 3) rfl ao (om (2 ^ (p + 3)) l) k co hen (by have := H60.out; omega) hly (fun b o e hh => by
          have h1 := hnb b o e
          have h2 := (HS.out.1.lt b hh).2
          omega) hin (of_room hsr.inv (by have := HP.out.1; omega) hin (by
            rw [hen]
            have h1 := HP.out.1
            have h2 := H60.out
            have h3 : k * (p + 1) ≤ 60 * 12 := Nat.mul_le_mul h2 (by omega)
            simp
            omega)))
        have HX := Lib.hid (And.intro hsr (And.intro hin (And.intro hbw hen)))
        clear hol hly hnb hen hin hsr hof hbw HO
        go_wp2_with fail
        refine HOF.out.mono ?_
        rintro e w2 ⟨rfl, hg⟩
        have hof := of_goes HX.out.1 (by have := HP.out.1; omega) HX.out.2.1 hg
        obtain ⟨H2, hs2, hb2, hst⟩ := goes_bel (n := w.heap.size) HX.out.1 (Nat.le_refl _) HX.out.2.2.1.size hg
        generalize om (2 ^ (p + 3)) l = ol at *
        generalize ofL p ol (emp [] p) = r at *
        have hbw2 := HX.out.2.2.1.trans hb2
        have hnd := lst_nodup hof.inv p r.2 hof.lv
        have hm60 : (lst r.1 p r.2).length ≤ 60 := by
          rw [← srt_nodup_len hnd, hof.srt]
          exact Nat.le_trans (srt_len ol) (by rw [HX.out.2.2.2]; exact H60.out)
        have hcnt : (at' r.1 r.2).cnt = ((lst r.1 p r.2).length : Int) := by
          rw [cnt_lst hof.inv p r.2 hof.lv]
          unfold big
          omega
        have hcs := cells_ok hs2 p (by have := HP.out.1; omega) r.2 hof.lv (by rw [hcnt]; omega) (HT.out.1.below hbw2)
        have HC := Lib.hid hcs
        have hlen := srt_nodup_len hnd
        have hsm : ∀ c, c ∈ srt (lst r.1 p r.2) ↔ c ∈ ol := fun c => by rw [srt_mem, hof.mem]
        have hsi : ∀ c ∈ srt (lst r.1 p r.2), InS p c := fun c hc => HX.out.2.1 c ((hsm c).1 hc)
        have hbk := hof.back (by have := HP.out.1; omega) hsi hsm
        have hlr : r.1.length ≤ 732 := by
          have h1 := hof.len
          rw [HX.out.2.2.2] at h1
          have h2 := HP.out.1
          have h3 : k * (p + 1) ≤ 60 * 12 := Nat.mul_le_mul H60.out (by omega)
          simp at h1
          omega
        have HY := Lib.hid (And.intro hs2 (And.intro hof (And.intro hbw2 (And.intro hm60 (And.intro hcnt (And.intro hlen (And.intro hsi (And.intro hbk hlr))))))))
        clear hs2 hof hbw2 hm60 hcnt hcs hlen hsm hsi hbk hlr hnd hb2 hst hg HOF
        go_wp2_with fail
        refine HC.out.mono ?_
        rintro e w3 ⟨v, rfl, hown, hb3⟩
        obtain ⟨a3, c3, rfl, hly, hnb⟩ := own_lyc hown
        rw [HY.out.2.2.2.2.2.1]
        have hs3 := HY.out.1.below hb3 (Nat.le_refl _)
        have hnh : ∀ b o, a3 = some ⟨b, o, none⟩ → ¬ H2 b := fun b o e hh => by
          have h1 := hnb b o e
          have h2 := (HY.out.1.lt b hh).2
          omega
        have hof2 := of_of hs3.inv (n := p) (by have := HP.out.1; omega) _ HY.out.2.2.2.2.2.2.1
        have HOF := Lib.hid (of_lit hs3 p (by have := HP.out.1; omega) ((p : Int) + 3) rfl a3 (srt (lst r.1 p r.2)) (lst r.1 p r.2).length c3 HY.out.2.2.2.2.2.1 (by have := HY.out.2.2.2.1; omega) hly hnh HY.out.2.2.2.2.2.2.1 (of_room hs3.inv (by have := HP.out.1; omega) HY.out.2.2.2.2.2.2.1 (by
            rw [HY.out.2.2.2.2.2.1]
            have h1 := HP.out.1
            have h2 := HY.out.2.2.2.1
            have h4 := HY.out.2.2.2.2.2.2.2.2
            have h3 : (lst r.1 p r.2).length * (p + 1) ≤ 60 * 12 := Nat.mul_le_mul h2 (by omega)
            omega)))
        have hb13 := HY.out.2.2.1.trans (hb3.mono HY.out.2.2.1.size)
        have HZ := Lib.hid (And.intro hs3 (And.intro hnh (And.intro hof2 (And.intro hb13 hly))))
        clear hown hb3 hly hnb hs3 hnh hof2 hb13 HC HX
        go_wp2_with fail
        refine HOF.out.mono ?_
        rintro e w4 ⟨rfl, hg⟩
        obtain ⟨H4, hs4, hb4, hst⟩ := goes_bel (n := w.heap.size) HZ.out.1 (Nat.le_refl _) HZ.out.2.2.2.1.size hg
        rw [HY.out.2.2.2.2.2.2.2.1]
        have hof2 := HZ.out.2.2.1
        have hly := HZ.out.2.2.2.2.same (fun b o e hlt => hst.block b hlt (HZ.out.2.1 b o e))
        have hbw4 := HZ.out.2.2.2.1.trans hb4
        have hll := lst_ext HY.out.2.1.inv hof2.ext p _ HY.out.2.1.lv
        have hlv := HY.out.2.1.lv.ext hof2.ext
        have hcn : (at' (ofL p (srt (lst r.1 p r.2)) (emp r.1 p)).1 r.2).cnt = ((lst r.1 p r.2).length : Int) := by
          have h1 := cnt_lst hof2.inv p r.2 hlv
          rw [hll] at h1
          have h2 := HY.out.2.2.2.1
          unfold big at h1
          omega
        have hct := count_ok hs4 r.2 hlv.1
        rw [hcn] at hct
        have HCT := Lib.hid hct
        have hinv := hof2.inv
        have hss := srt_srt (lst r.1 p r.2)
        generalize ofL p (srt (lst r.1 p r.2)) (emp r.1 p) = r2 at *
        have HV := Lib.hid (And.intro hs4 (And.intro hinv (And.intro hlv (And.intro hll (And.intro hcn (And.intro hbw4 (And.intro hly (And.intro HY.out.2.2.2.1 (And.intro HY.out.2.2.2.2.2.1 (And.intro HY.out.2.2.2.2.2.2.1 (And.intro hss (srt_mem (lst r.1 p r.2)))))))))))))
        clear hg hs4 hb4 hst hof2 hly hbw4 hll hlv hcn hct hinv hss HOF HY HZ
        generalize lst r.1 p r.2 = ll at *
        generalize r.2 = id at *
        obtain ⟨m, hm⟩ : ∃ m, m = ll.length := ⟨_, rfl⟩
        rw [← hm] at HCT ⊢
        have HM := Lib.hid hm
        clear hm
        go_wp2_with fail
        refine HCT.out.mono ?_
        rintro e w5 ⟨rfl, hb5⟩
        have HB5 := Lib.hid hb5
        clear hb5 HCT
        have HB45 := Lib.hid (fun (W : World) (h : Below w5.heap.size w5 W) => (HB5.out.trans (h.mono HB5.out.size) : Below w4.heap.size w4 W))
        go_upto_region 19 with (fail)
        go_loopw [4, 18] (fun v i wq => ∃ j : Nat, j ≤ m ∧ v = .bool false ∧ i = .int .i64 j ∧ Hid (Below w5.heap.size w5 wq)) (fun _ i _ => m - (intOf i).toNat)
        case atStart => exact ⟨0, by omega, rfl, rfl, Lib.hid (Below.refl _ _)⟩
        case round =>
          obtain ⟨j, hj, rfl, rfl, HW⟩ := hrel
          have j0 : (0 : Int) ≤ (j : Int) := by omega
          by_cases hlt2 : j < m
          · have j1 : (j : Int) < (m : Int) := by omega
            have j2 : (j : Int) < 60 := by have := HV.out.2.2.2.2.2.2.2.1; have := HM.out; omega
            have HLT := Lib.hid hlt2
            have hjl : j < (srt ll).length := by rw [HV.out.2.2.2.2.2.2.2.2.1, ← HM.out]; exact hlt2
            obtain ⟨b, off, rfl, d0, d1⟩ := HV.out.2.2.2.2.2.2.1 j _ (List.getElem?_eq_getElem hjl)
            have HXI := Lib.hid (List.getElem_mem hjl)
            obtain ⟨x, hx⟩ : ∃ x, x = (srt ll)[j] := ⟨_, rfl⟩
            rw [← hx] at d0 d1 HXI
            have HXJ := Lib.hid (show (srt ll)[j]? = some x by rw [hx]; exact List.getElem?_eq_getElem hjl)
            clear hx hjl hlt2
            have HLD := Lib.hid (fun (W' : World) (h : Below w4.heap.size w4 W') => (⟨(h.cell (p := ⟨b, off + j * 2, none⟩) (World.block_lt_of_cell? w4 _ d0)).trans d0, (h.cell (p := ⟨b, off + j * 2 + 1, none⟩) (World.block_lt_of_cell? w4 _ d1)).trans d1⟩ : W'.cell? ⟨b, off + j * 2, none⟩ = some (.int .i64 x.1) ∧ W'.cell? ⟨b, off + j * 2 + 1, none⟩ = some (.int .i64 x.2)))
            obtain ⟨c0, c1⟩ := HLD.out _ (HB45.out _ HW.out)
            clear d0 d1
            have HGT := Lib.hid (fun (W : World) (h : Below w5.heap.size w5 W) => (by
              have hin := HV.out.2.2.2.2.2.2.2.2.2.1 x HXI.out
              have hnat := ins_nat hin
              unfold InS at hin
              have h2 := get_is p id x.1.toNat x.2.toNat W (HV.out.1.below (HB45.out _ h) (Nat.le_refl _)) HV.out.2.2.1 (by have := HP.out.1; omega) hnat.1 hnat.2
              rw [(cel_lst HV.out.2.1 HV.out.2.2.1 hnat.1 hnat.2).2 (by
                rw [HV.out.2.2.2.1, ← srt_mem]
                have e : (((x.1.toNat : Nat) : Int), ((x.2.toNat : Nat) : Int)) = x := Prod.ext (by show _ = x.1; simp only; omega) (by show _ = x.2; simp only; omega)
                rw [e]
                exact HXI.out), show ((x.1.toNat : Nat) : Int) = x.1 by omega, show ((x.2.toNat : Nat) : Int) = x.2 by omega] at h2
              exact h2 : Calls Tryd.prog 11 #[.pointer (some ⟨P, 0, none⟩), .int .i64 id, .int .i64 x.1, .int .i64 x.2] W fun e w' => e = .returned (.tuple #[.bool true, .nilIface]) ∧ Below W.heap.size W w'))
            go_upto_region 21 with (fail)
            go_region_held3 (fun w' => w'.cell? ⟨b, off + j * 2, none⟩ = some (.int .i64 x.1) ∧ w'.cell? ⟨b, off + j * 2 + 1, none⟩ = some (.int .i64 x.2)) (first | exact HLD.out _ (HB45.out _ HW.out) | exact HLD.out _ (HB45.out _ HW.out.drew) | exact HLD.out _ (HB45.out _ (by assumption))) ((go_at_call 11; refine (HGT.out _ (by first | exact HW.out | exact HW.out.drew)).mono ?_; rintro e w6 ⟨rfl, hb6⟩; have hb56 : Below w5.heap.size w5 w6 := HW.out.trans (((Below.refl _ _).drew.trans hb6).mono HW.out.size); clear hb6))
            have HB6 := Lib.hid hb56
            have HLE := Lib.hid (show Below w5.heap.size w5 w6 → w6.cell? ⟨b, off + j * 2, none⟩ = some (.int .i64 x.1) ∧ w6.cell? ⟨b, off + j * 2 + 1, none⟩ = some (.int .i64 x.2) from fun h => HLD.out _ (HB45.out _ h))
            clear hb56 c0 c1
            obtain ⟨c0, c1⟩ := HLE.out HB6.out
            rcases Nat.eq_zero_or_pos j with hj0 | hj0
            · subst hj0
              go_upto_region 22 with (fail)
              go_region
              go_wp2
              go_roundw
              case rel => exact ⟨0 + 1, by have := HLT.out; omega, rfl, by go_num, Lib.hid HB6.out.drew⟩
              case measure => have := HLT.out; simp [intOf]; omega
            · obtain ⟨i, hji⟩ : ∃ i, j = i + 1 := ⟨j - 1, by omega⟩
              have HJI := Lib.hid hji
              clear hji
              have hil : i < (srt ll).length := by rw [HV.out.2.2.2.2.2.2.2.2.1, ← HM.out]; have := HLT.out; have := HJI.out; omega
              obtain ⟨b', off', hab, d0, d1⟩ := HV.out.2.2.2.2.2.2.1 i _ (List.getElem?_eq_getElem hil)
              obtain ⟨rfl, rfl⟩ : b = b' ∧ off = off' := by injection hab with h1; injection h1 with h2 h3; exact ⟨h2, h3⟩
              have hsn := srt_next HV.out.2.2.2.2.2.2.2.2.2.2.1 (List.getElem?_eq_getElem hil) (by rw [← HJI.out]; exact HXJ.out)
              obtain ⟨y, hy⟩ : ∃ y, y = (srt ll)[i] := ⟨_, rfl⟩
              rw [← hy] at d0 d1 hsn
              clear hy hab hil
              have hb46 := HB45.out _ HB6.out
              have y0 := (hb46.cell (p := ⟨b, off + i * 2, none⟩) (World.block_lt_of_cell? w4 _ d0)).trans d0
              have y1 := (hb46.cell (p := ⟨b, off + i * 2 + 1, none⟩) (World.block_lt_of_cell? w4 _ d1)).trans d1
              have hij : i = j - 1 := by have := HJI.out; omega
              rw [hij] at y0 y1
              have i2 : (0 : Int) < (j : Int) := by omega
              clear d0 d1 hb46 hij
              have hd1 : decide ((0 : Int) < (j : Int)) = true := decide_eq_true i2
              by_cases hyx : y.2 < x.2
              · have q1 : decide (x.2 < y.2) = false := decide_eq_false (by omega)
                have q2 : (y.2 == x.2) = false := by have : ¬ y.2 = x.2 := by omega
                                                     simp [this]
                clear hsn hyx
                go_upto_region 22 with (fail)
                go_quiet (fail)
                clear y0 y1 c0 c1 hd1 q1 q2
                go_wp2
                go_roundw
                case rel => exact ⟨j + 1, by have := HLT.out; omega, rfl, by go_num, Lib.hid (bdn HB6.out nq)⟩
                case measure => have := HLT.out; simp [intOf]; omega
              · obtain ⟨e2, e1⟩ : y.2 = x.2 ∧ y.1 < x.1 := by
                  rcases hsn with h | h
                  · exact absurd h hyx
                  · exact h
                have q1 : decide (x.2 < y.2) = false := decide_eq_false (by omega)
                have q2 : (y.2 == x.2) = true := by simp [e2]
                have q3 : decide (x.1 ≤ y.1) = false := decide_eq_false (by omega)
                clear hsn hyx e1 e2
                go_upto_region 22 with (fail)
                go_quiet (fail)
                clear y0 y1 c0 c1 hd1 q1 q2
                go_wp2
                go_roundw
                case rel => exact ⟨j + 1, by have := HLT.out; omega, rfl, by go_num, Lib.hid (bdn HB6.out nq)⟩
                case measure => have := HLT.out; simp [intOf]; omega
          · obtain rfl : j = m := by omega
            have j1 : ¬ (j : Int) < (j : Int) := by omega
            have hbq := HB45.out _ HW.out
            have hsq := HV.out.1.below hbq (Nat.le_refl _)
            have hbwq := HV.out.2.2.2.2.2.1.trans (hbq.mono HV.out.2.2.2.2.2.1.size)
            rcases Nat.eq_zero_or_pos j with h0 | h0
            · subst h0
              have HBX := Lib.hid (box_none hsq id HV.out.2.2.1.1 (by rw [HV.out.2.2.2.2.1, ← HM.out]; rfl))
              have HBW := Lib.hid hbwq
              clear hbq hsq hbwq
              unfold cv at *
              go_wp2_with fail
              refine HBX.out.mono ?_
              rintro e w6 ⟨rfl, hb6⟩
              have hb7 : Below w.heap.size w ((w6.alloc (ca2 (0, 0))).alloc (ca2 (0, 0))) := HBW.out.trans ((hb6.trans ((bstep (alX w6 _) (alX _ _)).mono hb6.size)).mono HBW.out.size)
              obtain ⟨c0, c1, _, _⟩ := row_cl (row_keep (heap_alloc_new w6 (ca2 (0, 0))) (alX _ (ca2 (0, 0))) (Nat.le_refl _))
              have hr2 : ((w6.alloc (ca2 (0, 0))).alloc (ca2 (0, 0))).heap[w6.heap.size + 1]? = some (ca2 (0, 0)) := by
                have := heap_alloc_new (w6.alloc (ca2 (0, 0))) (ca2 (0, 0))
                rw [World.size_alloc] at this
                exact this
              obtain ⟨d0, d1, _, _⟩ := row_cl hr2
              have HSU := Lib.hid (sure_any _ (HT.out.1.below hb7) (HT.out.2.below hb7))
              have HB7 := Lib.hid hb7
              have q1 := eql_c (0, 0) (0, 0)
              rw [decide_eq_true rfl] at q1
              clear hb6 hb7 hr2 HBX
              unfold ca2 at *
              simp only at *
              go_wp2_with fail
              refine HSU.out.mono ?_
              rintro e w8 ⟨rfl, hb8⟩
              have HB8 := Lib.hid (HB7.out.trans (hb8.mono HB7.out.size))
              clear hb8 HSU
              go_wp2
              go_ret
              exact ⟨rfl, HB8.out⟩
            · have hj1 : (0 : Int) < (j : Int) := by omega
              have HBX := Lib.hid (box_some hsq (HT.out.1.below hbwq) (HT.out.2.below hbwq) p (by have := HP.out.1; omega) id HV.out.2.2.1 (by rw [HV.out.2.2.2.2.1, ← HM.out]; exact hj1))
              have HSQ := Lib.hid (And.intro hsq hbwq)
              clear hbq hsq hbwq
              unfold cv at *
              go_wp2_with fail
              refine HBX.out.mono ?_
              rintro e w6 ⟨lo, hi, rfl, hbx, hb6⟩
              have hb7q : Below wr.heap.size wr ((w6.alloc (ca2 lo)).alloc (ca2 hi)) := hb6.trans ((bstep (alX w6 _) (alX _ _)).mono hb6.size)
              have hb7 := HSQ.out.2.trans (hb7q.mono HSQ.out.2.size)
              have hr1 := row_keep (heap_alloc_new w6 (ca2 lo)) (alX _ (ca2 hi)) (Nat.le_refl _)
              have hr2 : ((w6.alloc (ca2 lo)).alloc (ca2 hi)).heap[w6.heap.size + 1]? = some (ca2 hi) := by
                have := heap_alloc_new (w6.alloc (ca2 lo)) (ca2 hi)
                rw [World.size_alloc] at this
                exact this
              have hsb := HSQ.out.1.below hb7q (Nat.le_refl _)
              have hbi := box_in HV.out.2.1 HV.out.2.2.1 hbx
              have h12 : ((2 ^ (p + 3) : Nat) : Int) ≤ 1099511627776 := by have := pow_le HP.out.2; omega
              have hlm : ((lst r2.1 p id).length : Int) = (j : Int) := by rw [HV.out.2.2.2.1, ← HM.out]
              have hl4 : (lst r2.1 p id).length ≤ 4096 := by rw [HV.out.2.2.2.1]; have := HV.out.2.2.2.2.2.2.2.1; omega
              have k1 := inV_all hbx hl4
              have k2 := less1 hbx
              have k3 := less2 hbx
              have k4 := less3 hbx
              have k5 := less4 hbx
              rw [hlm] at k1 k2 k3 k4 k5
              have HQ := Lib.hid (And.intro k1 (And.intro k2 (And.intro k3 (And.intro k4 k5))))
              have hw1 : wrap64 (lo.1 + 1) = lo.1 + 1 := by unfold wrap64; omega
              have hw2 : wrap64 (lo.2 + 1) = lo.2 + 1 := by unfold wrap64; omega
              have hw3 : wrap64 (hi.1 - 1) = hi.1 - 1 := by unfold wrap64; omega
              have hw4 : wrap64 (hi.2 - 1) = hi.2 - 1 := by unfold wrap64; omega
              have HX := Lib.hid (And.intro hsb hb7)
              clear hb6 hb7q hb7 hsb hbi h12 hlm hl4 k1 k2 k3 k4 k5 hbx HBX HSQ
              unfold ca2 at *
              simp only at *
              go_upto_region 25 with (fail)
              generalize (w6.alloc (.cells #[.int .i64 lo.1, .int .i64 lo.2] 33)).alloc (.cells #[.int .i64 hi.1, .int .i64 hi.2] 33) = W7 at *
              generalize w6.heap.size = g at *
              have HR := Lib.hid (fun (W : World) (h : Below W7.heap.size W7 W) => And.intro (row_keep hr1 h (Nat.le_refl _)) (row_keep hr2 h (Nat.le_refl _)))
              have HIN := Lib.hid (fun (W : World) (h : Below W7.heap.size W7 W) (lo hi : Cel) => in_ok (HX.out.1.below h (Nat.le_refl _)) (HT.out.1.below (HX.out.2.trans (h.mono HX.out.2.size))) p (by have := HP.out.1; omega) id HV.out.2.2.1 lo hi)
              unfold cv at HIN
              obtain ⟨c0, c1, _, _⟩ := row_cl hr1
              obtain ⟨d0, d1, _, _⟩ := row_cl hr2
              clear hr1 hr2
              go_wp2_with fail
              refine (HIN.out _ (Below.refl _ _) lo hi).mono ?_
              rintro e w8 ⟨rfl, hb⟩
              rw [HQ.out.1]
              have HB8 := Lib.hid hb
              clear hb c0 c1 d0 d1
              obtain ⟨c0, c1, _, _⟩ := row_cl (HR.out _ HB8.out).1
              obtain ⟨d0, d1, _, _⟩ := row_cl (HR.out _ HB8.out).2
              go_wp2_with fail
              refine (HIN.out _ HB8.out (lo.1 + 1, lo.2) hi).mono ?_
              rintro e w9 ⟨rfl, hb⟩
              have k2 := HQ.out.2.1
              have HB9 := Lib.hid (HB8.out.trans (hb.mono HB8.out.size))
              clear hb c0 c1 d0 d1 HB8
              generalize inV r2.1 p id (lo.1 + 1, lo.2) hi = x2 at k2 ⊢
              obtain ⟨c0, c1, _, _⟩ := row_cl (HR.out _ HB9.out).1
              obtain ⟨d0, d1, _, _⟩ := row_cl (HR.out _ HB9.out).2
              have HK2 := Lib.hid k2
              clear k2
              go_wp2_with fail
              refine (HIN.out _ HB9.out (lo.1, lo.2 + 1) hi).mono ?_
              rintro e w10 ⟨rfl, hb⟩
              have k3 := HQ.out.2.2.1
              have HB10 := Lib.hid (HB9.out.trans (hb.mono HB9.out.size))
              clear hb c0 c1 d0 d1 HB9
              generalize inV r2.1 p id (lo.1, lo.2 + 1) hi = x3 at k3 ⊢
              obtain ⟨c0, c1, _, _⟩ := row_cl (HR.out _ HB10.out).1
              obtain ⟨d0, d1, _, _⟩ := row_cl (HR.out _ HB10.out).2
              have HK3 := Lib.hid k3
              clear k3
              go_wp2_with fail
              refine (HIN.out _ HB10.out lo (hi.1 - 1, hi.2)).mono ?_
              rintro e w11 ⟨rfl, hb⟩
              have k4 := HQ.out.2.2.2.1
              have HB11 := Lib.hid (HB10.out.trans (hb.mono HB10.out.size))
              clear hb c0 c1 d0 d1 HB10
              generalize inV r2.1 p id lo (hi.1 - 1, hi.2) = x4 at k4 ⊢
              obtain ⟨c0, c1, _, _⟩ := row_cl (HR.out _ HB11.out).1
              obtain ⟨d0, d1, _, _⟩ := row_cl (HR.out _ HB11.out).2
              have HK4 := Lib.hid k4
              clear k4
              go_wp2_with fail
              refine (HIN.out _ HB11.out lo (hi.1, hi.2 - 1)).mono ?_
              rintro e w12 ⟨rfl, hb⟩
              have k5 := HQ.out.2.2.2.2
              have HB12 := Lib.hid (HX.out.2.trans ((HB11.out.trans (hb.mono HB11.out.size)).mono HX.out.2.size))
              clear hb c0 c1 d0 d1 HB11 HIN HR
              generalize inV r2.1 p id lo (hi.1, hi.2 - 1) = x5 at k5 ⊢
              have HSU := Lib.hid (sure_any _ (HT.out.1.below HB12.out) (HT.out.2.below HB12.out))
              have k2 := HK2.out
              have k3 := HK3.out
              have k4 := HK4.out
              clear hw1 hw2 hw3 hw4
              go_wp2_with fail
              refine HSU.out.mono ?_
              rintro e w13 ⟨rfl, hb⟩
              have HB13 := Lib.hid (HB12.out.trans (hb.mono HB12.out.size))
              clear hb HSU
              go_wp2
              go_ret
              exact ⟨rfl, HB13.out⟩
  · have h61 : (60 : Int) < (n : Int) := by omega
    clear h60
    go_wp2_with fail
    refine HSU0.out.mono ?_
    rintro e w1 ⟨rfl, hb⟩
    have HB := Lib.hid hb
    clear hb HSU0
    go_wp2
    go_ret
    exact ⟨rfl, HB.out⟩
end Go.Proofs.YtifkhmcdgmnipaaDoor

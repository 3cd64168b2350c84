/-
  THE WALK of the statement on a page and its bytes. Conditions: what came in could be read; errors.errorType is as the program's text lays it.
-/
import Derived.Test.YtmfddecndadohaaDoorSam
import Derived.Test.YtmfddecndadohaaDoorPartsW
import Derived.Test.YtmfddecndadohaaDoorRotm
import Derived.Test.YtmfddecndadohaaDoorThree
import Derived.BigRegion
namespace Go.Proofs.YtmfddecndadohaaDoor
open Go.RowKit Crc

/-- an error, or none -/
def errB (B : Bool) (k : Int) : Value := if B then .nilIface else .iface 52 (.int .i64 k)
set_option maxRecDepth 100000 in
theorem errB_eql (B : Bool) (k : Int) (W : World) : (binOp .eql 32 (errB B k) .nilIface).run Tryd.prog W = .ok (.bool B) W := by
  cases B <;> simp [errB, go_sem]
set_option maxRecDepth 100000 in
theorem errB_guard (x : Operand) (B : Bool) (k : Int) (W : World) : (eqGuard .eql 32 x (.const .nilIface) (errB B k) .nilIface).run Tryd.prog W = .ok () W := by
  cases B <;> simp [errB, eqGuard, go_sem]
/-- what page.Decode answers, whatever the bytes are -/
def DecOut (w : World) (xs : List Int) (e : Ending) (w' : World) : Prop :=
  ∃ (B : Bool) (k ki nu ep si : Int) (rs : List (List Int)) (ra : Option Addr) (n cap : Nat), e = .returned (.tuple #[.agg #[.int .u8 ki, .int .u32 nu, .int .u64 ep, .int .i64 si, .slice ra n cap], errB B k]) ∧ Below w.heap.size w w' ∧
    (B = true → OwnRecs w' (.slice ra n cap) n rs ∧ (Pg.mkPg ki nu ep si rs).may = true ∧ (Pg.mkPg ki nu ep si rs).Fit ∧ (Pg.mkPg ki nu ep si rs).bytes = xs)
theorem pgOf_fit {xs : List Int} (s n : Nat) (hb : Byte xs) (hl : xs.length = 512) : (pgOf xs s n).Fit := by
  have h0 := getD_byte hb 0
  have h1 := num_cutb hb 1 4 (by omega)
  have h2 := num_cutb hb 5 8 (by omega)
  exact ⟨h0.1, h0.2, h1.1, h1.2, h2.1, h2.2⟩
theorem decode_out (a : Option Addr) (n c : Nat) (xs : List Int) (w : World) (hn : xs.length = n) (hx : Lies w a xs) (hc : n ≤ c) :
    Calls Tryd.prog 19 #[.slice a n c] w (DecOut w xs) := by
  by_cases h5 : n = 512
  · subst h5
    obtain ⟨b, off, rfl, _⟩ := hx 0 (by omega)
    cases hg : isGood xs
    · exact (decode_sum b off c xs w hn hx hc hg).mono fun e w' ⟨he, hb⟩ => ⟨false, 7, 0, 0, 0, 0, [], none, 0, 0, he, hb, fun h => by cases h⟩
    · have sb := num_cutb hx.byte 13 2 (by omega)
      obtain ⟨s, hs⟩ := Int.eq_ofNat_of_zero_le sb.1
      obtain ⟨m, hm⟩ : ∃ m : Nat, xs[15]? = some (m : Int) := by
        have h15 : 15 < xs.length := by omega
        obtain ⟨m, hm⟩ := Int.eq_ofNat_of_zero_le (hx.byte 15 h15).1
        exact ⟨m, by rw [List.getElem?_eq_getElem h15, hm]⟩
      cases hf : formOk xs s m
      · exact (decode_form b off c xs s m w hn hx hc hg hs hm hf).mono fun e w' ⟨he, hb⟩ => ⟨false, 3, 0, 0, 0, 0, [], none, 0, 0, he, hb, fun h => by cases h⟩
      · exact (decode_ok b off c xs s m w hn hx hc hg hs hm hf).mono fun e w' ⟨ra, cap, he, ho, hb⟩ => ⟨true, 0, _, _, _, _, _, ra, m, cap, he, hb, fun _ => ⟨ho, pgOf_may hn hf, pgOf_fit s m hx.byte hn, bytes_back hx.byte hn hg hs hm hf⟩⟩
  · exact (decode_long a n c w h5).mono fun e w' ⟨he, hb⟩ => ⟨false, 2, 0, 0, 0, 0, [], none, 0, 0, he, hb, fun h => by cases h⟩
theorem byte_set {xs : List Int} (h : Byte xs) (k : Nat) (v : Int) (v0 : 0 ≤ v) (v1 : v < 256) : Byte (xs.set k v) := by
  intro i hi
  have hi' : i < xs.length := by simpa using hi
  by_cases e : k = i
  · subst e
    rw [List.getElem_set_self]
    exact ⟨v0, v1⟩
  · rw [List.getElem_set_ne e]
    exact h i hi'
theorem own_rs {w : World} {ra : Option Addr} {n cap : Nat} {rs : List (List Int)} (h : OwnRecs w (.slice ra n cap) n rs) : Recs w ra rs := by
  obtain ⟨ra', cap', hv, hr, _⟩ := h.recs
  obtain ⟨rfl, rfl⟩ : ra = ra' ∧ cap = cap' := by simpa using hv
  exact hr
theorem decode_page_n (p : Pg) (n b c : Nat) (w : World) (hn : p.recs.length = n) (hf : p.Fit) (h : p.may = true) (hb : Blk w b p.bytes) (hy : ∀ r ∈ p.recs, Byte r) (hc : 512 ≤ c) :
    Calls Tryd.prog 19 #[.slice (some ⟨b, 0, none⟩) 512 c] w (Read w p n) := by
  subst hn
  exact decode_page p b c w hf h hb hy hc
abbrev inThree (x y u : Int) : Obj := .cells #[.int .i64 x, .int .i64 y, .int .i64 u] 46
set_option maxRecDepth 100000 in
set_option maxHeartbeats 4000000 in
theorem back_walk (ki nu ep si : Int) (a : Option Addr) (n c : Nat) (rs : List (List Int)) (a1 : Option Addr) (len1 cap1 : Nat) (z1 : List Int) (x2 y2 u2 : Int) (w : World) (hp : PageIn w ki nu ep si a n rs) (w1 : IsRow .u8 w a1 len1 cap1 z1) (_ : (Lit.int .i64 x2).wf = true ∧ (Lit.int .i64 y2).wf = true ∧ (Lit.int .i64 u2).wf = true) (hl : Laid w) :
    Calls Tryd.prog 5 #[.agg #[.int .u8 ki, .int .u32 nu, .int .u64 ep, .int .i64 si, .slice a n c], .slice a1 len1 cap1, .agg #[.int .i64 x2, .int .i64 y2, .int .i64 u2]] w fun e w' => e = .returned (.bool true) ∧ Below w.heap.size w w' := by
  obtain ⟨xs, hx, lx, cx, mx⟩ := isrow_open w1
  have HP := Lib.hid hp
  have HL := Lib.hid hl
  have b0 := (alX w (inPg ki nu ep si a n c)).alloc (by simp) (inThree x2 y2 u2)
  have HB0 := Lib.hid b0
  have HR0 := Lib.hid (hp.recs.below b0)
  have HX0 := Lib.hid lx
  have HXN := Lib.hid hx
  have HE1 := Lib.hid (heap_alloc2_old w (inPg ki nu ep si a n c) (inThree x2 y2 u2))
  have HE2 := Lib.hid (heap_alloc2_new w (inPg ki nu ep si a n c) (inThree x2 y2 u2))
  clear hp hl b0 lx hx w1
  by_cases hbig : 2000 < len1
  · go_enter Tryd.func5, Tryd.ntmps5
    go_wp2_with (first | (go_at_call 9; refine (huge_any ki nu ep si a n c rs _ HR0.out HP.out.len HP.out.max).mono ?_; rintro e w3 ⟨B, rfl, _, hb3⟩; have HB3 := Lib.hid (HB0.out.trans (hb3.mono HB0.out.size)); clear hb3) | (go_at_call 10; refine (sure_any _).mono ?_; rintro e w4 ⟨rfl, hb4⟩; have HB4 := Lib.hid (HB3.out.trans (hb4.mono HB3.out.size)); clear hb4))
    all_goals go_ret
    all_goals exact ⟨rfl, HB4.out⟩
  go_enter Tryd.func5, Tryd.ntmps5
  go_upto_if 26 with (go_at_call 9; refine (huge_any ki nu ep si a n c rs _ HR0.out HP.out.len HP.out.max).mono ?_; rintro e w3 ⟨B, rfl, _, hb3⟩; have HB3 := Lib.hid hb3; clear hb3)
  · go_wp2_with (go_at_call 10; refine (sure_any _).mono ?_; rintro e w4 ⟨rfl, hb4⟩; have HB4 := Lib.hid hb4; clear hb4)
    go_ret
    have h3 := HB0.out.trans (HB3.out.mono HB0.out.size)
    exact ⟨rfl, h3.trans (HB4.out.mono h3.size)⟩
  · have HBX := Lib.hid (HB0.out.trans (HB3.out.mono HB0.out.size))
    have HF1 := Lib.hid ((HB3.out.block w.heap.size (by simp; omega)).trans HE1.out)
    have HF2 := Lib.hid ((HB3.out.block (w.heap.size + 1) (by simp)).trans HE2.out)
    have HLT := Lib.hid (lt_of_block HF2.out)
    clear HB3 HE1 HE2
    go_upto_if 34 with (go_at_call 19; refine (decode_out _ _ _ xs _ HXN.out (HX0.out.below HBX.out) cx).mono ?_; rintro e w4 ⟨B, kk, ki4, nu4, ep4, si4, rs4, ra4, n4, cap4, rfl, hb4, hyes⟩; have HB4 := Lib.hid hb4; have HYES := Lib.hid hyes; have hq := errB_eql B kk; have hqg := fun x => errB_guard x B kk; clear hb4 hyes)
    go_cut [] (fun wx => Below w3.heap.size w3 wx)
    case first =>
      cases B
      · go_wp2
        go_meet
        case rel => exact HB4.out.alloc HB4.out.size _
      · obtain ⟨ho, hmay, hfit, hby⟩ := HYES.out rfl
        have HO := Lib.hid (ho.below (alX w4 (pgObj ki4 nu4 ep4 si4 ra4 n4 cap4)))
        obtain ⟨ra, cap, hv, hr, h3, h4⟩ := HO.out.recs
        obtain ⟨rfl, rfl⟩ : ra4 = ra ∧ cap4 = cap := by simpa using hv
        have HR4 := Lib.hid hr
        have HMAY := Lib.hid hmay
        have HFIT := Lib.hid hfit
        have HBY := Lib.hid hby
        have HNN := Lib.hid ho.1
        have HBA := Lib.hid (HB4.out.alloc HB4.out.size (pgObj ki4 nu4 ep4 si4 ra4 n4 cap4))
        clear hq hqg
        clear ho hmay hfit hby hv hr h3 h4
        go_wp2_with (go_at_call 11; refine (encode_ok ki4 nu4 ep4 si4 _ _ _ rs4 _ HNN.out HR4.out HMAY.out HFIT.out.k0 HFIT.out.k1 HFIT.out.n0 HFIT.out.n1).mono ?_; rintro e w5 ⟨g, rfl, _, hg, hb5⟩; have HB5 := Lib.hid (HBA.out.trans (hb5.mono HBA.out.size)); have cx5 := conv_blk hg HMAY.out HO.out.2.1; rw [HBY.out] at cx5; have cy5 := conv_any (c := cap1) (HX0.out.below (HBX.out.trans ((HBA.out.trans (hb5.mono HBA.out.size)).mono HBX.out.size))) HXN.out; clear hg hb5)
        go_meet
        case rel => exact HB5.out
    case rest =>
      have HBC := Lib.hid hcut
      clear hcut
      have HG1 := Lib.hid ((HBC.out.block w.heap.size (by have := HLT.out; omega)).trans HF1.out)
      have HG2 := Lib.hid ((HBC.out.block (w.heap.size + 1) HLT.out).trans HF2.out)
      have HBW := Lib.hid (HBX.out.trans (HBC.out.mono HBX.out.size))
      have HLW := Lib.hid (lt_of_block HG2.out)
      obtain ⟨⟨c0, c1, c2, c3, c4⟩, f0, f1, f2, f3, f4⟩ := row_cells HG1.out
      cases hm : (Pg.mkPg ki nu ep si rs).may
      · have HMA := Lib.hid hm
        clear hm
        go_wp2_with (first | (go_at_call 11; refine (encode_not ki nu ep si a n c rs w _ HP.out HBW.out HMA.out).mono ?_; rintro e w5 ⟨rfl, hb5⟩; have HB5 := Lib.hid (HBW.out.trans (hb5.mono HBW.out.size)); clear hb5) | (go_at_call 16; refine (num_err 1 _ (HL.out.below HB5.out)).mono ?_; rintro e w6 ⟨rfl, hb6⟩; have HB6 := Lib.hid (HB5.out.trans (hb6.mono HB5.out.size)); clear hb6) | (go_at_call 10; refine (sure_any _).mono ?_; rintro e w7 ⟨rfl, hb7⟩; have HB7 := Lib.hid (HB6.out.trans (hb7.mono HB6.out.size)); clear hb7))
        go_ret
        exact ⟨rfl, HB7.out⟩
      · have HMA := Lib.hid hm
        clear hm
        go_wp2_with (first | (go_at_call 11; refine (encode_in ki nu ep si a n c rs w _ HP.out HBW.out HMA.out).mono ?_; rintro e w5 ⟨g, rfl, hge, hg, hb5⟩; have HGE := Lib.hid hge; have HGB := Lib.hid hg; have HBE := Lib.hid hb5; clear hge hg hb5) | (go_at_call 19; refine (decode_page_n (Pg.mkPg ki nu ep si rs) n _ _ _ HP.out.len HP.out.fit HMA.out HGB.out HP.out.recs.byte (by omega)).mono ?_; rintro e w6 ⟨ra6, cap6, rfl, ho6, hb6⟩; have HB6 := Lib.hid (HBE.out.trans (hb6.mono HBE.out.size)); have HGC := Lib.hid (HGB.out.below hb6); have HO6 := Lib.hid ho6; have z := row_cells (((HBE.out.trans (hb6.mono HBE.out.size)).block w.heap.size (by have := HLW.out; omega)).trans HG1.out); obtain ⟨⟨d0, d1, d2, d3, d4⟩, e0, e1, e2, e3, e4⟩ := z; have hz6 := Nat.lt_of_lt_of_le (Nat.lt_of_succ_lt HLW.out) (HBE.out.trans (hb6.mono HBE.out.size)).size; clear hb6 ho6) | (go_at_call 14; refine (same_any ki nu ep si _ _ n _ _ rs _ HP.out.len HP.out.max (own_rs (HO6.out.below (alX _ _))) (HP.out.recs.below (HBW.out.trans ((HB6.out.alloc HB6.out.size _).mono HBW.out.size)))).mono ?_; rintro e w7 ⟨rfl, hb7⟩; have HB7 := Lib.hid ((HB6.out.alloc HB6.out.size (pgObj ki nu ep si ra6 n cap6)).trans (hb7.mono (HB6.out.alloc HB6.out.size (pgObj ki nu ep si ra6 n cap6)).size)); have HGD := Lib.hid ((HGC.out.below (alX _ (pgObj ki nu ep si ra6 n cap6))).below hb7); have cg := conv_blk HGD.out HMA.out HP.out.recs.byte; clear hb7))
        have HA7 := Lib.hid ((HB7.out.block (w.heap.size + 1) HLW.out).trans HG2.out)
        have HNE := Lib.hid (show w.heap.size + 1 ≠ g by have := HLW.out; have := HGE.out; omega)
        have HBB := Lib.hid (byte_bytes (p := Pg.mkPg ki nu ep si rs) HP.out.recs.byte)
        have HBL := Lib.hid (bytes_len HMA.out)
        clear d0 d1 d2 d3 d4 e0 e1 e2 e3 e4 hz6 cg c0 c1 c2 c3 c4 f0 f1 f2 f3 f4 hq hqg
        go_loopw [16, 17] (fun i _ wr => ∃ (k : Nat) (zs : List Int), k ≤ 3 ∧ i = .int .i64 k ∧ zs.length = 512 ∧ par8 zs = (decide (k % 2 = 1)) ∧ Byte zs ∧ Blk wr g zs ∧ Only g w7 wr) (fun i _ _ => 3 - (intOf i).toNat)
        case atStart => exact ⟨0, _, by omega, rfl, HBL.out, good_par (bytes_good _), HBB.out, HGD.out, Only.refl _ _⟩
        case round =>
          obtain ⟨k, zs, hk, rfl, hzl, hpar, hby, hblk, hon⟩ := hrel
          have HPA := Lib.hid hpar
          have HZL := Lib.hid hzl
          have HZB := Lib.hid hby
          have HBK := Lib.hid hblk
          have HON := Lib.hid hon
          clear hpar hzl hby hblk hon
          by_cases hlt : k < 3
          · obtain ⟨ak, hak⟩ : ∃ ak, w7.cell? ⟨w.heap.size + 1, k, none⟩ = some (.int .i64 ak) := by
              rw [cell_of_row w7 _ k _ _ _ HA7.out]
              match k, hlt with
              | 0, _ => exact ⟨_, rfl⟩
              | 1, _ => exact ⟨_, rfl⟩
              | 2, _ => exact ⟨_, rfl⟩
            have hck := HON.out.cell hak HNE.out
            have hr := red_bd ak 4096 (by omega) (by omega)
            obtain ⟨Q, hQ⟩ : ∃ Q : Nat, wrap64 ((IntKind.u64.wrap ak).tmod 4096) = (Q : Int) := ⟨(wrap64 ((IntKind.u64.wrap ak).tmod 4096)).toNat, by omega⟩
            rw [hQ] at hr
            have hql : Q / 8 < zs.length := by have := HZL.out; omega
            obtain ⟨x, hxk⟩ : ∃ x, zs[Q / 8]? = some x := ⟨_, List.getElem?_eq_getElem hql⟩
            have hxe := (List.getElem?_eq_some_iff.1 hxk).2
            have hxb := HZB.out (Q / 8) hql
            have hcq := HBK.out.cell (Q / 8) hql
            rw [hxe] at hxb hcq
            have hfq := HBK.out.free (Q / 8)
            have HXK := Lib.hid hxk
            have HXB := Lib.hid hxb
            have q0 : (0 : Int) ≤ (Q : Int) := by omega
            have q1 : (Q : Int) / 8 < 512 := by omega
            have q2 : (0 : Int) ≤ (Q : Int) / 8 := by omega
            have hki : (k : Int) < 3 := by omega
            clear hak hr hql hxe hxb hxk
            go_wp2
            go_region
            go_wp2
            go_roundw
            case rel =>
              have hm : Q % 8 < 8 := Nat.mod_lt _ (by decide)
              have hfb := flip_byte HXB.out.1 HXB.out.2 _ hm
              refine ⟨k + 1, zs.set (Q / 8) (bits .xor .u8 x (2 ^ (Q % 8) % 256)), by omega, by go_num, by rw [List.length_set]; exact HZL.out, ?_, byte_set HZB.out _ _ hfb.2.1 hfb.2.2, HBK.out.put _ _, (HON.out.set _ _).drew⟩
              rw [par_flip HXK.out HXB.out.1 HXB.out.2 _ hm, HPA.out, ← decide_not, decide_eq_decide]
              omega
            case measure => simp [intOf]; omega
          · obtain rfl : k = 3 := by omega
            have hbad : isGood zs = false := odd_bad HPA.out
            have HBZ := Lib.hid (HON.out.below (show w.heap.size ≤ g by have := HNE.out; have := HLW.out; have := HGE.out; omega) (HBW.out.trans (HB7.out.mono HBW.out.size)))
            have HNS := Lib.hid (str_ne HZB.out HBB.out (fun e => by rw [e, bytes_good] at hbad; cases hbad))
            have HBAD := Lib.hid hbad
            clear hbad
            go_upto_region 21 with (go_at_call 19; refine (decode_sum g 0 512 zs _ HZL.out (HBK.out.lies HZB.out) (by omega) HBAD.out).mono ?_; rintro e w8 ⟨rfl, hb8⟩; have HB8 := Lib.hid hb8; clear hb8)
            have HB9 := Lib.hid (HBZ.out.trans ((HB8.out.alloc HB8.out.size (.cells zpg 29)).mono HBZ.out.size))
            have HL9 := Lib.hid ((HBK.out.lies HZB.out).below (HB8.out.alloc HB8.out.size (.cells zpg 29)))
            change Code.wp _ _ _ _ (w8.alloc (.cells zpg 29))
            generalize w8.alloc (.cells zpg 29) = w9 at HB9 HL9 ⊢
            have cz := conv_any (w := w9.drew) (c := 512) HL9.out.drew HZL.out
            have hns := HNS.out
            go_still_tail 12, (by kernel_rfl)
            change wpList _ _ _ _ _ w9.drew
            have HB10 := Lib.hid HB9.out.drew
            generalize w9.drew = v9 at HB10 ⊢
            clear cz
            go_wp2_with (first | (go_at_call 16; refine (num_err 7 _ (HL.out.below HB10.out)).mono ?_; rintro e wf ⟨rfl, hbf⟩; have HBF := Lib.hid (HB10.out.trans (hbf.mono HB10.out.size)); clear hbf) | (go_at_call 10; refine (sure_any _).mono ?_; rintro e we ⟨rfl, hbe⟩; have HBE2 := Lib.hid (HBF.out.trans (hbe.mono HBF.out.size)); clear hbe))
            go_ret
            exact ⟨rfl, HBE2.out⟩
end Go.Proofs.YtmfddecndadohaaDoor

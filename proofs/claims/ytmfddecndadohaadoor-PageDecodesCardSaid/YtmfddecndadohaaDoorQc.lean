/-
  THE WALK of the document's own Encode. Conditions: the page may be; its numbers fit; the records lie in memory.
-/
import Derived.Test.YtmfddecndadohaaDoorQb
import Derived.Deep.RegionHeld3
import Derived.StillTailTactics
namespace Go.Proofs.YtmfddecndadohaaDoor
open Go.RowKit Crc

def sliceLen : Value → Nat
  | .slice _ n _ => n
  | _ => 0
theorem pad_self (Y : List Int) : pad Y.length Y = Y := by simp [pad]
theorem pad_more (m : Nat) (Y : List Int) (h : Y.length ≤ m) : pad (m + 1) Y = pad m Y ++ [0] := by
  unfold pad
  have e : m + 1 - Y.length = (m - Y.length) + 1 := by omega
  rw [e, List.replicate_succ', List.append_assoc]
theorem put_int (B : Nat) (w0 : World) (v : Value) (m : Nat) (kk : Int) (ys : List Int) (x : Int) (w : World) (hv : w.ownsRow B 5 1 v m (bl ys)) (hB : Below B w0 w) (hBs : B ≤ w.heap.size) (x0 : 0 ≤ x) (x1 : x < 18446744073709551616) (hk : 1 ≤ kk) (hk8 : kk ≤ 8) (hm : m ≤ 600) :
    Calls Tryd.prog 27 #[v, .int .u64 x, .int .i64 kk] w fun e w' => ∃ v', e = .returned v' ∧ w'.ownsRow B 5 1 v' (m + kk.toNat) (bl (ys ++ be kk.toNat x)) ∧ Below B w0 w' ∧ B ≤ w'.heap.size := by
  obtain ⟨k, rfl⟩ := Int.eq_ofNat_of_zero_le (show 0 ≤ kk by omega)
  exact put_any B w0 v m k ys x w hv hB hBs x0 x1 (by omega) (by omega) hm
/-- the page that came in, in its box, wherever memory has grown -/
theorem box_keep {w w' : World} {ki nu ep si : Int} {a : Option Addr} {n c : Nat} (hb : Below (w.heap.size + 1) (w.alloc (inPg ki nu ep si a n c)) w') :
    w'.cell? ⟨w.heap.size, 0, none⟩ = some (.int .u8 ki) ∧ w'.cell? ⟨w.heap.size, 1, none⟩ = some (.int .u32 nu) ∧ w'.cell? ⟨w.heap.size, 2, none⟩ = some (.int .u64 ep) ∧ w'.cell? ⟨w.heap.size, 3, none⟩ = some (.int .i64 si) ∧ w'.cell? ⟨w.heap.size, 4, none⟩ = some (.slice a n c) :=
  (row_cells ((hb.block w.heap.size (by omega)).trans (heap_alloc_new w (inPg ki nu ep si a n c)))).1
set_option maxRecDepth 100000 in
set_option maxHeartbeats 2000000 in
theorem refenc_any (ki nu ep si : Int) (a : Option Addr) (n c : Nat) (rs : List (List Int)) (w : World) (hn : rs.length = n) (hr : Recs w a rs) (h : (Pg.mkPg ki nu ep si rs).may = true) (hf : (Pg.mkPg ki nu ep si rs).Fit) :
    Calls Tryd.prog 18 #[.agg #[.int .u8 ki, .int .u32 nu, .int .u64 ep, .int .i64 si, .slice a n c]] w fun e w' => ∃ ao cap, e = .returned (.slice ao 512 cap) ∧ Lies w' ao (Pg.mkPg ki nu ep si rs).bytes ∧ Below w.heap.size w w' := by
  obtain ⟨s, hs, s1, s2, hl, hmul, hrs⟩ := may_nat h
  change si = s at hs
  change rs.length ≤ 255 at hl
  change rs.length * s ≤ 492 at hmul
  change ∀ r ∈ rs, r.length = s at hrs
  subst hs
  rw [hn] at hl hmul
  have f0 : 0 ≤ ki := hf.k0
  have f1 : ki < 256 := hf.k1
  have f2 : 0 ≤ nu := hf.n0
  have f3 : nu < 4294967296 := hf.n1
  have f4 : 0 ≤ ep := hf.e0
  have f5 : ep < 18446744073709551616 := hf.e1
  have hb := alX w (inPg ki nu ep s a n c)
  have HR := Lib.hid (hr.below hb)
  have HR0 := Lib.hid hr
  have HB := Lib.hid hb
  have HN := Lib.hid hn
  have HM := Lib.hid h
  have HRS := Lib.hid hrs
  have HMU := Lib.hid hmul
  have hw1 : IntKind.u64.wrap ki = ki := by rw [IntKind.wrap_u64]; omega
  have hw2 : IntKind.u64.wrap nu = nu := by rw [IntKind.wrap_u64]; omega
  have hw3 : IntKind.u64.wrap (s : Int) = s := by rw [IntKind.wrap_u64]; omega
  have hw4 : IntKind.u64.wrap (n : Int) = n := by rw [IntKind.wrap_u64]; omega
  clear hn hr h hf hb hmul hrs
  go_enter Tryd.func18, Tryd.ntmps18
  go_upto_region 2 with (fail)
  change Code.wp _ _ _ _ (w.alloc (inPg ki nu ep s a n c))
  have HBD := Lib.hid (show Below (w.heap.size + 1) (w.alloc (inPg ki nu ep s a n c)) (w.alloc (inPg ki nu ep s a n c)).drew from (Below.refl _ _).drew)
  have KD := Lib.hid (box_keep HBD.out)
  have HV0 := Lib.hid (show (w.alloc (inPg ki nu ep s a n c)).drew.ownsRow (w.heap.size + 1) 5 1 (.slice none 0 0) 0 (bl []) from World.ownsRow_nil _ _ _ _)
  have HSD := Lib.hid (show w.heap.size + 1 ≤ (w.alloc (inPg ki nu ep s a n c)).drew.heap.size by show _ ≤ (w.alloc (inPg ki nu ep s a n c)).heap.size; rw [World.size_alloc]; omega)
  go_region_held3 (fun w' => w'.cell? ⟨w.heap.size, 0, none⟩ = some (.int .u8 ki) ∧ w'.cell? ⟨w.heap.size, 1, none⟩ = some (.int .u32 nu) ∧ w'.cell? ⟨w.heap.size, 2, none⟩ = some (.int .u64 ep) ∧ w'.cell? ⟨w.heap.size, 3, none⟩ = some (.int .i64 s) ∧ w'.cell? ⟨w.heap.size, 4, none⟩ = some (.slice a n c)) (first | with_reducible exact KD.out | with_reducible exact ks) (first | (go_at_call 27; refine (put_int (w.heap.size + 1) (w.alloc (inPg ki nu ep s a n c)) _ _ _ _ _ _ (by first | with_reducible exact HV0.out | with_reducible exact ho) (by first | with_reducible exact HBD.out | with_reducible exact hb) (by first | with_reducible exact HSD.out | with_reducible exact hsz) (by omega) (by omega) (by omega) (by omega) (by omega)).mono ?_; rintro e wx ⟨v1, rfl, ho, hb, hsz⟩; have ks := box_keep hb))
  have HBX := Lib.hid hb
  have HO := Lib.hid (show wx.ownsRow (w.heap.size + 1) 5 1 v1 16 (bl (hd ki nu ep s n)) from ho)
  obtain ⟨i0, hi, hz0, hz1, hz2⟩ := info_parts info_b
  have HI := Lib.hid hi
  have HI0 := Lib.hid hz0
  have HI1 := Lib.hid hz1
  have HI2 := Lib.hid hz2
  clear ho hb hsz ks hi hz0 hz1 hz2
  go_wp2
  go_loopw [3, 4] (fun v i wr => ∃ k : Nat, k ≤ n ∧ i = .int .i64 k ∧ Hid (wr.ownsRow (w.heap.size + 1) 5 1 v (16 + k * s) (bl (hd ki nu ep s n ++ (rs.take k).flatten))) ∧ Hid (Below (w.heap.size + 1) (w.alloc (inPg ki nu ep s a n c)) wr)) (fun _ i _ => n - (intOf i).toNat)
  case atStart => exact ⟨0, by omega, rfl, Lib.hid (by rw [Nat.zero_mul, List.take_zero, List.flatten_nil, List.append_nil]; exact HO.out), HBX⟩
  case round =>
    obtain ⟨k, hk, rfl, HOK, HBK⟩ := hrel
    obtain ⟨k0, k1, k2, k3, k4⟩ := box_keep HBK.out
    have HSZ := Lib.hid (show w.heap.size + 1 ≤ wr.heap.size by have := HBK.out.size; rw [World.size_alloc] at this; exact this)
    by_cases hlt : k < n
    · have hkl : k < rs.length := by rw [HN.out]; exact hlt
      have HBW := Lib.hid ((HB.out.trans (HBK.out.mono (by omega))))
      obtain ⟨b, off, ra, rc, rfl, hcell, hlies, hrc, hrm⟩ := (HR0.out.below HBW.out) k hkl
      have hrl := HRS.out rs[k] (List.getElem_mem hkl)
      have HFN := Lib.hid (flat_next rs k hkl)
      generalize rs[k] = r at hcell hlies hrc hrl HFN
      obtain ⟨b2, off2, hra⟩ : ∃ b2 off2, ra = some ⟨b2, off2, none⟩ := by
        obtain ⟨b2, off2, h, _⟩ := hlies 0 (by omega)
        exact ⟨b2, off2, h⟩
      subst hra
      rw [hrl] at hcell
      have hks : k * s + s ≤ 492 := by
        have h1 : (k + 1) * s ≤ n * s := Nat.mul_le_mul_right s (by omega)
        have h2 := HMU.out
        rw [Nat.succ_mul] at h1
        omega
      have HKS := Lib.hid hks
      have HLI := Lib.hid hlies
      have HRL := Lib.hid hrl
      have hki : (k : Int) < (n : Int) := by omega
      clear hks hlies hrl
      go_wp2_with (at_builtin; refine wpList_append_own _ rfl (.tmp 35) (.tmp 40) 30 rfl (w.heap.size + 1) 5 i0 (.int .u8 0) 1 1 Tryd.underlying30 HI.out HI0.out HI1.out HI2.out rfl (by decide) u3 (16 + k * s) (bl (hd ki nu ep s n ++ (rs.take k).flatten)) rfl HOK.out ⟨b2, off2, none⟩ s rc (bl r) rfl (by rw [bl_len, HRL.out, Nat.mul_one]) (bl_lies HLI.out) (bl_one _) (by have := HKS.out; unfold maxLen; omega) (by have := HKS.out; omega) HSZ.out ?_; intro v2 w2 hown hgrow _)
      have HO2 := Lib.hid hown
      have HG2 := Lib.hid (HBK.out.grown hgrow HSZ.out (fun q hq => (HOK.out.lt q hq).1))
      clear hown hgrow
      go_roundw
      case rel => exact ⟨k + 1, by omega, by go_num, Lib.hid (by rw [HFN.out, ← List.append_assoc, bl_append, Nat.succ_mul, ← Nat.add_assoc]; exact HO2.out), HG2⟩
      case measure => simp [intOf]; omega
    · obtain rfl : k = n := by omega
      have hP2 := HMU.out
      have HYL := Lib.hid (show (hd ki nu ep s k ++ (rs.take k).flatten).length = 16 + k * s by rw [List.length_append, hd_len, flat_take s rs HRS.out k (by rw [HN.out]; omega)])
      have HYB := Lib.hid (show Byte (hd ki nu ep s k ++ (rs.take k).flatten) from (byte_hd _ _ _ _ _).append (byte_flat fun r hr => HR0.out.byte r (List.mem_of_mem_take hr)))
      have HEQ := Lib.hid (show (Pg.mkPg ki nu ep s rs).bytes = mk (pad 508 (hd ki nu ep s k ++ (rs.take k).flatten)) by rw [List.take_of_length_le (by rw [HN.out]; omega), ← hd_eq ki nu ep s k rs HN.out]; rfl)
      generalize hd ki nu ep s k ++ (rs.take k).flatten = Y at HYL HYB HEQ HOK
      obtain ⟨P, hP⟩ : ∃ P, P = k * s := ⟨_, rfl⟩
      rw [← hP] at HYL HOK hP2
      clear hP
      go_wp2
      clear k0 k1 k2 k3 k4 hlt
      go_loopw [3] (fun v wq => ∃ m : Nat, 16 + P ≤ m ∧ m ≤ 512 ∧ Hid (wq.ownsRow (w.heap.size + 1) 5 1 v m (bl (pad m Y))) ∧ Hid (Below (w.heap.size + 1) (w.alloc (inPg ki nu ep s a k c)) wq)) (fun v _ => 512 - sliceLen v)
      case atStart => exact ⟨16 + P, by omega, by omega, Lib.hid (by rw [← HYL.out, pad_self, HYL.out]; exact HOK.out), HBK⟩
      case round =>
        obtain ⟨m, hm1, hm2, HOM, HBM⟩ := hrel
        obtain ⟨g, cap, hv⟩ := own_some HOM.out (by omega)
        subst hv
        have HSM := Lib.hid (show w.heap.size + 1 ≤ wr.heap.size by have := HBM.out.size; rw [World.size_alloc] at this; exact this)
        by_cases hlt : m < 512
        · have hmi : (m : Int) < 512 := by omega
          go_wp2_with (at_builtin; refine wpList_append_own _ rfl (.tmp 45) (.tmp 46) 30 rfl (w.heap.size + 1) 5 i0 (.int .u8 0) 1 1 Tryd.underlying30 HI.out HI0.out HI1.out HI2.out rfl (by decide) (.slice (some ⟨g, 0, none⟩) m cap) m (bl (pad m Y)) rfl (HOM.out.alloc _) ⟨wr.heap.size, 0, none⟩ 1 1 [.int .u8 0] rfl rfl (cell_one_new _ _ _) (by simp [Value.oneCell']) (by unfold maxLen; omega) (by omega) (by have := HSM.out; simp; omega) ?_; intro v2 w2 hown hgrow _)
          have HO2 := Lib.hid hown
          have HG2 := Lib.hid ((HBM.out.alloc HSM.out (.cells #[.int .u8 0] 5)).grown hgrow (by have := HSM.out; simp; omega) (fun q hq => (HOM.out.lt q hq).1))
          obtain ⟨g2, cap2, hv2⟩ := own_some hown (by omega)
          subst hv2
          clear hown hgrow
          go_roundw
          case rel => exact ⟨m + 1, by omega, by omega, Lib.hid (by rw [pad_more m Y (by rw [HYL.out]; exact hm1), bl_append]; exact HO2.out), HG2⟩
          case measure => simp [sliceLen]; omega
        · obtain rfl : m = 512 := by omega
          obtain ⟨hl5, hc5⟩ := own_lies_at HOM.out (byte_pad HYB.out)
          have HL5 := Lib.hid hl5
          clear hl5
          go_wp2_with (go_at_call 28; refine (refmark_any g 0 cap 512 (pad 512 Y) _ (pad512 _ (by rw [HYL.out]; omega)) (by omega) HL5.out (by omega) hc5).mono ?_; rintro e w5 ⟨ao, cp, rfl, hl6, hb6⟩; have HL6 := Lib.hid hl6; have HB6 := Lib.hid hb6; clear hl6 hb6)
          go_ret
          refine ⟨ao, cp, rfl, ?_, (HB.out.trans (HBM.out.mono (by omega))).trans (HB6.out.mono (by have := HSM.out; omega))⟩
          rw [HEQ.out]
          have := HL6.out
          unfold mkd at this
          rw [pad512 _ (by rw [HYL.out]; omega), pad_take Y (by rw [HYL.out]; omega)] at this
          exact this
end Go.Proofs.YtmfddecndadohaaDoor

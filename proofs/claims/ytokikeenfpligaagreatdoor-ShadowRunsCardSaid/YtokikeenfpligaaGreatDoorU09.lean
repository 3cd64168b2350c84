/-
  THE WALKS of page.Encode. Conditions: the page's records lie in memory; its numbers fit their kinds.
  THE WALKS of page.taken, page.noughts, slices.Clone and page.parted: what page.Decode asks. Conditions: the bytes lie in memory.
-/
import Derived.StillTailTactics
import Derived.Deep.DeepCutAuto
import Derived.Outline
import Derived.Test.YtokikeenfpligaaGreatDoorU08
namespace Go.Proofs.YtokikeenfpligaaGreatDoor.Sm
open Go.RowKit Crc

theorem laid_pad (Y : List Int) (off m : Nat) (n : Int) (h : Y.length = off) (hm : off + m ≤ 512) : laid (pad 512 Y) off m n m = pad 512 (Y ++ be m n) := by
  subst h
  unfold laid pad
  have e : Y.length + m - m = Y.length := by omega
  rw [e, List.take_left' rfl, List.drop_append, List.drop_of_length_le (by omega), List.nil_append, List.drop_replicate, List.append_assoc]
  congr 3
  rw [List.length_append, be_len]
  omega
theorem set_pad (Y : List Int) (off : Nat) (v : Int) (h : Y.length = off) (hm : off < 512) : (pad 512 Y).set off v = pad 512 (Y ++ [v]) := by
  subst h
  unfold pad
  rw [List.set_append_right _ _ (Nat.le_refl _), Nat.sub_self, List.append_assoc]
  congr 1
  obtain ⟨k, hk⟩ : ∃ k, 512 - Y.length = k + 1 := ⟨512 - Y.length - 1, by omega⟩
  have hk2 : 512 - (Y ++ [v]).length = k := by simp; omega
  rw [hk, hk2, List.replicate_succ]
  rfl
theorem pad_nil : (List.replicate 512 (0 : Int)) = pad 512 [] := rfl
theorem pad512 (Y : List Int) (h : Y.length ≤ 512) : (pad 512 Y).length = 512 := pad_len h
theorem blk_zeros (w : World) (n : Nat) : Blk (w.alloc (.cells (Array.replicate n (Value.int .u8 0)) 5)) w.heap.size (List.replicate n 0) := by
  unfold Blk
  rw [heap_alloc_new]
  congr 2
  apply Array.ext'
  simp [bl]
theorem be1 (n : Int) (h0 : 0 ≤ n) (h1 : n < 256) : be 1 n = [n] := by
  show [n % 256] = [n]
  rw [Int.emod_eq_of_lt h0 h1]
set_option maxRecDepth 100000 in
theorem make512 (w : World) : (Instr.makeSlice 72 (.int .i64 512) (.int .i64 512)).run Tryz.prog w = .ok (.slice (some ⟨w.heap.size, 0, none⟩) 512 512) (w.alloc (.cells (Array.replicate 512 (.int .u8 0)) 5)) := by
  have h := run_make_row' (P := Tryz.prog) (w := w) 72 5 (.int .u8 0) 1 Tryz.underlying72 info_b rfl .i64 .i64 512 (by omega) (by omega)
  rw [made_eq] at h
  exact h
set_option maxRecDepth 100000 in
theorem encode_bad (ki nu ep si : Int) (a : Option Addr) (n c : Nat) (rs : List (List Int)) (w : World) (hn : rs.length = n) (hm : n ≤ 9223372036854775807) (hs : si ≤ 9223372036854775807) (hr : Recs w a rs) (h : (Pg.mkPg ki nu ep si rs).may = false) :
    Calls Tryz.prog 95 #[.agg #[.int .u8 ki, .int .u32 nu, .int .u64 ep, .int .i64 si, .slice a n c]] w fun e w' => e = .returned (.tuple #[.slice none 0 0, .iface 78 (.int .i64 1)]) ∧ Below w.heap.size w w' := by
  have HR := Lib.hid (hr.below ((Below.refl w.heap.size w).alloc (Nat.le_refl _) (.cells #[.int .u8 ki, .int .u32 nu, .int .u64 ep, .int .i64 si, .slice a n c] 47)))
  have HN := Lib.hid hn
  have HM := Lib.hid h
  clear hr hn h
  go_enter Tryz.func95, Tryz.ntmps95
  go_wp2_with (go_at_call 50; refine (check_bad ki nu ep si _ _ _ rs _ HN.out hm hs HR.out HM.out).mono ?_; rintro e w1 ⟨rfl, hb⟩)
  go_ret2
  exact ⟨rfl, ((Below.refl _ _).alloc (Nat.le_refl _) _).trans (hb.mono (by simp))⟩
/-- the page's bytes in a block of their own -/
def Made (w : World) (p : Pg) (e : Ending) (w' : World) : Prop :=
  ∃ g, e = .returned (.tuple #[.slice (some ⟨g, 0, none⟩) 512 512, .nilIface]) ∧ w.heap.size ≤ g ∧ Blk w' g p.bytes ∧ Below w.heap.size w w'
/-- what stands in memory while the page is laid into its block g, as far as Y -/
structure Enc (w wx : World) (ki nu ep si : Int) (a : Option Addr) (n c : Nat) (g : Nat) (Y : List Int) : Prop where
  c0 : wx.cell? ⟨w.heap.size, 0, none⟩ = some (.int .u8 ki)
  c1 : wx.cell? ⟨w.heap.size, 1, none⟩ = some (.int .u32 nu)
  c2 : wx.cell? ⟨w.heap.size, 2, none⟩ = some (.int .u64 ep)
  c3 : wx.cell? ⟨w.heap.size, 3, none⟩ = some (.int .i64 si)
  c4 : wx.cell? ⟨w.heap.size, 4, none⟩ = some (.slice a n c)
  blk : Blk wx g (pad 512 Y)
  lt : w.heap.size < g
  bel : Below w.heap.size w wx
theorem Enc.only {w wx wy : World} {ki nu ep si : Int} {a : Option Addr} {n c g : Nat} {Y Z : List Int} (h : Enc w wx ki nu ep si a n c g Y) (ho : Only g wx wy) (hb : Blk wy g (pad 512 Z)) : Enc w wy ki nu ep si a n c g Z :=
  ⟨ho.cell h.c0 (Nat.ne_of_lt h.lt), ho.cell h.c1 (Nat.ne_of_lt h.lt), ho.cell h.c2 (Nat.ne_of_lt h.lt), ho.cell h.c3 (Nat.ne_of_lt h.lt), ho.cell h.c4 (Nat.ne_of_lt h.lt), hb, h.lt, ho.below (Nat.le_of_lt h.lt) h.bel⟩
theorem Enc.drew {w wx : World} {ki nu ep si : Int} {a : Option Addr} {n c g : Nat} {Y : List Int} (h : Enc w wx ki nu ep si a n c g Y) : Enc w wx.drew ki nu ep si a n c g Y :=
  ⟨h.c0, h.c1, h.c2, h.c3, h.c4, h.blk, h.lt, h.bel.drew⟩
/-- a number is laid behind Y -/
theorem lay_enc {w wx : World} {ki nu ep si : Int} {a : Option Addr} {n c g : Nat} {Y : List Int} (off m cap : Nat) {v' v : Int} (hv : v' = v) (h : Enc w wx ki nu ep si a n c g Y) (hY : Y.length = off) (hm : off + m ≤ 512) (hm8 : m ≤ 8) :
    Calls Tryz.prog 116 #[.slice (some ⟨g, off, none⟩) m cap, .int .u64 v'] wx fun e w' => e = .returned (.tuple #[]) ∧ Enc w w' ki nu ep si a n c g (Y ++ be m v) := by
  subst hv
  exact (lay_any g off m cap (pad 512 Y) v' wx h.blk (by rw [pad512 Y (by omega)]; exact hm) hm8).mono fun e w' ⟨he, hb, ho⟩ => ⟨he, h.only ho (by rw [← laid_pad Y off m v' hY hm]; exact hb)⟩
theorem Only.one (w : World) (g i : Nat) (v : Value) : Only g w (w.setCell ⟨g, i, none⟩ v) := (Only.refl g w).set i v
theorem enc_first {w w1 : World} {ki nu ep si : Int} {a : Option Addr} {n c : Nat} (k0 : 0 ≤ ki) (k1 : ki < 256) (hb : Below (w.alloc (.cells #[.int .u8 ki, .int .u32 nu, .int .u64 ep, .int .i64 si, .slice a n c] 47)).heap.size (w.alloc (.cells #[.int .u8 ki, .int .u32 nu, .int .u64 ep, .int .i64 si, .slice a n c] 47)) w1) :
    Enc w (w1.alloc (.cells ((Array.replicate 512 (.int .u8 0)).setIfInBounds 0 (.int .u8 ki)) 5)) ki nu ep si a n c w1.heap.size (be 1 ki) := by
  have hz : w.heap.size < w1.heap.size := by have := hb.size; simp at this; omega
  have hc : ∀ (j : Nat) v, (w.alloc (.cells #[.int .u8 ki, .int .u32 nu, .int .u64 ep, .int .i64 si, .slice a n c] 47)).cell? ⟨w.heap.size, j, none⟩ = some v → (w1.alloc (.cells ((Array.replicate 512 (.int .u8 0)).setIfInBounds 0 (.int .u8 ki)) 5)).cell? ⟨w.heap.size, j, none⟩ = some v := by
    intro j v h
    rw [World.cell?_alloc_lt _ _ _ hz, hb.cell (by simp)]
    exact h
  refine ⟨hc _ _ (by simp), hc _ _ (by simp), hc _ _ (by simp), hc _ _ (by simp), hc _ _ (by simp), ?_, hz, ?_⟩
  · rw [be1 _ k0 k1]
    have e : pad 512 [ki] = (List.replicate 512 0).set 0 ki := (set_pad [] 0 ki rfl (by decide)).symm
    rw [e]
    have e2 : ((Array.replicate 512 (Value.int .u8 0)).setIfInBounds 0 (.int .u8 ki)) = (bl ((List.replicate 512 0).set 0 ki)).toArray := by
      apply Array.ext'
      rw [bl, List.map_set, List.map_replicate, Array.toList_setIfInBounds, Array.toList_replicate]
    rw [e2]
    exact heap_alloc_new _ _
  · exact ((((Below.refl _ _).alloc (Nat.le_refl _) _).trans (hb.mono (by simp))).alloc (by omega) _)
/-- a page's first bytes -/
def hd (ki nu ep si : Int) (n : Nat) : List Int := be 1 ki ++ be 4 nu ++ be 8 ep ++ be 2 si ++ be 1 n
theorem hd_len (ki nu ep si : Int) (n : Nat) : (hd ki nu ep si n).length = 16 := by simp [hd, be_len]
theorem hd_eq (ki nu ep si : Int) (n : Nat) (rs : List (List Int)) (hn : rs.length = n) : (Pg.mkPg ki nu ep si rs).head = hd ki nu ep si n := by rw [← hn]; rfl
theorem enc_count {w wx : World} {ki nu ep si : Int} {a : Option Addr} {n c g : Nat} (h : Enc w wx ki nu ep si a n c g (be 1 ki ++ be 4 nu ++ be 8 ep ++ be 2 si)) (hn : n ≤ 255) :
    Enc w (wx.setCell ⟨g, 15, none⟩ (.int .u8 n)) ki nu ep si a n c g (hd ki nu ep si n) := by
  refine h.only (Only.one _ _ _ _) ?_
  have e := h.blk.put 15 n
  rw [set_pad _ 15 _ (by simp [be_len]) (by omega)] at e
  unfold hd
  rw [be1 (n : Int) (by omega) (by omega)]
  exact e
/-- a record is laid behind Y -/
theorem Enc.below {w wx wy : World} {ki nu ep si : Int} {a : Option Addr} {n c g : Nat} {Y Z : List Int} (h : Enc w wx ki nu ep si a n c g Y) (ho : Below g wx wy) (hb : Blk wy g (pad 512 Z)) : Enc w wy ki nu ep si a n c g Z :=
  ⟨(ho.cell h.lt).trans h.c0, (ho.cell h.lt).trans h.c1, (ho.cell h.lt).trans h.c2, (ho.cell h.lt).trans h.c3, (ho.cell h.lt).trans h.c4, hb, h.lt, h.bel.trans (ho.mono (Nat.le_of_lt h.lt))⟩
theorem bl_append (xs ys : List Int) : bl (xs ++ ys) = bl xs ++ bl ys := by simp [bl]
theorem pad_splice (Y r : List Int) : splice (bl (pad 512 Y)) Y.length (bl r) = bl (pad 512 (Y ++ r)) := by
  have e : 512 - (Y ++ r).length = 512 - Y.length - r.length := by rw [List.length_append]; omega
  unfold splice pad
  rw [bl_append, List.take_left' (bl_len Y), bl_len, List.drop_append, bl_len, List.drop_of_length_le (by rw [bl_len]; omega), List.nil_append, e, bl_append, bl_append, List.append_assoc]
  congr 2
  have e2 : Y.length + r.length - Y.length = r.length := by omega
  rw [e2]
  simp [bl, List.drop_replicate]
theorem flat_take (s : Nat) (rs : List (List Int)) (h : ∀ r ∈ rs, r.length = s) (k : Nat) (hk : k ≤ rs.length) : (rs.take k).flatten.length = k * s := by
  rw [flat_len s _ (fun r hr => h r (List.mem_of_mem_take hr)), List.length_take, Nat.min_eq_left hk]
theorem flat_next (rs : List (List Int)) (k : Nat) (h : k < rs.length) : (rs.take (k + 1)).flatten = (rs.take k).flatten ++ rs[k] := by
  rw [List.take_succ_eq_append_getElem h, List.flatten_append]
  simp
theorem pad_take (Y : List Int) (h : Y.length ≤ 508) : (pad 512 Y).take 508 = pad 508 Y := by
  unfold pad
  rw [List.take_append, List.take_of_length_le h, List.take_replicate]
  congr 2
  omega
/-- the block is marked: the page's bytes -/
theorem mark_blk (g : Nat) (Y : List Int) (w : World) (h : Blk w g (pad 512 Y)) (hY : Y.length ≤ 508) (hb : Byte Y) :
    Calls Tryz.prog 117 #[.slice (some ⟨g, 0, none⟩) 512 512] w fun e w' => e = .returned (.tuple #[.slice (some ⟨w.heap.size, 0, none⟩) 512 512, .nilIface]) ∧ Blk w' w.heap.size (mk (pad 508 Y)) ∧ Below w.heap.size w w' := by
  have hl := pad512 Y (by omega)
  have hm := mark_any (some ⟨g, 0, none⟩) 512 (pad 512 Y) w (by omega) (h.lies (byte_pad hb)) (by omega) (by omega)
  rw [hl] at hm
  refine hm.mono fun e w' ⟨h1, h2, h3⟩ => ⟨h1, ?_, h3⟩
  unfold mkd at h2
  rw [hl, pad_take Y hY] at h2
  exact h2
theorem byte_hd (ki nu ep si : Int) (n : Nat) : Byte (hd ki nu ep si n) := ((((be_byte _ _).append (be_byte _ _)).append (be_byte _ _)).append (be_byte _ _)).append (be_byte _ _)
set_option maxRecDepth 100000 in
set_option maxHeartbeats 1000000 in
theorem encode_ok (ki nu ep si : Int) (a : Option Addr) (n c : Nat) (rs : List (List Int)) (w : World) (hn : rs.length = n) (hr : Recs w a rs) (h : (Pg.mkPg ki nu ep si rs).may = true) (k0 : 0 ≤ ki) (k1 : ki < 256) (n0 : 0 ≤ nu) (n1 : nu < 4294967296) :
    Calls Tryz.prog 95 #[.agg #[.int .u8 ki, .int .u32 nu, .int .u64 ep, .int .i64 si, .slice a n c]] w (Made w (Pg.mkPg ki nu ep si rs)) := by
  obtain ⟨s, hs, s1, s2, hl, hmul, hrs⟩ := may_nat h
  change si = s at hs
  change rs.length ≤ 255 at hl
  change rs.length * s ≤ 492 at hmul
  change ∀ r ∈ rs, r.length = s at hrs
  subst hs
  rw [hn] at hl hmul
  have HR := Lib.hid (hr.below ((Below.refl w.heap.size w).alloc (Nat.le_refl _) (.cells #[.int .u8 ki, .int .u32 nu, .int .u64 ep, .int .i64 s, .slice a n c] 47)))
  have HR0 := Lib.hid hr
  have HN := Lib.hid hn
  have HM := Lib.hid h
  have HRS := Lib.hid hrs
  have HMU := Lib.hid hmul
  have hmk := make512
  have hwn : IntKind.u64.wrap nu = nu := by rw [IntKind.wrap_u64]; omega
  have hws : IntKind.u64.wrap (s : Int) = s := by rw [IntKind.wrap_u64]; omega
  clear hr hn h hrs hmul
  go_enter Tryz.func95, Tryz.ntmps95
  go_upto_region 6 with (go_at_call 50; refine (check_ok ki nu ep s _ _ _ rs _ HN.out (by omega) (by omega) HR.out HM.out).mono ?_; rintro e w1 ⟨rfl, hb⟩; have HB := Lib.hid hb; have f0 := (hb.cell (p := ⟨w.heap.size, 0, none⟩) (by simp)).trans (by simp : _ = some (Value.int .u8 ki)); have hz : w.heap.size < w1.heap.size := by (have := hb.size; simp at this; omega))
  have HE := Lib.hid (enc_first k0 k1 HB.out)
  have HG := Lib.hid hb.size
  change Code.wp _ _ _ _ (w1.alloc (.cells ((Array.replicate 512 (.int .u8 0)).setIfInBounds 0 (.int .u8 ki)) 5))
  generalize w1.alloc (.cells ((Array.replicate 512 (.int .u8 0)).setIfInBounds 0 (.int .u8 ki)) 5) = W at HE ⊢
  generalize w1.heap.size = g at HE ⊢
  clear f0 hz hb HB HG w1 hmk
  have c1 := HE.out.c1
  go_still_tail 5, (by kernel_rfl)
  change wpList _ _ _ _ _ W.drew
  have HE1 := Lib.hid HE.out.drew
  generalize W.drew = V at HE1 ⊢
  clear c1 HE
  go_wp2_with (go_at_call 116; refine (lay_enc 1 4 _ rfl HE1.out (by rw [be_len]) (by omega) (by omega)).mono ?_; rintro e W1 ⟨rfl, he⟩; have HE2 := Lib.hid he; clear he HE1)
  have c2 := HE2.out.c2
  go_still_tail 4, (by kernel_rfl)
  change wpList _ _ _ _ _ W1.drew
  have HE3 := Lib.hid HE2.out.drew
  generalize W1.drew = V1 at HE3 ⊢
  clear c2 HE2
  go_wp2_with (go_at_call 116; refine (lay_enc 5 8 _ rfl HE3.out (by rw [List.length_append, be_len, be_len]) (by omega) (by omega)).mono ?_; rintro e W2 ⟨rfl, he⟩; have HE4 := Lib.hid he; clear he HE3)
  have c3 := HE4.out.c3
  go_still_tail 5, (by kernel_rfl)
  change wpList _ _ _ _ _ W2.drew
  have HE5 := Lib.hid HE4.out.drew
  generalize W2.drew = V2 at HE5 ⊢
  clear c3 HE4
  go_wp2_with (go_at_call 116; refine (lay_enc 13 2 _ rfl HE5.out (by rw [List.length_append, List.length_append, be_len, be_len, be_len]) (by omega) (by omega)).mono ?_; rintro e W3 ⟨rfl, he⟩; have HE6 := Lib.hid he; have c4 := he.c4; have b15 := he.blk.cell 15 (by rw [pad512]; omega; simp [be_len]); have f15 := he.blk.free 15; clear he HE5)
  have HE7 := Lib.hid (enc_count HE6.out hl)
  generalize W3.setCell ⟨g, 15, none⟩ (.int .u8 n) = W4 at HE7 ⊢
  clear c4 b15 f15 HE6 hwn hws
  go_loopw [44, 6, 7] (fun i _ _ wr => ∃ k : Nat, k ≤ n ∧ i = .int .i64 k ∧ Hid (Enc w wr ki nu ep s a n c g (hd ki nu ep s n ++ (rs.take k).flatten))) (fun i _ _ _ => n - (intOf i).toNat)
  case atStart => exact ⟨0, by omega, rfl, Lib.hid (by rw [List.take_zero, List.flatten_nil, List.append_nil]; exact HE7.out)⟩
  case round =>
    obtain ⟨k, hk, rfl, HE8⟩ := hrel
    by_cases hlt : k < n
    · have hkl : k < rs.length := by rw [HN.out]; exact hlt
      obtain ⟨b, off, ra, rc, rfl, hcell, hlies, hrc, hrm⟩ := (HR0.out.below HE8.out.bel) k hkl
      have hfl := flat_take s rs HRS.out k (by omega)
      have hrl := HRS.out rs[k] (List.getElem_mem hkl)
      have HFN := Lib.hid (flat_next rs k hkl)
      have hks : k * s + s ≤ 492 := by
        have h1 : (k + 1) * s ≤ n * s := Nat.mul_le_mul_right s (by omega)
        have h2 := HMU.out
        rw [Nat.succ_mul] at h1
        omega
      generalize rs[k] = r at hcell hlies hrc hrl HFN
      obtain ⟨P, hP⟩ : ∃ P, P = k * s := ⟨_, rfl⟩
      rw [← hP] at hfl hks
      have hPI : (k : Int) * (s : Int) = (P : Int) := by rw [hP]; exact (Int.natCast_mul _ _).symm
      rw [hrl] at hcell hrc
      obtain ⟨b2, off2, hra⟩ : ∃ b2 off2, ra = some ⟨b2, off2, none⟩ := by
        obtain ⟨b2, off2, h, _⟩ := hlies 0 (by omega)
        exact ⟨b2, off2, h⟩
      subst hra
      have HFL := Lib.hid hfl
      have HRL := Lib.hid hrl
      have HLI := Lib.hid hlies
      have c3 := HE8.out.c3
      have i0 : (0 : Int) ≤ 16 + (P : Int) := by omega
      have i1 : (16 + (P : Int)).toNat = 16 + P := by omega
      have i2 : 16 + (P : Int) ≤ 512 := by omega
      clear hP hfl hrl hlies
      have hY : (hd ki nu ep s n ++ (rs.take k).flatten).length = 16 + P := by rw [List.length_append, hd_len, HFL.out]
      have HY := Lib.hid hY
      clear hY
      go_wp2_with (refine wpList_copy_splice rfl (.tmp 55) (.tmp 56) 72 72 rfl 5 Tryz.underlying72 size_b _ _ _ _ _ _ rfl rfl g (16 + P) (bl (pad 512 (hd ki nu ep s n ++ (rs.take k).flatten))) 5 HE8.out.blk (bl r) (by rw [bl_len, HRL.out]; exact (Nat.min_eq_left (by omega)).symm) (fun _ => ⟨rfl, _, rfl, bl_lies HLI.out⟩) (by rw [bl_len, bl_len, HRL.out, pad512 _ (by rw [HY.out]; omega)]; omega) (bl_one r) g wr (Below.refl _ _) (Nat.le_refl _) ?_; intro w2 hG2 hB2; have HB2 := Lib.hid hB2; clear hB2)
      have HG2 := Lib.hid hG2
      clear hG2 c3
      go_roundw
      case rel =>
        refine ⟨k + 1, by omega, by go_num, Lib.hid (HE8.out.below HB2.out ?_)⟩
        have h2 := HG2.out.out
        rw [← HY.out, pad_splice] at h2
        rw [HFN.out, ← List.append_assoc]
        exact h2
      case measure => simp [intOf]; omega
    · obtain rfl : k = n := by omega
      have hYl : (hd ki nu ep s k ++ (rs.take k).flatten).length ≤ 508 := by
        have := HMU.out
        rw [List.length_append, hd_len, flat_take s rs HRS.out k (by rw [HN.out]; omega)]
        omega
      have HYL := Lib.hid hYl
      have HYB := Lib.hid (show Byte (hd ki nu ep s k ++ (rs.take k).flatten) from (byte_hd _ _ _ _ _).append (byte_flat fun r hr => HR0.out.byte r (List.mem_of_mem_take hr)))
      clear hYl
      go_wp2_with (go_at_call 117; refine (mark_blk _ _ _ HE8.out.blk HYL.out HYB.out).mono ?_; rintro e w2 ⟨rfl, hb, hbl⟩)
      go_ret2
      refine ⟨_, rfl, HE8.out.bel.size, ?_, HE8.out.bel.trans (hbl.mono HE8.out.bel.size)⟩
      have e : (Pg.mkPg ki nu ep s rs).bytes = mk (pad 508 (hd ki nu ep s k ++ (rs.take k).flatten)) := by
        rw [List.take_of_length_le (by rw [HN.out]; omega), ← hd_eq ki nu ep s k rs HN.out]
        rfl
      rw [e]
      exact hb
end Go.Proofs.YtokikeenfpligaaGreatDoor.Sm
namespace Go.Proofs.YtokikeenfpligaaGreatDoor.Sm
open Go.RowKit Crc

theorem or_byte (v x : Int) (v0 : 0 ≤ v) (x0 : 0 ≤ x) (x1 : x < 256) (h : v * 256 + x < 18446744073709551616) : bits .or .u64 (v * 256) x = 256 * v + x := by
  obtain ⟨a, rfl⟩ := Int.eq_ofNat_of_zero_le v0
  obtain ⟨b, rfl⟩ := Int.eq_ofNat_of_zero_le x0
  show IntKind.u64.wrap ((BitVec.ofInt 64 ((a : Int) * 256) ||| BitVec.ofInt 64 (b : Int)).toNat : Int) = _
  have e1 : ((a : Int) * 256) = ((a * 256 : Nat) : Int) := by omega
  rw [e1, BitVec.ofInt_natCast, BitVec.ofInt_natCast, BitVec.toNat_or, BitVec.toNat_ofNat, BitVec.toNat_ofNat, Nat.mod_eq_of_lt (by omega), Nat.mod_eq_of_lt (by omega)]
  have e2 : a * 256 ||| b = a * 256 + b := by
    have := Nat.shiftLeft_add_eq_or_of_lt (show b < 2 ^ 8 by omega) a
    have h8 : (2 : Nat) ^ 8 = 256 := rfl
    rw [Nat.shiftLeft_eq, h8] at this
    exact this.symm
  rw [e2, IntKind.wrap_u64]
  omega
set_option maxRecDepth 100000 in
theorem taken_any (a : Option Addr) (n c : Nat) (xs : List Int) (w : World) (hn : xs.length = n) (h8 : n ≤ 8) (hx : Lies w a xs) :
    Calls Tryz.prog 109 #[.slice a n c] w fun e w' => e = .returned (.int .u64 (num256 xs)) ∧ w = w' := by
  have HX := Lib.hid hx
  have HN := Lib.hid hn
  clear hx hn
  go_enter Tryz.func109, Tryz.ntmps109
  go_wp2
  go_loop [3, 8, 5] (fun v i _ => ∃ k : Nat, k ≤ n ∧ i = .int .i64 k ∧ v = .int .u64 (num256 (xs.take k))) (fun _ i _ => n - (intOf i).toNat)
  case atStart => exact ⟨0, by omega, rfl, rfl⟩
  case round =>
    obtain ⟨k, hk, rfl, rfl⟩ := hrel
    by_cases hlt : k < n
    · have hlt' : k < xs.length := by rw [HN.out]; exact hlt
      obtain ⟨b, off, rfl, hc, c0, c1⟩ := HX.out k hlt'
      have hb := num256_bd (xs.take k) (HX.out.take k).byte
      have hl : (xs.take k).length = k := by rw [List.length_take]; omega
      rw [hl] at hb
      have hp : (256 : Int) ^ k ≤ 256 ^ 7 := by exact_mod_cast Nat.pow_le_pow_right (show 0 < 256 by decide) (show k ≤ 7 by omega)
      have H : num256 (xs.take (k + 1)) = 256 * num256 (xs.take k) + xs[k] := by rw [List.take_succ_eq_append_getElem hlt', num256_snoc]
      have HH := Lib.hid H
      have v0 := hb.1
      have v1 : num256 (xs.take k) < 72057594037927936 := by omega
      have HO := Lib.hid (or_byte (num256 (xs.take k)) xs[k] v0 c0 c1 (by omega))
      clear H hp hb hl
      generalize num256 (xs.take k) = v at HO HH v0 v1 ⊢
      generalize xs[k] = x at hc c0 c1 HO HH
      go_wp2
      go_round
      case rel => exact ⟨k + 1, by omega, by go_num, by rw [HH.out, ← HO.out]⟩
      case measure => simp [intOf]; omega
    · obtain rfl : k = n := by omega
      go_wp2
      go_ret
      exact ⟨ret_int (by rw [List.take_of_length_le (by rw [HN.out]; exact Nat.le_refl _)]), rfl⟩
/-- is a byte not nought? -/
def badN (x : Int) : Bool := x != 0
set_option maxRecDepth 100000 in
theorem clon_any (x : Int) (w : World) :
    Calls Tryz.prog 129 #[.int .u8 x] w fun e w' => e = .returned (.bool (badN x)) ∧ w = w' := by
  go_enter Tryz.func129, Tryz.ntmps129
  go_wp2
  go_ret
  exact ⟨rfl, rfl⟩
def FirstNot (xs : List Int) (w : World) (e : Ending) (w' : World) : Prop :=
  ∃ k : Int, e = .returned (.int .i64 k) ∧ decide (0 ≤ k) = xs.any badN ∧ w = w'
set_option maxRecDepth 100000 in
theorem idxn_any (a : Option Addr) (c n : Nat) (xs : List Int) (w : World) (hn : xs.length = n) (hm : n ≤ 9223372036854775807) (hr : Lies w a xs) :
    Calls Tryz.prog 147 #[.slice a n c, .func (.func 129) #[] #[]] w (FirstNot xs w) := by
  have HR := Lib.hid hr
  have HN := Lib.hid hn
  clear hr hn
  go_enter Tryz.func147, Tryz.ntmps147
  go_wp2
  go_loop [8, 5] (fun i _ => ∃ k : Nat, k ≤ n ∧ i = .int .i64 k ∧ Hid ((xs.take k).any badN = false)) (fun i _ => n - (intOf i).toNat)
  case atStart => exact ⟨0, by omega, rfl, Lib.hid (by simp)⟩
  case round =>
    obtain ⟨k, hk, rfl, HA⟩ := hrel
    by_cases hlt : k < n
    · have hlt' : k < xs.length := by rw [HN.out]; exact hlt
      obtain ⟨b, off, rfl, hc, c0, c1⟩ := HR.out k hlt'
      generalize hr : xs[k] = x at hc c0 c1
      have HRK := Lib.hid hr
      clear hr
      cases hb : badN x
      · have HB := Lib.hid hb
        clear hb
        go_wp2_with (go_at_call 129; refine (clon_any x _).mono ?_; rintro e w' ⟨rfl, rfl⟩; have hb := HB.out)
        go_round
        case rel => exact ⟨k + 1, by omega, by go_num, Lib.hid (any_take _ _ _ hlt' HA.out (by rw [HRK.out]; exact HB.out))⟩
        case measure => simp [intOf]; omega
      · have HB := Lib.hid hb
        clear hb
        go_wp2_with (go_at_call 129; refine (clon_any x _).mono ?_; rintro e w' ⟨rfl, rfl⟩; have hb := HB.out)
        go_ret
        exact ⟨k, rfl, by rw [any_at badN xs k hlt' (by rw [HRK.out]; exact HB.out)]; exact decide_eq_true (by omega), rfl⟩
    · obtain rfl : k = n := by omega
      go_wp2
      go_ret
      exact ⟨-1, rfl, by have := HA.out; rw [List.take_of_length_le (by rw [HN.out]; exact Nat.le_refl _)] at this; rw [this]; rfl, rfl⟩
set_option maxRecDepth 100000 in
theorem hasn_any (a : Option Addr) (c n : Nat) (xs : List Int) (w : World) (hn : xs.length = n) (hm : n ≤ 9223372036854775807) (hr : Lies w a xs) :
    Calls Tryz.prog 128 #[.slice a n c, .func (.func 129) #[] #[]] w fun e w' => e = .returned (.bool (xs.any badN)) ∧ w = w' := by
  have HR := Lib.hid hr
  have HN := Lib.hid hn
  clear hr hn
  go_enter Tryz.func128, Tryz.ntmps128
  go_wp2_with (go_at_call 147; refine (idxn_any _ _ _ xs _ HN.out hm HR.out).mono ?_; rintro e w' ⟨k, rfl, hk, rfl⟩; have HK := Lib.hid hk; clear hk)
  go_ret
  exact ⟨ret_bool (by rw [← HK.out]), rfl⟩
set_option maxRecDepth 100000 in
theorem noughts_any (a : Option Addr) (c n : Nat) (xs : List Int) (w : World) (hn : xs.length = n) (hm : n ≤ 9223372036854775807) (hr : Lies w a xs) :
    Calls Tryz.prog 110 #[.slice a n c] w fun e w' => e = .returned (.bool (!(xs.any badN))) ∧ w = w' := by
  have HR := Lib.hid hr
  have HN := Lib.hid hn
  clear hr hn
  cases hb : xs.any badN
  all_goals
    go_enter Tryz.func110, Tryz.ntmps110
    go_wp2_with (go_at_call 128; refine (hasn_any _ _ _ xs _ HN.out hm HR.out).mono ?_; rintro e w' ⟨rfl, rfl⟩)
    go_ret
    exact ⟨rfl, rfl⟩
end Go.Proofs.YtokikeenfpligaaGreatDoor.Sm

/-
  THE WALK of the statement on a page's parts. Conditions: what came in could be read; errors.errorType is as the program's text lays it.
-/
import Derived.Test.YtmfddecndadohaaDoorHuge
namespace Go.Proofs.YtmfddecndadohaaDoor
open Go.RowKit Crc

/-- what page.Encode answers, whatever the page is -/
def Coded (w : World) (p : Pg) (e : Ending) (w' : World) : Prop :=
  (p.may = true ∧ Made w p e w') ∨ (p.may = false ∧ e = .returned (.tuple #[.slice none 0 0, .iface 52 (.int .i64 1)]) ∧ Below w.heap.size w w')
theorem may_same (k1 k2 n1 n2 e1 e2 s : Int) (rs : List (List Int)) : (Pg.mkPg k1 n1 e1 s rs).may = (Pg.mkPg k2 n2 e2 s rs).may := rfl
theorem pg_ne {p q : Pg} (hp : p.Fit) (hq : q.Fit) (h : p.kind ≠ q.kind ∨ p.number ≠ q.number ∨ p.epoch ≠ q.epoch) : p.bytes ≠ q.bytes := by
  intro e
  rcases h with h | h | h
  · exact h (by rw [← bytes_kind p hp, e, bytes_kind q hq])
  · exact h (by rw [← bytes_number p hp, e, bytes_number q hq])
  · exact h (by rw [← bytes_epoch p hp, e, bytes_epoch q hq])
theorem pg_count {p q : Pg} (hp : p.may = true) (hq : q.may = true) (h : p.recs.length ≠ q.recs.length) : p.bytes ≠ q.bytes := by
  intro e
  have h1 := bytes_count p hp
  rw [e, bytes_count q hq] at h1
  have := Option.some.inj h1
  omega
theorem encode_in (ki nu ep si : Int) (a : Option Addr) (n c : Nat) (rs : List (List Int)) (w W : World) (hp : PageIn w ki nu ep si a n rs) (hb : Below w.heap.size w W) (h : (Pg.mkPg ki nu ep si rs).may = true) :
    Calls Tryd.prog 11 #[.agg #[.int .u8 ki, .int .u32 nu, .int .u64 ep, .int .i64 si, .slice a n c]] W (Made W (Pg.mkPg ki nu ep si rs)) :=
  encode_ok ki nu ep si a n c rs W hp.len (hp.recs.below hb) h hp.k0 hp.k1 hp.n0 hp.n1
theorem encode_not (ki nu ep si : Int) (a : Option Addr) (n c : Nat) (rs : List (List Int)) (w W : World) (hp : PageIn w ki nu ep si a n rs) (hb : Below w.heap.size w W) (h : (Pg.mkPg ki nu ep si rs).may = false) :
    Calls Tryd.prog 11 #[.agg #[.int .u8 ki, .int .u32 nu, .int .u64 ep, .int .i64 si, .slice a n c]] W fun e w' => e = .returned (.tuple #[.slice none 0 0, .iface 52 (.int .i64 1)]) ∧ Below W.heap.size W w' :=
  encode_bad ki nu ep si a n c rs W hp.len hp.max hp.s1 (hp.recs.below hb) h
theorem PageIn.fit {w : World} {ki nu ep si : Int} {a : Option Addr} {n : Nat} {rs : List (List Int)} (h : PageIn w ki nu ep si a n rs) : (Pg.mkPg ki nu ep si rs).Fit := ⟨h.k0, h.k1, h.n0, h.n1, h.e0, h.e1⟩
theorem conv_blk {w : World} {g : Nat} {p : Pg} (h : Blk w g p.bytes) (hm : p.may = true) (hy : ∀ r ∈ p.recs, Byte r) : (convert 30 9 (.slice (some ⟨g, 0, none⟩) 512 512)).run Tryd.prog w = .ok (.string (strOfNums p.bytes)) w :=
  conv_any (h.lies (byte_bytes hy)) (bytes_len hm)
abbrev pgObj (ki nu ep si : Int) (a : Option Addr) (n c : Nat) : Obj := .cells #[.int .u8 ki, .int .u32 nu, .int .u64 ep, .int .i64 si, .slice a n c] 29
theorem may_none {ki nu ep si : Int} {rs : List (List Int)} (h : (Pg.mkPg ki nu ep si rs).may = true) : (Pg.mkPg ki nu ep si []).may = true := by
  have h1 := may_size h
  have h2 : 0 < room si := room_pos h1.1 h1.2.1
  unfold Pg.may
  rw [Bool.and_eq_true, fits_iff]
  refine ⟨⟨h2, ?_⟩, rfl⟩
  show ((0 : Nat) : Int) ≤ room si
  omega
set_option maxRecDepth 100000 in
set_option maxHeartbeats 4000000 in
theorem parts_walk (ki nu ep si : Int) (a : Option Addr) (n c : Nat) (rs : List (List Int)) (way : Int) (w : World) (hp : PageIn w ki nu ep si a n rs) (_ : (Lit.int .i64 way).wf = true) (hl : Laid w) :
    Calls Tryd.prog 7 #[.agg #[.int .u8 ki, .int .u32 nu, .int .u64 ep, .int .i64 si, .slice a n c], .int .i64 way] w fun e w' => e = .returned (.bool true) ∧ Below w.heap.size w w' := by
  have HP := Lib.hid hp
  have HL := Lib.hid hl
  have HB0 := Lib.hid (alX w (inPg ki nu ep si a n c))
  have HR0 := Lib.hid (hp.recs.below HB0.out)
  clear hp hl
  go_enter Tryd.func7, Tryd.ntmps7
  go_upto_if 12 with (go_at_call 9; refine (huge_any ki nu ep si a n c rs _ HR0.out HP.out.len HP.out.max).mono ?_; rintro e w1 ⟨B, rfl, _, hb1⟩; have HB1 := Lib.hid hb1; clear hb1)
  cases B
  · have HZ := Lib.hid ((HB1.out.block w.heap.size (by simp)).trans (heap_alloc_new w (inPg ki nu ep si a n c)))
    obtain ⟨⟨c0, c1, c2, c3, c4⟩, f0, f1, f2, f3, f4⟩ := row_cells HZ.out
    have HBX := Lib.hid (HB0.out.trans (HB1.out.mono (by simp)))
    have HZL := Lib.hid (lt_of_block HZ.out)
    have hb := red_bd way 4 (by decide) (by decide)
    obtain ⟨k, hk⟩ := Int.eq_ofNat_of_zero_le hb.1
    rw [hk] at hb
    have hk4 : k < 4 := by omega
    clear hb HB1
    have hcase : k = 0 ∨ k = 1 ∨ k = 2 ∨ k = 3 := by omega
    clear hk4
    rcases hcase with rfl | rfl | rfl | rfl
    · have hk' : wrap64 ((IntKind.u64.wrap way).tmod 4) = 0 := hk
      have HPB := Lib.hid (show PageIn w ((ki + 1) % 256) nu ep si a n rs from by have h := HP.out; have u0 := h.k0; have u1 := h.k1; have u2 := h.n0; have u3 := h.n1; have u4 := h.e0; have u5 := h.e1; exact ⟨by omega, by omega, h.n0, h.n1, h.e0, h.e1, h.s0, h.s1, h.recs, h.len, h.max⟩)
      have HB2 := Lib.hid ((HBX.out.alloc HBX.out.size (pgObj ki nu ep si a n c)).alloc (by have := HBX.out.size; simp; omega) (pgObj ((ki + 1) % 256) nu ep si a n c))
      have HC2 := Lib.hid (((Below.refl w1.heap.size w1).alloc (Nat.le_refl _) (pgObj ki nu ep si a n c)).alloc (by simp) (pgObj ((ki + 1) % 256) nu ep si a n c))
      have HY2 := Lib.hid (heap_alloc2_new w1 (pgObj ki nu ep si a n c) (pgObj ((ki + 1) % 256) nu ep si a n c))
      clear hk
      cases hm : (Pg.mkPg ki nu ep si rs).may
      · have HMA := Lib.hid hm
        have HMB : Hid ((Pg.mkPg ((ki + 1) % 256) nu ep si rs).may = false) := HMA
        clear hm
        go_upto_region 13 with (fail)
        go_wp2_with (first | (go_at_call 11; (with_reducible refine (encode_not ki nu ep si a n c rs w _ HP.out HB2.out HMA.out).mono ?_); rintro e w2 ⟨rfl, hb2⟩; have HB3 := Lib.hid (HB2.out.trans (hb2.mono HB2.out.size)); have HC3 := Lib.hid (HC2.out.trans (hb2.mono HC2.out.size)); have z := row_cells ((hb2.block (w1.heap.size + 1) (by simp)).trans HY2.out); obtain ⟨⟨d0, d1, d2, d3, d4⟩, e0, e1, e2, e3, e4⟩ := z; clear hb2) | (go_at_call 11; (with_reducible refine (encode_not ((ki + 1) % 256) nu ep si a n c rs w _ HPB.out HB3.out HMB.out).mono ?_); rintro e w3 ⟨rfl, hb3⟩; have HB4 := Lib.hid (HB3.out.trans (hb3.mono HB3.out.size)); clear hb3) | (go_at_call 16; refine (num_err 1 _ (HL.out.below HB4.out)).mono ?_; rintro e w4 ⟨rfl, hb4⟩; have HB5 := Lib.hid (HB4.out.trans (hb4.mono HB4.out.size)); clear hb4) | (go_at_call 10; refine (sure_any _).mono ?_; rintro e w5 ⟨rfl, hb5⟩; have HB6 := Lib.hid (HB5.out.trans (hb5.mono HB5.out.size)); clear hb5))
        go_ret
        exact ⟨rfl, HB6.out⟩
      · have HMA := Lib.hid hm
        have HMB : Hid ((Pg.mkPg ((ki + 1) % 256) nu ep si rs).may = true) := HMA
        have hne := str_ne (byte_bytes HP.out.recs.byte) (byte_bytes HPB.out.recs.byte) (pg_ne HP.out.fit HPB.out.fit (.inl (show ki ≠ (ki + 1) % 256 by omega)))
        clear hm
        go_upto_region 13 with (fail)
        go_wp2_with (first | (go_at_call 11; (with_reducible refine (encode_in ki nu ep si a n c rs w _ HP.out HB2.out HMA.out).mono ?_); rintro e w2 ⟨g1, rfl, hg1, hx1, hb2⟩; have HX1 := Lib.hid hx1; have HB3 := Lib.hid (HB2.out.trans (hb2.mono HB2.out.size)); have HC3 := Lib.hid (HC2.out.trans (hb2.mono HC2.out.size)); have z := row_cells ((hb2.block (w1.heap.size + 1) (by simp)).trans HY2.out); obtain ⟨⟨d0, d1, d2, d3, d4⟩, e0, e1, e2, e3, e4⟩ := z; clear hx1 hb2 hg1) | (go_at_call 11; (with_reducible refine (encode_in ((ki + 1) % 256) nu ep si a n c rs w _ HPB.out HB3.out HMB.out).mono ?_); rintro e w3 ⟨g2, rfl, hg2, hx2, hb3⟩; have cx := conv_blk (HX1.out.below hb3) HMA.out HP.out.recs.byte; have cy := conv_blk hx2 HMB.out HPB.out.recs.byte; have HB4 := Lib.hid (HB3.out.trans (hb3.mono HB3.out.size)); have k4 := ((HC3.out.trans (hb3.mono HC3.out.size)).cell (p := ⟨w.heap.size, 4, none⟩) HZL.out).trans c4; clear hb3 hg2) | (go_at_call 16; refine (num_err 1 _ (HL.out.below HB4.out)).mono ?_; rintro e w4 ⟨rfl, hb4⟩; have HB5 := Lib.hid (HB4.out.trans (hb4.mono HB4.out.size)); clear hb4) | (go_at_call 10; refine (sure_any _).mono ?_; rintro e w5 ⟨rfl, hb5⟩; have HB6 := Lib.hid (HB4.out.trans (hb5.mono HB4.out.size)); clear hb5))
        go_ret
        exact ⟨rfl, HB6.out⟩
    · have hk' : wrap64 ((IntKind.u64.wrap way).tmod 4) = 1 := hk
      have HPB := Lib.hid (show PageIn w ki ((nu + 1) % 4294967296) ep si a n rs from by have h := HP.out; have u0 := h.k0; have u1 := h.k1; have u2 := h.n0; have u3 := h.n1; have u4 := h.e0; have u5 := h.e1; exact ⟨h.k0, h.k1, by omega, by omega, h.e0, h.e1, h.s0, h.s1, h.recs, h.len, h.max⟩)
      have HB2 := Lib.hid ((HBX.out.alloc HBX.out.size (pgObj ki nu ep si a n c)).alloc (by have := HBX.out.size; simp; omega) (pgObj ki ((nu + 1) % 4294967296) ep si a n c))
      have HC2 := Lib.hid (((Below.refl w1.heap.size w1).alloc (Nat.le_refl _) (pgObj ki nu ep si a n c)).alloc (by simp) (pgObj ki ((nu + 1) % 4294967296) ep si a n c))
      have HY2 := Lib.hid (heap_alloc2_new w1 (pgObj ki nu ep si a n c) (pgObj ki ((nu + 1) % 4294967296) ep si a n c))
      clear hk
      cases hm : (Pg.mkPg ki nu ep si rs).may
      · have HMA := Lib.hid hm
        have HMB : Hid ((Pg.mkPg ki ((nu + 1) % 4294967296) ep si rs).may = false) := HMA
        clear hm
        go_upto_region 13 with (fail)
        go_wp2_with (first | (go_at_call 11; (with_reducible refine (encode_not ki nu ep si a n c rs w _ HP.out HB2.out HMA.out).mono ?_); rintro e w2 ⟨rfl, hb2⟩; have HB3 := Lib.hid (HB2.out.trans (hb2.mono HB2.out.size)); have HC3 := Lib.hid (HC2.out.trans (hb2.mono HC2.out.size)); have z := row_cells ((hb2.block (w1.heap.size + 1) (by simp)).trans HY2.out); obtain ⟨⟨d0, d1, d2, d3, d4⟩, e0, e1, e2, e3, e4⟩ := z; clear hb2) | (go_at_call 11; (with_reducible refine (encode_not ki ((nu + 1) % 4294967296) ep si a n c rs w _ HPB.out HB3.out HMB.out).mono ?_); rintro e w3 ⟨rfl, hb3⟩; have HB4 := Lib.hid (HB3.out.trans (hb3.mono HB3.out.size)); clear hb3) | (go_at_call 16; refine (num_err 1 _ (HL.out.below HB4.out)).mono ?_; rintro e w4 ⟨rfl, hb4⟩; have HB5 := Lib.hid (HB4.out.trans (hb4.mono HB4.out.size)); clear hb4) | (go_at_call 10; refine (sure_any _).mono ?_; rintro e w5 ⟨rfl, hb5⟩; have HB6 := Lib.hid (HB5.out.trans (hb5.mono HB5.out.size)); clear hb5))
        go_ret
        exact ⟨rfl, HB6.out⟩
      · have HMA := Lib.hid hm
        have HMB : Hid ((Pg.mkPg ki ((nu + 1) % 4294967296) ep si rs).may = true) := HMA
        have hne := str_ne (byte_bytes HP.out.recs.byte) (byte_bytes HPB.out.recs.byte) (pg_ne HP.out.fit HPB.out.fit (.inr (.inl (show nu ≠ (nu + 1) % 4294967296 by omega))))
        clear hm
        go_upto_region 13 with (fail)
        go_wp2_with (first | (go_at_call 11; (with_reducible refine (encode_in ki nu ep si a n c rs w _ HP.out HB2.out HMA.out).mono ?_); rintro e w2 ⟨g1, rfl, hg1, hx1, hb2⟩; have HX1 := Lib.hid hx1; have HB3 := Lib.hid (HB2.out.trans (hb2.mono HB2.out.size)); have HC3 := Lib.hid (HC2.out.trans (hb2.mono HC2.out.size)); have z := row_cells ((hb2.block (w1.heap.size + 1) (by simp)).trans HY2.out); obtain ⟨⟨d0, d1, d2, d3, d4⟩, e0, e1, e2, e3, e4⟩ := z; clear hx1 hb2 hg1) | (go_at_call 11; (with_reducible refine (encode_in ki ((nu + 1) % 4294967296) ep si a n c rs w _ HPB.out HB3.out HMB.out).mono ?_); rintro e w3 ⟨g2, rfl, hg2, hx2, hb3⟩; have cx := conv_blk (HX1.out.below hb3) HMA.out HP.out.recs.byte; have cy := conv_blk hx2 HMB.out HPB.out.recs.byte; have HB4 := Lib.hid (HB3.out.trans (hb3.mono HB3.out.size)); have k4 := ((HC3.out.trans (hb3.mono HC3.out.size)).cell (p := ⟨w.heap.size, 4, none⟩) HZL.out).trans c4; clear hb3 hg2) | (go_at_call 16; refine (num_err 1 _ (HL.out.below HB4.out)).mono ?_; rintro e w4 ⟨rfl, hb4⟩; have HB5 := Lib.hid (HB4.out.trans (hb4.mono HB4.out.size)); clear hb4) | (go_at_call 10; refine (sure_any _).mono ?_; rintro e w5 ⟨rfl, hb5⟩; have HB6 := Lib.hid (HB4.out.trans (hb5.mono HB4.out.size)); clear hb5))
        go_ret
        exact ⟨rfl, HB6.out⟩
    · have hk' : wrap64 ((IntKind.u64.wrap way).tmod 4) = 2 := hk
      have HPB := Lib.hid (show PageIn w ki nu (IntKind.u64.wrap (ep + 1)) si a n rs from by have h := HP.out; have u0 := h.k0; have u1 := h.k1; have u2 := h.n0; have u3 := h.n1; have u4 := h.e0; have u5 := h.e1; exact ⟨h.k0, h.k1, h.n0, h.n1, by rw [IntKind.wrap_u64]; omega, by rw [IntKind.wrap_u64]; omega, h.s0, h.s1, h.recs, h.len, h.max⟩)
      have HB2 := Lib.hid ((HBX.out.alloc HBX.out.size (pgObj ki nu ep si a n c)).alloc (by have := HBX.out.size; simp; omega) (pgObj ki nu (IntKind.u64.wrap (ep + 1)) si a n c))
      have HC2 := Lib.hid (((Below.refl w1.heap.size w1).alloc (Nat.le_refl _) (pgObj ki nu ep si a n c)).alloc (by simp) (pgObj ki nu (IntKind.u64.wrap (ep + 1)) si a n c))
      have HY2 := Lib.hid (heap_alloc2_new w1 (pgObj ki nu ep si a n c) (pgObj ki nu (IntKind.u64.wrap (ep + 1)) si a n c))
      clear hk
      cases hm : (Pg.mkPg ki nu ep si rs).may
      · have HMA := Lib.hid hm
        have HMB : Hid ((Pg.mkPg ki nu (IntKind.u64.wrap (ep + 1)) si rs).may = false) := HMA
        clear hm
        go_upto_region 13 with (fail)
        go_wp2_with (first | (go_at_call 11; (with_reducible refine (encode_not ki nu ep si a n c rs w _ HP.out HB2.out HMA.out).mono ?_); rintro e w2 ⟨rfl, hb2⟩; have HB3 := Lib.hid (HB2.out.trans (hb2.mono HB2.out.size)); have HC3 := Lib.hid (HC2.out.trans (hb2.mono HC2.out.size)); have z := row_cells ((hb2.block (w1.heap.size + 1) (by simp)).trans HY2.out); obtain ⟨⟨d0, d1, d2, d3, d4⟩, e0, e1, e2, e3, e4⟩ := z; clear hb2) | (go_at_call 11; (with_reducible refine (encode_not ki nu (IntKind.u64.wrap (ep + 1)) si a n c rs w _ HPB.out HB3.out HMB.out).mono ?_); rintro e w3 ⟨rfl, hb3⟩; have HB4 := Lib.hid (HB3.out.trans (hb3.mono HB3.out.size)); clear hb3) | (go_at_call 16; refine (num_err 1 _ (HL.out.below HB4.out)).mono ?_; rintro e w4 ⟨rfl, hb4⟩; have HB5 := Lib.hid (HB4.out.trans (hb4.mono HB4.out.size)); clear hb4) | (go_at_call 10; refine (sure_any _).mono ?_; rintro e w5 ⟨rfl, hb5⟩; have HB6 := Lib.hid (HB5.out.trans (hb5.mono HB5.out.size)); clear hb5))
        go_ret
        exact ⟨rfl, HB6.out⟩
      · have HMA := Lib.hid hm
        have HMB : Hid ((Pg.mkPg ki nu (IntKind.u64.wrap (ep + 1)) si rs).may = true) := HMA
        have hne := str_ne (byte_bytes HP.out.recs.byte) (byte_bytes HPB.out.recs.byte) (pg_ne HP.out.fit HPB.out.fit (.inr (.inr (show ep ≠ IntKind.u64.wrap (ep + 1) by rw [IntKind.wrap_u64]; omega))))
        clear hm
        go_upto_region 13 with (fail)
        go_wp2_with (first | (go_at_call 11; (with_reducible refine (encode_in ki nu ep si a n c rs w _ HP.out HB2.out HMA.out).mono ?_); rintro e w2 ⟨g1, rfl, hg1, hx1, hb2⟩; have HX1 := Lib.hid hx1; have HB3 := Lib.hid (HB2.out.trans (hb2.mono HB2.out.size)); have HC3 := Lib.hid (HC2.out.trans (hb2.mono HC2.out.size)); have z := row_cells ((hb2.block (w1.heap.size + 1) (by simp)).trans HY2.out); obtain ⟨⟨d0, d1, d2, d3, d4⟩, e0, e1, e2, e3, e4⟩ := z; clear hx1 hb2 hg1) | (go_at_call 11; (with_reducible refine (encode_in ki nu (IntKind.u64.wrap (ep + 1)) si a n c rs w _ HPB.out HB3.out HMB.out).mono ?_); rintro e w3 ⟨g2, rfl, hg2, hx2, hb3⟩; have cx := conv_blk (HX1.out.below hb3) HMA.out HP.out.recs.byte; have cy := conv_blk hx2 HMB.out HPB.out.recs.byte; have HB4 := Lib.hid (HB3.out.trans (hb3.mono HB3.out.size)); have k4 := ((HC3.out.trans (hb3.mono HC3.out.size)).cell (p := ⟨w.heap.size, 4, none⟩) HZL.out).trans c4; clear hb3 hg2) | (go_at_call 16; refine (num_err 1 _ (HL.out.below HB4.out)).mono ?_; rintro e w4 ⟨rfl, hb4⟩; have HB5 := Lib.hid (HB4.out.trans (hb4.mono HB4.out.size)); clear hb4) | (go_at_call 10; refine (sure_any _).mono ?_; rintro e w5 ⟨rfl, hb5⟩; have HB6 := Lib.hid (HB4.out.trans (hb5.mono HB4.out.size)); clear hb5))
        go_ret
        exact ⟨rfl, HB6.out⟩
    · have hk' : wrap64 ((IntKind.u64.wrap way).tmod 4) = 3 := hk
      have HPB := Lib.hid (show PageIn w ki nu ep si none 0 [] from by have h := HP.out; have u0 := h.k0; have u1 := h.k1; have u2 := h.n0; have u3 := h.n1; have u4 := h.e0; have u5 := h.e1; exact ⟨h.k0, h.k1, h.n0, h.n1, h.e0, h.e1, h.s0, h.s1, fun i hi => absurd hi (by simp), rfl, by omega⟩)
      have HB2 := Lib.hid ((HBX.out.alloc HBX.out.size (pgObj ki nu ep si a n c)).alloc (by have := HBX.out.size; simp; omega) (pgObj ki nu ep si none 0 0))
      have HC2 := Lib.hid (((Below.refl w1.heap.size w1).alloc (Nat.le_refl _) (pgObj ki nu ep si a n c)).alloc (by simp) (pgObj ki nu ep si none 0 0))
      have HY2 := Lib.hid (heap_alloc2_new w1 (pgObj ki nu ep si a n c) (pgObj ki nu ep si none 0 0))
      clear hk
      cases hm : (Pg.mkPg ki nu ep si rs).may
      · have HMA := Lib.hid hm
        clear hm
        cases hm2 : (Pg.mkPg ki nu ep si []).may
        · have HMB := Lib.hid hm2
          clear hm2
          go_upto_region 13 with (fail)
          go_wp2_with (first | (go_at_call 11; (with_reducible refine (encode_not ki nu ep si a n c rs w _ HP.out HB2.out HMA.out).mono ?_); rintro e w2 ⟨rfl, hb2⟩; have HB3 := Lib.hid (HB2.out.trans (hb2.mono HB2.out.size)); have HC3 := Lib.hid (HC2.out.trans (hb2.mono HC2.out.size)); have z := row_cells ((hb2.block (w1.heap.size + 1) (by simp)).trans HY2.out); obtain ⟨⟨d0, d1, d2, d3, d4⟩, e0, e1, e2, e3, e4⟩ := z; clear hb2) | (go_at_call 11; (with_reducible refine (encode_not ki nu ep si none 0 0 [] w _ HPB.out HB3.out HMB.out).mono ?_); rintro e w3 ⟨rfl, hb3⟩; have HB4 := Lib.hid (HB3.out.trans (hb3.mono HB3.out.size)); clear hb3) | (go_at_call 16; refine (num_err 1 _ (HL.out.below HB4.out)).mono ?_; rintro e w4 ⟨rfl, hb4⟩; have HB5 := Lib.hid (HB4.out.trans (hb4.mono HB4.out.size)); clear hb4) | (go_at_call 10; refine (sure_any _).mono ?_; rintro e w5 ⟨rfl, hb5⟩; have HB6 := Lib.hid (HB5.out.trans (hb5.mono HB5.out.size)); clear hb5))
          go_ret
          exact ⟨rfl, HB6.out⟩
        · have HMB := Lib.hid hm2
          clear hm2
          go_upto_region 13 with (fail)
          go_wp2_with (first | (go_at_call 11; (with_reducible refine (encode_not ki nu ep si a n c rs w _ HP.out HB2.out HMA.out).mono ?_); rintro e w2 ⟨rfl, hb2⟩; have HB3 := Lib.hid (HB2.out.trans (hb2.mono HB2.out.size)); have HC3 := Lib.hid (HC2.out.trans (hb2.mono HC2.out.size)); have z := row_cells ((hb2.block (w1.heap.size + 1) (by simp)).trans HY2.out); obtain ⟨⟨d0, d1, d2, d3, d4⟩, e0, e1, e2, e3, e4⟩ := z; clear hb2) | (go_at_call 11; (with_reducible refine (encode_in ki nu ep si none 0 0 [] w _ HPB.out HB3.out HMB.out).mono ?_); rintro e w3 ⟨g2, rfl, hg2, hx2, hb3⟩;  have HB4 := Lib.hid (HB3.out.trans (hb3.mono HB3.out.size)); have k4 := ((HC3.out.trans (hb3.mono HC3.out.size)).cell (p := ⟨w.heap.size, 4, none⟩) HZL.out).trans c4; clear hb3 hg2) | (go_at_call 16; refine (num_err 1 _ (HL.out.below HB4.out)).mono ?_; rintro e w4 ⟨rfl, hb4⟩; have HB5 := Lib.hid (HB4.out.trans (hb4.mono HB4.out.size)); clear hb4) | (go_at_call 10; refine (sure_any _).mono ?_; rintro e w5 ⟨rfl, hb5⟩; have HB6 := Lib.hid (HB5.out.trans (hb5.mono HB5.out.size)); clear hb5))
          go_ret
          exact ⟨rfl, HB6.out⟩
      · have HMA := Lib.hid hm
        have HMB := Lib.hid (may_none hm)
        clear hm
        by_cases hn0 : n = 0
        · have hne : ((strOfNums (Pg.mkPg ki nu ep si rs).bytes).toList == (strOfNums (Pg.mkPg ki nu ep si []).bytes).toList) = true := by rw [List.eq_nil_of_length_eq_zero (show rs.length = 0 by rw [HP.out.len]; exact hn0)]; exact str_eq _
          have hn1 : ((n : Int) == 0) = true := by rw [beq_iff_eq]; omega
          clear hn0
          go_upto_region 13 with (fail)
          go_wp2_with (first | (go_at_call 11; (with_reducible refine (encode_in ki nu ep si a n c rs w _ HP.out HB2.out HMA.out).mono ?_); rintro e w2 ⟨g1, rfl, hg1, hx1, hb2⟩; have HX1 := Lib.hid hx1; have HB3 := Lib.hid (HB2.out.trans (hb2.mono HB2.out.size)); have HC3 := Lib.hid (HC2.out.trans (hb2.mono HC2.out.size)); have z := row_cells ((hb2.block (w1.heap.size + 1) (by simp)).trans HY2.out); obtain ⟨⟨d0, d1, d2, d3, d4⟩, e0, e1, e2, e3, e4⟩ := z; clear hx1 hb2 hg1) | (go_at_call 11; (with_reducible refine (encode_in ki nu ep si none 0 0 [] w _ HPB.out HB3.out HMB.out).mono ?_); rintro e w3 ⟨g2, rfl, hg2, hx2, hb3⟩; have cx := conv_blk (HX1.out.below hb3) HMA.out HP.out.recs.byte; have cy := conv_blk hx2 HMB.out HPB.out.recs.byte; have HB4 := Lib.hid (HB3.out.trans (hb3.mono HB3.out.size)); have k4 := ((HC3.out.trans (hb3.mono HC3.out.size)).cell (p := ⟨w.heap.size, 4, none⟩) HZL.out).trans c4; clear hb3 hg2) | (go_at_call 16; refine (num_err 1 _ (HL.out.below HB4.out)).mono ?_; rintro e w4 ⟨rfl, hb4⟩; have HB5 := Lib.hid (HB4.out.trans (hb4.mono HB4.out.size)); clear hb4) | (go_at_call 10; refine (sure_any _).mono ?_; rintro e w5 ⟨rfl, hb5⟩; have HB6 := Lib.hid (HB4.out.trans (hb5.mono HB4.out.size)); clear hb5))
          go_ret
          exact ⟨rfl, HB6.out⟩
        · have hne := str_ne (byte_bytes HP.out.recs.byte) (byte_bytes HPB.out.recs.byte) (pg_count HMA.out HMB.out (by show rs.length ≠ 0; rw [HP.out.len]; exact hn0))
          have hn1 : ((n : Int) == 0) = false := by rw [beq_eq_false_iff_ne]; omega
          clear hn0
          go_upto_region 13 with (fail)
          go_wp2_with (first | (go_at_call 11; (with_reducible refine (encode_in ki nu ep si a n c rs w _ HP.out HB2.out HMA.out).mono ?_); rintro e w2 ⟨g1, rfl, hg1, hx1, hb2⟩; have HX1 := Lib.hid hx1; have HB3 := Lib.hid (HB2.out.trans (hb2.mono HB2.out.size)); have HC3 := Lib.hid (HC2.out.trans (hb2.mono HC2.out.size)); have z := row_cells ((hb2.block (w1.heap.size + 1) (by simp)).trans HY2.out); obtain ⟨⟨d0, d1, d2, d3, d4⟩, e0, e1, e2, e3, e4⟩ := z; clear hx1 hb2 hg1) | (go_at_call 11; (with_reducible refine (encode_in ki nu ep si none 0 0 [] w _ HPB.out HB3.out HMB.out).mono ?_); rintro e w3 ⟨g2, rfl, hg2, hx2, hb3⟩; have cx := conv_blk (HX1.out.below hb3) HMA.out HP.out.recs.byte; have cy := conv_blk hx2 HMB.out HPB.out.recs.byte; have HB4 := Lib.hid (HB3.out.trans (hb3.mono HB3.out.size)); have k4 := ((HC3.out.trans (hb3.mono HC3.out.size)).cell (p := ⟨w.heap.size, 4, none⟩) HZL.out).trans c4; clear hb3 hg2) | (go_at_call 16; refine (num_err 1 _ (HL.out.below HB4.out)).mono ?_; rintro e w4 ⟨rfl, hb4⟩; have HB5 := Lib.hid (HB4.out.trans (hb4.mono HB4.out.size)); clear hb4) | (go_at_call 10; refine (sure_any _).mono ?_; rintro e w5 ⟨rfl, hb5⟩; have HB6 := Lib.hid (HB4.out.trans (hb5.mono HB4.out.size)); clear hb5))
          go_ret
          exact ⟨rfl, HB6.out⟩
  · go_wp2_with (go_at_call 10; refine (sure_any _).mono ?_; rintro e w2 ⟨rfl, hb2⟩)
    go_ret
    exact ⟨rfl, (HB0.out.trans (HB1.out.mono (by simp))).trans (hb2.mono (HB0.out.trans (HB1.out.mono (by simp))).size)⟩
end Go.Proofs.YtmfddecndadohaaDoor

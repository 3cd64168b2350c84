/-
  RLE: Write.
-/
import Derived.Test.YtangbokcdgganaaGreatDoorMg
import Derived.Test.YtangbokcdgganaaGreatDoorCj
namespace Go.Proofs.YtangbokcdgganaaGreatDoor
open Go.RowKit Ru Ce
open Go.Lib (decDigits)

namespace Rl
/-- the text of sorted cells, its last line's begin -/
def wT (law : List UInt8) (S : List Cel) : List UInt8 × Nat :=
  endT (putT (runsT (dims S).1.1 S (dims S).1.1 (dims S).1.2 (headT (dims S).2.1.toNat (dims S).2.2.toNat law)) [33])
def Good (law : List UInt8) (L : List Cel) : Prop := chkN L = 0 ∧ (dims (srt L)).2.1 ≤ 274877906944 ∧ (dims (srt L)).2.2 ≤ 274877906944 ∧ (wT law (srt L)).1.length ≤ 65536
def WriteR (w : World) (law : List UInt8) (L : List Cel) (e : Ending) (w' : World) : Prop :=
  Below w.heap.size w w' ∧ ((Good law L ∧ e = .returned (.tuple #[.string (st (wT law (srt L)).1), .nilIface])) ∨ (¬ Good law L ∧ ∃ n : Nat, ¬ n = 0 ∧ e = .returned (.tuple #[.string ⟨#[]⟩, .iface 48 (.int .i64 n)])))
theorem runs_len2 (lx : Int) : ∀ (n : Nat) (L : List Cel) (ax ay : Int) (p : List UInt8 × Nat), n ≤ 999999 → L.length ≤ n → (∀ c ∈ L, -274877906944 ≤ c.1 ∧ c.1 ≤ 274877906944 ∧ -274877906944 ≤ c.2 ∧ c.2 ≤ 274877906944) → -274877906944 ≤ lx → -274877906944 ≤ ax → -274877906944 ≤ ay → p.2 ≤ p.1.length → (runsT lx L ax ay p).2 ≤ (runsT lx L ax ay p).1.length ∧ (runsT lx L ax ay p).1.length ≤ p.1.length + 42 * n
  | n, [], ax, ay, p, _, _, _, _, _, _, hp => by rw [runsT_nil]; exact ⟨hp, by omega⟩
  | 0, c :: t, _, _, _, _, h, _, _, _, _, _ => by simp at h
  | n + 1, c :: t, ax, ay, p, hn, h, hk, hl, hax, hay, hp => by
    have hc := hk c (by simp)
    have ht := tog_le c t
    have hq : tog (c :: t) ≤ 999999999999 := by have := ht.2; omega
    have hk' : ∀ d ∈ (c :: t).drop (tog (c :: t)), -274877906944 ≤ d.1 ∧ d.1 ≤ 274877906944 ∧ -274877906944 ≤ d.2 ∧ d.2 ≤ 274877906944 := fun d hd => hk d (List.mem_of_mem_drop hd)
    have hl' : ((c :: t).drop (tog (c :: t))).length ≤ n := by rw [List.length_drop]; omega
    by_cases hd : ay < c.2
    · rw [runsT_dn hd]
      have h1 := run_le p (c.2 - ay).toNat 36 (by omega) hp
      have h2 := run_le (runT p (c.2 - ay).toNat 36) (c.1 - lx).toNat 98 (by omega) h1.1
      have h3 := run_le (runT (runT p (c.2 - ay).toNat 36) (c.1 - lx).toNat 98) (tog (c :: t)) 111 hq h2.1
      have h4 := runs_len2 lx n _ (c.1 + (tog (c :: t) : Nat)) c.2 _ (by omega) hl' hk' hl (by omega) hc.2.2.1 h3.1
      exact ⟨h4.1, by omega⟩
    · rw [runsT_eq hd]
      have h2 := run_le p (c.1 - ax).toNat 98 (by omega) hp
      have h3 := run_le (runT p (c.1 - ax).toNat 98) (tog (c :: t)) 111 hq h2.1
      have h4 := runs_len2 lx n _ (c.1 + (tog (c :: t) : Nat)) c.2 _ (by omega) hl' hk' hl (by omega) hc.2.2.1 h3.1
      exact ⟨h4.1, by omega⟩
theorem dims_ok (S : List Cel) (hs : Srt S) (hk : ∀ x ∈ S, okc x = true) : (0 ≤ (dims S).2.1 ∧ (dims S).2.1 ≤ 549755813889) ∧ (0 ≤ (dims S).2.2 ∧ (dims S).2.2 ≤ 549755813889) ∧ (-274877906944 ≤ (dims S).1.1 ∧ (dims S).1.1 ≤ 274877906944) ∧ (-274877906944 ≤ (dims S).1.2 ∧ (dims S).1.2 ≤ 274877906944) ∧ Nice (dims S).1.1 S (dims S).1.1 (dims S).1.2 := by
  cases S with
  | nil => exact ⟨by simp [dims], by simp [dims], by simp [dims], by simp [dims], ⟨hs, (fun c hc => by cases hc), (fun c hc => by cases hc), (fun c hc => by cases hc)⟩⟩
  | cons p t =>
    have h2 : ∀ x ∈ p :: t, (-274877906944 ≤ x.1 ∧ -274877906944 ≤ x.2) ∧ (x.1 ≤ 274877906944 ∧ x.2 ≤ 274877906944) := fun x hx => by have := (okc_iff x).1 (hk x hx); omega
    have hlo := lo_bnd (-274877906944) t p (fun x hx => (h2 x (by simp [hx])).1) (h2 p (by simp)).1
    have hhi := hi_bnd 274877906944 t p (fun x hx => (h2 x (by simp [hx])).2) (h2 p (by simp)).2
    have hp := h2 p (by simp)
    unfold dims
    have hall : ∀ c ∈ p :: t, (t.foldl lo2 p).1 ≤ c.1 ∧ (t.foldl lo2 p).2 ≤ c.2 := fun c hc => by
      rcases List.mem_cons.1 hc with rfl | hc
      · exact hlo.2.1
      · exact hlo.2.2 c hc
    refine ⟨by simp only; omega, by simp only; omega, by simp only; omega, by simp only; omega, ⟨hs, fun c hc => (hall c hc).1, fun c hc => ?_, hk⟩⟩
    have := hall c hc
    simp only
    omega
theorem conv_b {B : Nat} {w : World} {g : Nat} {p : List UInt8 × Nat} {v : Value} (h : Wt B w g p.1 p.2 v) (h0 : 0 < p.1.length) : (convert 41 9 v).run Tryz.prog w = .ok (.string (st p.1)) w := by
  have ho := h.own
  rcases h.own.2 with ⟨rfl, e⟩ | ⟨b, cap, cur, rfl, _⟩
  · omega
  · refine run_convert_bytes_back w 41 9 5 ⟨b, 0, none⟩ cap p.1 Tryz.underlying41 Tryz.underlying5 Tryz.underlying9 (fun j hj => ?_)
    refine ho.cells (g := b) rfl j _ ?_
    unfold bv
    rw [List.getElem?_map, List.getElem?_eq_getElem hj]
    rfl
theorem Tb.bl {w w' : World} {B : Nat} (h : Tb w) (hb : Below B w w') (ht : 2 < B) : Tb w' := by
  unfold Tb Lib.TabIs World.var? at h ⊢
  rw [tb_g] at h ⊢
  simp only [Option.bind_some] at h ⊢
  rw [hb.block _ ht]
  exact h
theorem txt_len (b l : Nat) : (txt b l).length ≤ 21 := by
  have := dgs_len b 9
  have := dgs_len l 9
  unfold txt dg
  simp only [List.length_cons, List.length_append]
  omega
theorem own_blk {T : TypeId} {w : World} {B n : Nat} {ao : Option Addr} {cap : Nat} {L : List Cel} {m : Nat} (h : OwnC T w B (.slice ao n cap) m L) : ∀ a, ao = some a → a.block < w.heap.size := fun a e => by
  subst e
  rcases h.2 with ⟨e, _⟩ | ⟨b, c2, cur, e, _, h4, _⟩
  · cases e
  · simp only [Value.slice.injEq, Option.some.injEq] at e
    rw [e.1]; exact lt_of_block h4
set_option maxRecDepth 100000 in
set_option maxHeartbeats 8000000 in
theorem write_any (b l : Nat) (hm : mayR b l = true) (ao : Option Addr) (n c : Nat) (L : List Cel) (w : World) (ha : Cls w ao L) (hn : L.length = n) (hz : ao = none → n = 0) (hn1 : n ≤ 1000000) (ht : Tb w) :
    Calls Tryz.prog 5 #[.agg #[.int .u16 b, .int .u16 l], .slice ao n c] w (WriteR w (bl (str (txt b l))) L) := by
  have HT := Lib.hid (fun W => text_ok b l hm W)
  have hlw : (str (txt b l)).size ≤ 21 := by rw [str_size]; exact txt_len b l
  generalize str (txt b l) = law at *
  unfold Rv at HT
  have HAL := Lib.hid (alX w (.cells #[.int .u16 b, .int .u16 l] 32))
  have hnew := heap_alloc_new w (.cells #[.int .u16 b, .int .u16 l] 32)
  obtain ⟨⟨r0, r1⟩, _, _⟩ := row2 hnew
  have HS := Lib.hid (fun (W : World) (hW : Cls W ao L) => sorted_any ao n c L W hW hn hz (by omega))
  have HA := Lib.hid ha
  have HTB := Lib.hid ht
  have HLW := Lib.hid hlw
  by_cases hc : chkN L = 0
  · have hok := (chkN_zero hc).2
    have hlen := (chkN_zero hc).1
    have hsk : ∀ x ∈ srt L, okc x = true := fun x hx => hok x ((srt_mem L x).1 hx)
    have hsl : (srt L).length ≤ 4096 := Nat.le_trans (srt_len L) hlen
    obtain ⟨d1, d2, d3, d4, hnice⟩ := dims_ok (srt L) (srt_srt L) hsk
    unfold SortedR at HS
    simp only [if_pos hc] at HS
    obtain ⟨S, hS⟩ : ∃ S, srt L = S := ⟨_, rfl⟩
    have HGD := Lib.hid (show Good (bl law) L ↔ ((dims S).2.1 ≤ 274877906944 ∧ (dims S).2.2 ≤ 274877906944 ∧ (wT (bl law) S).1.length ≤ 65536) by
      unfold Good; rw [hS]; exact ⟨fun h => h.2, fun h => ⟨hc, h⟩⟩)
    simp only [hS] at HS hsk hsl d1 d2 d3 d4 hnice
    obtain ⟨T, hT⟩ : ∃ T, wT (bl law) S = T := ⟨_, rfl⟩
    rw [hT] at HGD
    have HTE := Lib.hid (show wT (bl law) (srt L) = T by rw [hS]; exact hT)
    obtain ⟨⟨⟨lx, ly⟩, W, H⟩, hD⟩ : ∃ d, dims S = d := ⟨_, rfl⟩
    unfold wT at hT
    have HM := Lib.hid (fun (V : World) (ao' : Option Addr) (c' : Nat) (hV : Cls V ao' S) => measure_any ao' S.length c' S V hV rfl hsl hsk)
    simp only [hD] at hT HM HGD d1 d2 d3 d4 hnice
    simp only [cv] at HM
    have HNI := Lib.hid hnice
    have HSL := Lib.hid hsl
    have hW0 := d1.1
    have hW1 := d1.2
    have hH0 := d2.1
    have hH1 := d2.2
    have HD := Lib.hid (And.intro d3 d4)
    clear ha ht hn hz hc hnew hlw hok hlen hsk hsl hS hD d1 d2 d3 d4 hnice
    go_enter Tryz.func5, Tryz.ntmps5
    go_upto_region 8 with (first
      | (go_at_call 11; refine (HT.out _).mono ?_; rintro e w2 ⟨rfl, hb2⟩; have HB2 := Lib.hid (b_go HAL.out hb2); clear hb2)
      | (go_at_call 12; refine (HS.out _ (HA.out.below HB2.out (Nat.le_refl _))).mono ?_; rintro e w3 ⟨v, rfl, hv, hb3⟩; obtain ⟨a1, c1, rfl, hcl, hcap, _⟩ := own_cls hv; have HB3 := Lib.hid (b_go HB2.out hb3); have HC3 := Lib.hid hcl; have HLT := Lib.hid (own_blk hv); have HCAP := Lib.hid hcap; clear hb3 hv hcl hcap)
      | (go_at_call 13; refine (HM.out _ _ _ HC3.out).mono ?_; rintro e w4 ⟨rfl, hb4⟩; have HB4 := Lib.hid (b_go HB3.out hb4); have HC4 := Lib.hid (HC3.out.below hb4 (Nat.le_refl _)); have HLE := Lib.hid hb4.size; clear hb4))
    have HB5 := Lib.hid (b_go HB4.out (alX w4 (.cells #[.int .i64 lx, .int .i64 ly] 25)))
    have HC5 := Lib.hid (HC4.out.below (alX w4 (.cells #[.int .i64 lx, .int .i64 ly] 25)) (Nat.le_refl _))
    have HN5 := Lib.hid (show Cb (w4.alloc (.cells #[.int .i64 lx, .int .i64 ly] 25)) w4.heap.size lx ly from heap_alloc_new w4 _)
    by_cases hw : W ≤ 274877906944 ∧ H ≤ 274877906944
    · obtain ⟨hw1, hw2⟩ := hw
      have HWH := Lib.hid (And.intro (And.intro hW0 hw1) (And.intro hH0 hw2))
      obtain ⟨g, hgq⟩ : ∃ g, (w4.alloc (.cells #[.int .i64 lx, .int .i64 ly] 25)).heap.size = g := ⟨_, rfl⟩
      obtain ⟨w5, hw5⟩ : ∃ w5, w4.alloc (.cells #[.int .i64 lx, .int .i64 ly] 25) = w5 := ⟨_, rfl⟩
      rw [hw5] at hgq HB5 HC5 HN5 ⊢
      have hg4 : w4.heap.size < g := by rw [← hgq, ← hw5]; simp
      have HG := Lib.hid (And.intro hgq hg4)
      have HAW := Lib.hid (alX w5 (.cells #[.slice none 0 0, .int .i64 0] 50))
      have HWT := Lib.hid (show WtE g (w5.alloc (.cells #[.slice none 0 0, .int .i64 0] 50)) g ([], 0) from ⟨.slice none 0 0, by rw [← hgq]; exact heap_alloc_new w5 _, World.ownsRow_nil _ _ _ _, Nat.le_refl _⟩)
      have HB6 := Lib.hid (b_go HB5.out HAW.out)
      have HC6 := Lib.hid (HC5.out.below HAW.out (Nat.le_refl _))
      have HN6 := Lib.hid (show Cb (w5.alloc (.cells #[.slice none 0 0, .int .i64 0] 50)) w4.heap.size lx ly from (heap_alloc_old w5 _ (lt_of_block HN5.out)).trans HN5.out)
      have HT6 := Lib.hid (HTB.out.below HB6.out)
      have HTG := Lib.hid (show 2 < g by have h1 := HTB.out.lt; have h2 := HB5.out.size; omega)
      have HLA := Lib.hid (show ∀ a, a1 = some a → a.block < g from fun a e => by have := HLT.out a e; have := HLE.out; omega)
      have HS6 := Lib.hid (show g ≤ (w5.alloc (.cells #[.slice none 0 0, .int .i64 0] 50)).heap.size by rw [← hgq]; simp)
      have hcW : ((W.toNat : Nat) : Int) = W := by omega
      have hcH : ((H.toNat : Nat) : Int) = H := by omega
      have HHD := Lib.hid (head_any g g W.toNat H.toNat law (w5.alloc (.cells #[.slice none 0 0, .int .i64 0] 50)) HWT.out HT6.out (by omega) (by omega) (by have := HLW.out; omega) HS6.out)
      rw [hcW, hcH] at HHD
      have hpl1 : (headT W.toNat H.toNat (bl law)).2 ≤ (headT W.toNat H.toNat (bl law)).1.length ∧ (headT W.toNat H.toNat (bl law)).1.length ≤ 100 := by
        have h1 := put_le ([], 0) (hdL W.toNat H.toNat (bl law)) (by simp)
        have h2 := hdL_len W.toNat H.toNat (bl law) (by omega) (by omega)
        have h3 := HLW.out
        rw [bl_size] at h2
        unfold headT endT
        simp only [List.length_nil, List.length_append, List.length_cons] at h1 ⊢
        omega
      generalize headT W.toNat H.toNat (bl law) = P1 at *
      have hpl2 := runs_len2 lx 4096 S lx ly P1 (by omega) HSL.out (fun c hc => (okc_iff c).1 (HNI.out.ok c hc)) HD.out.1.1 HD.out.1.1 HD.out.2.1 hpl1.1
      have HRN := Lib.hid (fun (V : World) (h1 : WtE g V g P1) (h2 : Tb V) (h3 : Cls V a1 S) (h4 : g ≤ V.heap.size) => runs_any g g P1 lx ly S a1 S.length c1 V h1 h2 HTG.out h3 HLA.out h4 rfl HSL.out HCAP.out HNI.out HD.out.1.1 HD.out.1.2 HD.out.2.1 hpl1.1 (by have := hpl1.2; omega))
      generalize runsT lx S lx ly P1 = P2 at *
      have HPT := Lib.hid (fun (V : World) (h1 : WtE g V g P2) (h4 : g ≤ V.heap.size) => put_any g g P2 ⟨#[33]⟩ V h1 hpl2.1 (by have := hpl2.2; have := hpl1.2; show _ + 1 ≤ _; omega) (by decide) h4)
      have hpl3 := put_le P2 [33] hpl2.1
      have HPT' : Hid (∀ V : World, WtE g V g P2 → g ≤ V.heap.size → Calls Tryz.prog 16 #[.pointer (some ⟨g, 0, none⟩), .string ⟨#[33]⟩] V (WtR g g V (putT P2 [33]))) := HPT
      have HEL := Lib.hid (fun (V : World) (h1 : WtE g V g (putT P2 [33])) (h4 : g ≤ V.heap.size) => endLine_any g g (putT P2 [33]) V h1 (by have := hpl2.2; have := hpl1.2; simp only [List.length_cons, List.length_nil] at hpl3; omega) h4)
      rw [hT] at HEL
      have HT0 := Lib.hid (show 0 < T.1.length ∧ T.1.length ≤ 1000000 by
        rw [← hT]; unfold endT
        simp only [List.length_append, List.length_cons, List.length_nil] at hpl3 ⊢
        have := hpl2.2; have := hpl1.2
        omega)
      clear hgq hg4 hcW hcH hpl1 hpl2 hpl3 HPT hT
      generalize putT P2 [33] = P3 at *
      have hgg := HG.out.1
      subst hgg
      have HGW := Lib.hid (show w.heap.size ≤ w5.heap.size from HB5.out.size)
      go_upto_region 11 with (fail)
      generalize w5.alloc (.cells #[.slice none 0 0, .int .i64 0] 50) = w6 at *
      go_upto_region 12 with (go_at_call 14; refine HHD.out.mono ?_; rintro e w7 hwr; obtain rfl := hwr.1; have H7 := Lib.hid hwr; clear hwr)
      have HN7 := Lib.hid (show Cb w7 w4.heap.size lx ly from (H7.out.2.1.block _ HG.out.2).trans HN6.out)
      obtain ⟨⟨c0, c1'⟩, _, _⟩ := row2 HN7.out
      have HR7 := Lib.hid (HRN.out w7 H7.out.2.2.1 (HT6.out.bl H7.out.2.1 HTG.out) (cls_b HC6.out HLA.out H7.out.2.1) (Nat.le_trans HS6.out H7.out.2.2.2.1))
      go_upto_region 13 with (go_at_call 15; refine HR7.out.mono ?_; rintro e w8 hwr; obtain rfl := hwr.1; have H8 := Lib.hid hwr; clear hwr)
      have HS8 := Lib.hid (Nat.le_trans HS6.out (Nat.le_trans H7.out.2.2.2.1 H8.out.2.2.2.1))
      go_upto_region 14 with (go_at_call 16; refine (HPT'.out w8 H8.out.2.2.1 HS8.out).mono ?_; rintro e w9 hwr; obtain rfl := hwr.1; have H9 := Lib.hid hwr; clear hwr)
      have HS9 := Lib.hid (Nat.le_trans HS8.out H9.out.2.2.2.1)
      go_upto_region 15 with (go_at_call 17; refine (HEL.out w9 H9.out.2.2.1 HS9.out).mono ?_; rintro e w10 hwr; obtain rfl := hwr.1; have H10 := Lib.hid hwr; clear hwr)
      obtain ⟨v, hv⟩ := H10.out.2.2.1
      have hcv := conv_b hv HT0.out.1
      obtain ⟨a2, c2, rfl⟩ := ownb_val hv.own
      obtain ⟨⟨t0, t1⟩, _, _⟩ := row2 hv.blk
      have HBB := Lib.hid (show Below w.heap.size w w10 from HB6.out.trans ((((H7.out.2.1.trans H8.out.2.1).trans H9.out.2.1).trans H10.out.2.1).mono HGW.out))
      obtain ⟨q, hq⟩ : ∃ q, T.1.length = q := ⟨_, rfl⟩
      rw [hq] at hcv t0
      have q0 : (0 : Int) ≤ (q : Int) := by omega
      clear hv c0 c1'
      by_cases hlq : q ≤ 65536
      · have hlq' : (q : Int) ≤ 65536 := by omega
        have HGG := Lib.hid (show Good (bl law) L from HGD.out.2 ⟨hw1, hw2, by omega⟩)
        clear hlq hq
        go_wp2
        go_ret2
        exact ⟨HBB.out, .inl ⟨HGG.out, by rw [HTE.out]; rfl⟩⟩
      · have hlq' : (65536 : Int) < (q : Int) := by omega
        have HNG := Lib.hid (show ¬ Good (bl law) L from fun h => by have := (HGD.out.1 h).2.2; omega)
        clear hlq hq
        go_wp2
        go_ret2
        exact ⟨HBB.out, .inr ⟨HNG.out, 2, by decide, rfl⟩⟩
    · have HNG := Lib.hid (show ¬ Good (bl law) L from fun h => hw ⟨(HGD.out.1 h).1, (HGD.out.1 h).2.1⟩)
      by_cases hw1 : W ≤ 274877906944
      · have hw2 : (274877906944 : Int) < H := by omega
        go_wp2
        go_ret2
        exact ⟨HB5.out, .inr ⟨HNG.out, 4, by decide, rfl⟩⟩
      · have hw2 : (274877906944 : Int) < W := by omega
        go_wp2
        go_ret2
        exact ⟨HB5.out, .inr ⟨HNG.out, 4, by decide, rfl⟩⟩
  · unfold SortedR at HS
    simp only [if_neg hc] at HS
    have HNG := Lib.hid (show ¬ Good (bl law) L from fun h => hc h.1)
    rw [errv_some hc] at HS
    have HC := Lib.hid hc
    clear ha ht hn hz hc hnew hlw
    go_enter Tryz.func5, Tryz.ntmps5
    go_wp2_with (first | (go_at_call 11; refine (HT.out _).mono ?_; rintro e w2 ⟨rfl, hb2⟩; have HB2 := Lib.hid (b_go HAL.out hb2); clear hb2) | (go_at_call 12; refine (HS.out _ (HA.out.below HB2.out (Nat.le_refl _))).mono ?_; rintro e w3 ⟨rfl, hb3⟩; have HB3 := Lib.hid (b_go HB2.out hb3); clear hb3))
    go_ret2
    exact ⟨HB3.out, .inr ⟨HNG.out, _, HC.out, rfl⟩⟩
end Rl
end Go.Proofs.YtangbokcdgganaaGreatDoor

/-
  THE WALK of GrowWide. Conditions: what came in could be read.
-/
import Derived.Test.YtgimphkamjojpaaS47
namespace Go.Proofs.Ytgimphkamjojpaa
open Go.RowKit Ti Qd Go.Maps Go.WideMaps Ru

/-- A slice of integers that came in: nil; or it leads to a row of 'cap' cells, the numbers 'zs' (the first 'len' are its elements, the rest its spare room), each fitting its kind. -/
def IsRow (k : IntKind) (w : World) (a : Option Addr) (len cap : Nat) (zs : List Int) : Prop :=
  (a = none ∧ len = 0 ∧ cap = 0 ∧ zs = []) ∨
  ∃ x, a = some x ∧ len ≤ cap ∧ cap ≤ maxLen ∧ zs.length = cap ∧ (∀ i, i < zs.length → w.cell? (x.add i) = some (.int k (zs.getD i 0))) ∧ ∀ n ∈ zs, (Lit.int k n).wf = true
theorem bounds_u64 {n : Int} (h : (Lit.int .u64 n).wf = true) : 0 ≤ n ∧ n ≤ 18446744073709551615 := by
  have h1 : IntKind.u64.min ≤ n ∧ n ≤ IntKind.u64.max := by simpa [Lit.wf] using h
  have e0 : IntKind.u64.min = 0 := rfl
  have e1 : IntKind.u64.max = 18446744073709551615 := rfl
  omega
theorem isrow_x {w : World} {a : Option Addr} {len cap : Nat} {zs : List Int} (h : IsRow .u64 w a len cap zs) : ∃ X : Nat → Nat, LiesX w a len X ∧ len ≤ 9223372036854775807 := by
  rcases h with ⟨rfl, rfl, rfl, rfl⟩ | ⟨x, rfl, hl, hm, hz, hc, hw⟩
  · exact ⟨fun _ => 0, fun i hi => absurd hi (by omega), by omega⟩
  · unfold maxLen at hm
    refine ⟨fun i => (zs.getD i 0).toNat, fun i hi => ?_, by omega⟩
    have hiz : i < zs.length := by omega
    obtain ⟨b, off, spot⟩ := x
    have c := hc i hiz
    have hspot : spot = none := by
      have c0 := hc 0 (by omega)
      simpa [Addr.add] using World.cell?_spot c0
    subst hspot
    have e : zs.getD i 0 = zs[i] := by simp [hiz]
    have hb := bounds_u64 (hw zs[i] (List.getElem_mem hiz))
    refine ⟨b, off, rfl, ?_, by show (zs.getD i 0).toNat < _; rw [e]; omega⟩
    rw [show (({ block := b, off := off, spot := none } : Addr).add i) = ⟨b, off + i, none⟩ from by simp [Addr.add]] at c
    show _ = some (Value.int .u64 (((zs.getD i 0).toNat : Nat) : Int))
    rw [c, e, show (((zs[i]).toNat : Nat) : Int) = zs[i] by omega]
theorem red_nat (x : Int) (m : Nat) (h0 : 0 < m) (h : m ≤ 1099511627776) : ∃ p : Nat, p < m ∧ wrap64 ((IntKind.u64.wrap x).tmod (m : Int)) = (p : Int) := by
  have h1 := wrap_u64_nonneg x
  obtain ⟨n, hn⟩ : ∃ n : Nat, IntKind.u64.wrap x = (n : Int) := ⟨(IntKind.u64.wrap x).toNat, by omega⟩
  rw [hn, tmod_nat]
  have := Nat.mod_lt n h0
  exact ⟨n % m, this, wrap_small (by omega)⟩
/-- a rule in a box, since a world -/
structure RuAt (W w : World) (r l : Nat) : Prop where
  rule : w.heap[W.heap.size]? = some (.cells #[.int .u16 r, .int .u16 l] 24)
  below : Below W.heap.size W w
theorem RuAt.on {W w w2 : World} {r l : Nat} (h : RuAt W w r l) (k : Below w.heap.size w w2) : RuAt W w2 r l := ⟨(k.block _ (lt_of_block h.rule)).trans h.rule, h.below.trans (k.mono h.below.size)⟩
theorem RuAt.on2 {W w w2 : World} {r l B : Nat} (h : RuAt W w r l) (k : Below B w w2) (hB : W.heap.size < B) : RuAt W w2 r l := ⟨(k.block _ hB).trans h.rule, h.below.trans (k.mono (Nat.le_of_lt hB))⟩
theorem ru_start (r l : Nat) (W : World) : RuAt W (W.alloc (.cells #[.int .u16 r, .int .u16 l] 24)) r l := ⟨heap_alloc_new W _, alX W _⟩
set_option maxRecDepth 100000 in
set_option maxHeartbeats 8000000 in
theorem wide_0 (r l : Nat) (a : Option Addr) (len cap : Nat) (X : Nat → Nat) (k : Int) (W : World) (hm : mayR r l = true) (hx : LiesX W a len X) (hlen : len ≤ 9223372036854775807) (ep : wrap64 ((IntKind.u64.wrap k).tmod 4) = 0) :
    Calls Try.prog 3 #[Rv r l, .slice a len cap, .int .i64 k] W fun e w' => e = .returned (.bool true) ∧ Below W.heap.size W w' := by
  have HM := Lib.hid (fun w => may_ref r l w)
  rw [hm] at HM
  have HMY := Lib.hid hm
  have HR0 := Lib.hid (ru_start r l W)
  have HX := Lib.hid hx
  have HEP := Lib.hid ep
  have HLN := Lib.hid hlen
  unfold Rv at HM ⊢
  obtain ⟨c0, c1⟩ := two_cells HR0.out.rule
  clear hm hx ep hlen
  go_enter Try.func3, Try.ntmps3
  go_wp2_with fail
  refine (HM.out _).mono ?_
  rintro e w1 ⟨rfl, hb⟩
  have HR1 := Lib.hid (HR0.out.on hb)
  clear hb c0 c1 HR0
  go_upto_region 4 with (fail)
  rw [HEP.out, show wrap64 (3 + 0) = 3 from by unfold wrap64; omega]
  have HN := Lib.hid (new_lit 30000 30000 rfl w1 (by decide) (by decide))
  go_wp2_with fail
  refine HN.out.mono ?_
  rintro e w2 ⟨P, H, rfl, hs, hb⟩
  have HR2 := Lib.hid (HR1.out.on hb)
  have HSZ := Lib.hid (And.intro hb.size (lt_of_block HR1.out.rule))
  obtain ⟨c0, c1⟩ := two_cells HR2.out.rule
  have HG := Lib.hid (show Calls Try.prog 9 #[.pointer (some ⟨P, 0, none⟩), .agg #[.int .u16 r, .int .u16 l]] w2 (GMade w1.heap.size w2 P r l 30000 [] H) from gnew_ok hs hb.size r l HMY.out)
  have HS2 := Lib.hid (fun x hx => (hs.lt x hx).1)
  clear hs hb HN HR1
  go_wp2_with fail
  refine HG.out.mono ?_
  rintro e w3 ⟨G, M, H', rfl, hgr, hst⟩
  have HR3 := Lib.hid (HR2.out.on2 (hst.below HS2.out HSZ.out.1) HSZ.out.2)
  have HH := Lib.hid (show (∀ x, H' x → w1.heap.size ≤ x) ∧ w1.heap.size ≤ w3.heap.size from ⟨fun x hx => (hgr.lt x hx).1, Nat.le_trans HSZ.out.1 hst.size⟩)
  have HS := Lib.hid (Gs.start hgr)
  clear hgr hst HG HS2 c0 c1 HR2
  go_wp2_with fail
  refine (show Calls Try.prog 11 #[.slice a len cap, .int .i64 8] w3 fun e W' => e = .returned (.slice (some ⟨w3.heap.size, 0, none⟩) 64 64) ∧ FI w3 X 8 64 (min len 60) W' from field_ok a len cap X 8 w3 (HX.out.below HR3.out.below) HLN.out (by decide) (by decide)).mono ?_
  rintro e w4 ⟨rfl, hfi⟩
  have HS4 := Lib.hid (HS.out.made hfi.bel hfi.row)
  clear hfi HS HX
  obtain ⟨F, hF⟩ : ∃ F, F = fF X 8 (min len 60) := ⟨_, rfl⟩
  rw [← hF] at HS4
  have hfew : trN F 64 ≤ 60 := by rw [hF]; exact Nat.le_trans (fF_few X 8 64 _) (by omega)
  have ho := lay_ok inv_nil 0 8 (by omega) rfl F 64 (by omega)
  obtain ⟨R, hR⟩ : ∃ R, R = layQ [] 0 8 F 64 := ⟨_, rfl⟩
  have hrl : R.1.length ≤ 300 := by
    have h1 := ho.len
    rw [← hR] at h1
    simp only [List.length_nil] at h1
    have h2 : trN F 64 * (0 + 1) ≤ 60 * 4 := Nat.mul_le_mul hfew (by decide)
    omega
  obtain ⟨Hs, hst, hno, hgo⟩ := HS4.out.store2
  have hL := (laid_8 hst F w3.heap.size HS4.out.b0 (hno _ List.mem_cons_self) (by rw [← hR]; exact Nat.le_trans hrl (by decide)))
  rw [← hR] at hL
  have HL := Lib.hid hL
  have HGO := Lib.hid hgo
  obtain ⟨S, hS⟩ : ∃ S : GS, S = (R.1, fun _ _ => none) := ⟨_, rfl⟩
  have kS : GOk r l S := by rw [hS]; exact gok_new r l (by rw [hR]; exact ho.inv)
  have lS : Lv S.1 0 R.2 := by rw [hS, hR]; exact ho.lv
  have hSl : S.1.length ≤ 300 := by rw [hS]; exact hrl
  obtain ⟨A, hA⟩ : ∃ A, A = wideG S 0 R.2 := ⟨_, rfl⟩
  obtain ⟨Bq, hB⟩ : ∃ B, B = wideG A.1 (0 + 1) A.2 := ⟨_, rfl⟩
  obtain ⟨C, hC⟩ : ∃ C, C = ctrG Bq.1 A.2 := ⟨_, rfl⟩
  obtain ⟨D, hD⟩ : ∃ D, D = ctrG C.1 Bq.2 := ⟨_, rfl⟩
  obtain ⟨U, hU⟩ : ∃ U, U = growQ r l (0 + 1) D.1 Bq.2 0 := ⟨_, rfl⟩
  obtain ⟨V, hV⟩ : ∃ V, V = growQ r l 0 U.1 A.2 0 := ⟨_, rfl⟩
  obtain ⟨T, hT⟩ : ∃ T, T = ctrG V.1 U.2 := ⟨_, rfl⟩
  have ch := wide_ch r l kS (n := 0) (by omega) lS A Bq C D U V T hA hB hC hD hU hV hT
  have e1 : cst (0 + 1) 0 ≤ 1446 := by decide
  have e2 : cst 0 0 ≤ 1446 := by decide
  have lT : T.1.1.length ≤ 30000 := by have := ch.lenT; omega
  have lV := Nat.le_trans ch.eT.length_le lT
  have lU := Nat.le_trans ch.eV.length_le lV
  have lD := Nat.le_trans ch.eU.length_le lU
  have lC := Nat.le_trans ch.eD.length_le lD
  have lB := Nat.le_trans ch.eC.length_le lC
  have lA := Nat.le_trans ch.eB.length_le lB
  have oD : Ok D.1.1 R.2 := lS.1.ext (ch.eA.trans (ch.eB.trans (ch.eC.trans ch.eD)))
  have oB : Lv D.1.1 (0 + 2) Bq.2 := ch.lB.ext (ch.eC.trans ch.eD)
  have HWA := Lib.hid (fun (wx : World) (Hx : Nat → Prop) (hx : Gr w1.heap.size wx G P M r l S 30000 Hx) => (show Calls Try.prog 12 #[.pointer (some ⟨G, 0, none⟩), .int .i64 R.2] wx fun e w' => e = .returned (.tuple #[.int .i64 A.2, .nilIface]) ∧ Gt w1.heap.size wx G P M r l 30000 Hx A.1 w' from by
    rw [hA] at lA ⊢
    exact wideP_ok hx kS 0 (by omega) R.2 lS lA))
  have HWB := Lib.hid (fun (wx : World) (Hx : Nat → Prop) (hx : Gr w1.heap.size wx G P M r l A.1 30000 Hx) => (show Calls Try.prog 12 #[.pointer (some ⟨G, 0, none⟩), .int .i64 A.2] wx fun e w' => e = .returned (.tuple #[.int .i64 Bq.2, .nilIface]) ∧ Gt w1.heap.size wx G P M r l 30000 Hx Bq.1 w' from by
    rw [hB] at lB ⊢
    exact wideP_ok hx ch.kA (0 + 1) (by omega) A.2 ch.lA lB))
  have HWC := Lib.hid (fun (wx : World) (Hx : Nat → Prop) (hx : Gr w1.heap.size wx G P M r l Bq.1 30000 Hx) => (show Calls Try.prog 13 #[.pointer (some ⟨G, 0, none⟩), .int .i64 A.2] wx fun e w' => e = .returned (.tuple #[.int .i64 R.2, .nilIface]) ∧ Gt w1.heap.size wx G P M r l 30000 Hx C.1 w' from by
    rw [← ch.c]
    rw [hC] at lC ⊢
    exact center_ok hx 0 (by omega) A.2 (ch.lA.ext ch.eB) lC))
  have HWD := Lib.hid (fun (wx : World) (Hx : Nat → Prop) (hx : Gr w1.heap.size wx G P M r l C.1 30000 Hx) => (show Calls Try.prog 13 #[.pointer (some ⟨G, 0, none⟩), .int .i64 Bq.2] wx fun e w' => e = .returned (.tuple #[.int .i64 A.2, .nilIface]) ∧ Gt w1.heap.size wx G P M r l 30000 Hx D.1 w' from by
    rw [← ch.d]
    rw [hD] at lD ⊢
    exact center_ok hx (0 + 1) (by omega) Bq.2 (ch.lB.ext ch.eC) lD))
  have HWU := Lib.hid (fun (wx : World) (Hx : Nat → Prop) (hx : Gr w1.heap.size wx G P M r l D.1 30000 Hx) => (show Calls Try.prog 15 #[.pointer (some ⟨G, 0, none⟩), .int .i64 Bq.2, .int .i64 0] wx fun e w' => e = .returned (.tuple #[.int .i64 U.2, .nilIface]) ∧ Gt w1.heap.size wx G P M r l 30000 Hx U.1 w' from by
    rw [hU] at lU ⊢
    exact growP_ok HMY.out hx ch.kD (0 + 1) (by omega) Bq.2 oB 0 (by omega) lU))
  have HWV := Lib.hid (fun (wx : World) (Hx : Nat → Prop) (hx : Gr w1.heap.size wx G P M r l U.1 30000 Hx) => (show Calls Try.prog 15 #[.pointer (some ⟨G, 0, none⟩), .int .i64 A.2, .int .i64 0] wx fun e w' => e = .returned (.tuple #[.int .i64 V.2, .nilIface]) ∧ Gt w1.heap.size wx G P M r l 30000 Hx V.1 w' from by
    rw [hV] at lV ⊢
    exact growP_ok HMY.out hx ch.kU 0 (by omega) A.2 (((ch.lA.ext ch.eB).ext ch.eC).ext (ch.eD.trans ch.eU)) 0 (by omega) lV))
  have HWT := Lib.hid (fun (wx : World) (Hx : Nat → Prop) (hx : Gr w1.heap.size wx G P M r l V.1 30000 Hx) => (show Calls Try.prog 13 #[.pointer (some ⟨G, 0, none⟩), .int .i64 U.2] wx fun e w' => e = .returned (.tuple #[.int .i64 V.2, .nilIface]) ∧ Gt w1.heap.size wx G P M r l 30000 Hx T.1 w' from by
    rw [← ch.t]
    rw [hT] at lT ⊢
    exact center_ok hx 0 (by omega) U.2 (ch.lU.ext ch.eV) lT))
  obtain ⟨cn, hcn⟩ : ∃ cn, cn = (at' D.1.1 R.2).cnt := ⟨_, rfl⟩
  have HCN := Lib.hid (And.intro oD (And.intro hcn.symm (And.intro oB.1 (ch.cnt.symm.trans hcn.symm))))
  have HSS := Lib.hid hS
  generalize R.2 = id at *
  clear hst hno hgo hL hF hfew ho hR hrl kS lS hSl hA hB hC hD hU hV hT ch e1 e2 lT lV lU lD lC lB lA oD oB hcn hS
  go_wp2_with fail
  refine HL.out.mono ?_
  rintro e w5 ⟨rfl, hg⟩
  have HS5 := Lib.hid (show Gs _ _ _ _ _ _ _ _ _ S [] w5 from HSS.out ▸ (HGO.out _ _ hg).sub (by' := []) (fun x hx => by cases hx) List.nodup_nil)
  clear hg HL HGO HS4 HSS
  obtain ⟨H1, h1, h2⟩ := HS5.out.call
  have HC1 := Lib.hid (HWA.out _ _ h1)
  have HX1 := Lib.hid h2
  clear h1 h2 HWA
  go_wp2_with fail
  refine HC1.out.mono ?_
  rintro e w6 ⟨rfl, hg⟩
  have HS6 := Lib.hid (HX1.out _ _ hg)
  clear hg HC1 HX1 HS5
  obtain ⟨H1, h1, h2⟩ := HS6.out.call
  have HC1 := Lib.hid (HWB.out _ _ h1)
  have HX1 := Lib.hid h2
  clear h1 h2 HWB
  go_wp2_with fail
  refine HC1.out.mono ?_
  rintro e w7 ⟨rfl, hg⟩
  have HS7 := Lib.hid (HX1.out _ _ hg)
  clear hg HC1 HX1 HS6
  obtain ⟨H1, h1, h2⟩ := HS7.out.call
  have HC1 := Lib.hid (HWC.out _ _ h1)
  have HX1 := Lib.hid h2
  clear h1 h2 HWC
  go_wp2_with fail
  refine HC1.out.mono ?_
  rintro e w8 ⟨rfl, hg⟩
  have HS8 := Lib.hid (HX1.out _ _ hg)
  clear hg HC1 HX1 HS7
  obtain ⟨H1, h1, h2⟩ := HS8.out.call
  have HC1 := Lib.hid (HWD.out _ _ h1)
  have HX1 := Lib.hid h2
  clear h1 h2 HWD
  go_wp2_with fail
  refine HC1.out.mono ?_
  rintro e w9 ⟨rfl, hg⟩
  have HS9 := Lib.hid (HX1.out _ _ hg)
  clear hg HC1 HX1 HS8
  obtain ⟨Hs1, hst1, _⟩ := HS9.out.store
  have HC1 := Lib.hid (count_is hst1 id HCN.out.1 cn HCN.out.2.1)
  clear hst1
  go_wp2_with fail
  refine HC1.out.mono ?_
  rintro e w10 ⟨rfl, hb⟩
  have HS10 := Lib.hid (HS9.out.below hb)
  clear hb HC1 HS9
  obtain ⟨Hs1, hst1, _⟩ := HS10.out.store
  have HC1 := Lib.hid (count_is hst1 Bq.2 HCN.out.2.2.1 cn HCN.out.2.2.2)
  clear hst1
  go_wp2_with fail
  refine HC1.out.mono ?_
  rintro e w11 ⟨rfl, hb⟩
  have HS11 := Lib.hid (HS10.out.below hb)
  clear hb HC1 HS10 HCN
  have b1 : (id != id) = false := by simp
  have b2 : (A.2 != A.2) = false := by simp
  have b3 : (cn != cn) = false := by simp
  have b4 : (V.2 == V.2) = true := by simp
  obtain ⟨H1, h1, h2⟩ := HS11.out.call
  have HC1 := Lib.hid (HWU.out _ _ h1)
  have HX1 := Lib.hid h2
  clear h1 h2 HWU
  go_wp2_with fail
  refine HC1.out.mono ?_
  rintro e w12 ⟨rfl, hg⟩
  have HS12 := Lib.hid (HX1.out _ _ hg)
  clear hg HC1 HX1 HS11
  obtain ⟨H1, h1, h2⟩ := HS12.out.call
  have HC1 := Lib.hid (HWV.out _ _ h1)
  have HX1 := Lib.hid h2
  clear h1 h2 HWV
  go_wp2_with fail
  refine HC1.out.mono ?_
  rintro e w13 ⟨rfl, hg⟩
  have HS13 := Lib.hid (HX1.out _ _ hg)
  clear hg HC1 HX1 HS12
  obtain ⟨H1, h1, h2⟩ := HS13.out.call
  have HC1 := Lib.hid (HWT.out _ _ h1)
  have HX1 := Lib.hid h2
  clear h1 h2 HWT
  go_wp2_with fail
  refine HC1.out.mono ?_
  rintro e w14 ⟨rfl, hg⟩
  have HS14 := Lib.hid (HX1.out _ _ hg)
  clear hg HC1 HX1 HS13
  have HB := Lib.hid (HR3.out.below.trans ((HS14.out.bel HH.out.1 HH.out.2).mono (Nat.le_of_lt HSZ.out.2)))
  go_wp2_with (go_at_call 7; refine (sure_any _).mono ?_; rintro e w15 ⟨rfl, hb⟩; have HB2 := Lib.hid (HB.out.trans (hb.mono HB.out.size)); clear hb)
  go_ret
  exact ⟨rfl, HB2.out⟩
set_option maxRecDepth 100000 in
set_option maxHeartbeats 8000000 in
theorem wide_1 (r l : Nat) (a : Option Addr) (len cap : Nat) (X : Nat → Nat) (k : Int) (W : World) (hm : mayR r l = true) (hx : LiesX W a len X) (hlen : len ≤ 9223372036854775807) (ep : wrap64 ((IntKind.u64.wrap k).tmod 4) = 1) :
    Calls Try.prog 3 #[Rv r l, .slice a len cap, .int .i64 k] W fun e w' => e = .returned (.bool true) ∧ Below W.heap.size W w' := by
  have HM := Lib.hid (fun w => may_ref r l w)
  rw [hm] at HM
  have HMY := Lib.hid hm
  have HR0 := Lib.hid (ru_start r l W)
  have HX := Lib.hid hx
  have HEP := Lib.hid ep
  have HLN := Lib.hid hlen
  unfold Rv at HM ⊢
  obtain ⟨c0, c1⟩ := two_cells HR0.out.rule
  clear hm hx ep hlen
  go_enter Try.func3, Try.ntmps3
  go_wp2_with fail
  refine (HM.out _).mono ?_
  rintro e w1 ⟨rfl, hb⟩
  have HR1 := Lib.hid (HR0.out.on hb)
  clear hb c0 c1 HR0
  go_upto_region 4 with (fail)
  rw [HEP.out, show wrap64 (3 + 1) = 4 from by unfold wrap64; omega]
  have HN := Lib.hid (new_lit 30000 30000 rfl w1 (by decide) (by decide))
  go_wp2_with fail
  refine HN.out.mono ?_
  rintro e w2 ⟨P, H, rfl, hs, hb⟩
  have HR2 := Lib.hid (HR1.out.on hb)
  have HSZ := Lib.hid (And.intro hb.size (lt_of_block HR1.out.rule))
  obtain ⟨c0, c1⟩ := two_cells HR2.out.rule
  have HG := Lib.hid (show Calls Try.prog 9 #[.pointer (some ⟨P, 0, none⟩), .agg #[.int .u16 r, .int .u16 l]] w2 (GMade w1.heap.size w2 P r l 30000 [] H) from gnew_ok hs hb.size r l HMY.out)
  have HS2 := Lib.hid (fun x hx => (hs.lt x hx).1)
  clear hs hb HN HR1
  go_wp2_with fail
  refine HG.out.mono ?_
  rintro e w3 ⟨G, M, H', rfl, hgr, hst⟩
  have HR3 := Lib.hid (HR2.out.on2 (hst.below HS2.out HSZ.out.1) HSZ.out.2)
  have HH := Lib.hid (show (∀ x, H' x → w1.heap.size ≤ x) ∧ w1.heap.size ≤ w3.heap.size from ⟨fun x hx => (hgr.lt x hx).1, Nat.le_trans HSZ.out.1 hst.size⟩)
  have HS := Lib.hid (Gs.start hgr)
  clear hgr hst HG HS2 c0 c1 HR2
  go_wp2_with fail
  refine (show Calls Try.prog 11 #[.slice a len cap, .int .i64 16] w3 fun e W' => e = .returned (.slice (some ⟨w3.heap.size, 0, none⟩) 256 256) ∧ FI w3 X 16 256 (min len 60) W' from field_ok a len cap X 16 w3 (HX.out.below HR3.out.below) HLN.out (by decide) (by decide)).mono ?_
  rintro e w4 ⟨rfl, hfi⟩
  have HS4 := Lib.hid (HS.out.made hfi.bel hfi.row)
  clear hfi HS HX
  obtain ⟨F, hF⟩ : ∃ F, F = fF X 16 (min len 60) := ⟨_, rfl⟩
  rw [← hF] at HS4
  have hfew : trN F 256 ≤ 60 := by rw [hF]; exact Nat.le_trans (fF_few X 16 256 _) (by omega)
  have ho := lay_ok inv_nil 1 16 (by omega) rfl F 256 (by omega)
  obtain ⟨R, hR⟩ : ∃ R, R = layQ [] 1 16 F 256 := ⟨_, rfl⟩
  have hrl : R.1.length ≤ 300 := by
    have h1 := ho.len
    rw [← hR] at h1
    simp only [List.length_nil] at h1
    have h2 : trN F 256 * (1 + 1) ≤ 60 * 4 := Nat.mul_le_mul hfew (by decide)
    omega
  obtain ⟨Hs, hst, hno, hgo⟩ := HS4.out.store2
  have hL := (laid_16 hst F w3.heap.size HS4.out.b0 (hno _ List.mem_cons_self) (by rw [← hR]; exact Nat.le_trans hrl (by decide)))
  rw [← hR] at hL
  have HL := Lib.hid hL
  have HGO := Lib.hid hgo
  obtain ⟨S, hS⟩ : ∃ S : GS, S = (R.1, fun _ _ => none) := ⟨_, rfl⟩
  have kS : GOk r l S := by rw [hS]; exact gok_new r l (by rw [hR]; exact ho.inv)
  have lS : Lv S.1 1 R.2 := by rw [hS, hR]; exact ho.lv
  have hSl : S.1.length ≤ 300 := by rw [hS]; exact hrl
  obtain ⟨A, hA⟩ : ∃ A, A = wideG S 1 R.2 := ⟨_, rfl⟩
  obtain ⟨Bq, hB⟩ : ∃ B, B = wideG A.1 (1 + 1) A.2 := ⟨_, rfl⟩
  obtain ⟨C, hC⟩ : ∃ C, C = ctrG Bq.1 A.2 := ⟨_, rfl⟩
  obtain ⟨D, hD⟩ : ∃ D, D = ctrG C.1 Bq.2 := ⟨_, rfl⟩
  obtain ⟨U, hU⟩ : ∃ U, U = growQ r l (1 + 1) D.1 Bq.2 0 := ⟨_, rfl⟩
  obtain ⟨V, hV⟩ : ∃ V, V = growQ r l 1 U.1 A.2 0 := ⟨_, rfl⟩
  obtain ⟨T, hT⟩ : ∃ T, T = ctrG V.1 U.2 := ⟨_, rfl⟩
  have ch := wide_ch r l kS (n := 1) (by omega) lS A Bq C D U V T hA hB hC hD hU hV hT
  have e1 : cst (1 + 1) 0 ≤ 1446 := by decide
  have e2 : cst 1 0 ≤ 1446 := by decide
  have lT : T.1.1.length ≤ 30000 := by have := ch.lenT; omega
  have lV := Nat.le_trans ch.eT.length_le lT
  have lU := Nat.le_trans ch.eV.length_le lV
  have lD := Nat.le_trans ch.eU.length_le lU
  have lC := Nat.le_trans ch.eD.length_le lD
  have lB := Nat.le_trans ch.eC.length_le lC
  have lA := Nat.le_trans ch.eB.length_le lB
  have oD : Ok D.1.1 R.2 := lS.1.ext (ch.eA.trans (ch.eB.trans (ch.eC.trans ch.eD)))
  have oB : Lv D.1.1 (1 + 2) Bq.2 := ch.lB.ext (ch.eC.trans ch.eD)
  have HWA := Lib.hid (fun (wx : World) (Hx : Nat → Prop) (hx : Gr w1.heap.size wx G P M r l S 30000 Hx) => (show Calls Try.prog 12 #[.pointer (some ⟨G, 0, none⟩), .int .i64 R.2] wx fun e w' => e = .returned (.tuple #[.int .i64 A.2, .nilIface]) ∧ Gt w1.heap.size wx G P M r l 30000 Hx A.1 w' from by
    rw [hA] at lA ⊢
    exact wideP_ok hx kS 1 (by omega) R.2 lS lA))
  have HWB := Lib.hid (fun (wx : World) (Hx : Nat → Prop) (hx : Gr w1.heap.size wx G P M r l A.1 30000 Hx) => (show Calls Try.prog 12 #[.pointer (some ⟨G, 0, none⟩), .int .i64 A.2] wx fun e w' => e = .returned (.tuple #[.int .i64 Bq.2, .nilIface]) ∧ Gt w1.heap.size wx G P M r l 30000 Hx Bq.1 w' from by
    rw [hB] at lB ⊢
    exact wideP_ok hx ch.kA (1 + 1) (by omega) A.2 ch.lA lB))
  have HWC := Lib.hid (fun (wx : World) (Hx : Nat → Prop) (hx : Gr w1.heap.size wx G P M r l Bq.1 30000 Hx) => (show Calls Try.prog 13 #[.pointer (some ⟨G, 0, none⟩), .int .i64 A.2] wx fun e w' => e = .returned (.tuple #[.int .i64 R.2, .nilIface]) ∧ Gt w1.heap.size wx G P M r l 30000 Hx C.1 w' from by
    rw [← ch.c]
    rw [hC] at lC ⊢
    exact center_ok hx 1 (by omega) A.2 (ch.lA.ext ch.eB) lC))
  have HWD := Lib.hid (fun (wx : World) (Hx : Nat → Prop) (hx : Gr w1.heap.size wx G P M r l C.1 30000 Hx) => (show Calls Try.prog 13 #[.pointer (some ⟨G, 0, none⟩), .int .i64 Bq.2] wx fun e w' => e = .returned (.tuple #[.int .i64 A.2, .nilIface]) ∧ Gt w1.heap.size wx G P M r l 30000 Hx D.1 w' from by
    rw [← ch.d]
    rw [hD] at lD ⊢
    exact center_ok hx (1 + 1) (by omega) Bq.2 (ch.lB.ext ch.eC) lD))
  have HWU := Lib.hid (fun (wx : World) (Hx : Nat → Prop) (hx : Gr w1.heap.size wx G P M r l D.1 30000 Hx) => (show Calls Try.prog 15 #[.pointer (some ⟨G, 0, none⟩), .int .i64 Bq.2, .int .i64 0] wx fun e w' => e = .returned (.tuple #[.int .i64 U.2, .nilIface]) ∧ Gt w1.heap.size wx G P M r l 30000 Hx U.1 w' from by
    rw [hU] at lU ⊢
    exact growP_ok HMY.out hx ch.kD (1 + 1) (by omega) Bq.2 oB 0 (by omega) lU))
  have HWV := Lib.hid (fun (wx : World) (Hx : Nat → Prop) (hx : Gr w1.heap.size wx G P M r l U.1 30000 Hx) => (show Calls Try.prog 15 #[.pointer (some ⟨G, 0, none⟩), .int .i64 A.2, .int .i64 0] wx fun e w' => e = .returned (.tuple #[.int .i64 V.2, .nilIface]) ∧ Gt w1.heap.size wx G P M r l 30000 Hx V.1 w' from by
    rw [hV] at lV ⊢
    exact growP_ok HMY.out hx ch.kU 1 (by omega) A.2 (((ch.lA.ext ch.eB).ext ch.eC).ext (ch.eD.trans ch.eU)) 0 (by omega) lV))
  have HWT := Lib.hid (fun (wx : World) (Hx : Nat → Prop) (hx : Gr w1.heap.size wx G P M r l V.1 30000 Hx) => (show Calls Try.prog 13 #[.pointer (some ⟨G, 0, none⟩), .int .i64 U.2] wx fun e w' => e = .returned (.tuple #[.int .i64 V.2, .nilIface]) ∧ Gt w1.heap.size wx G P M r l 30000 Hx T.1 w' from by
    rw [← ch.t]
    rw [hT] at lT ⊢
    exact center_ok hx 1 (by omega) U.2 (ch.lU.ext ch.eV) lT))
  obtain ⟨cn, hcn⟩ : ∃ cn, cn = (at' D.1.1 R.2).cnt := ⟨_, rfl⟩
  have HCN := Lib.hid (And.intro oD (And.intro hcn.symm (And.intro oB.1 (ch.cnt.symm.trans hcn.symm))))
  have HSS := Lib.hid hS
  generalize R.2 = id at *
  clear hst hno hgo hL hF hfew ho hR hrl kS lS hSl hA hB hC hD hU hV hT ch e1 e2 lT lV lU lD lC lB lA oD oB hcn hS
  go_wp2_with fail
  refine HL.out.mono ?_
  rintro e w5 ⟨rfl, hg⟩
  have HS5 := Lib.hid (show Gs _ _ _ _ _ _ _ _ _ S [] w5 from HSS.out ▸ (HGO.out _ _ hg).sub (by' := []) (fun x hx => by cases hx) List.nodup_nil)
  clear hg HL HGO HS4 HSS
  obtain ⟨H1, h1, h2⟩ := HS5.out.call
  have HC1 := Lib.hid (HWA.out _ _ h1)
  have HX1 := Lib.hid h2
  clear h1 h2 HWA
  go_wp2_with fail
  refine HC1.out.mono ?_
  rintro e w6 ⟨rfl, hg⟩
  have HS6 := Lib.hid (HX1.out _ _ hg)
  clear hg HC1 HX1 HS5
  obtain ⟨H1, h1, h2⟩ := HS6.out.call
  have HC1 := Lib.hid (HWB.out _ _ h1)
  have HX1 := Lib.hid h2
  clear h1 h2 HWB
  go_wp2_with fail
  refine HC1.out.mono ?_
  rintro e w7 ⟨rfl, hg⟩
  have HS7 := Lib.hid (HX1.out _ _ hg)
  clear hg HC1 HX1 HS6
  obtain ⟨H1, h1, h2⟩ := HS7.out.call
  have HC1 := Lib.hid (HWC.out _ _ h1)
  have HX1 := Lib.hid h2
  clear h1 h2 HWC
  go_wp2_with fail
  refine HC1.out.mono ?_
  rintro e w8 ⟨rfl, hg⟩
  have HS8 := Lib.hid (HX1.out _ _ hg)
  clear hg HC1 HX1 HS7
  obtain ⟨H1, h1, h2⟩ := HS8.out.call
  have HC1 := Lib.hid (HWD.out _ _ h1)
  have HX1 := Lib.hid h2
  clear h1 h2 HWD
  go_wp2_with fail
  refine HC1.out.mono ?_
  rintro e w9 ⟨rfl, hg⟩
  have HS9 := Lib.hid (HX1.out _ _ hg)
  clear hg HC1 HX1 HS8
  obtain ⟨Hs1, hst1, _⟩ := HS9.out.store
  have HC1 := Lib.hid (count_is hst1 id HCN.out.1 cn HCN.out.2.1)
  clear hst1
  go_wp2_with fail
  refine HC1.out.mono ?_
  rintro e w10 ⟨rfl, hb⟩
  have HS10 := Lib.hid (HS9.out.below hb)
  clear hb HC1 HS9
  obtain ⟨Hs1, hst1, _⟩ := HS10.out.store
  have HC1 := Lib.hid (count_is hst1 Bq.2 HCN.out.2.2.1 cn HCN.out.2.2.2)
  clear hst1
  go_wp2_with fail
  refine HC1.out.mono ?_
  rintro e w11 ⟨rfl, hb⟩
  have HS11 := Lib.hid (HS10.out.below hb)
  clear hb HC1 HS10 HCN
  have b1 : (id != id) = false := by simp
  have b2 : (A.2 != A.2) = false := by simp
  have b3 : (cn != cn) = false := by simp
  have b4 : (V.2 == V.2) = true := by simp
  obtain ⟨H1, h1, h2⟩ := HS11.out.call
  have HC1 := Lib.hid (HWU.out _ _ h1)
  have HX1 := Lib.hid h2
  clear h1 h2 HWU
  go_wp2_with fail
  refine HC1.out.mono ?_
  rintro e w12 ⟨rfl, hg⟩
  have HS12 := Lib.hid (HX1.out _ _ hg)
  clear hg HC1 HX1 HS11
  obtain ⟨H1, h1, h2⟩ := HS12.out.call
  have HC1 := Lib.hid (HWV.out _ _ h1)
  have HX1 := Lib.hid h2
  clear h1 h2 HWV
  go_wp2_with fail
  refine HC1.out.mono ?_
  rintro e w13 ⟨rfl, hg⟩
  have HS13 := Lib.hid (HX1.out _ _ hg)
  clear hg HC1 HX1 HS12
  obtain ⟨H1, h1, h2⟩ := HS13.out.call
  have HC1 := Lib.hid (HWT.out _ _ h1)
  have HX1 := Lib.hid h2
  clear h1 h2 HWT
  go_wp2_with fail
  refine HC1.out.mono ?_
  rintro e w14 ⟨rfl, hg⟩
  have HS14 := Lib.hid (HX1.out _ _ hg)
  clear hg HC1 HX1 HS13
  have HB := Lib.hid (HR3.out.below.trans ((HS14.out.bel HH.out.1 HH.out.2).mono (Nat.le_of_lt HSZ.out.2)))
  go_wp2_with (go_at_call 7; refine (sure_any _).mono ?_; rintro e w15 ⟨rfl, hb⟩; have HB2 := Lib.hid (HB.out.trans (hb.mono HB.out.size)); clear hb)
  go_ret
  exact ⟨rfl, HB2.out⟩
set_option maxRecDepth 100000 in
set_option maxHeartbeats 8000000 in
theorem wide_2 (r l : Nat) (a : Option Addr) (len cap : Nat) (X : Nat → Nat) (k : Int) (W : World) (hm : mayR r l = true) (hx : LiesX W a len X) (hlen : len ≤ 9223372036854775807) (ep : wrap64 ((IntKind.u64.wrap k).tmod 4) = 2) :
    Calls Try.prog 3 #[Rv r l, .slice a len cap, .int .i64 k] W fun e w' => e = .returned (.bool true) ∧ Below W.heap.size W w' := by
  have HM := Lib.hid (fun w => may_ref r l w)
  rw [hm] at HM
  have HMY := Lib.hid hm
  have HR0 := Lib.hid (ru_start r l W)
  have HX := Lib.hid hx
  have HEP := Lib.hid ep
  have HLN := Lib.hid hlen
  unfold Rv at HM ⊢
  obtain ⟨c0, c1⟩ := two_cells HR0.out.rule
  clear hm hx ep hlen
  go_enter Try.func3, Try.ntmps3
  go_wp2_with fail
  refine (HM.out _).mono ?_
  rintro e w1 ⟨rfl, hb⟩
  have HR1 := Lib.hid (HR0.out.on hb)
  clear hb c0 c1 HR0
  go_upto_region 4 with (fail)
  rw [HEP.out, show wrap64 (3 + 2) = 5 from by unfold wrap64; omega]
  have HN := Lib.hid (new_lit 30000 30000 rfl w1 (by decide) (by decide))
  go_wp2_with fail
  refine HN.out.mono ?_
  rintro e w2 ⟨P, H, rfl, hs, hb⟩
  have HR2 := Lib.hid (HR1.out.on hb)
  have HSZ := Lib.hid (And.intro hb.size (lt_of_block HR1.out.rule))
  obtain ⟨c0, c1⟩ := two_cells HR2.out.rule
  have HG := Lib.hid (show Calls Try.prog 9 #[.pointer (some ⟨P, 0, none⟩), .agg #[.int .u16 r, .int .u16 l]] w2 (GMade w1.heap.size w2 P r l 30000 [] H) from gnew_ok hs hb.size r l HMY.out)
  have HS2 := Lib.hid (fun x hx => (hs.lt x hx).1)
  clear hs hb HN HR1
  go_wp2_with fail
  refine HG.out.mono ?_
  rintro e w3 ⟨G, M, H', rfl, hgr, hst⟩
  have HR3 := Lib.hid (HR2.out.on2 (hst.below HS2.out HSZ.out.1) HSZ.out.2)
  have HH := Lib.hid (show (∀ x, H' x → w1.heap.size ≤ x) ∧ w1.heap.size ≤ w3.heap.size from ⟨fun x hx => (hgr.lt x hx).1, Nat.le_trans HSZ.out.1 hst.size⟩)
  have HS := Lib.hid (Gs.start hgr)
  clear hgr hst HG HS2 c0 c1 HR2
  go_wp2_with fail
  refine (show Calls Try.prog 11 #[.slice a len cap, .int .i64 32] w3 fun e W' => e = .returned (.slice (some ⟨w3.heap.size, 0, none⟩) 1024 1024) ∧ FI w3 X 32 1024 (min len 60) W' from field_ok a len cap X 32 w3 (HX.out.below HR3.out.below) HLN.out (by decide) (by decide)).mono ?_
  rintro e w4 ⟨rfl, hfi⟩
  have HS4 := Lib.hid (HS.out.made hfi.bel hfi.row)
  clear hfi HS HX
  obtain ⟨F, hF⟩ : ∃ F, F = fF X 32 (min len 60) := ⟨_, rfl⟩
  rw [← hF] at HS4
  have hfew : trN F 1024 ≤ 60 := by rw [hF]; exact Nat.le_trans (fF_few X 32 1024 _) (by omega)
  have ho := lay_ok inv_nil 2 32 (by omega) rfl F 1024 (by omega)
  obtain ⟨R, hR⟩ : ∃ R, R = layQ [] 2 32 F 1024 := ⟨_, rfl⟩
  have hrl : R.1.length ≤ 300 := by
    have h1 := ho.len
    rw [← hR] at h1
    simp only [List.length_nil] at h1
    have h2 : trN F 1024 * (2 + 1) ≤ 60 * 4 := Nat.mul_le_mul hfew (by decide)
    omega
  obtain ⟨Hs, hst, hno, hgo⟩ := HS4.out.store2
  have hL := (laid_32 hst F w3.heap.size HS4.out.b0 (hno _ List.mem_cons_self) (by rw [← hR]; exact Nat.le_trans hrl (by decide)))
  rw [← hR] at hL
  have HL := Lib.hid hL
  have HGO := Lib.hid hgo
  obtain ⟨S, hS⟩ : ∃ S : GS, S = (R.1, fun _ _ => none) := ⟨_, rfl⟩
  have kS : GOk r l S := by rw [hS]; exact gok_new r l (by rw [hR]; exact ho.inv)
  have lS : Lv S.1 2 R.2 := by rw [hS, hR]; exact ho.lv
  have hSl : S.1.length ≤ 300 := by rw [hS]; exact hrl
  obtain ⟨A, hA⟩ : ∃ A, A = wideG S 2 R.2 := ⟨_, rfl⟩
  obtain ⟨Bq, hB⟩ : ∃ B, B = wideG A.1 (2 + 1) A.2 := ⟨_, rfl⟩
  obtain ⟨C, hC⟩ : ∃ C, C = ctrG Bq.1 A.2 := ⟨_, rfl⟩
  obtain ⟨D, hD⟩ : ∃ D, D = ctrG C.1 Bq.2 := ⟨_, rfl⟩
  obtain ⟨U, hU⟩ : ∃ U, U = growQ r l (2 + 1) D.1 Bq.2 0 := ⟨_, rfl⟩
  obtain ⟨V, hV⟩ : ∃ V, V = growQ r l 2 U.1 A.2 0 := ⟨_, rfl⟩
  obtain ⟨T, hT⟩ : ∃ T, T = ctrG V.1 U.2 := ⟨_, rfl⟩
  have ch := wide_ch r l kS (n := 2) (by omega) lS A Bq C D U V T hA hB hC hD hU hV hT
  have e1 : cst (2 + 1) 0 ≤ 1446 := by decide
  have e2 : cst 2 0 ≤ 1446 := by decide
  have lT : T.1.1.length ≤ 30000 := by have := ch.lenT; omega
  have lV := Nat.le_trans ch.eT.length_le lT
  have lU := Nat.le_trans ch.eV.length_le lV
  have lD := Nat.le_trans ch.eU.length_le lU
  have lC := Nat.le_trans ch.eD.length_le lD
  have lB := Nat.le_trans ch.eC.length_le lC
  have lA := Nat.le_trans ch.eB.length_le lB
  have oD : Ok D.1.1 R.2 := lS.1.ext (ch.eA.trans (ch.eB.trans (ch.eC.trans ch.eD)))
  have oB : Lv D.1.1 (2 + 2) Bq.2 := ch.lB.ext (ch.eC.trans ch.eD)
  have HWA := Lib.hid (fun (wx : World) (Hx : Nat → Prop) (hx : Gr w1.heap.size wx G P M r l S 30000 Hx) => (show Calls Try.prog 12 #[.pointer (some ⟨G, 0, none⟩), .int .i64 R.2] wx fun e w' => e = .returned (.tuple #[.int .i64 A.2, .nilIface]) ∧ Gt w1.heap.size wx G P M r l 30000 Hx A.1 w' from by
    rw [hA] at lA ⊢
    exact wideP_ok hx kS 2 (by omega) R.2 lS lA))
  have HWB := Lib.hid (fun (wx : World) (Hx : Nat → Prop) (hx : Gr w1.heap.size wx G P M r l A.1 30000 Hx) => (show Calls Try.prog 12 #[.pointer (some ⟨G, 0, none⟩), .int .i64 A.2] wx fun e w' => e = .returned (.tuple #[.int .i64 Bq.2, .nilIface]) ∧ Gt w1.heap.size wx G P M r l 30000 Hx Bq.1 w' from by
    rw [hB] at lB ⊢
    exact wideP_ok hx ch.kA (2 + 1) (by omega) A.2 ch.lA lB))
  have HWC := Lib.hid (fun (wx : World) (Hx : Nat → Prop) (hx : Gr w1.heap.size wx G P M r l Bq.1 30000 Hx) => (show Calls Try.prog 13 #[.pointer (some ⟨G, 0, none⟩), .int .i64 A.2] wx fun e w' => e = .returned (.tuple #[.int .i64 R.2, .nilIface]) ∧ Gt w1.heap.size wx G P M r l 30000 Hx C.1 w' from by
    rw [← ch.c]
    rw [hC] at lC ⊢
    exact center_ok hx 2 (by omega) A.2 (ch.lA.ext ch.eB) lC))
  have HWD := Lib.hid (fun (wx : World) (Hx : Nat → Prop) (hx : Gr w1.heap.size wx G P M r l C.1 30000 Hx) => (show Calls Try.prog 13 #[.pointer (some ⟨G, 0, none⟩), .int .i64 Bq.2] wx fun e w' => e = .returned (.tuple #[.int .i64 A.2, .nilIface]) ∧ Gt w1.heap.size wx G P M r l 30000 Hx D.1 w' from by
    rw [← ch.d]
    rw [hD] at lD ⊢
    exact center_ok hx (2 + 1) (by omega) Bq.2 (ch.lB.ext ch.eC) lD))
  have HWU := Lib.hid (fun (wx : World) (Hx : Nat → Prop) (hx : Gr w1.heap.size wx G P M r l D.1 30000 Hx) => (show Calls Try.prog 15 #[.pointer (some ⟨G, 0, none⟩), .int .i64 Bq.2, .int .i64 0] wx fun e w' => e = .returned (.tuple #[.int .i64 U.2, .nilIface]) ∧ Gt w1.heap.size wx G P M r l 30000 Hx U.1 w' from by
    rw [hU] at lU ⊢
    exact growP_ok HMY.out hx ch.kD (2 + 1) (by omega) Bq.2 oB 0 (by omega) lU))
  have HWV := Lib.hid (fun (wx : World) (Hx : Nat → Prop) (hx : Gr w1.heap.size wx G P M r l U.1 30000 Hx) => (show Calls Try.prog 15 #[.pointer (some ⟨G, 0, none⟩), .int .i64 A.2, .int .i64 0] wx fun e w' => e = .returned (.tuple #[.int .i64 V.2, .nilIface]) ∧ Gt w1.heap.size wx G P M r l 30000 Hx V.1 w' from by
    rw [hV] at lV ⊢
    exact growP_ok HMY.out hx ch.kU 2 (by omega) A.2 (((ch.lA.ext ch.eB).ext ch.eC).ext (ch.eD.trans ch.eU)) 0 (by omega) lV))
  have HWT := Lib.hid (fun (wx : World) (Hx : Nat → Prop) (hx : Gr w1.heap.size wx G P M r l V.1 30000 Hx) => (show Calls Try.prog 13 #[.pointer (some ⟨G, 0, none⟩), .int .i64 U.2] wx fun e w' => e = .returned (.tuple #[.int .i64 V.2, .nilIface]) ∧ Gt w1.heap.size wx G P M r l 30000 Hx T.1 w' from by
    rw [← ch.t]
    rw [hT] at lT ⊢
    exact center_ok hx 2 (by omega) U.2 (ch.lU.ext ch.eV) lT))
  obtain ⟨cn, hcn⟩ : ∃ cn, cn = (at' D.1.1 R.2).cnt := ⟨_, rfl⟩
  have HCN := Lib.hid (And.intro oD (And.intro hcn.symm (And.intro oB.1 (ch.cnt.symm.trans hcn.symm))))
  have HSS := Lib.hid hS
  generalize R.2 = id at *
  clear hst hno hgo hL hF hfew ho hR hrl kS lS hSl hA hB hC hD hU hV hT ch e1 e2 lT lV lU lD lC lB lA oD oB hcn hS
  go_wp2_with fail
  refine HL.out.mono ?_
  rintro e w5 ⟨rfl, hg⟩
  have HS5 := Lib.hid (show Gs _ _ _ _ _ _ _ _ _ S [] w5 from HSS.out ▸ (HGO.out _ _ hg).sub (by' := []) (fun x hx => by cases hx) List.nodup_nil)
  clear hg HL HGO HS4 HSS
  obtain ⟨H1, h1, h2⟩ := HS5.out.call
  have HC1 := Lib.hid (HWA.out _ _ h1)
  have HX1 := Lib.hid h2
  clear h1 h2 HWA
  go_wp2_with fail
  refine HC1.out.mono ?_
  rintro e w6 ⟨rfl, hg⟩
  have HS6 := Lib.hid (HX1.out _ _ hg)
  clear hg HC1 HX1 HS5
  obtain ⟨H1, h1, h2⟩ := HS6.out.call
  have HC1 := Lib.hid (HWB.out _ _ h1)
  have HX1 := Lib.hid h2
  clear h1 h2 HWB
  go_wp2_with fail
  refine HC1.out.mono ?_
  rintro e w7 ⟨rfl, hg⟩
  have HS7 := Lib.hid (HX1.out _ _ hg)
  clear hg HC1 HX1 HS6
  obtain ⟨H1, h1, h2⟩ := HS7.out.call
  have HC1 := Lib.hid (HWC.out _ _ h1)
  have HX1 := Lib.hid h2
  clear h1 h2 HWC
  go_wp2_with fail
  refine HC1.out.mono ?_
  rintro e w8 ⟨rfl, hg⟩
  have HS8 := Lib.hid (HX1.out _ _ hg)
  clear hg HC1 HX1 HS7
  obtain ⟨H1, h1, h2⟩ := HS8.out.call
  have HC1 := Lib.hid (HWD.out _ _ h1)
  have HX1 := Lib.hid h2
  clear h1 h2 HWD
  go_wp2_with fail
  refine HC1.out.mono ?_
  rintro e w9 ⟨rfl, hg⟩
  have HS9 := Lib.hid (HX1.out _ _ hg)
  clear hg HC1 HX1 HS8
  obtain ⟨Hs1, hst1, _⟩ := HS9.out.store
  have HC1 := Lib.hid (count_is hst1 id HCN.out.1 cn HCN.out.2.1)
  clear hst1
  go_wp2_with fail
  refine HC1.out.mono ?_
  rintro e w10 ⟨rfl, hb⟩
  have HS10 := Lib.hid (HS9.out.below hb)
  clear hb HC1 HS9
  obtain ⟨Hs1, hst1, _⟩ := HS10.out.store
  have HC1 := Lib.hid (count_is hst1 Bq.2 HCN.out.2.2.1 cn HCN.out.2.2.2)
  clear hst1
  go_wp2_with fail
  refine HC1.out.mono ?_
  rintro e w11 ⟨rfl, hb⟩
  have HS11 := Lib.hid (HS10.out.below hb)
  clear hb HC1 HS10 HCN
  have b1 : (id != id) = false := by simp
  have b2 : (A.2 != A.2) = false := by simp
  have b3 : (cn != cn) = false := by simp
  have b4 : (V.2 == V.2) = true := by simp
  obtain ⟨H1, h1, h2⟩ := HS11.out.call
  have HC1 := Lib.hid (HWU.out _ _ h1)
  have HX1 := Lib.hid h2
  clear h1 h2 HWU
  go_wp2_with fail
  refine HC1.out.mono ?_
  rintro e w12 ⟨rfl, hg⟩
  have HS12 := Lib.hid (HX1.out _ _ hg)
  clear hg HC1 HX1 HS11
  obtain ⟨H1, h1, h2⟩ := HS12.out.call
  have HC1 := Lib.hid (HWV.out _ _ h1)
  have HX1 := Lib.hid h2
  clear h1 h2 HWV
  go_wp2_with fail
  refine HC1.out.mono ?_
  rintro e w13 ⟨rfl, hg⟩
  have HS13 := Lib.hid (HX1.out _ _ hg)
  clear hg HC1 HX1 HS12
  obtain ⟨H1, h1, h2⟩ := HS13.out.call
  have HC1 := Lib.hid (HWT.out _ _ h1)
  have HX1 := Lib.hid h2
  clear h1 h2 HWT
  go_wp2_with fail
  refine HC1.out.mono ?_
  rintro e w14 ⟨rfl, hg⟩
  have HS14 := Lib.hid (HX1.out _ _ hg)
  clear hg HC1 HX1 HS13
  have HB := Lib.hid (HR3.out.below.trans ((HS14.out.bel HH.out.1 HH.out.2).mono (Nat.le_of_lt HSZ.out.2)))
  go_wp2_with (go_at_call 7; refine (sure_any _).mono ?_; rintro e w15 ⟨rfl, hb⟩; have HB2 := Lib.hid (HB.out.trans (hb.mono HB.out.size)); clear hb)
  go_ret
  exact ⟨rfl, HB2.out⟩
set_option maxRecDepth 100000 in
set_option maxHeartbeats 8000000 in
theorem wide_3 (r l : Nat) (a : Option Addr) (len cap : Nat) (X : Nat → Nat) (k : Int) (W : World) (hm : mayR r l = true) (hx : LiesX W a len X) (hlen : len ≤ 9223372036854775807) (ep : wrap64 ((IntKind.u64.wrap k).tmod 4) = 3) :
    Calls Try.prog 3 #[Rv r l, .slice a len cap, .int .i64 k] W fun e w' => e = .returned (.bool true) ∧ Below W.heap.size W w' := by
  have HM := Lib.hid (fun w => may_ref r l w)
  rw [hm] at HM
  have HMY := Lib.hid hm
  have HR0 := Lib.hid (ru_start r l W)
  have HX := Lib.hid hx
  have HEP := Lib.hid ep
  have HLN := Lib.hid hlen
  unfold Rv at HM ⊢
  obtain ⟨c0, c1⟩ := two_cells HR0.out.rule
  clear hm hx ep hlen
  go_enter Try.func3, Try.ntmps3
  go_wp2_with fail
  refine (HM.out _).mono ?_
  rintro e w1 ⟨rfl, hb⟩
  have HR1 := Lib.hid (HR0.out.on hb)
  clear hb c0 c1 HR0
  go_upto_region 4 with (fail)
  rw [HEP.out, show wrap64 (3 + 3) = 6 from by unfold wrap64; omega]
  have HN := Lib.hid (new_lit 30000 30000 rfl w1 (by decide) (by decide))
  go_wp2_with fail
  refine HN.out.mono ?_
  rintro e w2 ⟨P, H, rfl, hs, hb⟩
  have HR2 := Lib.hid (HR1.out.on hb)
  have HSZ := Lib.hid (And.intro hb.size (lt_of_block HR1.out.rule))
  obtain ⟨c0, c1⟩ := two_cells HR2.out.rule
  have HG := Lib.hid (show Calls Try.prog 9 #[.pointer (some ⟨P, 0, none⟩), .agg #[.int .u16 r, .int .u16 l]] w2 (GMade w1.heap.size w2 P r l 30000 [] H) from gnew_ok hs hb.size r l HMY.out)
  have HS2 := Lib.hid (fun x hx => (hs.lt x hx).1)
  clear hs hb HN HR1
  go_wp2_with fail
  refine HG.out.mono ?_
  rintro e w3 ⟨G, M, H', rfl, hgr, hst⟩
  have HR3 := Lib.hid (HR2.out.on2 (hst.below HS2.out HSZ.out.1) HSZ.out.2)
  have HH := Lib.hid (show (∀ x, H' x → w1.heap.size ≤ x) ∧ w1.heap.size ≤ w3.heap.size from ⟨fun x hx => (hgr.lt x hx).1, Nat.le_trans HSZ.out.1 hst.size⟩)
  have HS := Lib.hid (Gs.start hgr)
  clear hgr hst HG HS2 c0 c1 HR2
  go_wp2_with fail
  refine (show Calls Try.prog 11 #[.slice a len cap, .int .i64 64] w3 fun e W' => e = .returned (.slice (some ⟨w3.heap.size, 0, none⟩) 4096 4096) ∧ FI w3 X 64 4096 (min len 60) W' from field_ok a len cap X 64 w3 (HX.out.below HR3.out.below) HLN.out (by decide) (by decide)).mono ?_
  rintro e w4 ⟨rfl, hfi⟩
  have HS4 := Lib.hid (HS.out.made hfi.bel hfi.row)
  clear hfi HS HX
  obtain ⟨F, hF⟩ : ∃ F, F = fF X 64 (min len 60) := ⟨_, rfl⟩
  rw [← hF] at HS4
  have hfew : trN F 4096 ≤ 60 := by rw [hF]; exact Nat.le_trans (fF_few X 64 4096 _) (by omega)
  have ho := lay_ok inv_nil 3 64 (by omega) rfl F 4096 (by omega)
  obtain ⟨R, hR⟩ : ∃ R, R = layQ [] 3 64 F 4096 := ⟨_, rfl⟩
  have hrl : R.1.length ≤ 300 := by
    have h1 := ho.len
    rw [← hR] at h1
    simp only [List.length_nil] at h1
    have h2 : trN F 4096 * (3 + 1) ≤ 60 * 4 := Nat.mul_le_mul hfew (by decide)
    omega
  obtain ⟨Hs, hst, hno, hgo⟩ := HS4.out.store2
  have hL := (laid_64 hst F w3.heap.size HS4.out.b0 (hno _ List.mem_cons_self) (by rw [← hR]; exact Nat.le_trans hrl (by decide)))
  rw [← hR] at hL
  have HL := Lib.hid hL
  have HGO := Lib.hid hgo
  obtain ⟨S, hS⟩ : ∃ S : GS, S = (R.1, fun _ _ => none) := ⟨_, rfl⟩
  have kS : GOk r l S := by rw [hS]; exact gok_new r l (by rw [hR]; exact ho.inv)
  have lS : Lv S.1 3 R.2 := by rw [hS, hR]; exact ho.lv
  have hSl : S.1.length ≤ 300 := by rw [hS]; exact hrl
  obtain ⟨A, hA⟩ : ∃ A, A = wideG S 3 R.2 := ⟨_, rfl⟩
  obtain ⟨Bq, hB⟩ : ∃ B, B = wideG A.1 (3 + 1) A.2 := ⟨_, rfl⟩
  obtain ⟨C, hC⟩ : ∃ C, C = ctrG Bq.1 A.2 := ⟨_, rfl⟩
  obtain ⟨D, hD⟩ : ∃ D, D = ctrG C.1 Bq.2 := ⟨_, rfl⟩
  obtain ⟨U, hU⟩ : ∃ U, U = growQ r l (3 + 1) D.1 Bq.2 0 := ⟨_, rfl⟩
  obtain ⟨V, hV⟩ : ∃ V, V = growQ r l 3 U.1 A.2 0 := ⟨_, rfl⟩
  obtain ⟨T, hT⟩ : ∃ T, T = ctrG V.1 U.2 := ⟨_, rfl⟩
  have ch := wide_ch r l kS (n := 3) (by omega) lS A Bq C D U V T hA hB hC hD hU hV hT
  have e1 : cst (3 + 1) 0 ≤ 1446 := by decide
  have e2 : cst 3 0 ≤ 1446 := by decide
  have lT : T.1.1.length ≤ 30000 := by have := ch.lenT; omega
  have lV := Nat.le_trans ch.eT.length_le lT
  have lU := Nat.le_trans ch.eV.length_le lV
  have lD := Nat.le_trans ch.eU.length_le lU
  have lC := Nat.le_trans ch.eD.length_le lD
  have lB := Nat.le_trans ch.eC.length_le lC
  have lA := Nat.le_trans ch.eB.length_le lB
  have oD : Ok D.1.1 R.2 := lS.1.ext (ch.eA.trans (ch.eB.trans (ch.eC.trans ch.eD)))
  have oB : Lv D.1.1 (3 + 2) Bq.2 := ch.lB.ext (ch.eC.trans ch.eD)
  have HWA := Lib.hid (fun (wx : World) (Hx : Nat → Prop) (hx : Gr w1.heap.size wx G P M r l S 30000 Hx) => (show Calls Try.prog 12 #[.pointer (some ⟨G, 0, none⟩), .int .i64 R.2] wx fun e w' => e = .returned (.tuple #[.int .i64 A.2, .nilIface]) ∧ Gt w1.heap.size wx G P M r l 30000 Hx A.1 w' from by
    rw [hA] at lA ⊢
    exact wideP_ok hx kS 3 (by omega) R.2 lS lA))
  have HWB := Lib.hid (fun (wx : World) (Hx : Nat → Prop) (hx : Gr w1.heap.size wx G P M r l A.1 30000 Hx) => (show Calls Try.prog 12 #[.pointer (some ⟨G, 0, none⟩), .int .i64 A.2] wx fun e w' => e = .returned (.tuple #[.int .i64 Bq.2, .nilIface]) ∧ Gt w1.heap.size wx G P M r l 30000 Hx Bq.1 w' from by
    rw [hB] at lB ⊢
    exact wideP_ok hx ch.kA (3 + 1) (by omega) A.2 ch.lA lB))
  have HWC := Lib.hid (fun (wx : World) (Hx : Nat → Prop) (hx : Gr w1.heap.size wx G P M r l Bq.1 30000 Hx) => (show Calls Try.prog 13 #[.pointer (some ⟨G, 0, none⟩), .int .i64 A.2] wx fun e w' => e = .returned (.tuple #[.int .i64 R.2, .nilIface]) ∧ Gt w1.heap.size wx G P M r l 30000 Hx C.1 w' from by
    rw [← ch.c]
    rw [hC] at lC ⊢
    exact center_ok hx 3 (by omega) A.2 (ch.lA.ext ch.eB) lC))
  have HWD := Lib.hid (fun (wx : World) (Hx : Nat → Prop) (hx : Gr w1.heap.size wx G P M r l C.1 30000 Hx) => (show Calls Try.prog 13 #[.pointer (some ⟨G, 0, none⟩), .int .i64 Bq.2] wx fun e w' => e = .returned (.tuple #[.int .i64 A.2, .nilIface]) ∧ Gt w1.heap.size wx G P M r l 30000 Hx D.1 w' from by
    rw [← ch.d]
    rw [hD] at lD ⊢
    exact center_ok hx (3 + 1) (by omega) Bq.2 (ch.lB.ext ch.eC) lD))
  have HWU := Lib.hid (fun (wx : World) (Hx : Nat → Prop) (hx : Gr w1.heap.size wx G P M r l D.1 30000 Hx) => (show Calls Try.prog 15 #[.pointer (some ⟨G, 0, none⟩), .int .i64 Bq.2, .int .i64 0] wx fun e w' => e = .returned (.tuple #[.int .i64 U.2, .nilIface]) ∧ Gt w1.heap.size wx G P M r l 30000 Hx U.1 w' from by
    rw [hU] at lU ⊢
    exact growP_ok HMY.out hx ch.kD (3 + 1) (by omega) Bq.2 oB 0 (by omega) lU))
  have HWV := Lib.hid (fun (wx : World) (Hx : Nat → Prop) (hx : Gr w1.heap.size wx G P M r l U.1 30000 Hx) => (show Calls Try.prog 15 #[.pointer (some ⟨G, 0, none⟩), .int .i64 A.2, .int .i64 0] wx fun e w' => e = .returned (.tuple #[.int .i64 V.2, .nilIface]) ∧ Gt w1.heap.size wx G P M r l 30000 Hx V.1 w' from by
    rw [hV] at lV ⊢
    exact growP_ok HMY.out hx ch.kU 3 (by omega) A.2 (((ch.lA.ext ch.eB).ext ch.eC).ext (ch.eD.trans ch.eU)) 0 (by omega) lV))
  have HWT := Lib.hid (fun (wx : World) (Hx : Nat → Prop) (hx : Gr w1.heap.size wx G P M r l V.1 30000 Hx) => (show Calls Try.prog 13 #[.pointer (some ⟨G, 0, none⟩), .int .i64 U.2] wx fun e w' => e = .returned (.tuple #[.int .i64 V.2, .nilIface]) ∧ Gt w1.heap.size wx G P M r l 30000 Hx T.1 w' from by
    rw [← ch.t]
    rw [hT] at lT ⊢
    exact center_ok hx 3 (by omega) U.2 (ch.lU.ext ch.eV) lT))
  obtain ⟨cn, hcn⟩ : ∃ cn, cn = (at' D.1.1 R.2).cnt := ⟨_, rfl⟩
  have HCN := Lib.hid (And.intro oD (And.intro hcn.symm (And.intro oB.1 (ch.cnt.symm.trans hcn.symm))))
  have HSS := Lib.hid hS
  generalize R.2 = id at *
  clear hst hno hgo hL hF hfew ho hR hrl kS lS hSl hA hB hC hD hU hV hT ch e1 e2 lT lV lU lD lC lB lA oD oB hcn hS
  go_wp2_with fail
  refine HL.out.mono ?_
  rintro e w5 ⟨rfl, hg⟩
  have HS5 := Lib.hid (show Gs _ _ _ _ _ _ _ _ _ S [] w5 from HSS.out ▸ (HGO.out _ _ hg).sub (by' := []) (fun x hx => by cases hx) List.nodup_nil)
  clear hg HL HGO HS4 HSS
  obtain ⟨H1, h1, h2⟩ := HS5.out.call
  have HC1 := Lib.hid (HWA.out _ _ h1)
  have HX1 := Lib.hid h2
  clear h1 h2 HWA
  go_wp2_with fail
  refine HC1.out.mono ?_
  rintro e w6 ⟨rfl, hg⟩
  have HS6 := Lib.hid (HX1.out _ _ hg)
  clear hg HC1 HX1 HS5
  obtain ⟨H1, h1, h2⟩ := HS6.out.call
  have HC1 := Lib.hid (HWB.out _ _ h1)
  have HX1 := Lib.hid h2
  clear h1 h2 HWB
  go_wp2_with fail
  refine HC1.out.mono ?_
  rintro e w7 ⟨rfl, hg⟩
  have HS7 := Lib.hid (HX1.out _ _ hg)
  clear hg HC1 HX1 HS6
  obtain ⟨H1, h1, h2⟩ := HS7.out.call
  have HC1 := Lib.hid (HWC.out _ _ h1)
  have HX1 := Lib.hid h2
  clear h1 h2 HWC
  go_wp2_with fail
  refine HC1.out.mono ?_
  rintro e w8 ⟨rfl, hg⟩
  have HS8 := Lib.hid (HX1.out _ _ hg)
  clear hg HC1 HX1 HS7
  obtain ⟨H1, h1, h2⟩ := HS8.out.call
  have HC1 := Lib.hid (HWD.out _ _ h1)
  have HX1 := Lib.hid h2
  clear h1 h2 HWD
  go_wp2_with fail
  refine HC1.out.mono ?_
  rintro e w9 ⟨rfl, hg⟩
  have HS9 := Lib.hid (HX1.out _ _ hg)
  clear hg HC1 HX1 HS8
  obtain ⟨Hs1, hst1, _⟩ := HS9.out.store
  have HC1 := Lib.hid (count_is hst1 id HCN.out.1 cn HCN.out.2.1)
  clear hst1
  go_wp2_with fail
  refine HC1.out.mono ?_
  rintro e w10 ⟨rfl, hb⟩
  have HS10 := Lib.hid (HS9.out.below hb)
  clear hb HC1 HS9
  obtain ⟨Hs1, hst1, _⟩ := HS10.out.store
  have HC1 := Lib.hid (count_is hst1 Bq.2 HCN.out.2.2.1 cn HCN.out.2.2.2)
  clear hst1
  go_wp2_with fail
  refine HC1.out.mono ?_
  rintro e w11 ⟨rfl, hb⟩
  have HS11 := Lib.hid (HS10.out.below hb)
  clear hb HC1 HS10 HCN
  have b1 : (id != id) = false := by simp
  have b2 : (A.2 != A.2) = false := by simp
  have b3 : (cn != cn) = false := by simp
  have b4 : (V.2 == V.2) = true := by simp
  obtain ⟨H1, h1, h2⟩ := HS11.out.call
  have HC1 := Lib.hid (HWU.out _ _ h1)
  have HX1 := Lib.hid h2
  clear h1 h2 HWU
  go_wp2_with fail
  refine HC1.out.mono ?_
  rintro e w12 ⟨rfl, hg⟩
  have HS12 := Lib.hid (HX1.out _ _ hg)
  clear hg HC1 HX1 HS11
  obtain ⟨H1, h1, h2⟩ := HS12.out.call
  have HC1 := Lib.hid (HWV.out _ _ h1)
  have HX1 := Lib.hid h2
  clear h1 h2 HWV
  go_wp2_with fail
  refine HC1.out.mono ?_
  rintro e w13 ⟨rfl, hg⟩
  have HS13 := Lib.hid (HX1.out _ _ hg)
  clear hg HC1 HX1 HS12
  obtain ⟨H1, h1, h2⟩ := HS13.out.call
  have HC1 := Lib.hid (HWT.out _ _ h1)
  have HX1 := Lib.hid h2
  clear h1 h2 HWT
  go_wp2_with fail
  refine HC1.out.mono ?_
  rintro e w14 ⟨rfl, hg⟩
  have HS14 := Lib.hid (HX1.out _ _ hg)
  clear hg HC1 HX1 HS13
  have HB := Lib.hid (HR3.out.below.trans ((HS14.out.bel HH.out.1 HH.out.2).mono (Nat.le_of_lt HSZ.out.2)))
  go_wp2_with (go_at_call 7; refine (sure_any _).mono ?_; rintro e w15 ⟨rfl, hb⟩; have HB2 := Lib.hid (HB.out.trans (hb.mono HB.out.size)); clear hb)
  go_ret
  exact ⟨rfl, HB2.out⟩
set_option maxRecDepth 100000 in
theorem wide_walk (r l : Nat) (a : Option Addr) (len cap : Nat) (zs : List Int) (k : Int) (W : World) (_w0 : r < 65536 ∧ l < 65536) (w1 : IsRow .u64 W a len cap zs) (_w2 : (Lit.int .i64 k).wf = true) :
    Calls Try.prog 3 #[.agg #[.int .u16 r, .int .u16 l], .slice a len cap, .int .i64 k] W fun e w' => e = .returned (.bool true) ∧ Below W.heap.size W w' := by
  obtain ⟨X, hx, hlen⟩ := isrow_x w1
  cases hm : mayR r l
  · have HM := Lib.hid (fun w => may_ref r l w)
    rw [hm] at HM
    have HR0 := Lib.hid (ru_start r l W)
    unfold Rv at HM
    obtain ⟨c0, c1⟩ := two_cells HR0.out.rule
    clear hm hx w1 hlen
    go_enter Try.func3, Try.ntmps3
    go_wp2_with fail
    refine (HM.out _).mono ?_
    rintro e w1 ⟨rfl, hb⟩
    have HR1 := Lib.hid (HR0.out.on hb)
    clear hb c0 c1
    go_wp2_with (go_at_call 7; refine (sure_any _).mono ?_; rintro e w15 ⟨rfl, hb⟩; have HR2 := Lib.hid (HR1.out.on hb); clear hb)
    go_ret
    exact ⟨rfl, HR2.out.below⟩
  · obtain ⟨p, hp, ep⟩ := red_nat k 4 (by decide) (by decide)
    rcases (show p = 0 ∨ p = 1 ∨ p = 2 ∨ p = 3 by omega) with rfl | rfl | rfl | rfl
    · exact wide_0 r l a len cap X k W hm hx hlen ep
    · exact wide_1 r l a len cap X k W hm hx hlen ep
    · exact wide_2 r l a len cap X k W hm hx hlen ep
    · exact wide_3 r l a len cap X k W hm hx hlen ep
end Go.Proofs.Ytgimphkamjojpaa

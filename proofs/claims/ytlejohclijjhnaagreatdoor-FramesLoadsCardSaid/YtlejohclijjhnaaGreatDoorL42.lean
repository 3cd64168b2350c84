/-
  WALK of the statements' scene. Conditions: the rule may be; what came in could be read.
-/
import Derived.Test.YtlejohclijjhnaaGreatDoorL41
namespace Go.Proofs.YtlejohclijjhnaaGreatDoor.Fm
open Go.RowKit Ti Qd Go.Maps Go.WideMaps Ru

/-- A slice of integers that came in: nil; or it leads to a row of 'cap' cells, the numbers 'zs' (the first 'len' are its elements, the rest its spare room), each fitting its kind. -/
def IsRow (k : IntKind) (w : World) (a : Option Addr) (len cap : Nat) (zs : List Int) : Prop :=
  (a = none ∧ len = 0 ∧ cap = 0 ∧ zs = []) ∨
  ∃ x, a = some x ∧ len ≤ cap ∧ cap ≤ maxLen ∧ zs.length = cap ∧ (∀ i, i < zs.length → w.cell? (x.add i) = some (.int k (zs.getD i 0))) ∧ ∀ n ∈ zs, (Lit.int k n).wf = true
theorem bounds_u64 {n : Int} (h : (Lit.int .u64 n).wf = true) : 0 ≤ n ∧ n ≤ 18446744073709551615 := by
  have h1 : IntKind.u64.min ≤ n ∧ n ≤ IntKind.u64.max := by simpa [Lit.wf] using h
  have e0 : IntKind.u64.min = 0 := rfl
  have e1 : IntKind.u64.max = 18446744073709551615 := rfl
  omega
theorem isrow_x {w : World} {a : Option Addr} {len cap : Nat} {zs : List Int} (h : IsRow .u64 w a len cap zs) : ∃ X : Nat → Nat, LiesX w a len X ∧ len ≤ 9223372036854775807 := by
  rcases h with ⟨rfl, rfl, rfl, rfl⟩ | ⟨x, rfl, hl, hm, hz, hc, hw⟩
  · exact ⟨fun _ => 0, fun i hi => absurd hi (by omega), by omega⟩
  · unfold maxLen at hm
    refine ⟨fun i => (zs.getD i 0).toNat, fun i hi => ?_, by omega⟩
    have hiz : i < zs.length := by omega
    obtain ⟨b, off, spot⟩ := x
    have c := hc i hiz
    have hspot : spot = none := by
      have c0 := hc 0 (by omega)
      simpa [Addr.add] using World.cell?_spot c0
    subst hspot
    have e : zs.getD i 0 = zs[i] := by simp [hiz]
    have hb := bounds_u64 (hw zs[i] (List.getElem_mem hiz))
    refine ⟨b, off, rfl, ?_, by show (zs.getD i 0).toNat < _; rw [e]; omega⟩
    rw [show (({ block := b, off := off, spot := none } : Addr).add i) = ⟨b, off + i, none⟩ from by simp [Addr.add]] at c
    show _ = some (Value.int .u64 (((zs.getD i 0).toNat : Nat) : Int))
    rw [c, e, show (((zs[i]).toNat : Nat) : Int) = zs[i] by omega]
theorem red_nat (x : Int) (m : Nat) (h0 : 0 < m) (h : m ≤ 1099511627776) : ∃ p : Nat, p < m ∧ wrap64 ((IntKind.u64.wrap x).tmod (m : Int)) = (p : Int) := by
  have h1 := wrap_u64_nonneg x
  obtain ⟨n, hn⟩ : ∃ n : Nat, IntKind.u64.wrap x = (n : Int) := ⟨(IntKind.u64.wrap x).toNat, by omega⟩
  rw [hn, tmod_nat]
  have := Nat.mod_lt n h0
  exact ⟨n % m, this, wrap_small (by omega)⟩
theorem three_cells {w : World} {g : Nat} {a b c : Value} {T : TypeId} (h : w.heap[g]? = some (.cells #[a, b, c] T (0, 0))) : w.cell? ⟨g, 0, none⟩ = some a ∧ w.cell? ⟨g, 1, none⟩ = some b ∧ w.cell? ⟨g, 2, none⟩ = some c := by
  refine ⟨?_, ?_, ?_⟩ <;> (rw [cell_of_row w g _ _ _ _ h]; rfl)
/-- a rule and an Ask in boxes, since a world -/
structure AkAt (W w : World) (r l : Nat) (K J N : Int) : Prop where
  rule : w.heap[W.heap.size]? = some (.cells #[.int .u16 r, .int .u16 l] 24)
  ask : w.heap[W.heap.size + 1]? = some (.cells #[.int .i64 K, .int .i64 J, .int .i64 N] 27)
  below : Below W.heap.size W w
theorem AkAt.on {W w w2 : World} {r l : Nat} {K J N : Int} (h : AkAt W w r l K J N) (k : Below w.heap.size w w2) : AkAt W w2 r l K J N := ⟨(k.block _ (lt_of_block h.rule)).trans h.rule, (k.block _ (lt_of_block h.ask)).trans h.ask, h.below.trans (k.mono h.below.size)⟩
theorem AkAt.on2 {W w w2 : World} {r l B : Nat} {K J N : Int} (h : AkAt W w r l K J N) (k : Below B w w2) (hB : W.heap.size + 1 < B) : AkAt W w2 r l K J N := ⟨(k.block _ (by omega)).trans h.rule, (k.block _ hB).trans h.ask, h.below.trans (k.mono (by omega))⟩
theorem ak_start (r l : Nat) (K J N : Int) (W : World) : AkAt W ((W.alloc (.cells #[.int .u16 r, .int .u16 l] 24)).alloc (.cells #[.int .i64 K, .int .i64 J, .int .i64 N] 27)) r l K J N := by
  have h1 := alX W (.cells #[.int .u16 r, .int .u16 l] 24)
  have h2 := alX (W.alloc (.cells #[.int .u16 r, .int .u16 l] 24)) (.cells #[.int .i64 K, .int .i64 J, .int .i64 N] 27)
  have hs : (W.alloc (.cells #[.int .u16 r, .int .u16 l] 24)).heap.size = W.heap.size + 1 := by simp
  refine ⟨?_, ?_, h1.trans (h2.mono h1.size)⟩
  · rw [h2.block _ (by omega)]
    exact heap_alloc_new W _
  · rw [← hs]
    exact heap_alloc_new _ _
theorem results_tmp4 {fn : Func} {t u v x : Tmp} (h : fn.results = #[.tmp t, .tmp u, .tmp v, .tmp x]) (tmps : Array Value) (P : Program) (w : World) :
    (results fn tmps).run P w = .ok (.tuple #[tmps.getD t undef, tmps.getD u undef, tmps.getD v undef, tmps.getD x undef]) w := by simp [results, h]
theorem AkAt.put {W w : World} {r l : Nat} {K J N : Int} (h : AkAt W w r l K J N) (x : Int) : AkAt W (w.setCell ⟨W.heap.size + 1, 0, none⟩ (.int .i64 x)) r l x J N :=
  ⟨(Go.RowKit.Below.heap_setCell _ _ _ _ (by show ¬ W.heap.size = W.heap.size + 1; omega)).trans h.rule, heap_setCell_same w _ 0 _ _ _ h.ask, h.below.setCell (p := ⟨W.heap.size + 1, 0, none⟩) (by show W.heap.size ≤ W.heap.size + 1; omega) _⟩
/-- what scene answers -/
def Scene (W : World) (r l : Nat) (K : Int) (e : Ending) (w' : World) : Prop :=
  ∃ (B P G M p j : Nat) (L : List Sq) (id : Int) (H : Nat → Prop), e = .returned (.tuple #[.pointer (some ⟨P, 0, none⟩), .pointer (some ⟨G, 0, none⟩), .int .i64 id, .int .i64 (j : Int)]) ∧ wrap64 ((IntKind.u64.wrap K).tmod 4) = (p : Int) ∧ p ≤ 3 ∧ j ≤ p + 2 ∧ Mc B P 40000 r l G M ⟨L, K0, [], 0⟩ w' H ∧ W.heap.size ≤ B ∧ B ≤ w'.heap.size ∧ Below W.heap.size W w' ∧ Lv L (p + 1) id ∧ Inv L ∧ L.length ≤ 300
theorem lay_len (n w : Nat) (hn : n ≤ 3) (hw : w = 2 ^ (n + 3)) (X : Nat → Nat) (len : Nat) : LayOk [] n w (fF X w (min len 60)) (w * w) ∧ (layQ [] n w (fF X w (min len 60)) (w * w)).1.length ≤ 250 := by
  have ho := lay_ok inv_nil n w (by omega) hw (fF X w (min len 60)) (w * w) (by omega)
  refine ⟨ho, ?_⟩
  have h1 := ho.len
  have h2 : trN (fF X w (min len 60)) (w * w) ≤ 60 := Nat.le_trans (fF_few X w (w * w) _) (by omega)
  have h3 : trN (fF X w (min len 60)) (w * w) * (n + 1) ≤ 60 * 4 := Nat.mul_le_mul h2 (by omega)
  simp only [List.length_nil] at h1
  omega
set_option maxRecDepth 100000 in
set_option maxHeartbeats 16000000 in
theorem scene_0 (r l : Nat) (a : Option Addr) (len cap : Nat) (X : Nat → Nat) (K J N : Int) (W : World) (hm : mayR r l = true) (hx : LiesX W a len X) (hlen : len ≤ 9223372036854775807) (ep : wrap64 ((IntKind.u64.wrap K).tmod 4) = 0) :
    Calls Tryz.prog 6 #[Rv r l, .slice a len cap, .agg #[.int .i64 K, .int .i64 J, .int .i64 N]] W (Scene W r l K) := by
  have HMY := Lib.hid hm
  have HR0 := Lib.hid (ak_start r l K J N W)
  have HX := Lib.hid hx
  have HEP := Lib.hid ep
  have HLN := Lib.hid hlen
  have HRD := Lib.hid (red_nat J 3 (by decide) (by decide))
  unfold Rv
  obtain ⟨d0, d1, d2⟩ := three_cells HR0.out.ask
  clear hm hx ep hlen
  go_enter Tryz.func6, Tryz.ntmps6
  go_upto_region 2 with (fail)
  generalize World.alloc (World.alloc W _) _ = w1 at *
  rw [HEP.out, show wrap64 (4 + 0) = 4 from by unfold wrap64; omega]
  have HN := Lib.hid (new_lit 40000 40000 rfl w1 (by decide) (by decide))
  clear d0 d1 d2
  go_wp2_with fail
  refine HN.out.mono ?_
  rintro e w2 ⟨P, Hn, rfl, hs, hb⟩
  have HR2 := Lib.hid (HR0.out.on hb)
  have HSZ := Lib.hid (And.intro hb.size (lt_of_block HR0.out.ask))
  have HST := Lib.hid hs
  clear hs hb HN HR0
  generalize w1.heap.size = B at HSZ HST
  obtain ⟨c0, c1⟩ := two_cells HR2.out.rule
  have HG := Lib.hid (show Calls Tryz.prog 10 #[.pointer (some ⟨P, 0, none⟩), .agg #[.int .u16 r, .int .u16 l]] w2 (NewM w2 P r l) from mnew_f P r l HMY.out w2)
  go_wp2_with fail
  refine HG.out.mono ?_
  rintro e w3 ⟨G, M, rfl, g1, g2, g3, g4⟩
  obtain ⟨H0, hmc⟩ : ∃ H0, Mc B P 40000 r l G M ⟨[], K0, [], 0⟩ w3 H0 := ⟨_, Mc.made (HST.out.bel g3) (g4 B HSZ.out.1) g1 g2 (fun x hx => (HST.out.lt x hx).2)⟩
  have HR3 := Lib.hid (HR2.out.on g3)
  have HBV := Lib.hid (show (∀ x, H0 x → B ≤ x) ∧ B ≤ w3.heap.size from ⟨fun x hx => ((mc_fpt B P 40000 r l G M ⟨[], K0, [], 0⟩).lt hmc x hx).1, Nat.le_trans HSZ.out.1 g3.size⟩)
  have HS3 := Lib.hid (Bs.start hmc)
  have HT := Lib.hid (fun s => mc_fpt B P 40000 r l G M s)
  clear hmc g1 g2 g3 g4 HG c0 c1 HR2 HST
  have HAT := Lib.hid (fun (T : World → (Nat → Prop) → Prop) (bx : List (Nat × Obj)) (w : World) (hs : Bs T w3 H0 bx w) => show AkAt W w r l K J N ∧ B ≤ w.heap.size from ⟨HR3.out.on2 (hs.lt HBV.out.1 HBV.out.2) HSZ.out.2, Nat.le_trans HBV.out.2 (hs.lt HBV.out.1 HBV.out.2).size⟩)
  go_wp2_with fail
  refine (show Calls Tryz.prog 16 #[.slice a len cap, .int .i64 16] w3 fun e W' => e = .returned (.slice (some ⟨w3.heap.size, 0, none⟩) 256 256) ∧ FI w3 X 16 256 (min len 60) W' from field_ok a len cap X 16 w3 (HX.out.below HR3.out.below) HLN.out (by decide) (by decide)).mono ?_
  rintro e w4 ⟨rfl, hfi⟩
  have HS4 := Lib.hid (HS3.out.made (HT.out _) hfi.bel hfi.row (Nat.le_refl _))
  clear hfi HS3 HX HR3
  obtain ⟨ho, hrl⟩ := lay_len 1 16 (by decide) rfl X len
  obtain ⟨F, hF⟩ : ∃ F, F = fF X 16 (min len 60) := ⟨_, rfl⟩
  rw [← hF] at HS4 ho hrl
  obtain ⟨Hs, hst, hno, hgo⟩ := HS4.out.store2
  have hL := (laid_16 hst F w3.heap.size HS4.out.b0 (hno _ List.mem_cons_self) (by show (layQ [] 1 16 F (16 * 16)).1.length ≤ 40000; exact Nat.le_trans hrl (by decide)))
  have hL : Calls Tryz.prog 15 #[.pointer (some ⟨P, 0, none⟩), .slice (some ⟨w3.heap.size, 0, none⟩) 256 256, .int .i64 16] w4 fun e w' => e = .returned (.int .i64 (layQ [] 1 16 F (16 * 16)).2) ∧ Goes B w4 P 40000 Hs (layQ [] 1 16 F (16 * 16)).1 w' := hL
  obtain ⟨R, hR⟩ : ∃ R, R = layQ [] 1 16 F (16 * 16) := ⟨_, rfl⟩
  have hlv := ho.lv
  have hiv := ho.inv
  rw [← hR] at hL hrl hlv hiv
  have HL := Lib.hid hL
  have HGO := Lib.hid hgo
  have HI := Lib.hid (And.intro hlv (And.intro hiv hrl))
  clear hst hno hgo hL hF ho hR hrl hlv hiv
  obtain ⟨L, id⟩ := R
  go_wp2_with fail
  refine HL.out.mono ?_
  rintro e w5 ⟨rfl, hg⟩
  have HS5 := Lib.hid (show Bs (Mc B P 40000 r l G M ⟨L, K0, [], 0⟩) w3 H0 [] w5 from (HGO.out _ _ hg).sub (by' := []) (fun x hx => by cases hx) List.nodup_nil)
  clear hg HL HGO HS4
  obtain ⟨c0, c1⟩ := two_cells (HAT.out _ _ _ HS5.out).1.rule
  have HG := Lib.hid (show Calls Tryz.prog 19 #[.pointer (some ⟨P, 0, none⟩), .agg #[.int .u16 r, .int .u16 l]] w5 (NewG w5 P r l) from gnew_f P r l HMY.out w5)
  go_wp2_with fail
  refine HG.out.mono ?_
  rintro e w6 ⟨x, rfl, x1, x2, x3, x4, x5⟩
  have HS6 := Lib.hid (HS5.out.withg (HAT.out _ _ _ HS5.out).2 x5 x1 x2 x3 x4)
  clear x1 x2 x3 x4 x5 HG HS5 c0 c1
  have HS7 := Lib.hid HS6.out.dropg
  clear HS6
  obtain ⟨d0, d1, d2⟩ := three_cells (HAT.out _ _ _ HS7.out).1.ask
  clear d0 d2
  go_upto_region 13 with (fail)
  go_quiet (fail)
  obtain ⟨j, hj, ej⟩ := HRD.out
  go_wp2
  (try simp only [Exit.inBlock, Exit.then])
  refine bodyPost_ret (results_tmp4 rfl _ _ _) rfl ?_
  have hb := Below.drewN' (Below.refl w6.heap.size w6) nq
  obtain ⟨H1, h1, _, _⟩ := (HS7.out.below (HT.out _) hb).call
  refine ⟨B, P, G, M, 0, j, L, id, H1, ?_, HEP.out, by decide, by omega, h1, by have := HSZ.out.2; omega, (HAT.out _ _ _ (HS7.out.below (HT.out _) hb)).2, (HAT.out _ _ _ (HS7.out.below (HT.out _) hb)).1.below, HI.out.1, HI.out.2.1, Nat.le_trans HI.out.2.2 (by decide)⟩
  rw [← ej]
  rfl
set_option maxRecDepth 100000 in
set_option maxHeartbeats 16000000 in
theorem scene_1 (r l : Nat) (a : Option Addr) (len cap : Nat) (X : Nat → Nat) (K J N : Int) (W : World) (hm : mayR r l = true) (hx : LiesX W a len X) (hlen : len ≤ 9223372036854775807) (ep : wrap64 ((IntKind.u64.wrap K).tmod 4) = 1) :
    Calls Tryz.prog 6 #[Rv r l, .slice a len cap, .agg #[.int .i64 K, .int .i64 J, .int .i64 N]] W (Scene W r l K) := by
  have HMY := Lib.hid hm
  have HR0 := Lib.hid (ak_start r l K J N W)
  have HX := Lib.hid hx
  have HEP := Lib.hid ep
  have HLN := Lib.hid hlen
  have HRD := Lib.hid (red_nat J 4 (by decide) (by decide))
  unfold Rv
  obtain ⟨d0, d1, d2⟩ := three_cells HR0.out.ask
  clear hm hx ep hlen
  go_enter Tryz.func6, Tryz.ntmps6
  go_upto_region 2 with (fail)
  generalize World.alloc (World.alloc W _) _ = w1 at *
  rw [HEP.out, show wrap64 (4 + 1) = 5 from by unfold wrap64; omega]
  have HN := Lib.hid (new_lit 40000 40000 rfl w1 (by decide) (by decide))
  clear d0 d1 d2
  go_wp2_with fail
  refine HN.out.mono ?_
  rintro e w2 ⟨P, Hn, rfl, hs, hb⟩
  have HR2 := Lib.hid (HR0.out.on hb)
  have HSZ := Lib.hid (And.intro hb.size (lt_of_block HR0.out.ask))
  have HST := Lib.hid hs
  clear hs hb HN HR0
  generalize w1.heap.size = B at HSZ HST
  obtain ⟨c0, c1⟩ := two_cells HR2.out.rule
  have HG := Lib.hid (show Calls Tryz.prog 10 #[.pointer (some ⟨P, 0, none⟩), .agg #[.int .u16 r, .int .u16 l]] w2 (NewM w2 P r l) from mnew_f P r l HMY.out w2)
  go_wp2_with fail
  refine HG.out.mono ?_
  rintro e w3 ⟨G, M, rfl, g1, g2, g3, g4⟩
  obtain ⟨H0, hmc⟩ : ∃ H0, Mc B P 40000 r l G M ⟨[], K0, [], 0⟩ w3 H0 := ⟨_, Mc.made (HST.out.bel g3) (g4 B HSZ.out.1) g1 g2 (fun x hx => (HST.out.lt x hx).2)⟩
  have HR3 := Lib.hid (HR2.out.on g3)
  have HBV := Lib.hid (show (∀ x, H0 x → B ≤ x) ∧ B ≤ w3.heap.size from ⟨fun x hx => ((mc_fpt B P 40000 r l G M ⟨[], K0, [], 0⟩).lt hmc x hx).1, Nat.le_trans HSZ.out.1 g3.size⟩)
  have HS3 := Lib.hid (Bs.start hmc)
  have HT := Lib.hid (fun s => mc_fpt B P 40000 r l G M s)
  clear hmc g1 g2 g3 g4 HG c0 c1 HR2 HST
  have HAT := Lib.hid (fun (T : World → (Nat → Prop) → Prop) (bx : List (Nat × Obj)) (w : World) (hs : Bs T w3 H0 bx w) => show AkAt W w r l K J N ∧ B ≤ w.heap.size from ⟨HR3.out.on2 (hs.lt HBV.out.1 HBV.out.2) HSZ.out.2, Nat.le_trans HBV.out.2 (hs.lt HBV.out.1 HBV.out.2).size⟩)
  go_wp2_with fail
  refine (show Calls Tryz.prog 16 #[.slice a len cap, .int .i64 32] w3 fun e W' => e = .returned (.slice (some ⟨w3.heap.size, 0, none⟩) 1024 1024) ∧ FI w3 X 32 1024 (min len 60) W' from field_ok a len cap X 32 w3 (HX.out.below HR3.out.below) HLN.out (by decide) (by decide)).mono ?_
  rintro e w4 ⟨rfl, hfi⟩
  have HS4 := Lib.hid (HS3.out.made (HT.out _) hfi.bel hfi.row (Nat.le_refl _))
  clear hfi HS3 HX HR3
  obtain ⟨ho, hrl⟩ := lay_len 2 32 (by decide) rfl X len
  obtain ⟨F, hF⟩ : ∃ F, F = fF X 32 (min len 60) := ⟨_, rfl⟩
  rw [← hF] at HS4 ho hrl
  obtain ⟨Hs, hst, hno, hgo⟩ := HS4.out.store2
  have hL := (laid_32 hst F w3.heap.size HS4.out.b0 (hno _ List.mem_cons_self) (by show (layQ [] 2 32 F (32 * 32)).1.length ≤ 40000; exact Nat.le_trans hrl (by decide)))
  have hL : Calls Tryz.prog 15 #[.pointer (some ⟨P, 0, none⟩), .slice (some ⟨w3.heap.size, 0, none⟩) 1024 1024, .int .i64 32] w4 fun e w' => e = .returned (.int .i64 (layQ [] 2 32 F (32 * 32)).2) ∧ Goes B w4 P 40000 Hs (layQ [] 2 32 F (32 * 32)).1 w' := hL
  obtain ⟨R, hR⟩ : ∃ R, R = layQ [] 2 32 F (32 * 32) := ⟨_, rfl⟩
  have hlv := ho.lv
  have hiv := ho.inv
  rw [← hR] at hL hrl hlv hiv
  have HL := Lib.hid hL
  have HGO := Lib.hid hgo
  have HI := Lib.hid (And.intro hlv (And.intro hiv hrl))
  clear hst hno hgo hL hF ho hR hrl hlv hiv
  obtain ⟨L, id⟩ := R
  go_wp2_with fail
  refine HL.out.mono ?_
  rintro e w5 ⟨rfl, hg⟩
  have HS5 := Lib.hid (show Bs (Mc B P 40000 r l G M ⟨L, K0, [], 0⟩) w3 H0 [] w5 from (HGO.out _ _ hg).sub (by' := []) (fun x hx => by cases hx) List.nodup_nil)
  clear hg HL HGO HS4
  obtain ⟨c0, c1⟩ := two_cells (HAT.out _ _ _ HS5.out).1.rule
  have HG := Lib.hid (show Calls Tryz.prog 19 #[.pointer (some ⟨P, 0, none⟩), .agg #[.int .u16 r, .int .u16 l]] w5 (NewG w5 P r l) from gnew_f P r l HMY.out w5)
  go_wp2_with fail
  refine HG.out.mono ?_
  rintro e w6 ⟨x, rfl, x1, x2, x3, x4, x5⟩
  have HS6 := Lib.hid (HS5.out.withg (HAT.out _ _ _ HS5.out).2 x5 x1 x2 x3 x4)
  clear x1 x2 x3 x4 x5 HG HS5 c0 c1
  have HS7 := Lib.hid HS6.out.dropg
  clear HS6
  obtain ⟨d0, d1, d2⟩ := three_cells (HAT.out _ _ _ HS7.out).1.ask
  clear d0 d2
  go_upto_region 13 with (fail)
  go_quiet (fail)
  obtain ⟨j, hj, ej⟩ := HRD.out
  go_wp2
  (try simp only [Exit.inBlock, Exit.then])
  refine bodyPost_ret (results_tmp4 rfl _ _ _) rfl ?_
  have hb := Below.drewN' (Below.refl w6.heap.size w6) nq
  obtain ⟨H1, h1, _, _⟩ := (HS7.out.below (HT.out _) hb).call
  refine ⟨B, P, G, M, 1, j, L, id, H1, ?_, HEP.out, by decide, by omega, h1, by have := HSZ.out.2; omega, (HAT.out _ _ _ (HS7.out.below (HT.out _) hb)).2, (HAT.out _ _ _ (HS7.out.below (HT.out _) hb)).1.below, HI.out.1, HI.out.2.1, Nat.le_trans HI.out.2.2 (by decide)⟩
  rw [← ej]
  rfl
set_option maxRecDepth 100000 in
set_option maxHeartbeats 16000000 in
theorem scene_2 (r l : Nat) (a : Option Addr) (len cap : Nat) (X : Nat → Nat) (K J N : Int) (W : World) (hm : mayR r l = true) (hx : LiesX W a len X) (hlen : len ≤ 9223372036854775807) (ep : wrap64 ((IntKind.u64.wrap K).tmod 4) = 2) :
    Calls Tryz.prog 6 #[Rv r l, .slice a len cap, .agg #[.int .i64 K, .int .i64 J, .int .i64 N]] W (Scene W r l K) := by
  have HMY := Lib.hid hm
  have HR0 := Lib.hid (ak_start r l K J N W)
  have HX := Lib.hid hx
  have HEP := Lib.hid ep
  have HLN := Lib.hid hlen
  have HRD := Lib.hid (red_nat J 5 (by decide) (by decide))
  unfold Rv
  obtain ⟨d0, d1, d2⟩ := three_cells HR0.out.ask
  clear hm hx ep hlen
  go_enter Tryz.func6, Tryz.ntmps6
  go_upto_region 2 with (fail)
  generalize World.alloc (World.alloc W _) _ = w1 at *
  rw [HEP.out, show wrap64 (4 + 2) = 6 from by unfold wrap64; omega]
  have HN := Lib.hid (new_lit 40000 40000 rfl w1 (by decide) (by decide))
  clear d0 d1 d2
  go_wp2_with fail
  refine HN.out.mono ?_
  rintro e w2 ⟨P, Hn, rfl, hs, hb⟩
  have HR2 := Lib.hid (HR0.out.on hb)
  have HSZ := Lib.hid (And.intro hb.size (lt_of_block HR0.out.ask))
  have HST := Lib.hid hs
  clear hs hb HN HR0
  generalize w1.heap.size = B at HSZ HST
  obtain ⟨c0, c1⟩ := two_cells HR2.out.rule
  have HG := Lib.hid (show Calls Tryz.prog 10 #[.pointer (some ⟨P, 0, none⟩), .agg #[.int .u16 r, .int .u16 l]] w2 (NewM w2 P r l) from mnew_f P r l HMY.out w2)
  go_wp2_with fail
  refine HG.out.mono ?_
  rintro e w3 ⟨G, M, rfl, g1, g2, g3, g4⟩
  obtain ⟨H0, hmc⟩ : ∃ H0, Mc B P 40000 r l G M ⟨[], K0, [], 0⟩ w3 H0 := ⟨_, Mc.made (HST.out.bel g3) (g4 B HSZ.out.1) g1 g2 (fun x hx => (HST.out.lt x hx).2)⟩
  have HR3 := Lib.hid (HR2.out.on g3)
  have HBV := Lib.hid (show (∀ x, H0 x → B ≤ x) ∧ B ≤ w3.heap.size from ⟨fun x hx => ((mc_fpt B P 40000 r l G M ⟨[], K0, [], 0⟩).lt hmc x hx).1, Nat.le_trans HSZ.out.1 g3.size⟩)
  have HS3 := Lib.hid (Bs.start hmc)
  have HT := Lib.hid (fun s => mc_fpt B P 40000 r l G M s)
  clear hmc g1 g2 g3 g4 HG c0 c1 HR2 HST
  have HAT := Lib.hid (fun (T : World → (Nat → Prop) → Prop) (bx : List (Nat × Obj)) (w : World) (hs : Bs T w3 H0 bx w) => show AkAt W w r l K J N ∧ B ≤ w.heap.size from ⟨HR3.out.on2 (hs.lt HBV.out.1 HBV.out.2) HSZ.out.2, Nat.le_trans HBV.out.2 (hs.lt HBV.out.1 HBV.out.2).size⟩)
  go_wp2_with fail
  refine (show Calls Tryz.prog 16 #[.slice a len cap, .int .i64 64] w3 fun e W' => e = .returned (.slice (some ⟨w3.heap.size, 0, none⟩) 4096 4096) ∧ FI w3 X 64 4096 (min len 60) W' from field_ok a len cap X 64 w3 (HX.out.below HR3.out.below) HLN.out (by decide) (by decide)).mono ?_
  rintro e w4 ⟨rfl, hfi⟩
  have HS4 := Lib.hid (HS3.out.made (HT.out _) hfi.bel hfi.row (Nat.le_refl _))
  clear hfi HS3 HX HR3
  obtain ⟨ho, hrl⟩ := lay_len 3 64 (by decide) rfl X len
  obtain ⟨F, hF⟩ : ∃ F, F = fF X 64 (min len 60) := ⟨_, rfl⟩
  rw [← hF] at HS4 ho hrl
  obtain ⟨Hs, hst, hno, hgo⟩ := HS4.out.store2
  have hL := (laid_64 hst F w3.heap.size HS4.out.b0 (hno _ List.mem_cons_self) (by show (layQ [] 3 64 F (64 * 64)).1.length ≤ 40000; exact Nat.le_trans hrl (by decide)))
  have hL : Calls Tryz.prog 15 #[.pointer (some ⟨P, 0, none⟩), .slice (some ⟨w3.heap.size, 0, none⟩) 4096 4096, .int .i64 64] w4 fun e w' => e = .returned (.int .i64 (layQ [] 3 64 F (64 * 64)).2) ∧ Goes B w4 P 40000 Hs (layQ [] 3 64 F (64 * 64)).1 w' := hL
  obtain ⟨R, hR⟩ : ∃ R, R = layQ [] 3 64 F (64 * 64) := ⟨_, rfl⟩
  have hlv := ho.lv
  have hiv := ho.inv
  rw [← hR] at hL hrl hlv hiv
  have HL := Lib.hid hL
  have HGO := Lib.hid hgo
  have HI := Lib.hid (And.intro hlv (And.intro hiv hrl))
  clear hst hno hgo hL hF ho hR hrl hlv hiv
  obtain ⟨L, id⟩ := R
  go_wp2_with fail
  refine HL.out.mono ?_
  rintro e w5 ⟨rfl, hg⟩
  have HS5 := Lib.hid (show Bs (Mc B P 40000 r l G M ⟨L, K0, [], 0⟩) w3 H0 [] w5 from (HGO.out _ _ hg).sub (by' := []) (fun x hx => by cases hx) List.nodup_nil)
  clear hg HL HGO HS4
  obtain ⟨c0, c1⟩ := two_cells (HAT.out _ _ _ HS5.out).1.rule
  have HG := Lib.hid (show Calls Tryz.prog 19 #[.pointer (some ⟨P, 0, none⟩), .agg #[.int .u16 r, .int .u16 l]] w5 (NewG w5 P r l) from gnew_f P r l HMY.out w5)
  go_wp2_with fail
  refine HG.out.mono ?_
  rintro e w6 ⟨x, rfl, x1, x2, x3, x4, x5⟩
  have HS6 := Lib.hid (HS5.out.withg (HAT.out _ _ _ HS5.out).2 x5 x1 x2 x3 x4)
  clear x1 x2 x3 x4 x5 HG HS5 c0 c1
  have HS7 := Lib.hid HS6.out.dropg
  clear HS6
  obtain ⟨d0, d1, d2⟩ := three_cells (HAT.out _ _ _ HS7.out).1.ask
  clear d0 d2
  go_upto_region 13 with (fail)
  go_quiet (fail)
  obtain ⟨j, hj, ej⟩ := HRD.out
  go_wp2
  (try simp only [Exit.inBlock, Exit.then])
  refine bodyPost_ret (results_tmp4 rfl _ _ _) rfl ?_
  have hb := Below.drewN' (Below.refl w6.heap.size w6) nq
  obtain ⟨H1, h1, _, _⟩ := (HS7.out.below (HT.out _) hb).call
  refine ⟨B, P, G, M, 2, j, L, id, H1, ?_, HEP.out, by decide, by omega, h1, by have := HSZ.out.2; omega, (HAT.out _ _ _ (HS7.out.below (HT.out _) hb)).2, (HAT.out _ _ _ (HS7.out.below (HT.out _) hb)).1.below, HI.out.1, HI.out.2.1, Nat.le_trans HI.out.2.2 (by decide)⟩
  rw [← ej]
  rfl
set_option maxRecDepth 100000 in
set_option maxHeartbeats 16000000 in
theorem scene_3 (r l : Nat) (a : Option Addr) (len cap : Nat) (X : Nat → Nat) (K J N : Int) (W : World) (hm : mayR r l = true) (hx : LiesX W a len X) (hlen : len ≤ 9223372036854775807) (ep : wrap64 ((IntKind.u64.wrap K).tmod 4) = 3) :
    Calls Tryz.prog 6 #[Rv r l, .slice a len cap, .agg #[.int .i64 K, .int .i64 J, .int .i64 N]] W (Scene W r l K) := by
  have HMY := Lib.hid hm
  have HR0 := Lib.hid (ak_start r l K J N W)
  have HX := Lib.hid hx
  have HEP := Lib.hid ep
  have HLN := Lib.hid hlen
  have HRD := Lib.hid (red_nat J 6 (by decide) (by decide))
  unfold Rv
  obtain ⟨d0, d1, d2⟩ := three_cells HR0.out.ask
  clear hm hx ep hlen
  go_enter Tryz.func6, Tryz.ntmps6
  go_upto_region 2 with (fail)
  generalize World.alloc (World.alloc W _) _ = w1 at *
  rw [HEP.out, show wrap64 (4 + 3) = 7 from by unfold wrap64; omega]
  have HN := Lib.hid (new_lit 40000 40000 rfl w1 (by decide) (by decide))
  clear d0 d1 d2
  go_wp2_with fail
  refine HN.out.mono ?_
  rintro e w2 ⟨P, Hn, rfl, hs, hb⟩
  have HR2 := Lib.hid (HR0.out.on hb)
  have HSZ := Lib.hid (And.intro hb.size (lt_of_block HR0.out.ask))
  have HST := Lib.hid hs
  clear hs hb HN HR0
  generalize w1.heap.size = B at HSZ HST
  obtain ⟨c0, c1⟩ := two_cells HR2.out.rule
  have HG := Lib.hid (show Calls Tryz.prog 10 #[.pointer (some ⟨P, 0, none⟩), .agg #[.int .u16 r, .int .u16 l]] w2 (NewM w2 P r l) from mnew_f P r l HMY.out w2)
  go_wp2_with fail
  refine HG.out.mono ?_
  rintro e w3 ⟨G, M, rfl, g1, g2, g3, g4⟩
  obtain ⟨H0, hmc⟩ : ∃ H0, Mc B P 40000 r l G M ⟨[], K0, [], 0⟩ w3 H0 := ⟨_, Mc.made (HST.out.bel g3) (g4 B HSZ.out.1) g1 g2 (fun x hx => (HST.out.lt x hx).2)⟩
  have HR3 := Lib.hid (HR2.out.on g3)
  have HBV := Lib.hid (show (∀ x, H0 x → B ≤ x) ∧ B ≤ w3.heap.size from ⟨fun x hx => ((mc_fpt B P 40000 r l G M ⟨[], K0, [], 0⟩).lt hmc x hx).1, Nat.le_trans HSZ.out.1 g3.size⟩)
  have HS3 := Lib.hid (Bs.start hmc)
  have HT := Lib.hid (fun s => mc_fpt B P 40000 r l G M s)
  clear hmc g1 g2 g3 g4 HG c0 c1 HR2 HST
  have HAT := Lib.hid (fun (T : World → (Nat → Prop) → Prop) (bx : List (Nat × Obj)) (w : World) (hs : Bs T w3 H0 bx w) => show AkAt W w r l K J N ∧ B ≤ w.heap.size from ⟨HR3.out.on2 (hs.lt HBV.out.1 HBV.out.2) HSZ.out.2, Nat.le_trans HBV.out.2 (hs.lt HBV.out.1 HBV.out.2).size⟩)
  go_wp2_with fail
  refine (show Calls Tryz.prog 16 #[.slice a len cap, .int .i64 64] w3 fun e W' => e = .returned (.slice (some ⟨w3.heap.size, 0, none⟩) 4096 4096) ∧ FI w3 X 64 4096 (min len 60) W' from field_ok a len cap X 64 w3 (HX.out.below HR3.out.below) HLN.out (by decide) (by decide)).mono ?_
  rintro e w4 ⟨rfl, hfi⟩
  have HS4 := Lib.hid (HS3.out.made (HT.out _) hfi.bel hfi.row (Nat.le_refl _))
  clear hfi HS3 HX HR3
  obtain ⟨ho, hrl⟩ := lay_len 3 64 (by decide) rfl X len
  obtain ⟨F, hF⟩ : ∃ F, F = fF X 64 (min len 60) := ⟨_, rfl⟩
  rw [← hF] at HS4 ho hrl
  obtain ⟨Hs, hst, hno, hgo⟩ := HS4.out.store2
  have hL := (laid_64 hst F w3.heap.size HS4.out.b0 (hno _ List.mem_cons_self) (by show (layQ [] 3 64 F (64 * 64)).1.length ≤ 40000; exact Nat.le_trans hrl (by decide)))
  have hL : Calls Tryz.prog 15 #[.pointer (some ⟨P, 0, none⟩), .slice (some ⟨w3.heap.size, 0, none⟩) 4096 4096, .int .i64 64] w4 fun e w' => e = .returned (.int .i64 (layQ [] 3 64 F (64 * 64)).2) ∧ Goes B w4 P 40000 Hs (layQ [] 3 64 F (64 * 64)).1 w' := hL
  obtain ⟨R, hR⟩ : ∃ R, R = layQ [] 3 64 F (64 * 64) := ⟨_, rfl⟩
  have hlv := ho.lv
  have hiv := ho.inv
  rw [← hR] at hL hrl hlv hiv
  have HL := Lib.hid hL
  have HGO := Lib.hid hgo
  have HI := Lib.hid (And.intro hlv (And.intro hiv hrl))
  clear hst hno hgo hL hF ho hR hrl hlv hiv
  obtain ⟨L, id⟩ := R
  go_wp2_with fail
  refine HL.out.mono ?_
  rintro e w5 ⟨rfl, hg⟩
  have HS5 := Lib.hid (show Bs (Mc B P 40000 r l G M ⟨L, K0, [], 0⟩) w3 H0 [] w5 from (HGO.out _ _ hg).sub (by' := []) (fun x hx => by cases hx) List.nodup_nil)
  clear hg HL HGO HS4
  obtain ⟨c0, c1⟩ := two_cells (HAT.out _ _ _ HS5.out).1.rule
  have HG := Lib.hid (show Calls Tryz.prog 19 #[.pointer (some ⟨P, 0, none⟩), .agg #[.int .u16 r, .int .u16 l]] w5 (NewG w5 P r l) from gnew_f P r l HMY.out w5)
  go_wp2_with fail
  refine HG.out.mono ?_
  rintro e w6 ⟨x, rfl, x1, x2, x3, x4, x5⟩
  have HS6 := Lib.hid (HS5.out.withg (HAT.out _ _ _ HS5.out).2 x5 x1 x2 x3 x4)
  clear x1 x2 x3 x4 x5 HG HS5 c0 c1
  obtain ⟨A, hA⟩ : ∃ A, A = wideG (L, K0) 3 id := ⟨_, rfl⟩
  have hgk : GOk r l (L, K0) := gok_new r l HI.out.2.1
  have ra := wide_res hgk (n := 3) (by decide) (solo_wn HI.out.1) (solo_alone L 3 id)
  have lA : (wideG (L, K0) 3 id).1.1.length ≤ 300 := by
    have h1 := ra.len
    have h2 := HI.out.2.2
    have e : ((L, K0) : GS).1.length = L.length := rfl
    omega
  have vA := ra.win.1
  have iA := ra.ok.inv
  obtain ⟨H1, h1, _, h3⟩ := HS6.out.call
  obtain ⟨Hg, k1, k2⟩ := Mg.grow h1
  have HC := Lib.hid (show Calls Tryz.prog 20 #[.pointer (some ⟨x.1, 0, none⟩), .int .i64 id] w6 fun e w' => e = .returned (.tuple #[.int .i64 A.2, .nilIface]) ∧ Gt B w6 x.1 P x.2 r l 40000 Hg A.1 w' from by
    rw [hA]
    exact wideP_ok k1 hgk 3 (by decide) id HI.out.1 (Nat.le_trans lA (by decide)))
  have HX := Lib.hid (fun w' (hg : Gt B w6 x.1 P x.2 r l 40000 Hg A.1 w') => h3 _ _ (k2 A.1 w' hg))
  rw [← hA] at lA vA iA
  have HJ := Lib.hid (And.intro vA (And.intro iA lA))
  clear h1 h3 k1 k2 hA ra hgk lA vA iA
  go_wp2_with fail
  refine HC.out.mono ?_
  rintro e w7 ⟨rfl, hg⟩
  have HS7 := Lib.hid (HX.out _ hg).dropg
  clear hg HC HX HS6 HI
  obtain ⟨⟨L2, K2⟩, id2⟩ := A
  obtain ⟨d0, d1, d2⟩ := three_cells (HAT.out _ _ _ HS7.out).1.ask
  clear d0 d2
  go_upto_region 13 with (fail)
  go_quiet (fail)
  obtain ⟨j, hj, ej⟩ := HRD.out
  go_wp2
  (try simp only [Exit.inBlock, Exit.then])
  refine bodyPost_ret (results_tmp4 rfl _ _ _) rfl ?_
  have hb := Below.drewN' (Below.refl w7.heap.size w7) nq
  obtain ⟨H1, h1, _, _⟩ := (HS7.out.below (HT.out _) hb).call
  refine ⟨B, P, G, M, 3, j, L2, id2, H1, ?_, HEP.out, by decide, by omega, h1, by have := HSZ.out.2; omega, (HAT.out _ _ _ (HS7.out.below (HT.out _) hb)).2, (HAT.out _ _ _ (HS7.out.below (HT.out _) hb)).1.below, HJ.out.1, HJ.out.2.1, Nat.le_trans HJ.out.2.2 (by decide)⟩
  rw [← ej]
  rfl
theorem scene_any (r l : Nat) (a : Option Addr) (len cap : Nat) (X : Nat → Nat) (K J N : Int) (W : World) (hm : mayR r l = true) (hx : LiesX W a len X) (hlen : len ≤ 9223372036854775807) :
    Calls Tryz.prog 6 #[Rv r l, .slice a len cap, .agg #[.int .i64 K, .int .i64 J, .int .i64 N]] W (Scene W r l K) := by
  obtain ⟨p, hp, ep⟩ := red_nat K 4 (by decide) (by decide)
  have ep : wrap64 ((IntKind.u64.wrap K).tmod 4) = (p : Int) := ep
  rcases (show p = 0 ∨ p = 1 ∨ p = 2 ∨ p = 3 by omega) with rfl | rfl | rfl | rfl
  · exact scene_0 r l a len cap X K J N W hm hx hlen ep
  · exact scene_1 r l a len cap X K J N W hm hx hlen ep
  · exact scene_2 r l a len cap X K J N W hm hx hlen ep
  · exact scene_3 r l a len cap X K J N W hm hx hlen ep
end Go.Proofs.YtlejohclijjhnaaGreatDoor.Fm

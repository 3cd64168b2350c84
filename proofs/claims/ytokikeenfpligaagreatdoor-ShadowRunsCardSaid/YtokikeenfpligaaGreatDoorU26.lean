/-
  THE WALK of the pool's find, where a frame gives way; and find whole. Conditions: a pool lies in memory, and there is such a sector.
  THE WALKS of the pool's load and fetch. Conditions: a pool lies in memory, and there is such a sector.
-/
import Derived.Test.YtokikeenfpligaaGreatDoorU25
namespace Go.Proofs.YtokikeenfpligaaGreatDoor
open Go.RowKit Go.Maps

theorem give_any {B N : Nat} (μ : Mp) (w : World) (h : PoolAt B N w μ) (hc : μ.X.c = μ.X.m) (hN : N < 2305843009213693952) :
    Calls Tryz.prog 130 #[.pointer (some ⟨μ.P, 0, none⟩)] w (GiveAt B (N + 1) w μ (giveP μ.X)) := by
  cases hh : μ.X.held
  · exact give_not μ w h hc hh hN
  · exact give_held μ w h hh
/-- what gives way -/
structure Gave (X Y : Px) (k : Nat) : Prop where
  c : Y.c = X.c
  m : Y.m = X.m
  n : Y.d.n = X.d.n
  lt : k < Y.c
  i : ∀ j, (Y.fr j).i = (X.fr j).i
theorem turned_i {X Y : Px} {k : Nat} (h : Turned X Y k) (j : Nat) : (Y.fr j).i = (X.fr j).i := by rcases h.fr j with e | e <;> rw [e]
theorem cleanP_n (X : Px) (k : Nat) : (cleanP X k).1.d.n = X.d.n := by
  unfold cleanP
  split
  · rfl
  · split <;> rfl
theorem give_gave {N : Nat} {X : Px} (o : X.Ok N) (hc : X.c = X.m) (h : (giveP X).2.2 = 0) : Gave X (giveP X).1 (giveP X).2.1 := by
  cases hh : X.held
  · obtain ⟨t, ht, h0⟩ := held_no hh
    have hf := far_le X t o.m0
    have T := (turn_any (3 * X.m) X t o hc ht h0 (by omega)).1
    rw [giveP_not hh] at h ⊢
    generalize turnP (3 * X.m) X = r at T h ⊢
    obtain ⟨Y, k⟩ := r
    simp only at T h ⊢
    rw [if_pos h]
    have C := cleanP_c Y k
    exact ⟨C.1.trans T.c, C.2.1.trans T.m, (cleanP_n Y k).trans (by rw [T.d]), by rw [C.1, T.c, hc]; exact T.lt, fun j => (C.2.2 j).trans (turned_i T j)⟩
  · rw [giveP_held hh] at h
    exact absurd (show (10 : Int) = 0 from h) (by decide)
theorem give_zero {B N : Nat} {w : World} {μ : Mp} {Y : Px} {k f : Nat} {vs : Array Value} (h : Calls Tryz.prog f vs w (GiveAt B N w μ (Y, k, 0))) : Calls Tryz.prog f vs w fun e w' => e = .returned (.tuple #[.int .i64 (k : Int), .nilIface]) ∧ Given B N w μ Y k w' :=
  h.mono fun _ _ ⟨he, _, hg⟩ => ⟨he.trans (by show Ending.returned (.tuple #[.int .i64 (k : Int), errv 0]) = _; rw [errv0]), hg rfl⟩
theorem give_bad {B N : Nat} {w : World} {μ : Mp} {Y : Px} {k f : Nat} {err : Int} {vs : Array Value} (h : Calls Tryz.prog f vs w (GiveAt B N w μ (Y, k, err))) (hne : err ≠ 0) : Calls Tryz.prog f vs w fun e w' => e = .returned (.tuple #[.int .i64 (k : Int), .iface 78 (.int .i64 err)]) ∧ Goes B N w μ Y w' :=
  h.mono fun _ _ ⟨he, hg, _⟩ => ⟨he.trans (by show Ending.returned (.tuple #[.int .i64 (k : Int), errv err]) = _; rw [errv1 hne]), hg hne⟩
theorem at_congr {X Y : Px} (hc : Y.c = X.c) (hi : ∀ j, (Y.fr j).i = (X.fr j).i) (i : Int) : Y.at i = X.at i := by
  unfold Px.at
  rw [hc]
  congr 1
  funext k
  rw [hi]
set_option maxRecDepth 100000 in
set_option maxHeartbeats 1000000 in
theorem find_give {B N : Nat} (μ : Mp) (i : Int) (w : World) (h : PoolAt B N w μ) (hi : 0 ≤ i ∧ i < μ.X.d.n) (ha : μ.X.at i = none) (hc : ¬ μ.X.c < μ.X.m) (hN : N < 2305843009213693952) :
    Calls Tryz.prog 119 #[.pointer (some ⟨μ.P, 0, none⟩), .int .i64 i] w (FoundAt B (N + 1) w μ (findP μ.X i)) := by
  rw [findP_give ha hc]
  have hcm : μ.X.c = μ.X.m := by have := h.core.ok.cm; omega
  have c1 := h.core.hd.c1
  have c2 := h.core.hd.c2
  have hn1 := h.core.ok.n1
  have hkey := key_of (x := i) (by omega)
  have hm1 := h.core.ok.m1
  have hne : ((μ.X.m : Int) == (μ.X.m : Int)) = true := beq_self_eq_true _
  have HO := Lib.hid (show Owns w μ.M μ.X.c μ.D from h.mo)
  have HH := Lib.hid (show Maps.has μ.D (.int .i64 i) = false by
    cases hh : Maps.has μ.D (.int .i64 i)
    · rfl
    · obtain ⟨k, h1, h2⟩ := (h.mp.has i).1 hh
      exact absurd h2 (at_none ha k h1))
  have HSZ := Lib.hid (h.mp.size.trans hcm)
  have HG := Lib.hid (give_any μ w h hcm hN)
  have HGV := Lib.hid (give_gave h.core.ok hcm)
  have HAT := Lib.hid ha
  have HI := Lib.hid hi
  generalize giveP μ.X = r at HG HGV ⊢
  obtain ⟨Y, k, err⟩ := r
  simp only at HGV ⊢
  clear h ha hi hcm hc
  by_cases he : err = 0
  · subst he
    rw [if_pos rfl]
    have HV := Lib.hid (HGV.out rfl)
    clear HGV
    have HG2 := Lib.hid (give_zero HG.out)
    clear HG
    go_enter Tryz.func119, Tryz.ntmps119
    go_upto_region 10 with (first | (at_lookup; refine wpList_lookup_own_ok_int _ rfl _ _ 100 rfl 3 3 .i64 klaw Tryz.underlying100 Tryz.underlying3 (zeroI _) μ.M μ.X.c μ.D rfl HO.out _ _ rfl hkey ?_; intro c hat hwc; rw [HH.out]; clear hat hwc) | (at_len; refine wpList_len_own _ rfl _ 100 rfl 3 3 Tryz.underlying100 _ μ.M μ.X.c μ.D rfl HO.out ?_; rw [HSZ.out]) | (go_at_call 130; refine HG2.out.mono ?_; rintro e w3 ⟨rfl, hg⟩; have HG3 := Lib.hid hg; clear hg))
    obtain ⟨μ2, hcore, hmp, hown, hs, ⟨eP, eF, eD⟩, eX⟩ := HG3.out
    have hkY : k < μ2.X.c := by rw [eX]; exact HV.out.lt
    have hm2 : k < μ2.X.m := by have := hcore.ok.cm; omega
    have em : μ2.X.m = μ.X.m := by rw [eX]; exact HV.out.m
    have d1 := hcore.hd.c1
    have d2 := hcore.hd.c2
    have PF := hcore.fx.PF
    have HPM := Lib.hid hcore.fx.PM
    have HFM := Lib.hid (show μ2.M ≠ μ2.F from fun e => hcore.fx.FM e.symm)
    have HPL := Lib.hid (World.block_lt_of_cell? w3 _ hcore.hd.c0)
    have i0 : (0 : Int) ≤ (k : Int) := by omega
    have i1 : (k : Int) < (μ.X.m : Int) := by omega
    have hwk := WalkArith.wf_i64 (n := (k : Int)) (by omega)
    have hcl : μ2.X.c < maxLen := by unfold maxLen; have := hcore.ok.cm; omega
    have HS := Lib.hid hs
    have HC := Lib.hid hcore
    have HMP := Lib.hid hmp
    have HOW := Lib.hid hown
    have HX := Lib.hid eX
    have HE := Lib.hid (show μ2.P = μ.P ∧ μ2.F = μ.F ∧ μ2.s.D = μ.s.D from ⟨eP, eF, eD⟩)
    have HKY := Lib.hid hkY
    rw [eP, eF, em] at d1
    rw [eP] at d2
    clear hs hcore hmp hown eX eP eF eD em hkY HG3
    go_wp2_with (first | (refine wpList_store_frame rfl (.tmp 52) (.tmp 51) rfl HC.out.row hm2 i (by rw [HE.out.2.1]; rfl) rfl ?_; intro w1 hF; have d12 := (World.cell?_of_block (hF.block μ2.P PF)).trans ((congrArg (fun p => w3.cell? ⟨p, 2, none⟩) HE.out.1).trans d2); have d11 := (World.cell?_of_block (hF.block μ2.P PF)).trans ((congrArg (fun p => w3.cell? ⟨p, 1, none⟩) HE.out.1).trans d1); rw [HE.out.1] at d12 d11; have HO1 := Lib.hid (owns_same HOW.out (hF.block μ2.M HFM.out)); have HF := Lib.hid hF; clear hF) | (at_mapUpdate; refine wpList_mapUpdate_in _ rfl _ _ _ 100 rfl 3 3 klaw Tryz.underlying100 _ μ2.M μ2.X.c _ rfl HO1.out hcl _ _ _ rfl rfl hkey _ [] (plainElem_int Tryz.underlying3 hwk) ?_; intro w2 hown2 hturn2; have e1 := (World.cell?_of_block (hturn2.grown.block μ2.P (by rw [HF.out.size]; exact HPL.out) (fun e => HPM.out (Option.some.inj e)))).trans ((congrArg (fun p => w1.cell? ⟨p, 1, none⟩) HE.out.1).trans d11); rw [HE.out.1] at e1; have HO2 := Lib.hid hown2; have HT := Lib.hid hturn2; clear hown2 hturn2))
    go_ret2
    have hat2 : μ2.X.at i = none := by rw [HX.out, at_congr HV.out.c HV.out.i]; exact HAT.out
    have hi2 : 0 ≤ i ∧ i < μ2.X.d.n := by rw [HX.out, HV.out.n]; exact HI.out
    have hok := HC.out.ok.over hi2 HKY.out hat2
    have hM2 : μ2.M < w3.heap.size := HOW.out.lt
    have hmo := HMP.out.over HC.out.ok HKY.out hat2
    rw [← show (μ2.X.fr k).i = (Y.fr k).i by rw [HX.out]] at HO2
    have hO3 := owns_tight HO2.out
    rw [hmo.size] at hO3
    refine ⟨ret_found rfl rfl, _, ⟨HC.out.newF (M := N + 1) (c := μ2.X.c) i HF.out hM2 HT.out _ hok, hO3, hmo⟩, HS.out.trans (stp_newF HF.out HT.out), HE.out.1, HE.out.2.1, HE.out.2.2, ?_⟩
    show (μ2.X.cut μ2.X.c).put k (Fr.new i) = Y.put k (Fr.new i)
    rw [HX.out]
    rfl
  · rw [if_neg he]
    have HG2 := Lib.hid (give_bad HG.out he)
    clear HG
    go_enter Tryz.func119, Tryz.ntmps119
    go_wp2_with (first | (at_lookup; refine wpList_lookup_own_ok_int _ rfl _ _ 100 rfl 3 3 .i64 klaw Tryz.underlying100 Tryz.underlying3 (zeroI _) μ.M μ.X.c μ.D rfl HO.out _ _ rfl hkey ?_; intro c hat hwc; rw [HH.out]; clear hat hwc) | (at_len; refine wpList_len_own _ rfl _ 100 rfl 3 3 Tryz.underlying100 _ μ.M μ.X.c μ.D rfl HO.out ?_; rw [HSZ.out]) | (go_at_call 130; refine HG2.out.mono ?_; rintro e w3 ⟨rfl, hg⟩; have HG3 := Lib.hid hg; clear hg))
    go_ret2
    exact ⟨ret_none rfl he, HG3.out⟩
theorem find_any {B N : Nat} (μ : Mp) (i : Int) (w : World) (h : PoolAt B N w μ) (hi : 0 ≤ i ∧ i < μ.X.d.n) (hN : N < 2305843009213693952) :
    Calls Tryz.prog 119 #[.pointer (some ⟨μ.P, 0, none⟩), .int .i64 i] w (FoundAt B (N + 1) w μ (findP μ.X i)) := by
  cases ha : μ.X.at i with
  | some k => exact find_some μ i k w h hi ha
  | none =>
    by_cases hc : μ.X.c < μ.X.m
    · exact find_fresh μ i w h hi ha hc
    · exact find_give μ i w h hi ha hc hN
end Go.Proofs.YtokikeenfpligaaGreatDoor
namespace Go.Proofs.YtokikeenfpligaaGreatDoor
open Go.RowKit Go.Maps

theorem Lies.sm {w : World} {a : Option Addr} {xs : List Int} (h : Lies w a xs) : Sm.Lies w a xs := fun i hi => h i hi
set_option maxRecDepth 100000 in
theorem good_is (a : Option Addr) (c : Nat) (xs : List Int) (b : Bool) (w : World) (hn : xs.length = 512) (hx : Lies w a xs) (hc : 512 ≤ c) (hb : Sm.isGood xs = b) :
    Calls Tryz.prog 108 #[.slice a 512 c] w fun e w' => e = .returned (.bool b) ∧ Below w.heap.size w w' := by
  subst hb
  exact Sm.good_n a c 512 xs w hn (by omega) hx.sm (by omega) hc
def LoadAt (B N : Nat) (w : World) (μ : Mp) (i : Nat) (e : Ending) (w' : World) : Prop :=
  ∃ g cap, e = .returned (.tuple #[.slice (some ⟨g, 0, none⟩) 512 cap, .nilIface]) ∧ Lies w' (some ⟨g, 0, none⟩) (nums (μ.X.d.cur i)) ∧ 512 ≤ cap ∧ w.heap.size ≤ g ∧ PoolAt B N w' { μ with X := μ.X.load } ∧ Stp w μ.all w' ({ μ with X := μ.X.load } : Mp).all
theorem cur_is {B N : Nat} {w : World} {μ : Mp} (h : PoolAt B N w μ) {i : Nat} (hi : i < μ.s.n) : nums (μ.X.d.cur i) = rowOf (μ.s.cur i) := by
  rw [h.core.t.cur i hi, nums_tx (cur_byte h.core.d.ok i)]
set_option maxRecDepth 100000 in
set_option maxHeartbeats 1000000 in
theorem load_good {B N : Nat} (μ : Mp) (i : Nat) (w : World) (h : PoolAt B N w μ) (hi : (i : Int) < μ.X.d.n) (hg : goodT (μ.X.d.cur i) = true) (hN : N < 2305843009213693952) :
    Calls Tryz.prog 145 #[.pointer (some ⟨μ.P, 0, none⟩), .int .i64 i] w (LoadAt B (N + 1) w μ i) := by
  have hin : i < μ.s.n := by have := h.core.t.n; omega
  have HCU := Lib.hid (cur_is h hin)
  have c4 := h.core.hd.c4
  have z4 := h.core.hd.fz 4
  have hl0 := h.core.ok.l0
  have hlN := h.core.ok.lN
  have HL := Lib.hid h.load
  have HS := Lib.hid (stp_setP (w := w) (μ := μ) (X := μ.X.load) 4 (.int .i64 (μ.X.loads + 1)) rfl)
  have HR := Lib.hid (read_any μ.s i _ h.load.core.d hin)
  have d0 := h.load.core.hd.c0
  change (w.setCell ⟨μ.P, 4, none⟩ (.int .i64 (μ.X.loads + 1))).cell? ⟨μ.P, 0, none⟩ = some (.pointer (some ⟨μ.s.D, 0, none⟩)) at d0
  unfold goodT at hg
  rw [HCU.out] at hg
  have HG := Lib.hid hg
  have hw : -9223372036854775808 ≤ μ.X.loads + 1 ∧ μ.X.loads + 1 ≤ 9223372036854775807 := by omega
  have hw2 := IntWalk.wrap64_in (μ.X.loads + 1) hw
  have c0 := h.core.hd.c0
  clear h hg hin
  go_enter Tryz.func145, Tryz.ntmps145
  go_wp2_with (first | (go_at_call 32; refine HR.out.mono ?_; rintro e w1 ⟨g, cap, rfl, hl, hc, hgg, hb⟩; have HLI := Lib.hid hl; have HGG := Lib.hid hgg; have HB := Lib.hid hb; have HCC := Lib.hid hc; clear hl hgg hb hc) | (go_at_call 108; refine (good_is _ _ _ true _ (rowOf_len _) HLI.out HCC.out HG.out).mono ?_; rintro e w2 ⟨rfl, hb⟩; have HB2 := Lib.hid hb; clear hb))
  go_ret2
  have hbb := HB.out.trans (HB2.out.mono HB.out.size)
  refine ⟨g, cap, rfl, by rw [HCU.out]; exact HLI.out.below HB2.out, HCC.out, by have := HGG.out; simpa using this, HL.out.below hbb, HS.out.trans (.of_below hbb)⟩
set_option maxRecDepth 100000 in
set_option maxHeartbeats 1000000 in
theorem load_bad {B N : Nat} (μ : Mp) (i : Nat) (w : World) (h : PoolAt B N w μ) (hi : (i : Int) < μ.X.d.n) (hg : goodT (μ.X.d.cur i) = false) (hN : N < 2305843009213693952) :
    Calls Tryz.prog 145 #[.pointer (some ⟨μ.P, 0, none⟩), .int .i64 i] w fun e w' => e = .returned (.tuple #[.slice none 0 0, .iface 78 (.int .i64 7)]) ∧ Goes B (N + 1) w μ μ.X.load w' := by
  have hin : i < μ.s.n := by have := h.core.t.n; omega
  have HCU := Lib.hid (cur_is h hin)
  have c4 := h.core.hd.c4
  have z4 := h.core.hd.fz 4
  have hl0 := h.core.ok.l0
  have hlN := h.core.ok.lN
  have HL := Lib.hid h.load
  have HS := Lib.hid (stp_setP (w := w) (μ := μ) (X := μ.X.load) 4 (.int .i64 (μ.X.loads + 1)) rfl)
  have HR := Lib.hid (read_any μ.s i _ h.load.core.d hin)
  have d0 := h.load.core.hd.c0
  change (w.setCell ⟨μ.P, 4, none⟩ (.int .i64 (μ.X.loads + 1))).cell? ⟨μ.P, 0, none⟩ = some (.pointer (some ⟨μ.s.D, 0, none⟩)) at d0
  unfold goodT at hg
  rw [HCU.out] at hg
  have HG := Lib.hid hg
  have c0 := h.core.hd.c0
  clear h hg hin
  go_enter Tryz.func145, Tryz.ntmps145
  go_wp2_with (first | (go_at_call 32; refine HR.out.mono ?_; rintro e w1 ⟨g, cap, rfl, hl, hc, hgg, hb⟩; have HLI := Lib.hid hl; have HGG := Lib.hid hgg; have HB := Lib.hid hb; have HCC := Lib.hid hc; clear hl hgg hb hc) | (go_at_call 108; refine (good_is _ _ _ false _ (rowOf_len _) HLI.out HCC.out HG.out).mono ?_; rintro e w2 ⟨rfl, hb⟩; have HB2 := Lib.hid hb; clear hb))
  go_ret2
  have hbb := HB.out.trans (HB2.out.mono HB.out.size)
  exact ⟨rfl, _, HL.out.below hbb, HS.out.trans (.of_below hbb), rfl, rfl, rfl, rfl⟩

/-! fetch -/
theorem give_lt {N : Nat} {X : Px} (o : X.Ok N) (hc : X.c = X.m) (h : (giveP X).2.2 = 0) : (giveP X).2.1 < (giveP X).1.c := (give_gave o hc h).lt
/-- the frame that was found is one of those in use, and holds the sector -/
theorem find_lt {N : Nat} {X : Px} (o : X.Ok N) (i : Int) (h : (findP X i).2.2 = 0) : (findP X i).2.1 < (findP X i).1.c ∧ ((findP X i).1.fr (findP X i).2.1).i = i := by
  cases ha : X.at i with
  | some k => rw [findP_some ha]; exact at_some ha
  | none =>
    by_cases hc : X.c < X.m
    · rw [findP_fresh ha hc]
      exact ⟨by show X.c < X.c + 1; omega, by show ((X.more.put X.c (Fr.new i)).fr X.c).i = i; rw [put_same]; rfl⟩
    · have hcm : X.c = X.m := by have := o.cm; omega
      rw [findP_give ha hc] at h ⊢
      by_cases he : (giveP X).2.2 = 0
      · rw [if_pos he]
        exact ⟨give_lt o hcm he, by show (((giveP X).1.put (giveP X).2.1 (Fr.new i)).fr (giveP X).2.1).i = i; rw [put_same]; rfl⟩
      · rw [if_neg he] at h
        exact absurd h he
theorem fetchP_bad {X : Px} {i : Nat} (h : goodT (X.d.cur i) = false) : fetchP X i = (X.load, 0, 7) := by unfold fetchP; rw [Int.toNat_natCast, if_pos h]
theorem fetchP_good {X : Px} {i : Nat} (h : goodT (X.d.cur i) = true) : fetchP X i = (if (findP X.load i).2.2 = 0 then ((findP X.load i).1.put (findP X.load i).2.1 { (findP X.load i).1.fr (findP X.load i).2.1 with t := X.d.cur i, u := true }, (findP X.load i).2.1, 0) else ((findP X.load i).1, 0, (findP X.load i).2.2)) := by unfold fetchP; rw [Int.toNat_natCast, if_neg (by rw [h]; decide)]
theorem found_zero {B N : Nat} {w : World} {μ : Mp} {Y : Px} {k f : Nat} {vs : Array Value} (h : Calls Tryz.prog f vs w (FoundAt B N w μ (Y, k, 0))) : Calls Tryz.prog f vs w fun e w' => e = .returned (.tuple #[.pointer (some ⟨μ.F, k * 5, none⟩), .nilIface]) ∧ Goes B N w μ Y w' :=
  h.mono fun _ _ ⟨he, hg⟩ => ⟨he.trans (ret_found (r := (Y, k, 0)) rfl rfl).symm, hg⟩
theorem found_bad {B N : Nat} {w : World} {μ : Mp} {Y : Px} {k f : Nat} {err : Int} {vs : Array Value} (h : Calls Tryz.prog f vs w (FoundAt B N w μ (Y, k, err))) (hne : err ≠ 0) : Calls Tryz.prog f vs w fun e w' => e = .returned (.tuple #[.pointer none, .iface 78 (.int .i64 err)]) ∧ Goes B N w μ Y w' :=
  h.mono fun _ _ ⟨he, hg⟩ => ⟨he.trans (ret_none (r := (Y, k, err)) rfl hne).symm, hg⟩
/-- a frame's bytes are others, from a world further back -/
theorem stp_put2 {w0 w w' : World} {H : Nat → Prop} {μ : Mp} {k : Nat} {f : Fr} {a : Option Addr} {c : Nat} {g : Nat → Value} (hs : Stp w0 H w μ.all) (hF : OnF w w' μ.F k g) (hn : ∀ b off, a = some ⟨b, off, none⟩ → H b ∨ w0.heap.size ≤ b) : Stp w0 H w' (μ.put k f a c).all := by
  refine ⟨hF.os.trans hs.os, hF.tape.trans hs.tape, hF.output.trans hs.output, by rw [hF.size]; exact hs.size, fun b h1 h2 => ?_, fun b hb => ?_⟩
  · have hne : b ≠ μ.F := fun e => by
      subst e
      rcases hs.own μ.F (.inl (.inr (.inl rfl))) with q | q
      · exact h2 q
      · omega
    exact (hF.block b hne).trans (hs.block b h1 h2)
  · rcases hb with q | q
    · exact hs.own b (.inl q)
    · rcases put_bytes q with q2 | ⟨off, q2⟩
      · exact hs.own b (.inr q2)
      · exact hn b off q2
theorem OnF.fill {w : World} {F m : Nat} {fr : Nat → Fr} {a : Nat → Option Addr} {cp : Nat → Nat} (h : Row w F m fr a cp) {k : Nat} (hk : k < m) (t : ByteArray) (ad : Option Addr) (c : Nat) :
    OnF w ((w.setCell ⟨F, k * 5 + 1, none⟩ (.slice ad t.size c)).setCell ⟨F, k * 5 + 3, none⟩ (.bool true)) F k (fv { fr k with t := t, u := true } ad c) := by
  refine (((OnF.refl (h.c k hk)).set 1 (by omega) _).set 3 (by omega) _).congr fun j hj => ?_
  match j, hj with
  | 0, _ => rfl
  | 1, _ => rfl
  | 2, _ => rfl
  | 3, _ => rfl
  | 4, _ => rfl
set_option maxRecDepth 100000 in
set_option maxHeartbeats 1000000 in
theorem fetch_any {B N : Nat} (μ : Mp) (i : Nat) (w : World) (h : PoolAt B N w μ) (hi : (i : Int) < μ.X.d.n) (hN : N + 1 < 2305843009213693952) :
    Calls Tryz.prog 125 #[.pointer (some ⟨μ.P, 0, none⟩), .int .i64 i] w (FoundAt B (N + 2) w μ (fetchP μ.X i)) := by
  cases hg : goodT (μ.X.d.cur i)
  · rw [fetchP_bad hg]
    have HL := Lib.hid (load_bad μ i w h hi hg (by omega))
    clear h hg
    go_enter Tryz.func125, Tryz.ntmps125
    go_wp2_with (go_at_call 145; refine HL.out.mono ?_; rintro e w1 ⟨rfl, hg⟩; have HG := Lib.hid hg; clear hg)
    go_ret2
    exact ⟨ret_none rfl (by decide), Goes.trans (Stp.refl _ _) ⟨rfl, rfl, rfl⟩ (by omega) HG.out⟩
  · rw [fetchP_good hg]
    have hl := load_good μ i w h hi hg (by omega)
    unfold LoadAt at hl
    have HF := Lib.hid fun w1 (h1 : PoolAt B (N + 1) w1 { μ with X := μ.X.load }) => find_any { μ with X := μ.X.load } i w1 h1 ⟨by omega, hi⟩ (by omega)
    have HFL := Lib.hid (find_lt h.core.ok.load i)
    have HLT := Lib.hid h.lt
    have HSZ := Lib.hid (show (μ.X.d.cur i).size = 512 by rw [h.core.t.cur i (by have := h.core.t.n; omega)]; exact tx_size _)
    have HL := Lib.hid hl
    clear hl
    generalize μ.X.d.cur i = b at HSZ HL ⊢
    change Hid (∀ w1, PoolAt B (N + 1) w1 { μ with X := μ.X.load } → Calls Tryz.prog 119 #[.pointer (some ⟨μ.P, 0, none⟩), .int .i64 i] w1 (FoundAt B (N + 1 + 1) w1 { μ with X := μ.X.load } (findP μ.X.load i))) at HF
    generalize findP μ.X.load i = r at HF HFL ⊢
    obtain ⟨Y, k, err⟩ := r
    simp only at HFL ⊢
    clear h hg
    by_cases he : err = 0
    · subst he
      rw [if_pos rfl]
      have HFL2 := Lib.hid (HFL.out rfl)
      clear HFL
      have HF2 : Hid (∀ w1, PoolAt B (N + 1) w1 { μ with X := μ.X.load } → Calls Tryz.prog 119 #[.pointer (some ⟨μ.P, 0, none⟩), .int .i64 i] w1 fun e w' => e = .returned (.tuple #[.pointer (some ⟨μ.F, k * 5, none⟩), .nilIface]) ∧ Goes B (N + 2) w1 { μ with X := μ.X.load } Y w') := Lib.hid fun w1 h1 => found_zero (HF.out w1 h1)
      clear HF
      go_enter Tryz.func125, Tryz.ntmps125
      go_upto_region 7 with (first | (go_at_call 145; refine HL.out.mono ?_; rintro e w1 ⟨g, cap, rfl, hl, hc, hgg, hp, hs⟩; have HLI := Lib.hid hl; have HCC := Lib.hid hc; have HGG := Lib.hid hgg; have HP1 := Lib.hid hp; have HS1 := Lib.hid hs; clear hl hc hgg hp hs) | (go_at_call 119; refine (HF2.out w1 HP1.out).mono ?_; rintro e w2 ⟨rfl, hg⟩; have HG := Lib.hid hg; clear hg))
      obtain ⟨μ2, hp2, hs2, eP, eF, eD, eX⟩ := HG.out
      change μ2.P = μ.P at eP
      change μ2.F = μ.F at eF
      change μ2.s.D = μ.s.D at eD
      have hkc : k < μ2.X.c := by rw [eX]; exact HFL2.out.1
      have hkm : k < μ2.X.m := by have := hp2.core.ok.cm; omega
      have g1 := hp2.core.row.at1 hkm
      have g3 := hp2.core.row.at3 hkm
      have z1 := hp2.core.row.fz (k * 5 + 1)
      have z3 := hp2.core.row.fz (k * 5 + 3)
      have HON := Lib.hid (OnF.fill hp2.core.row hkm b (some ⟨g, 0, none⟩) cap)
      have hgl : g < w1.heap.size := by
        obtain ⟨b', off, ha, hc, _⟩ := HLI.out 0 (by rw [nums_len, HSZ.out]; omega)
        obtain ⟨rfl, rfl⟩ : g = b' ∧ 0 = off := by simpa using ha
        exact World.block_lt_of_cell? w1 _ hc
      have hgn : ¬ μ2.all g := fun q => by
        rcases hs2.own g q with q2 | q2
        · rcases HS1.out.own g q2 with q3 | q3
          · have := HLT.out g q3; have := HGG.out; omega
          · have h1 := (HP1.out.lt g q2).2
            have := (HLT.out g ((all_X (X := μ.X.load) rfl g).1 q2)).2
            have := HGG.out
            omega
        · omega
      have hfit : Fit B w2 μ2 b (some ⟨g, 0, none⟩) cap := ⟨lies_same HLI.out fun b' off e => by
          obtain ⟨rfl, rfl⟩ : g = b' ∧ 0 = off := by simpa using e
          exact hs2.block g hgl (fun q => hgn (by
            have := (HLT.out g ((all_X (X := μ.X.load) rfl g).1 q)).2
            have := HGG.out
            omega)), by rw [HSZ.out]; exact HCC.out, fun b' off e => by
          obtain ⟨rfl, rfl⟩ : g = b' ∧ 0 = off := by simpa using e
          have := HGG.out
          exact ⟨by have h2 := HLT.out μ.P (.inl (.inl rfl)); omega, Nat.lt_of_lt_of_le hgl hs2.size, fun q => hgn (.inl q)⟩⟩
      have HP3 := Lib.hid (hp2.put (M := N + 2) { μ2.X.fr k with t := b, u := true } (some ⟨g, 0, none⟩) cap HON.out rfl hfit (hp2.core.ok.put hkc rfl (.inl HSZ.out) (hp2.core.ok.hN k) (Nat.le_refl _)))
      have HS3 := Lib.hid (stp_put2 (w0 := w) (H := μ.all) (f := { μ2.X.fr k with t := b, u := true }) (a := some ⟨g, 0, none⟩) (c := cap) (HS1.out.trans hs2) HON.out (fun b' off e => by
          obtain ⟨rfl, rfl⟩ : g = b' ∧ 0 = off := by simpa using e
          exact .inr HGG.out))
      have HE := Lib.hid (show μ2.P = μ.P ∧ μ2.F = μ.F ∧ μ2.s.D = μ.s.D from ⟨eP, eF, eD⟩)
      have HX := Lib.hid eX
      rw [eF] at g1 g3 z1 z3 HP3 HS3
      rw [HSZ.out] at HP3 HS3
      clear hp2 hs2 eP eF eD eX HG hgl hgn hfit HON hkc hkm
      go_wp2
      go_ret2
      refine ⟨ret_found rfl rfl, _, HP3.out, HS3.out, HE.out.1, HE.out.2.1, HE.out.2.2, ?_⟩
      show μ2.X.put k { μ2.X.fr k with t := b, u := true } = _
      rw [HX.out]
    · rw [if_neg he]
      have HF2 : Hid (∀ w1, PoolAt B (N + 1) w1 { μ with X := μ.X.load } → Calls Tryz.prog 119 #[.pointer (some ⟨μ.P, 0, none⟩), .int .i64 i] w1 fun e w' => e = .returned (.tuple #[.pointer none, .iface 78 (.int .i64 err)]) ∧ Goes B (N + 2) w1 { μ with X := μ.X.load } Y w') := Lib.hid fun w1 h1 => found_bad (HF.out w1 h1) he
      clear HF
      go_enter Tryz.func125, Tryz.ntmps125
      go_wp2_with (first | (go_at_call 145; refine HL.out.mono ?_; rintro e w1 ⟨g, cap, rfl, hl, hc, hgg, hp, hs⟩; have HP1 := Lib.hid hp; have HS1 := Lib.hid hs; clear hl hc hgg hp hs) | (go_at_call 119; refine (HF2.out w1 HP1.out).mono ?_; rintro e w2 ⟨rfl, hg⟩; have HG := Lib.hid hg; clear hg))
      go_ret2
      exact ⟨ret_none rfl he, Goes.trans HS1.out ⟨rfl, rfl, rfl⟩ (Nat.le_refl _) HG.out⟩
end Go.Proofs.YtokikeenfpligaaGreatDoor

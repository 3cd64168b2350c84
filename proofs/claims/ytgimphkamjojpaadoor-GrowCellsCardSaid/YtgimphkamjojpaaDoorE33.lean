/-
  THE WALKS of the maker's middle whatever its level, and of growTiles. Conditions: the grower lies in memory, and there is room.
  THE WALK of the maker's nine, whatever finds its parts. Conditions: the grower lies in memory; what finds the parts does so at each world on the way.
-/
import Derived.Test.YtgimphkamjojpaaDoorE32
namespace Go.Proofs.YtgimphkamjojpaaDoor
open Go.RowKit Ti Qd Go.Maps Go.WideMaps Ru

theorem mid_any {B : Nat} {w : World} {G P M b l : Nat} {s : GS} {room : Nat} {H : Nat → Prop} (h : Gr B w G P M b l s room H) (n : Nat) (hn : n ≤ 36) (f : Nat → Int) (hf : ∀ i, i < 4 → Lv s.1 n (f i))
    (hr : (midG s (f 0) (f 1) (f 2) (f 3)).1.1.length ≤ room) :
    Calls Tryd.prog 29 #[.pointer (some ⟨G, 0, none⟩), vb4 f] w fun e w' => e = .returned (.tuple #[.int .i64 (midG s (f 0) (f 1) (f 2) (f 3)).2, .nilIface]) ∧ Gt B w G P M b l room H (midG s (f 0) (f 1) (f 2) (f 3)).1 w' := by
  match n, hn, hf with
  | 0, _, hf =>
    have e : midG s (f 0) (f 1) (f 2) (f 3) = leafG s (growP 0 0 0 (tilG s.1 (f 0) (f 1) (f 2) (f 3))) := if_pos (show (at' s.1 (f 0)).lev = 3 from (hf 0 (by decide)).2)
    rw [e] at hr ⊢
    exact middle_0 h f hf hr
  | n + 1, hn, hf =>
    have e : midG s (f 0) (f 1) (f 2) (f 3) = nodeG s (kid (at' s.1 (f 0)) 3) (kid (at' s.1 (f 1)) 2) (kid (at' s.1 (f 2)) 1) (kid (at' s.1 (f 3)) 0) := if_neg (by rw [(hf 0 (by decide)).2]; omega)
    rw [e] at hr ⊢
    exact middle_n h n (by omega) f hf (fun i => kid (at' s.1 (f i)) (3 - i)) (fun i _ => rfl) hr
set_option maxRecDepth 100000 in
set_option maxHeartbeats 4000000 in
theorem growTiles_ok {B : Nat} {w : World} {G P M b l : Nat} {s : GS} {room : Nat} {H : Nat → Prop} (hm : mayR b l = true) (h : Gr B w G P M b l s room H) (f : Nat → Int) (hf : ∀ i, i < 4 → Lv s.1 0 (f i)) (j : Nat) (hj : j ≤ 2)
    (hr : (put s.1 (leafQ (growP b l (2 ^ j) (tilG s.1 (f 0) (f 1) (f 2) (f 3))))).length ≤ room) :
    Calls Tryd.prog 56 #[.pointer (some ⟨G, 0, none⟩), vb4 f, .int .i64 (j : Int)] w fun e w' => e = .returned (.tuple #[.int .i64 (nr s.1 (leafQ (growP b l (2 ^ j) (tilG s.1 (f 0) (f 1) (f 2) (f 3))))), .nilIface]) ∧ Gt B w G P M b l room H (put s.1 (leafQ (growP b l (2 ^ j) (tilG s.1 (f 0) (f 1) (f 2) (f 3)))), s.2) w' := by
  have HS : Hid (Gs B w H G P M b l room s [(w.heap.size, ob4 f)] (w.alloc (.cells #[.int .i64 (f 0), .int .i64 (f 1), .int .i64 (f 2), .int .i64 (f 3)] 71))) := Lib.hid ((Gs.start h).alloc' (ob4 f) rfl)
  have HRM := Lib.hid hr
  obtain ⟨t, ht⟩ : ∃ t, t = tilG s.1 (f 0) (f 1) (f 2) (f 3) := ⟨_, rfl⟩
  rw [← ht] at HRM ⊢
  have HT : Hid (∀ i, i < 4 → Lv s.1 0 (f i) ∧ (at' s.1 (f i)).til = t i) := Lib.hid fun i h4 => ⟨hf i h4, by
    rw [ht]
    rcases (show i = 0 ∨ i = 1 ∨ i = 2 ∨ i = 3 by omega) with rfl | rfl | rfl | rfl <;> rfl⟩
  have HQT := Lib.hid (show growP b l (2 ^ j) t = growB b l (2 ^ j) (q4 (t 0) (t 1) (t 2) (t 3)) from by
    rw [ht]
    rfl)
  have HM := Lib.hid (fun w => grow_fine b l hm (t 0) (t 1) (t 2) (t 3) (2 ^ j) (pow2_4 hj) w)
  rw [HQT.out] at HRM ⊢
  generalize growB b l (2 ^ j) (q4 (t 0) (t 1) (t 2) (t 3)) = X at HRM HM ⊢
  clear HQT ht h hf hr hm
  unfold Rv at HM
  obtain ⟨two, htwo⟩ : ∃ two : Int, two = ((2 ^ j : Nat) : Int) := ⟨_, rfl⟩
  rw [← htwo] at HM
  have HSH := Lib.hid (show IntKind.i64.wrap ((2 : Int) ^ (j : Nat)) = two from by
    rw [htwo]
    rcases (show j = 0 ∨ j = 1 ∨ j = 2 by omega) with rfl | rfl | rfl <;> rfl)
  have j0 : (0 : Int) ≤ (j : Int) := by omega
  have j1 : (j : Int) ≤ 2 := by omega
  clear htwo hj
  go_enter Tryd.func56, Tryd.ntmps56
  go_wp2_with fail
  generalize World.alloc _ _ = W at HS ⊢
  obtain ⟨H1, h1, h2⟩ := HS.out.call
  have HT1 := Lib.hid (tiles_ok h1 f t HT.out)
  have HG1 := Lib.hid h2
  clear h1 h2
  refine HT1.out.mono ?_
  rintro e w2 ⟨rfl, hg⟩
  have HS2 := Lib.hid ((HG1.out _ _ hg).alloc (.cells #[.int .u64 (rg (t 0)), .int .u64 (rg (t 1)), .int .u64 (rg (t 2)), .int .u64 (rg (t 3))] 107))
  clear hg HS HG1 HT1
  go_upto_region 4 with (fail)
  obtain ⟨g8, hg8⟩ : ∃ g, g = w2.heap.size := ⟨_, rfl⟩
  rw [← hg8] at HS2 ⊢
  generalize World.alloc _ _ = W2 at HS2 ⊢
  clear hg8
  have HD := Lib.hid HS2.out.drew
  have KD := Lib.hid (And.intro HD.out.rul.1 (And.intro HD.out.rul.2.1 (row4 HD.out.b0)))
  go_region_held3 (fun w' => w'.cell? ⟨G, 1, none⟩ = some (.int .u16 b) ∧ w'.cell? ⟨G, 2, none⟩ = some (.int .u16 l) ∧ w'.cell? ⟨g8, 0, none⟩ = some (.int .u64 (rg (t 0))) ∧ w'.cell? ⟨g8, 1, none⟩ = some (.int .u64 (rg (t 1))) ∧ w'.cell? ⟨g8, 2, none⟩ = some (.int .u64 (rg (t 2))) ∧ w'.cell? ⟨g8, 3, none⟩ = some (.int .u64 (rg (t 3)))) (first | with_reducible exact KD.out | with_reducible exact ks)
    (first
      | (go_at_call 69; rw [HSH.out]; with_reducible refine (HM.out _).mono ?_; rintro e w3 ⟨rfl, hb⟩; have HS3 := Lib.hid (HD.out.below hb); have ks := And.intro HS3.out.rul.1 (And.intro HS3.out.rul.2.1 (row4 HS3.out.b0)); clear hb))
  have hp := HS3.out.ptr
  obtain ⟨Hs, hst, hgo⟩ := HS3.out.store
  have HL := Lib.hid (leaf_ok hst X HRM.out)
  have HGO := Lib.hid hgo
  clear hst hgo ks
  go_wp2_with fail
  refine HL.out.mono ?_
  rintro e w4 ⟨rfl, hg⟩
  have HS4 := Lib.hid (HGO.out _ _ hg)
  clear hg
  go_wp2
  go_ret2
  exact ⟨rfl, HS4.out.gt⟩
end Go.Proofs.YtgimphkamjojpaaDoor
namespace Go.Proofs.YtgimphkamjojpaaDoor
open Go.RowKit Ti Qd Go.Maps Go.WideMaps Ru

theorem Gs.call2 {B : Nat} {w0 w : World} {H0 : Nat → Prop} {G P M b l room : Nat} {s : GS} {bx : List (Nat × Obj)} (h : Gs B w0 H0 G P M b l room s bx w) : ∃ H, Gr B w G P M b l s room H ∧ Stp w0 H0 w H ∧ ∀ (s' : GS) (w' : World), Gt B w G P M b l room H s' w' → Gs B w0 H0 G P M b l room s' bx w' := by
  obtain ⟨⟨H, h1, h2, h3⟩, h4, h5⟩ := h
  exact ⟨H, h1, h2, fun _ _ hg => Gs.goes ⟨h1, h2, h3⟩ h4 h5 hg⟩
abbrev z9 : Obj := .cells #[.int .i64 0, .int .i64 0, .int .i64 0, .int .i64 0, .int .i64 0, .int .i64 0, .int .i64 0, .int .i64 0, .int .i64 0] 120
set_option maxRecDepth 100000 in
theorem info_9 (F : Nat → Int) : (Tryd.prog.info? 120).map (·.size) = some (ir F 9).size := by
  rw [ir_size]
  kernel_rfl
/-- what is handed to a part -/
abbrev pt4 (v : Nat → Int) (k : Nat) : Value := .agg #[.int .i64 (v (at4 4 k)), .int .i64 (v (at4 4 k + 1)), .int .i64 (v (at4 4 k + 4)), .int .i64 (v (at4 4 k + 4 + 1))]
/-- the part's contract, on the way -/
def PartC (B : Nat) (w : World) (G P M b l : Nat) (s : GS) (room : Nat) (H : Nat → Prop) (v : Nat → Int) (fid : Nat) (fi ca : Array Value) (nf : GS → Nat → GS × Int) : Prop :=
  ∀ k, k < 9 → ∀ (wr : World) (H' : Nat → Prop), Gr B wr G P M b l (stOf nf s k) room H' → Stp w H wr H' → Calls Tryd.prog fid (fi.push (pt4 v k) ++ ca) wr fun e w' => e = .returned (.tuple #[.int .i64 (nf (stOf nf s k) k).2, .nilIface]) ∧ Gt B wr G P M b l room H' (nf (stOf nf s k) k).1 w'
theorem enter_run {P : Program} {f : FuncId} {fn : Func} (hf : P.funcs[f]? = some fn) (hname : (fn.name == "runtime.NumGoroutine") = false) (hb : fn.body.isNone = false) (args : Array Value) (w : World) :
    (callFunc f args).run P w = .ok (.enter f args) w := by
  have h1 : (fn.name = "runtime.NumGoroutine") = False := by simpa using hname
  have h2 : (fn.body = none) = False := eq_false fun e => by rw [e] at hb; cases hb
  simp [callFunc, hf, h1, h2]
set_option maxRecDepth 100000 in
set_option maxHeartbeats 4000000 in
theorem nine_ok {B : Nat} {w : World} {G P M b l : Nat} {s : GS} {room : Nat} {H : Nat → Prop} (h : Gr B w G P M b l s room H) (f : Nat → Int) (n : Nat) (hf : ∀ i, i < 4 → Lv s.1 (n + 1) (f i)) (fid : Nat) (fi ca : Array Value) (nf : GS → Nat → GS × Int)
    (hcf : ∀ (args : Array Value) (w : World), (callFunc fid args).run Tryd.prog w = .ok (.enter fid args) w) (hC : PartC B w G P M b l s room H (sx4 s.1 f) fid fi ca nf) :
    Calls Tryd.prog 59 #[.pointer (some ⟨G, 0, none⟩), vb4 f, .func (.func fid) fi ca] w fun e w' => e = .returned (.tuple #[.agg (ir (outOf nf s) 9), .nilIface]) ∧ Gt B w G P M b l room H (stOf nf s 9) w' := by
  have HS : Hid (Gs B w H G P M b l room s [(w.heap.size + 1, .cells (ir (fun _ => 0) 9) 120), (w.heap.size, ob4 f)] ((w.alloc (.cells #[.int .i64 (f 0), .int .i64 (f 1), .int .i64 (f 2), .int .i64 (f 3)] 71)).alloc z9)) := Lib.hid (((Gs.start h).alloc' (ob4 f) rfl).alloc' z9 (n := w.heap.size + 1) (by simp))
  have HF := Lib.hid hf
  have HC := Lib.hid hC
  have HCF := Lib.hid hcf
  clear h hf hC hcf
  go_enter Tryd.func59, Tryd.ntmps59
  go_wp2_with fail
  generalize World.alloc _ _ = W at HS ⊢
  obtain ⟨H1, h1, h2⟩ := HS.out.call
  have HT1 := Lib.hid (sixteen_ok h1 f n HF.out)
  have HG1 := Lib.hid h2
  clear h1 h2
  refine HT1.out.mono ?_
  rintro e w2 ⟨rfl, hg⟩
  have HS2 := Lib.hid (HG1.out _ _ hg)
  clear hg HS HG1 HT1
  have hone := ir_one (sx4 s.1 f) 16
  have hinf := info_16 (sx4 s.1 f)
  have hsz : (ir (fun _ => 0) 16).size = (ir (sx4 s.1 f) 16).size := by rw [ir_size, ir_size]
  have HA := Lib.hid (And.intro hone (And.intro hinf hsz))
  clear hone hinf hsz
  have HS3 : Hid (Gs B w H G P M b l room s [(w2.heap.size + 1, .cells (ir (cpF 0 (outOf nf s) 0) 9) 120), (w2.heap.size, .cells (ir (sx4 s.1 f) 16) 147), (w.heap.size + 1, .cells (ir (fun _ => 0) 9) 120), (w.heap.size, ob4 f)] (((w2.alloc z16).setRow w2.heap.size (ir (sx4 s.1 f) 16)).alloc z9)) := Lib.hid (((HS2.out.alloc z16).setRow (ir (sx4 s.1 f) 16)).alloc' z9 (by simp [World.setRow]))
  clear HS2
  go_wp2_with (refine wpList_store_row rfl 147 (.tmp 8) (.tmp 16) rfl w2.heap.size (ir (sx4 s.1 f) 16) rfl rfl 147 (ir (fun _ => 0) 16) (heap_alloc_new w2 _) HA.out.2.1 HA.out.2.2 HA.out.1 ?_)
  clear HA
  generalize World.alloc _ _ = W3 at HS3 ⊢
  obtain ⟨F, hF⟩ : ∃ F, F = sx4 s.1 f := ⟨_, rfl⟩
  rw [← hF] at HS3 HC
  obtain ⟨g8, hg8⟩ : ∃ g, g = w2.heap.size := ⟨_, rfl⟩
  rw [← hg8] at HS3 ⊢
  generalize ir (sx4 s.1 f) 16 = V16
  clear hF hg8
  go_loopw [22] (fun i wr => ∃ k : Nat, k ≤ 9 ∧ i = .int .i64 k ∧ Hid (Gs B w H G P M b l room (stOf nf s k) [(g8 + 1, .cells (ir (cpF 0 (outOf nf s) k) 9) 120), (g8, .cells (ir F 16) 147), (w.heap.size + 1, .cells (ir (fun _ => 0) 9) 120), (w.heap.size, ob4 f)] wr)) (fun i _ => 9 - (intOf i).toNat)
  case atStart => exact ⟨0, by omega, rfl, HS3⟩
  case round =>
    clear HS3
    obtain ⟨k, hk, rfl, HR⟩ := hrel
    have k0 : (0 : Int) ≤ (k : Int) := by omega
    by_cases hlt : k < 9
    · have k1 : (k : Int) < 9 := by omega
      have HLT := Lib.hid hlt
      have HF4 := Lib.hid (four_4 g8 k hlt F _ _ HR.out.b1)
      clear hlt
      go_wp2_with fail
      refine HF4.out.mono ?_
      rintro e w4 ⟨rfl, hb⟩
      have HR1 := Lib.hid (HR.out.below hb)
      obtain ⟨H4, h1, h2, h3⟩ := HR1.out.call2
      have HP := Lib.hid (HC.out k HLT.out w4 H4 h1 h2)
      have HGO := Lib.hid h3
      clear hb h1 h2 h3 HF4 HR
      have hcf2 := HCF.out
      go_wp2_with fail
      refine HP.out.mono ?_
      rintro e w5 ⟨rfl, hg⟩
      have HR2 := Lib.hid (HGO.out _ _ hg)
      clear hg hcf2 HR1
      have hc := ir_cell HR2.out.b0 k HLT.out
      have hfz := ir_fro HR2.out.b0 k
      have HP2 := Lib.hid (show (w5.setCell ⟨g8 + 1, k, none⟩ (.int .i64 (outOf nf s k))).heap[g8 + 1]? = some (.cells (ir (cpF 0 (outOf nf s) (k + 1)) 9) 120) from by
        rw [← cp_step 0 (outOf nf s) k]
        exact ir_put HR2.out.b0 k _)
      generalize cpF 0 (outOf nf s) k k = old at *
      go_wp2
      go_roundw
      case rel => exact ⟨k + 1, by have := HLT.out; omega, by go_num, Lib.hid (HR2.out.set HP2.out)⟩
      case measure => have := HLT.out; simp [intOf]; omega
    · obtain rfl : k = 9 := by omega
      have h0 : wr.heap[g8 + 1]? = some (.cells (ir (outOf nf s) 9) 120 (0, 0)) := by
        rw [show ir (outOf nf s) 9 = ir (cpF 0 (outOf nf s) 9) 9 from ir_ext fun i hi => by unfold cpF; rw [if_pos hi]]
        exact HR.out.b0
      have h1 := HR.out.b2
      have HX := Lib.hid (Gs.setRow (HR.out.tail.tail) (ir (outOf nf s) 9))
      have HR0 := Lib.hid h0
      have HR1 := Lib.hid h1
      have hone := ir_one (outOf nf s) 9
      have hinf := info_9 (outOf nf s)
      have hsz : (ir (fun _ => 0) 9).size = (ir (outOf nf s) 9).size := by rw [ir_size, ir_size]
      have HA := Lib.hid (And.intro hone (And.intro hinf hsz))
      generalize hV : ir (outOf nf s) 9 = V at *
      have HV := Lib.hid hV
      generalize ir (fun _ => 0) 9 = Z at *
      clear h0 h1 HR hone hinf hsz hV
      go_wp2_with (first
        | (refine wpList_load_row rfl _ (.tmp 10) rfl (g8 + 1) rfl _ V (0, 0) _ HR0.out Tryd.underlying120 rfl HA.out.2.1 ?_)
        | (refine wpList_store_row rfl 120 (.tmp 6) (.tmp 40) rfl (w.heap.size + 1) V rfl rfl 120 _ HR1.out HA.out.2.1 HA.out.2.2 HA.out.1 ?_))
      refine post_row_tmp Tryd.results59 (w.heap.size + 1) 120 V (0, 0) _ .nilIface Tryd.underlying120 rfl HA.out.2.1 ?_ ?_ (setRow_heap _ _ _ _ _ _ HR1.out) ?_ ?_
      · rfl
      · rfl
      · rfl
      exact ⟨by rw [HV.out], HX.out.gt⟩
end Go.Proofs.YtgimphkamjojpaaDoor

/-
  THE WALK of the maker's middle, of squares above tiles. Conditions: the grower lies in memory, and there is room.
  THE WALKS of the maker's middle whatever its level, and of growTiles. Conditions: the grower lies in memory, and there is room.
  THE WALK of the maker's nine, whatever finds its parts. Conditions: the grower lies in memory; what finds the parts does so at each world on the way.
  THE WALKS of the maker's growFour and of what finds a part of one's own. Conditions: the grower lies in memory, what goes on in squares does so, and there is room.
  THE WALK of what finds a part of one's own; both ways to find a part. Conditions: the grower lies in memory, what goes on in squares does so, and there is room.
-/
import Derived.Test.YtkefjkfknegogaaGreatP27
import Derived.Test.YtkefjkfknegogaaGreatP05
namespace Go.Proofs.YtkefjkfknegogaaGreat
open Go.RowKit Ti Qd Go.Maps Go.WideMaps

set_option maxRecDepth 100000 in
theorem opposite_m (i m : Nat) (hi : i < 4) (hm : m = 3 - i) (w : World) : Calls Tryz.prog 69 #[.int .i64 i] w fun e w' => e = .returned (.int .i64 (m : Int)) ∧ w = w' := by
  subst hm
  exact opposite_any i hi w
abbrev z4l : Obj := .cells #[.int .i64 0, .int .i64 0, .int .i64 0, .int .i64 0] 96
set_option maxRecDepth 100000 in
set_option maxHeartbeats 4000000 in
theorem middle_n {B : Nat} {w : World} {G P M b l : Nat} {s : GS} {room : Nat} {H : Nat → Prop} (h : Gr B w G P M b l s room H) (n : Nat) (hn : n ≤ 35) (f : Nat → Int) (hf : ∀ i, i < 4 → Lv s.1 (n + 1) (f i)) (o : Nat → Int) (ho : ∀ i, i < 4 → o i = kid (at' s.1 (f i)) (3 - i))
    (hr : (put s.1 (joinQ s.1 (o 0) (o 1) (o 2) (o 3))).length ≤ room) :
    Calls Tryz.prog 60 #[.pointer (some ⟨G, 0, none⟩), vb4 f] w fun e w' => e = .returned (.tuple #[.int .i64 (nr s.1 (joinQ s.1 (o 0) (o 1) (o 2) (o 3))), .nilIface]) ∧ Gt B w G P M b l room H (put s.1 (joinQ s.1 (o 0) (o 1) (o 2) (o 3)), s.2) w' := by
  have HS : Hid (Gs B w H G P M b l room s [(w.heap.size, ob4 f)] (w.alloc (.cells #[.int .i64 (f 0), .int .i64 (f 1), .int .i64 (f 2), .int .i64 (f 3)] 96))) := Lib.hid ((Gs.start h).alloc' (ob4 f) rfl)
  have HF := Lib.hid hf
  have HO := Lib.hid ho
  have HRM := Lib.hid hr
  have hinv := HS.out.inv.1
  have H4 := Lib.hid (four_of (n := n) (f := o) (fun i h4 => by rw [ho i h4]; exact hinv.kid (hf i h4) (3 - i)))
  obtain ⟨lv, hlv⟩ : ∃ lv : Int, lv = ((n + 1 : Nat) : Int) + 3 := ⟨_, rfl⟩
  have HL := Lib.hid (show ∀ i, i < 4 → (at' s.1 (f i)).lev = lv from fun i h4 => by rw [hlv]; exact (hf i h4).2)
  have e3 : (lv == 3) = false := by rw [beq_eq_false_iff_ne]; omega
  have HN := Lib.hid (show (n : Int) + 3 < 40 by omega)
  clear h hf hr hinv ho hlv
  go_enter Tryz.func60, Tryz.ntmps60
  go_wp2
  generalize World.alloc _ _ = W at HS ⊢
  have HD := Lib.hid HS.out.drew
  have KD := Lib.hid (And.intro HD.out.ptr (row4 HD.out.b0).1)
  obtain ⟨Hs, hst, _⟩ := HD.out.store
  have HC := Lib.hid (level_is hst (f 0) (HF.out 0 (by decide)).1 lv (HL.out 0 (by decide)))
  clear hst
  go_region_held3 (fun w' => w'.cell? ⟨G, 0, none⟩ = some (.pointer (some ⟨P, 0, none⟩)) ∧ w'.cell? ⟨w.heap.size, 0, none⟩ = some (.int .i64 (f 0))) (first | with_reducible exact KD.out | with_reducible exact ks)
    ((go_at_call 20; with_reducible refine HC.out.mono ?_; rintro e w1 ⟨rfl, hb⟩; have HS1 := Lib.hid ((HD.out.below hb)); have ks := And.intro HS1.out.ptr (row4 HS1.out.b0).1; clear hb))
  obtain ⟨c0, c1, c2, c3⟩ := row4 ((HS1.out.alloc z4l).b1)
  have HSz := Lib.hid (HS1.out.alloc z4l)
  clear ks HS HD HS1 KD HC
  go_wp2
  obtain ⟨g, hg⟩ : ∃ g, g = w1.heap.size := ⟨_, rfl⟩
  rw [← hg] at HSz ⊢
  have HR0 : Hid (Gs B w H G P M b l room s [(g, .cells (ir (cpF 0 o 0) 4) 96), (w.heap.size, ob4 f)] (w1.alloc z4l)) := HSz
  clear HSz hg c0 c1 c2 c3
  generalize World.alloc _ _ = W1 at HR0 ⊢
  go_loopw [49] (fun i wr => ∃ k : Nat, k ≤ 4 ∧ i = .int .i64 k ∧ Hid (Gs B w H G P M b l room s [(g, .cells (ir (cpF 0 o k) 4) 96), (w.heap.size, ob4 f)] wr)) (fun i _ => 4 - (intOf i).toNat)
  case atStart => exact ⟨0, by omega, rfl, HR0⟩
  case round =>
    clear HR0
    obtain ⟨k, hk, rfl, HR⟩ := hrel
    have k0 : (0 : Int) ≤ (k : Int) := by omega
    by_cases hlt : k < 4
    · have k1 : (k : Int) < 4 := by omega
      have hx := idx4 f k hlt
      have hp := HR.out.ptr
      obtain ⟨Hs, hst, _⟩ := HR.out.store
      have HC := Lib.hid (kids_ok hst n (f k) (HF.out k hlt) _ rfl)
      have HLT := Lib.hid hlt
      have HOK := Lib.hid (HO.out k hlt)
      clear hst
      generalize f k = fk at *
      generalize at' s.1 fk = q at *
      go_wp2_with fail
      refine HC.out.mono ?_
      rintro e w2 ⟨rfl, hb⟩
      have HR1 := Lib.hid ((HR.out.below hb).alloc (.cells #[.int .i64 q.k0, .int .i64 q.k1, .int .i64 q.k2, .int .i64 q.k3] 96))
      clear hb HR hx hp HC
      go_upto_region 16 with (fail)
      obtain ⟨g2, hg2⟩ : ∃ g, g = w2.heap.size := ⟨_, rfl⟩
      rw [← hg2] at HR1 ⊢
      generalize World.alloc _ _ = W2 at HR1 ⊢
      clear hg2
      obtain ⟨m, hm⟩ : ∃ m, m = 3 - k := ⟨_, rfl⟩
      have m0 : (0 : Int) ≤ (m : Int) := by omega
      have m1 : (m : Int) < 4 := by omega
      have HM := Lib.hid (opposite_m k m HLT.out hm)
      have hq : W2.cell? ⟨g2, m, none⟩ = some (.int .i64 (o k)) := by
        have h1 : W2.heap[g2]? = some (.cells (ir (kid q) 4) 96) := HR1.out.b0
        rw [HOK.out, ← hm]
        exact ir_cell h1 m (by omega)
      have hc := ir_cell HR1.out.b1 k HLT.out
      have hfz := ir_fro HR1.out.b1 k
      have HP := Lib.hid (show (W2.setCell ⟨g, k, none⟩ (.int .i64 (o k))).heap[g]? = some (.cells (ir (cpF 0 o (k + 1)) 4) 96) from by
        rw [← cp_step 0 o k]
        exact ir_put HR1.out.b1 k (o k))
      have HR2 := Lib.hid HR1.out.tail
      generalize cpF 0 o k k = old at *
      clear HR1 hm
      go_wp2_with (go_at_call 69; refine (HM.out _).mono ?_; rintro e w3 ⟨rfl, rfl⟩)
      go_roundw
      case rel => exact ⟨k + 1, by have := HLT.out; omega, by go_num, Lib.hid (HR2.out.set HP.out)⟩
      case measure => have := HLT.out; simp [intOf]; omega
    · obtain rfl : k = 4 := by omega
      have HD : Hid (Gs B w H G P M b l room s [(g, .cells #[.int .i64 (o 0), .int .i64 (o 1), .int .i64 (o 2), .int .i64 (o 3)] 96), (w.heap.size, ob4 f)] wr.drew) := Lib.hid HR.out.drew
      have KD := Lib.hid (And.intro HD.out.ptr (row4 HD.out.b0))
      obtain ⟨Hs, hst, hgo⟩ := HD.out.store
      have HC := Lib.hid (node_ok hst (o 0) (o 1) (o 2) (o 3) _ H4.out HN.out HRM.out)
      have HGO := Lib.hid hgo
      clear hst hgo HR
      go_wp2
      go_region_held3 (fun w' => w'.cell? ⟨G, 0, none⟩ = some (.pointer (some ⟨P, 0, none⟩)) ∧ w'.cell? ⟨g, 0, none⟩ = some (.int .i64 (o 0)) ∧ w'.cell? ⟨g, 1, none⟩ = some (.int .i64 (o 1)) ∧ w'.cell? ⟨g, 2, none⟩ = some (.int .i64 (o 2)) ∧ w'.cell? ⟨g, 3, none⟩ = some (.int .i64 (o 3))) (first | with_reducible exact KD.out | with_reducible exact ks)
        ((go_at_call 38; with_reducible refine HC.out.mono ?_; rintro e w4 ⟨rfl, hg⟩; have HS4 := Lib.hid (HGO.out _ _ hg); have ks := And.intro HS4.out.ptr (row4 HS4.out.b0); clear hg))
      go_wp2
      go_ret2
      exact ⟨rfl, HS4.out.gt⟩
end Go.Proofs.YtkefjkfknegogaaGreat
namespace Go.Proofs.YtkefjkfknegogaaGreat
open Go.RowKit Ti Qd Go.Maps Go.WideMaps Ru

theorem mid_any {B : Nat} {w : World} {G P M b l : Nat} {s : GS} {room : Nat} {H : Nat → Prop} (h : Gr B w G P M b l s room H) (n : Nat) (hn : n ≤ 36) (f : Nat → Int) (hf : ∀ i, i < 4 → Lv s.1 n (f i))
    (hr : (midG s (f 0) (f 1) (f 2) (f 3)).1.1.length ≤ room) :
    Calls Tryz.prog 60 #[.pointer (some ⟨G, 0, none⟩), vb4 f] w fun e w' => e = .returned (.tuple #[.int .i64 (midG s (f 0) (f 1) (f 2) (f 3)).2, .nilIface]) ∧ Gt B w G P M b l room H (midG s (f 0) (f 1) (f 2) (f 3)).1 w' := by
  match n, hn, hf with
  | 0, _, hf =>
    have e : midG s (f 0) (f 1) (f 2) (f 3) = leafG s (growP 0 0 0 (tilG s.1 (f 0) (f 1) (f 2) (f 3))) := if_pos (show (at' s.1 (f 0)).lev = 3 from (hf 0 (by decide)).2)
    rw [e] at hr ⊢
    exact middle_0 h f hf hr
  | n + 1, hn, hf =>
    have e : midG s (f 0) (f 1) (f 2) (f 3) = nodeG s (kid (at' s.1 (f 0)) 3) (kid (at' s.1 (f 1)) 2) (kid (at' s.1 (f 2)) 1) (kid (at' s.1 (f 3)) 0) := if_neg (by rw [(hf 0 (by decide)).2]; omega)
    rw [e] at hr ⊢
    exact middle_n h n (by omega) f hf (fun i => kid (at' s.1 (f i)) (3 - i)) (fun i _ => rfl) hr
set_option maxRecDepth 100000 in
set_option maxHeartbeats 4000000 in
theorem growTiles_ok {B : Nat} {w : World} {G P M b l : Nat} {s : GS} {room : Nat} {H : Nat → Prop} (hm : mayR b l = true) (h : Gr B w G P M b l s room H) (f : Nat → Int) (hf : ∀ i, i < 4 → Lv s.1 0 (f i)) (j : Nat) (hj : j ≤ 2)
    (hr : (put s.1 (leafQ (growP b l (2 ^ j) (tilG s.1 (f 0) (f 1) (f 2) (f 3))))).length ≤ room) :
    Calls Tryz.prog 59 #[.pointer (some ⟨G, 0, none⟩), vb4 f, .int .i64 (j : Int)] w fun e w' => e = .returned (.tuple #[.int .i64 (nr s.1 (leafQ (growP b l (2 ^ j) (tilG s.1 (f 0) (f 1) (f 2) (f 3))))), .nilIface]) ∧ Gt B w G P M b l room H (put s.1 (leafQ (growP b l (2 ^ j) (tilG s.1 (f 0) (f 1) (f 2) (f 3)))), s.2) w' := by
  have HS : Hid (Gs B w H G P M b l room s [(w.heap.size, ob4 f)] (w.alloc (.cells #[.int .i64 (f 0), .int .i64 (f 1), .int .i64 (f 2), .int .i64 (f 3)] 96))) := Lib.hid ((Gs.start h).alloc' (ob4 f) rfl)
  have HRM := Lib.hid hr
  obtain ⟨t, ht⟩ : ∃ t, t = tilG s.1 (f 0) (f 1) (f 2) (f 3) := ⟨_, rfl⟩
  rw [← ht] at HRM ⊢
  have HT : Hid (∀ i, i < 4 → Lv s.1 0 (f i) ∧ (at' s.1 (f i)).til = t i) := Lib.hid fun i h4 => ⟨hf i h4, by
    rw [ht]
    rcases (show i = 0 ∨ i = 1 ∨ i = 2 ∨ i = 3 by omega) with rfl | rfl | rfl | rfl <;> rfl⟩
  have HQT := Lib.hid (show growP b l (2 ^ j) t = growB b l (2 ^ j) (q4 (t 0) (t 1) (t 2) (t 3)) from by
    rw [ht]
    rfl)
  have HM := Lib.hid (fun w => grow_fine b l hm (t 0) (t 1) (t 2) (t 3) (2 ^ j) (pow2_4 hj) w)
  rw [HQT.out] at HRM ⊢
  generalize growB b l (2 ^ j) (q4 (t 0) (t 1) (t 2) (t 3)) = X at HRM HM ⊢
  clear HQT ht h hf hr hm
  unfold Rv at HM
  obtain ⟨two, htwo⟩ : ∃ two : Int, two = ((2 ^ j : Nat) : Int) := ⟨_, rfl⟩
  rw [← htwo] at HM
  have HSH := Lib.hid (show IntKind.i64.wrap ((2 : Int) ^ (j : Nat)) = two from by
    rw [htwo]
    rcases (show j = 0 ∨ j = 1 ∨ j = 2 by omega) with rfl | rfl | rfl <;> rfl)
  have j0 : (0 : Int) ≤ (j : Int) := by omega
  have j1 : (j : Int) ≤ 2 := by omega
  clear htwo hj
  go_enter Tryz.func59, Tryz.ntmps59
  go_wp2_with fail
  generalize World.alloc _ _ = W at HS ⊢
  obtain ⟨H1, h1, h2⟩ := HS.out.call
  have HT1 := Lib.hid (tiles_ok h1 f t HT.out)
  have HG1 := Lib.hid h2
  clear h1 h2
  refine HT1.out.mono ?_
  rintro e w2 ⟨rfl, hg⟩
  have HS2 := Lib.hid ((HG1.out _ _ hg).alloc (.cells #[.int .u64 (rg (t 0)), .int .u64 (rg (t 1)), .int .u64 (rg (t 2)), .int .u64 (rg (t 3))] 142))
  clear hg HS HG1 HT1
  go_upto_region 4 with (fail)
  obtain ⟨g8, hg8⟩ : ∃ g, g = w2.heap.size := ⟨_, rfl⟩
  rw [← hg8] at HS2 ⊢
  generalize World.alloc _ _ = W2 at HS2 ⊢
  clear hg8
  have HD := Lib.hid HS2.out.drew
  have KD := Lib.hid (And.intro HD.out.rul.1 (And.intro HD.out.rul.2.1 (row4 HD.out.b0)))
  go_region_held3 (fun w' => w'.cell? ⟨G, 1, none⟩ = some (.int .u16 b) ∧ w'.cell? ⟨G, 2, none⟩ = some (.int .u16 l) ∧ w'.cell? ⟨g8, 0, none⟩ = some (.int .u64 (rg (t 0))) ∧ w'.cell? ⟨g8, 1, none⟩ = some (.int .u64 (rg (t 1))) ∧ w'.cell? ⟨g8, 2, none⟩ = some (.int .u64 (rg (t 2))) ∧ w'.cell? ⟨g8, 3, none⟩ = some (.int .u64 (rg (t 3)))) (first | with_reducible exact KD.out | with_reducible exact ks)
    (first
      | (go_at_call 74; rw [HSH.out]; with_reducible refine (HM.out _).mono ?_; rintro e w3 ⟨rfl, hb⟩; have HS3 := Lib.hid (HD.out.below hb); have ks := And.intro HS3.out.rul.1 (And.intro HS3.out.rul.2.1 (row4 HS3.out.b0)); clear hb))
  have hp := HS3.out.ptr
  obtain ⟨Hs, hst, hgo⟩ := HS3.out.store
  have HL := Lib.hid (leaf_ok hst X HRM.out)
  have HGO := Lib.hid hgo
  clear hst hgo ks
  go_wp2_with fail
  refine HL.out.mono ?_
  rintro e w4 ⟨rfl, hg⟩
  have HS4 := Lib.hid (HGO.out _ _ hg)
  clear hg
  go_wp2
  go_ret2
  exact ⟨rfl, HS4.out.gt⟩
end Go.Proofs.YtkefjkfknegogaaGreat
namespace Go.Proofs.YtkefjkfknegogaaGreat
open Go.RowKit Ti Qd Go.Maps Go.WideMaps Ru

theorem Gs.call2 {B : Nat} {w0 w : World} {H0 : Nat → Prop} {G P M b l room : Nat} {s : GS} {bx : List (Nat × Obj)} (h : Gs B w0 H0 G P M b l room s bx w) : ∃ H, Gr B w G P M b l s room H ∧ Stp w0 H0 w H ∧ ∀ (s' : GS) (w' : World), Gt B w G P M b l room H s' w' → Gs B w0 H0 G P M b l room s' bx w' := by
  obtain ⟨⟨H, h1, h2, h3⟩, h4, h5⟩ := h
  exact ⟨H, h1, h2, fun _ _ hg => Gs.goes ⟨h1, h2, h3⟩ h4 h5 hg⟩
abbrev z9 : Obj := .cells #[.int .i64 0, .int .i64 0, .int .i64 0, .int .i64 0, .int .i64 0, .int .i64 0, .int .i64 0, .int .i64 0, .int .i64 0] 135
set_option maxRecDepth 100000 in
theorem info_9 (F : Nat → Int) : (Tryz.prog.info? 135).map (·.size) = some (ir F 9).size := by
  rw [ir_size]
  kernel_rfl
/-- what is handed to a part -/
abbrev pt4 (v : Nat → Int) (k : Nat) : Value := .agg #[.int .i64 (v (at4 4 k)), .int .i64 (v (at4 4 k + 1)), .int .i64 (v (at4 4 k + 4)), .int .i64 (v (at4 4 k + 4 + 1))]
/-- the part's contract, on the way -/
def PartC (B : Nat) (w : World) (G P M b l : Nat) (s : GS) (room : Nat) (H : Nat → Prop) (v : Nat → Int) (fid : Nat) (fi ca : Array Value) (nf : GS → Nat → GS × Int) : Prop :=
  ∀ k, k < 9 → ∀ (wr : World) (H' : Nat → Prop), Gr B wr G P M b l (stOf nf s k) room H' → Stp w H wr H' → Calls Tryz.prog fid (fi.push (pt4 v k) ++ ca) wr fun e w' => e = .returned (.tuple #[.int .i64 (nf (stOf nf s k) k).2, .nilIface]) ∧ Gt B wr G P M b l room H' (nf (stOf nf s k) k).1 w'
theorem enter_run {P : Program} {f : FuncId} {fn : Func} (hf : P.funcs[f]? = some fn) (hname : (fn.name == "runtime.NumGoroutine") = false) (hb : fn.body.isNone = false) (args : Array Value) (w : World) :
    (callFunc f args).run P w = .ok (.enter f args) w := by
  have h1 : (fn.name = "runtime.NumGoroutine") = False := by simpa using hname
  have h2 : (fn.body = none) = False := eq_false fun e => by rw [e] at hb; cases hb
  simp [callFunc, hf, h1, h2]
set_option maxRecDepth 100000 in
set_option maxHeartbeats 4000000 in
theorem nine_ok {B : Nat} {w : World} {G P M b l : Nat} {s : GS} {room : Nat} {H : Nat → Prop} (h : Gr B w G P M b l s room H) (f : Nat → Int) (n : Nat) (hf : ∀ i, i < 4 → Lv s.1 (n + 1) (f i)) (fid : Nat) (fi ca : Array Value) (nf : GS → Nat → GS × Int)
    (hcf : ∀ (args : Array Value) (w : World), (callFunc fid args).run Tryz.prog w = .ok (.enter fid args) w) (hC : PartC B w G P M b l s room H (sx4 s.1 f) fid fi ca nf) :
    Calls Tryz.prog 63 #[.pointer (some ⟨G, 0, none⟩), vb4 f, .func (.func fid) fi ca] w fun e w' => e = .returned (.tuple #[.agg (ir (outOf nf s) 9), .nilIface]) ∧ Gt B w G P M b l room H (stOf nf s 9) w' := by
  have HS : Hid (Gs B w H G P M b l room s [(w.heap.size + 1, .cells (ir (fun _ => 0) 9) 135), (w.heap.size, ob4 f)] ((w.alloc (.cells #[.int .i64 (f 0), .int .i64 (f 1), .int .i64 (f 2), .int .i64 (f 3)] 96)).alloc z9)) := Lib.hid (((Gs.start h).alloc' (ob4 f) rfl).alloc' z9 (n := w.heap.size + 1) (by simp))
  have HF := Lib.hid hf
  have HC := Lib.hid hC
  have HCF := Lib.hid hcf
  clear h hf hC hcf
  go_enter Tryz.func63, Tryz.ntmps63
  go_wp2_with fail
  generalize World.alloc _ _ = W at HS ⊢
  obtain ⟨H1, h1, h2⟩ := HS.out.call
  have HT1 := Lib.hid (sixteen_ok h1 f n HF.out)
  have HG1 := Lib.hid h2
  clear h1 h2
  refine HT1.out.mono ?_
  rintro e w2 ⟨rfl, hg⟩
  have HS2 := Lib.hid (HG1.out _ _ hg)
  clear hg HS HG1 HT1
  have hone := ir_one (sx4 s.1 f) 16
  have hinf := info_16 (sx4 s.1 f)
  have hsz : (ir (fun _ => 0) 16).size = (ir (sx4 s.1 f) 16).size := by rw [ir_size, ir_size]
  have HA := Lib.hid (And.intro hone (And.intro hinf hsz))
  clear hone hinf hsz
  have HS3 : Hid (Gs B w H G P M b l room s [(w2.heap.size + 1, .cells (ir (cpF 0 (outOf nf s) 0) 9) 135), (w2.heap.size, .cells (ir (sx4 s.1 f) 16) 125), (w.heap.size + 1, .cells (ir (fun _ => 0) 9) 135), (w.heap.size, ob4 f)] (((w2.alloc z16).setRow w2.heap.size (ir (sx4 s.1 f) 16)).alloc z9)) := Lib.hid (((HS2.out.alloc z16).setRow (ir (sx4 s.1 f) 16)).alloc' z9 (by simp [World.setRow]))
  clear HS2
  go_wp2_with (refine wpList_store_row rfl 125 (.tmp 8) (.tmp 16) rfl w2.heap.size (ir (sx4 s.1 f) 16) rfl rfl 125 (ir (fun _ => 0) 16) (heap_alloc_new w2 _) HA.out.2.1 HA.out.2.2 HA.out.1 ?_)
  clear HA
  generalize World.alloc _ _ = W3 at HS3 ⊢
  obtain ⟨F, hF⟩ : ∃ F, F = sx4 s.1 f := ⟨_, rfl⟩
  rw [← hF] at HS3 HC
  obtain ⟨g8, hg8⟩ : ∃ g, g = w2.heap.size := ⟨_, rfl⟩
  rw [← hg8] at HS3 ⊢
  generalize ir (sx4 s.1 f) 16 = V16
  clear hF hg8
  go_loopw [22] (fun i wr => ∃ k : Nat, k ≤ 9 ∧ i = .int .i64 k ∧ Hid (Gs B w H G P M b l room (stOf nf s k) [(g8 + 1, .cells (ir (cpF 0 (outOf nf s) k) 9) 135), (g8, .cells (ir F 16) 125), (w.heap.size + 1, .cells (ir (fun _ => 0) 9) 135), (w.heap.size, ob4 f)] wr)) (fun i _ => 9 - (intOf i).toNat)
  case atStart => exact ⟨0, by omega, rfl, HS3⟩
  case round =>
    clear HS3
    obtain ⟨k, hk, rfl, HR⟩ := hrel
    have k0 : (0 : Int) ≤ (k : Int) := by omega
    by_cases hlt : k < 9
    · have k1 : (k : Int) < 9 := by omega
      have HLT := Lib.hid hlt
      have HF4 := Lib.hid (four_4 g8 k hlt F _ _ HR.out.b1)
      clear hlt
      go_wp2_with fail
      refine HF4.out.mono ?_
      rintro e w4 ⟨rfl, hb⟩
      have HR1 := Lib.hid (HR.out.below hb)
      obtain ⟨H4, h1, h2, h3⟩ := HR1.out.call2
      have HP := Lib.hid (HC.out k HLT.out w4 H4 h1 h2)
      have HGO := Lib.hid h3
      clear hb h1 h2 h3 HF4 HR
      have hcf2 := HCF.out
      go_wp2_with fail
      refine HP.out.mono ?_
      rintro e w5 ⟨rfl, hg⟩
      have HR2 := Lib.hid (HGO.out _ _ hg)
      clear hg hcf2 HR1
      have hc := ir_cell HR2.out.b0 k HLT.out
      have hfz := ir_fro HR2.out.b0 k
      have HP2 := Lib.hid (show (w5.setCell ⟨g8 + 1, k, none⟩ (.int .i64 (outOf nf s k))).heap[g8 + 1]? = some (.cells (ir (cpF 0 (outOf nf s) (k + 1)) 9) 135) from by
        rw [← cp_step 0 (outOf nf s) k]
        exact ir_put HR2.out.b0 k _)
      generalize cpF 0 (outOf nf s) k k = old at *
      go_wp2
      go_roundw
      case rel => exact ⟨k + 1, by have := HLT.out; omega, by go_num, Lib.hid (HR2.out.set HP2.out)⟩
      case measure => have := HLT.out; simp [intOf]; omega
    · obtain rfl : k = 9 := by omega
      have h0 : wr.heap[g8 + 1]? = some (.cells (ir (outOf nf s) 9) 135 (0, 0)) := by
        rw [show ir (outOf nf s) 9 = ir (cpF 0 (outOf nf s) 9) 9 from ir_ext fun i hi => by unfold cpF; rw [if_pos hi]]
        exact HR.out.b0
      have h1 := HR.out.b2
      have HX := Lib.hid (Gs.setRow (HR.out.tail.tail) (ir (outOf nf s) 9))
      have HR0 := Lib.hid h0
      have HR1 := Lib.hid h1
      have hone := ir_one (outOf nf s) 9
      have hinf := info_9 (outOf nf s)
      have hsz : (ir (fun _ => 0) 9).size = (ir (outOf nf s) 9).size := by rw [ir_size, ir_size]
      have HA := Lib.hid (And.intro hone (And.intro hinf hsz))
      generalize hV : ir (outOf nf s) 9 = V at *
      have HV := Lib.hid hV
      generalize ir (fun _ => 0) 9 = Z at *
      clear h0 h1 HR hone hinf hsz hV
      go_wp2_with (first
        | (refine wpList_load_row rfl _ (.tmp 10) rfl (g8 + 1) rfl _ V (0, 0) _ HR0.out Tryz.underlying135 rfl HA.out.2.1 ?_)
        | (refine wpList_store_row rfl 135 (.tmp 6) (.tmp 40) rfl (w.heap.size + 1) V rfl rfl 135 _ HR1.out HA.out.2.1 HA.out.2.2 HA.out.1 ?_))
      refine post_row_tmp Tryz.results63 (w.heap.size + 1) 135 V (0, 0) _ .nilIface Tryz.underlying135 rfl HA.out.2.1 ?_ ?_ (setRow_heap _ _ _ _ _ _ HR1.out) ?_ ?_
      · rfl
      · rfl
      · rfl
      exact ⟨by rw [HV.out], HX.out.gt⟩
end Go.Proofs.YtkefjkfknegogaaGreat
namespace Go.Proofs.YtkefjkfknegogaaGreat
open Go.RowKit Ti Qd Go.Maps Go.WideMaps Ru

/-- grow's contract, at a level -/
def GrowC (B G P M b l room m : Nat) : Prop := ∀ (w : World) (s : GS) (H : Nat → Prop) (id : Int) (j : Nat), Gr B w G P M b l s room H → GOk b l s → Lv s.1 (m + 1) id → j ≤ m + 2 → (growQ b l m s id j).1.1.length ≤ room →
  Calls Tryz.prog 28 #[.pointer (some ⟨G, 0, none⟩), .int .i64 id, .int .i64 (j : Int)] w fun e w' => e = .returned (.tuple #[.int .i64 (growQ b l m s id j).2, .nilIface]) ∧ Gt B w G P M b l room H (growQ b l m s id j).1 w'
set_option maxRecDepth 100000 in
set_option maxHeartbeats 4000000 in
theorem growFour_ok {B : Nat} {w : World} {G P M b l : Nat} {s : GS} {room : Nat} {H : Nat → Prop} (m : Nat) (hm : m ≤ 36) (hC : GrowC B G P M b l room m) (h : Gr B w G P M b l s room H) (hk : GOk b l s) (f : Nat → Int) (hf : ∀ i, i < 4 → Lv s.1 m (f i)) (j : Nat) (hj : j ≤ m + 2)
    (hr : (fourG (growQ b l m) j s (f 0) (f 1) (f 2) (f 3)).1.1.length ≤ room) :
    Calls Tryz.prog 62 #[.pointer (some ⟨G, 0, none⟩), vb4 f, .int .i64 (j : Int)] w fun e w' => e = .returned (.tuple #[.int .i64 (fourG (growQ b l m) j s (f 0) (f 1) (f 2) (f 3)).2, .nilIface]) ∧ Gt B w G P M b l room H (fourG (growQ b l m) j s (f 0) (f 1) (f 2) (f 3)).1 w' := by
  have HS : Hid (Gs B w H G P M b l room s [(w.heap.size, ob4 f)] (w.alloc (.cells #[.int .i64 (f 0), .int .i64 (f 1), .int .i64 (f 2), .int .i64 (f 3)] 96))) := Lib.hid ((Gs.start h).alloc' (ob4 f) rfl)
  have h1 := four_of' b l m hm s hk f hf j hj
  have h2 := node_of b l m hm s hk f hf
  have HND := Lib.hid (fun (wx : World) (Hx : Nat → Prop) (hx : St B wx P s.1 room Hx) => node_ok hx (f 0) (f 1) (f 2) (f 3) _ (four_of hf) (by omega) (Nat.le_trans h1.2.2.2.length_le hr))
  have HGR := Lib.hid (fun (wx : World) (Hx : Nat → Prop) (hx : Gr B wx G P M b l (nodeG s (f 0) (f 1) (f 2) (f 3)).1 room Hx) => hC wx _ Hx _ j hx h2.2.1 h2.2.2 hj hr)
  clear hC h hk hf hr hj h1 h2 hm
  have HQ := Lib.hid (show ∀ r : GS × Int, r = nodeG s (f 0) (f 1) (f 2) (f 3) → r.1 = (put s.1 (joinQ s.1 (f 0) (f 1) (f 2) (f 3)), s.2) ∧ r.2 = nr s.1 (joinQ s.1 (f 0) (f 1) (f 2) (f 3)) from fun r e => by rw [e]; exact ⟨rfl, rfl⟩)
  unfold fourG
  go_enter Tryz.func62, Tryz.ntmps62
  go_wp2_with fail
  generalize World.alloc _ _ = W at HS ⊢
  have HD := Lib.hid HS.out.drew
  have KD := Lib.hid (And.intro HD.out.ptr (row4 HD.out.b0))
  obtain ⟨Hs, hst, hgo⟩ := HD.out.store
  have HC := Lib.hid (HND.out _ _ hst)
  have HGO := Lib.hid hgo
  clear hst hgo HND
  go_region_held3 (fun w' => w'.cell? ⟨G, 0, none⟩ = some (.pointer (some ⟨P, 0, none⟩)) ∧ w'.cell? ⟨w.heap.size, 0, none⟩ = some (.int .i64 (f 0)) ∧ w'.cell? ⟨w.heap.size, 1, none⟩ = some (.int .i64 (f 1)) ∧ w'.cell? ⟨w.heap.size, 2, none⟩ = some (.int .i64 (f 2)) ∧ w'.cell? ⟨w.heap.size, 3, none⟩ = some (.int .i64 (f 3))) (first | with_reducible exact KD.out | with_reducible exact ks)
    ((go_at_call 38; with_reducible refine HC.out.mono ?_; rintro e w4 ⟨rfl, hg⟩; have HS4 := Lib.hid (HGO.out _ _ hg); have ks := And.intro HS4.out.ptr (row4 HS4.out.b0); clear hg))
  obtain ⟨H5, h5, h6⟩ := HS4.out.call
  have HG5 := Lib.hid (HGR.out _ _ h5)
  have HX := Lib.hid h6
  clear h5 h6 ks HC HGO HGR KD HD HS
  go_wp2_with fail
  refine HG5.out.mono ?_
  rintro e w6 ⟨rfl, hg⟩
  have HS6 := Lib.hid (HX.out _ _ hg)
  clear hg
  go_wp2
  go_ret2
  exact ⟨rfl, HS6.out.gt⟩
end Go.Proofs.YtkefjkfknegogaaGreat
namespace Go.Proofs.YtkefjkfknegogaaGreat
open Go.RowKit Ti Qd Go.Maps Go.WideMaps Ru

set_option maxRecDepth 100000 in
set_option maxHeartbeats 4000000 in
theorem part1_ok {B : Nat} {w : World} {G P M b l : Nat} {s : GS} {room : Nat} {H : Nat → Prop} (m : Nat) (hm : m ≤ 36) (hC : GrowC B G P M b l room m) (h : Gr B w G P M b l s room H) (hk : GOk b l s) (f : Nat → Int) (hf : ∀ i, i < 4 → Lv s.1 m (f i)) (j : Nat) (hj : j ≤ m + 2)
    (hr : (fourG (growQ b l m) j s (f 0) (f 1) (f 2) (f 3)).1.1.length ≤ room) (b3 b12 : Nat) (c3 : w.cell? ⟨b3, 0, none⟩ = some (.pointer (some ⟨G, 0, none⟩))) (c12 : w.cell? ⟨b12, 0, none⟩ = some (.int .i64 (j : Int))) :
    Calls Tryz.prog 61 #[vb4 f, .pointer (some ⟨b3, 0, none⟩), .pointer (some ⟨b12, 0, none⟩)] w fun e w' => e = .returned (.tuple #[.int .i64 (fourG (growQ b l m) j s (f 0) (f 1) (f 2) (f 3)).2, .nilIface]) ∧ Gt B w G P M b l room H (fourG (growQ b l m) j s (f 0) (f 1) (f 2) (f 3)).1 w' := by
  have HS : Hid (Gs B w H G P M b l room s [(w.heap.size, ob4 f)] (w.alloc (.cells #[.int .i64 (f 0), .int .i64 (f 1), .int .i64 (f 2), .int .i64 (f 3)] 96))) := Lib.hid ((Gs.start h).alloc' (ob4 f) rfl)
  obtain ⟨H1, h1, h2⟩ := HS.out.call
  have HC := Lib.hid (growFour_ok m hm hC h1 hk f hf j hj hr)
  have HX := Lib.hid h2
  obtain ⟨d0, d1, d2, d3⟩ := row4 HS.out.b0
  have c3 := cell_al (.cells #[.int .i64 (f 0), .int .i64 (f 1), .int .i64 (f 2), .int .i64 (f 3)] 96) c3
  have c12 := cell_al (.cells #[.int .i64 (f 0), .int .i64 (f 1), .int .i64 (f 2), .int .i64 (f 3)] 96) c12
  clear h1 h2 h hk hf hr hj hm hC
  go_enter Tryz.func61, Tryz.ntmps61
  go_wp2_with fail
  refine HC.out.mono ?_
  rintro e w6 ⟨rfl, hg⟩
  have HS6 := Lib.hid (HX.out _ _ hg)
  clear hg c3 c12 d0 d1 d2 d3
  go_wp2
  go_ret2
  exact ⟨rfl, HS6.out.gt⟩
theorem wf_lv {L M : List Sq} (hi : Inv L) (he : L <+: M) {m : Nat} {id : Int} (hl : Lv L (m + 2) id) (k : Nat) : ∀ i, i < 4 → Lv M m (wf (sxt L id) 4 k i) := fun i _ => by
  unfold wf
  split
  · exact (sxt_lv hi hl _).ext he
  split
  · exact (sxt_lv hi hl _).ext he
  split
  · exact (sxt_lv hi hl _).ext he
  · exact (sxt_lv hi hl _).ext he
/-- a part that is a middle -/
theorem partC_mid {B : Nat} {w : World} {G P M b l : Nat} {s : GS} {room : Nat} {H : Nat → Prop} (m : Nat) (hm : m ≤ 35) (hk : GOk b l s) (id : Int) (hl : Lv s.1 (m + 2) id) (j : Nat) (hj : j ≤ m + 3) (hf : ¬ j = m + 3) (hr : (stOf (partG (growQ b l m) (sxt s.1 id) m j) s 9).1.length ≤ room) :
    PartC B w G P M b l s room H (sxt s.1 id) 60 #[.pointer (some ⟨G, 0, none⟩)] #[] (partG (growQ b l m) (sxt s.1 id) m j) := by
  intro k h9 wr H' hg _
  have hw := (wys b l m hm s hk id j hj hl).p9
  have w1 := wy_of hk hw k (by omega)
  have le := (Wy.le hk hw (k + 1) (9 - (k + 1)) (by omega)).length_le
  rw [show k + 1 + (9 - (k + 1)) = 9 by omega] at le
  have e : ∀ s', partG (growQ b l m) (sxt s.1 id) m j s' k = midG s' (wf (sxt s.1 id) 4 k 0) (wf (sxt s.1 id) 4 k 1) (wf (sxt s.1 id) 4 k 2) (wf (sxt s.1 id) 4 k 3) := fun s' => by
    unfold partG
    rw [if_neg hf]
    rfl
  have hr2 : (partG (growQ b l m) (sxt s.1 id) m j (stOf (partG (growQ b l m) (sxt s.1 id) m j) s k) k).1.1.length ≤ room := Nat.le_trans le hr
  rw [e] at hr2 ⊢
  exact mid_any hg m (by omega) (wf (sxt s.1 id) 4 k) (wf_lv hk.inv w1.ext hl k) hr2
/-- a part that goes on itself -/
theorem partC_far {B : Nat} {w : World} {G P M b l : Nat} {s : GS} {room : Nat} {H : Nat → Prop} (m : Nat) (hm : m ≤ 35) (hC : GrowC B G P M b l room m) (hk : GOk b l s) (id : Int) (hl : Lv s.1 (m + 2) id) (j : Nat) (hj : j ≤ m + 3) (hf : j = m + 3) (hr : (stOf (partG (growQ b l m) (sxt s.1 id) m j) s 9).1.length ≤ room)
    (b3 b12 : Nat) (c3 : w.cell? ⟨b3, 0, none⟩ = some (.pointer (some ⟨G, 0, none⟩))) (c12 : w.cell? ⟨b12, 0, none⟩ = some (.int .i64 (restN m j : Nat))) (n3 : ¬ H b3) (n12 : ¬ H b12) :
    PartC B w G P M b l s room H (sxt s.1 id) 61 #[] #[.pointer (some ⟨b3, 0, none⟩), .pointer (some ⟨b12, 0, none⟩)] (partG (growQ b l m) (sxt s.1 id) m j) := by
  intro k h9 wr H' hg hst
  have hw := (wys b l m hm s hk id j hj hl).p9
  have w1 := wy_of hk hw k (by omega)
  have le := (Wy.le hk hw (k + 1) (9 - (k + 1)) (by omega)).length_le
  rw [show k + 1 + (9 - (k + 1)) = 9 by omega] at le
  have e : ∀ s', partG (growQ b l m) (sxt s.1 id) m j s' k = fourG (growQ b l m) (restN m j) s' (wf (sxt s.1 id) 4 k 0) (wf (sxt s.1 id) 4 k 1) (wf (sxt s.1 id) 4 k 2) (wf (sxt s.1 id) 4 k 3) := fun s' => by
    unfold partG
    rw [if_pos hf]
    rfl
  have hr2 : (partG (growQ b l m) (sxt s.1 id) m j (stOf (partG (growQ b l m) (sxt s.1 id) m j) s k) k).1.1.length ≤ room := Nat.le_trans le hr
  rw [e] at hr2 ⊢
  exact part1_ok m (by omega) hC hg w1.ok (wf (sxt s.1 id) 4 k) (wf_lv hk.inv w1.ext hl k) (restN m j) (rest_le hj) hr2 b3 b12 (hst.cell c3 n3) (hst.cell c12 n12)
end Go.Proofs.YtkefjkfknegogaaGreat

/-
  THE WALK of the maker's middle, of tiles and of squares above. Conditions: the grower lies in memory, and there is room.
  THE WALK of the maker's middle, of squares above tiles. Conditions: the grower lies in memory, and there is room.
  THE WALKS of the maker's middle whatever its level, and of growTiles. Conditions: the grower lies in memory, and there is room.
  THE WALK of the maker's nine, whatever finds its parts. Conditions: the grower lies in memory; what finds the parts does so at each world on the way.
  THE WALKS of the maker's growFour and of what finds a part of one's own. Conditions: the grower lies in memory, what goes on in squares does so, and there is room.
  THE WALK of what finds a part of one's own; both ways to find a part. Conditions: the grower lies in memory, what goes on in squares does so, and there is room.
  THE WALKS of the maker's grown: of four tiles, of middles, of parts of one's own. Conditions: the grower lies in memory, what goes on in smaller squares does so, and there is room.
  THE WALK of the maker's grow: remembered, or not; of every level. Conditions: the grower lies in memory, and there is room.
  THE WALKS of New, Center, Grow, Known. Conditions: a store, or a grower, lies in memory, and there is room.
-/
import Derived.Test.YtlejohclijjhnaaGreatDoorL26
import Derived.Test.YtlejohclijjhnaaGreatDoorL05
namespace Go.Proofs.YtlejohclijjhnaaGreatDoor
open Go.RowKit Ti Qd Go.Maps Go.WideMaps

theorem Gs.drew {B : Nat} {w0 w : World} {H0 : Nat → Prop} {G P M b l room : Nat} {s : GS} {bx : List (Nat × Obj)} (h : Gs B w0 H0 G P M b l room s bx w) : Gs B w0 H0 G P M b l room s bx w.drew := h.below (Below.refl _ _).drew
set_option maxRecDepth 100000 in
set_option maxHeartbeats 4000000 in
theorem middle_0 {B : Nat} {w : World} {G P M b l : Nat} {s : GS} {room : Nat} {H : Nat → Prop} (h : Gr B w G P M b l s room H) (f : Nat → Int) (hf : ∀ i, i < 4 → Lv s.1 0 (f i))
    (hr : (put s.1 (leafQ (growP 0 0 0 (tilG s.1 (f 0) (f 1) (f 2) (f 3))))).length ≤ room) :
    Calls Tryz.prog 73 #[.pointer (some ⟨G, 0, none⟩), vb4 f] w fun e w' => e = .returned (.tuple #[.int .i64 (nr s.1 (leafQ (growP 0 0 0 (tilG s.1 (f 0) (f 1) (f 2) (f 3))))), .nilIface]) ∧ Gt B w G P M b l room H (put s.1 (leafQ (growP 0 0 0 (tilG s.1 (f 0) (f 1) (f 2) (f 3)))), s.2) w' := by
  have HS : Hid (Gs B w H G P M b l room s [(w.heap.size, ob4 f)] (w.alloc (.cells #[.int .i64 (f 0), .int .i64 (f 1), .int .i64 (f 2), .int .i64 (f 3)] 93))) := Lib.hid ((Gs.start h).alloc' (ob4 f) rfl)
  have HF := Lib.hid hf
  have HRM := Lib.hid hr
  obtain ⟨t, ht⟩ : ∃ t, t = tilG s.1 (f 0) (f 1) (f 2) (f 3) := ⟨_, rfl⟩
  rw [← ht] at HRM ⊢
  have HT : Hid (∀ i, i < 4 → Lv s.1 0 (f i) ∧ (at' s.1 (f i)).til = t i) := Lib.hid fun i h4 => ⟨hf i h4, by
    rw [ht]
    rcases (show i = 0 ∨ i = 1 ∨ i = 2 ∨ i = 3 by omega) with rfl | rfl | rfl | rfl <;> rfl⟩
  have HQT := Lib.hid (show growP 0 0 0 t = growB 0 0 0 (q4 (t 0) (t 1) (t 2) (t 3)) from by
    rw [ht]
    rfl)
  clear ht h hf hr
  have HM := Lib.hid (fun w => middle_any (t 0) (t 1) (t 2) (t 3) w)
  rw [HQT.out] at HRM ⊢
  generalize growB 0 0 0 (q4 (t 0) (t 1) (t 2) (t 3)) = X at HRM HM ⊢
  clear HQT
  go_enter Tryz.func73, Tryz.ntmps73
  go_wp2
  generalize World.alloc _ _ = W at HS ⊢
  have HD := Lib.hid HS.out.drew
  have KD := Lib.hid (And.intro HD.out.ptr (row4 HD.out.b0).1)
  obtain ⟨Hs, hst, _⟩ := HD.out.store
  have HC := Lib.hid (level_is hst (f 0) (HF.out 0 (by decide)).1 3 (HF.out 0 (by decide)).2)
  clear hst
  go_region_held3 (fun w' => w'.cell? ⟨G, 0, none⟩ = some (.pointer (some ⟨P, 0, none⟩)) ∧ w'.cell? ⟨w.heap.size, 0, none⟩ = some (.int .i64 (f 0))) (first | with_reducible exact KD.out | with_reducible exact ks)
    ((go_at_call 21; with_reducible refine HC.out.mono ?_; rintro e w1 ⟨rfl, hb⟩; have HS1 := Lib.hid (HD.out.below hb); have ks := And.intro HS1.out.ptr (row4 HS1.out.b0).1; clear hb))
  obtain ⟨c0, c1, c2, c3⟩ := row4 HS1.out.b0
  obtain ⟨H1, h1, h2⟩ := HS1.out.call
  have HT1 := Lib.hid (tiles_ok h1 f t HT.out)
  have HG1 := Lib.hid h2
  clear h1 h2 ks
  go_wp2_with fail
  refine HT1.out.mono ?_
  rintro e w2 ⟨rfl, hg⟩
  have HS2 := Lib.hid ((HG1.out _ _ hg).alloc (.cells #[.int .u64 (rg (t 0)), .int .u64 (rg (t 1)), .int .u64 (rg (t 2)), .int .u64 (rg (t 3))] 167))
  clear hg HS HD HS1 HG1 HT1 KD HC c0 c1 c2 c3
  go_upto_region 8 with (fail)
  obtain ⟨g8, hg8⟩ : ∃ g, g = w2.heap.size := ⟨_, rfl⟩
  rw [← hg8] at HS2 ⊢
  generalize World.alloc _ _ = W2 at HS2 ⊢
  clear hg8
  have HD := Lib.hid HS2.out.drew
  have KD := Lib.hid (And.intro HD.out.ptr (row4 HD.out.b0))
  go_region_held3 (fun w' => w'.cell? ⟨G, 0, none⟩ = some (.pointer (some ⟨P, 0, none⟩)) ∧ w'.cell? ⟨g8, 0, none⟩ = some (.int .u64 (rg (t 0))) ∧ w'.cell? ⟨g8, 1, none⟩ = some (.int .u64 (rg (t 1))) ∧ w'.cell? ⟨g8, 2, none⟩ = some (.int .u64 (rg (t 2))) ∧ w'.cell? ⟨g8, 3, none⟩ = some (.int .u64 (rg (t 3)))) (first | with_reducible exact KD.out | with_reducible exact ks)
    (first
      | (go_at_call 76; with_reducible refine (HM.out _).mono ?_; rintro e w3 ⟨rfl, hb⟩; have HS3 := Lib.hid (HD.out.below hb); have ks := And.intro HS3.out.ptr (row4 HS3.out.b0); obtain ⟨Hs3, hst, hgo⟩ := HS3.out.store; have HGO := Lib.hid hgo; have HL := Lib.hid (leaf_ok hst X HRM.out); clear hb hst hgo)
      | (go_at_call 47; with_reducible refine HL.out.mono ?_; rintro e w4 ⟨rfl, hg⟩; have HS4 := Lib.hid (HGO.out _ _ hg); have ks := And.intro HS4.out.ptr (row4 HS4.out.b0); clear hg))
  go_wp2
  go_ret2
  exact ⟨rfl, HS4.out.gt⟩
end Go.Proofs.YtlejohclijjhnaaGreatDoor
namespace Go.Proofs.YtlejohclijjhnaaGreatDoor
open Go.RowKit Ti Qd Go.Maps Go.WideMaps

set_option maxRecDepth 100000 in
theorem opposite_m (i m : Nat) (hi : i < 4) (hm : m = 3 - i) (w : World) : Calls Tryz.prog 69 #[.int .i64 i] w fun e w' => e = .returned (.int .i64 (m : Int)) ∧ w = w' := by
  subst hm
  exact opposite_any i hi w
abbrev z4l : Obj := .cells #[.int .i64 0, .int .i64 0, .int .i64 0, .int .i64 0] 93
set_option maxRecDepth 100000 in
set_option maxHeartbeats 4000000 in
theorem middle_n {B : Nat} {w : World} {G P M b l : Nat} {s : GS} {room : Nat} {H : Nat → Prop} (h : Gr B w G P M b l s room H) (n : Nat) (hn : n ≤ 35) (f : Nat → Int) (hf : ∀ i, i < 4 → Lv s.1 (n + 1) (f i)) (o : Nat → Int) (ho : ∀ i, i < 4 → o i = kid (at' s.1 (f i)) (3 - i))
    (hr : (put s.1 (joinQ s.1 (o 0) (o 1) (o 2) (o 3))).length ≤ room) :
    Calls Tryz.prog 73 #[.pointer (some ⟨G, 0, none⟩), vb4 f] w fun e w' => e = .returned (.tuple #[.int .i64 (nr s.1 (joinQ s.1 (o 0) (o 1) (o 2) (o 3))), .nilIface]) ∧ Gt B w G P M b l room H (put s.1 (joinQ s.1 (o 0) (o 1) (o 2) (o 3)), s.2) w' := by
  have HS : Hid (Gs B w H G P M b l room s [(w.heap.size, ob4 f)] (w.alloc (.cells #[.int .i64 (f 0), .int .i64 (f 1), .int .i64 (f 2), .int .i64 (f 3)] 93))) := Lib.hid ((Gs.start h).alloc' (ob4 f) rfl)
  have HF := Lib.hid hf
  have HO := Lib.hid ho
  have HRM := Lib.hid hr
  have hinv := HS.out.inv.1
  have H4 := Lib.hid (four_of (n := n) (f := o) (fun i h4 => by rw [ho i h4]; exact hinv.kid (hf i h4) (3 - i)))
  obtain ⟨lv, hlv⟩ : ∃ lv : Int, lv = ((n + 1 : Nat) : Int) + 3 := ⟨_, rfl⟩
  have HL := Lib.hid (show ∀ i, i < 4 → (at' s.1 (f i)).lev = lv from fun i h4 => by rw [hlv]; exact (hf i h4).2)
  have e3 : (lv == 3) = false := by rw [beq_eq_false_iff_ne]; omega
  have HN := Lib.hid (show (n : Int) + 3 < 40 by omega)
  clear h hf hr hinv ho hlv
  go_enter Tryz.func73, Tryz.ntmps73
  go_wp2
  generalize World.alloc _ _ = W at HS ⊢
  have HD := Lib.hid HS.out.drew
  have KD := Lib.hid (And.intro HD.out.ptr (row4 HD.out.b0).1)
  obtain ⟨Hs, hst, _⟩ := HD.out.store
  have HC := Lib.hid (level_is hst (f 0) (HF.out 0 (by decide)).1 lv (HL.out 0 (by decide)))
  clear hst
  go_region_held3 (fun w' => w'.cell? ⟨G, 0, none⟩ = some (.pointer (some ⟨P, 0, none⟩)) ∧ w'.cell? ⟨w.heap.size, 0, none⟩ = some (.int .i64 (f 0))) (first | with_reducible exact KD.out | with_reducible exact ks)
    ((go_at_call 21; with_reducible refine HC.out.mono ?_; rintro e w1 ⟨rfl, hb⟩; have HS1 := Lib.hid ((HD.out.below hb)); have ks := And.intro HS1.out.ptr (row4 HS1.out.b0).1; clear hb))
  obtain ⟨c0, c1, c2, c3⟩ := row4 ((HS1.out.alloc z4l).b1)
  have HSz := Lib.hid (HS1.out.alloc z4l)
  clear ks HS HD HS1 KD HC
  go_wp2
  obtain ⟨g, hg⟩ : ∃ g, g = w1.heap.size := ⟨_, rfl⟩
  rw [← hg] at HSz ⊢
  have HR0 : Hid (Gs B w H G P M b l room s [(g, .cells (ir (cpF 0 o 0) 4) 93), (w.heap.size, ob4 f)] (w1.alloc z4l)) := HSz
  clear HSz hg c0 c1 c2 c3
  generalize World.alloc _ _ = W1 at HR0 ⊢
  go_loopw [49] (fun i wr => ∃ k : Nat, k ≤ 4 ∧ i = .int .i64 k ∧ Hid (Gs B w H G P M b l room s [(g, .cells (ir (cpF 0 o k) 4) 93), (w.heap.size, ob4 f)] wr)) (fun i _ => 4 - (intOf i).toNat)
  case atStart => exact ⟨0, by omega, rfl, HR0⟩
  case round =>
    clear HR0
    obtain ⟨k, hk, rfl, HR⟩ := hrel
    have k0 : (0 : Int) ≤ (k : Int) := by omega
    by_cases hlt : k < 4
    · have k1 : (k : Int) < 4 := by omega
      have hx := idx4 f k hlt
      have hp := HR.out.ptr
      obtain ⟨Hs, hst, _⟩ := HR.out.store
      have HC := Lib.hid (kids_ok hst n (f k) (HF.out k hlt) _ rfl)
      have HLT := Lib.hid hlt
      have HOK := Lib.hid (HO.out k hlt)
      clear hst
      generalize f k = fk at *
      generalize at' s.1 fk = q at *
      go_wp2_with fail
      refine HC.out.mono ?_
      rintro e w2 ⟨rfl, hb⟩
      have HR1 := Lib.hid ((HR.out.below hb).alloc (.cells #[.int .i64 q.k0, .int .i64 q.k1, .int .i64 q.k2, .int .i64 q.k3] 93))
      clear hb HR hx hp HC
      go_upto_region 16 with (fail)
      obtain ⟨g2, hg2⟩ : ∃ g, g = w2.heap.size := ⟨_, rfl⟩
      rw [← hg2] at HR1 ⊢
      generalize World.alloc _ _ = W2 at HR1 ⊢
      clear hg2
      obtain ⟨m, hm⟩ : ∃ m, m = 3 - k := ⟨_, rfl⟩
      have m0 : (0 : Int) ≤ (m : Int) := by omega
      have m1 : (m : Int) < 4 := by omega
      have HM := Lib.hid (opposite_m k m HLT.out hm)
      have hq : W2.cell? ⟨g2, m, none⟩ = some (.int .i64 (o k)) := by
        have h1 : W2.heap[g2]? = some (.cells (ir (kid q) 4) 93) := HR1.out.b0
        rw [HOK.out, ← hm]
        exact ir_cell h1 m (by omega)
      have hc := ir_cell HR1.out.b1 k HLT.out
      have hfz := ir_fro HR1.out.b1 k
      have HP := Lib.hid (show (W2.setCell ⟨g, k, none⟩ (.int .i64 (o k))).heap[g]? = some (.cells (ir (cpF 0 o (k + 1)) 4) 93) from by
        rw [← cp_step 0 o k]
        exact ir_put HR1.out.b1 k (o k))
      have HR2 := Lib.hid HR1.out.tail
      generalize cpF 0 o k k = old at *
      clear HR1 hm
      go_wp2_with (go_at_call 69; refine (HM.out _).mono ?_; rintro e w3 ⟨rfl, rfl⟩)
      go_roundw
      case rel => exact ⟨k + 1, by have := HLT.out; omega, by go_num, Lib.hid (HR2.out.set HP.out)⟩
      case measure => have := HLT.out; simp [intOf]; omega
    · obtain rfl : k = 4 := by omega
      have HD : Hid (Gs B w H G P M b l room s [(g, .cells #[.int .i64 (o 0), .int .i64 (o 1), .int .i64 (o 2), .int .i64 (o 3)] 93), (w.heap.size, ob4 f)] wr.drew) := Lib.hid HR.out.drew
      have KD := Lib.hid (And.intro HD.out.ptr (row4 HD.out.b0))
      obtain ⟨Hs, hst, hgo⟩ := HD.out.store
      have HC := Lib.hid (node_ok hst (o 0) (o 1) (o 2) (o 3) _ H4.out HN.out HRM.out)
      have HGO := Lib.hid hgo
      clear hst hgo HR
      go_wp2
      go_region_held3 (fun w' => w'.cell? ⟨G, 0, none⟩ = some (.pointer (some ⟨P, 0, none⟩)) ∧ w'.cell? ⟨g, 0, none⟩ = some (.int .i64 (o 0)) ∧ w'.cell? ⟨g, 1, none⟩ = some (.int .i64 (o 1)) ∧ w'.cell? ⟨g, 2, none⟩ = some (.int .i64 (o 2)) ∧ w'.cell? ⟨g, 3, none⟩ = some (.int .i64 (o 3))) (first | with_reducible exact KD.out | with_reducible exact ks)
        ((go_at_call 36; with_reducible refine HC.out.mono ?_; rintro e w4 ⟨rfl, hg⟩; have HS4 := Lib.hid (HGO.out _ _ hg); have ks := And.intro HS4.out.ptr (row4 HS4.out.b0); clear hg))
      go_wp2
      go_ret2
      exact ⟨rfl, HS4.out.gt⟩
end Go.Proofs.YtlejohclijjhnaaGreatDoor
namespace Go.Proofs.YtlejohclijjhnaaGreatDoor
open Go.RowKit Ti Qd Go.Maps Go.WideMaps Ru

theorem mid_any {B : Nat} {w : World} {G P M b l : Nat} {s : GS} {room : Nat} {H : Nat → Prop} (h : Gr B w G P M b l s room H) (n : Nat) (hn : n ≤ 36) (f : Nat → Int) (hf : ∀ i, i < 4 → Lv s.1 n (f i))
    (hr : (midG s (f 0) (f 1) (f 2) (f 3)).1.1.length ≤ room) :
    Calls Tryz.prog 73 #[.pointer (some ⟨G, 0, none⟩), vb4 f] w fun e w' => e = .returned (.tuple #[.int .i64 (midG s (f 0) (f 1) (f 2) (f 3)).2, .nilIface]) ∧ Gt B w G P M b l room H (midG s (f 0) (f 1) (f 2) (f 3)).1 w' := by
  match n, hn, hf with
  | 0, _, hf =>
    have e : midG s (f 0) (f 1) (f 2) (f 3) = leafG s (growP 0 0 0 (tilG s.1 (f 0) (f 1) (f 2) (f 3))) := if_pos (show (at' s.1 (f 0)).lev = 3 from (hf 0 (by decide)).2)
    rw [e] at hr ⊢
    exact middle_0 h f hf hr
  | n + 1, hn, hf =>
    have e : midG s (f 0) (f 1) (f 2) (f 3) = nodeG s (kid (at' s.1 (f 0)) 3) (kid (at' s.1 (f 1)) 2) (kid (at' s.1 (f 2)) 1) (kid (at' s.1 (f 3)) 0) := if_neg (by rw [(hf 0 (by decide)).2]; omega)
    rw [e] at hr ⊢
    exact middle_n h n (by omega) f hf (fun i => kid (at' s.1 (f i)) (3 - i)) (fun i _ => rfl) hr
end Go.Proofs.YtlejohclijjhnaaGreatDoor
namespace Go.Proofs.YtlejohclijjhnaaGreatDoor
open Go.RowKit Ti Qd Go.Maps Go.WideMaps Ru

theorem Gs.call2 {B : Nat} {w0 w : World} {H0 : Nat → Prop} {G P M b l room : Nat} {s : GS} {bx : List (Nat × Obj)} (h : Gs B w0 H0 G P M b l room s bx w) : ∃ H, Gr B w G P M b l s room H ∧ Stp w0 H0 w H ∧ ∀ (s' : GS) (w' : World), Gt B w G P M b l room H s' w' → Gs B w0 H0 G P M b l room s' bx w' := by
  obtain ⟨⟨H, h1, h2, h3⟩, h4, h5⟩ := h
  exact ⟨H, h1, h2, fun _ _ hg => Gs.goes ⟨h1, h2, h3⟩ h4 h5 hg⟩
/-- what is handed to a part -/
abbrev pt4 (v : Nat → Int) (k : Nat) : Value := .agg #[.int .i64 (v (at4 4 k)), .int .i64 (v (at4 4 k + 1)), .int .i64 (v (at4 4 k + 4)), .int .i64 (v (at4 4 k + 4 + 1))]
/-- the part's contract, on the way -/
def PartC (B : Nat) (w : World) (G P M b l : Nat) (s : GS) (room : Nat) (H : Nat → Prop) (v : Nat → Int) (fid : Nat) (fi ca : Array Value) (nf : GS → Nat → GS × Int) : Prop :=
  ∀ k, k < 9 → ∀ (wr : World) (H' : Nat → Prop), Gr B wr G P M b l (stOf nf s k) room H' → Stp w H wr H' → Calls Tryz.prog fid (fi.push (pt4 v k) ++ ca) wr fun e w' => e = .returned (.tuple #[.int .i64 (nf (stOf nf s k) k).2, .nilIface]) ∧ Gt B wr G P M b l room H' (nf (stOf nf s k) k).1 w'
theorem enter_run {P : Program} {f : FuncId} {fn : Func} (hf : P.funcs[f]? = some fn) (hname : (fn.name == "runtime.NumGoroutine") = false) (hb : fn.body.isNone = false) (args : Array Value) (w : World) :
    (callFunc f args).run P w = .ok (.enter f args) w := by
  have h1 : (fn.name = "runtime.NumGoroutine") = False := by simpa using hname
  have h2 : (fn.body = none) = False := eq_false fun e => by rw [e] at hb; cases hb
  simp [callFunc, hf, h1, h2]
end Go.Proofs.YtlejohclijjhnaaGreatDoor
namespace Go.Proofs.YtlejohclijjhnaaGreatDoor
open Go.RowKit Ti Qd Go.Maps Go.WideMaps Ru

end Go.Proofs.YtlejohclijjhnaaGreatDoor
namespace Go.Proofs.YtlejohclijjhnaaGreatDoor
open Go.RowKit Ti Qd Go.Maps Go.WideMaps Ru

theorem wf_lv {L M : List Sq} (hi : Inv L) (he : L <+: M) {m : Nat} {id : Int} (hl : Lv L (m + 2) id) (k : Nat) : ∀ i, i < 4 → Lv M m (wf (sxt L id) 4 k i) := fun i _ => by
  unfold wf
  split
  · exact (sxt_lv hi hl _).ext he
  split
  · exact (sxt_lv hi hl _).ext he
  split
  · exact (sxt_lv hi hl _).ext he
  · exact (sxt_lv hi hl _).ext he
/-- a part that is a middle -/
theorem partC_mid {B : Nat} {w : World} {G P M b l : Nat} {s : GS} {room : Nat} {H : Nat → Prop} (m : Nat) (hm : m ≤ 35) (hk : GOk b l s) (id : Int) (hl : Lv s.1 (m + 2) id) (j : Nat) (hj : j ≤ m + 3) (hf : ¬ j = m + 3) (hr : (stOf (partG (growQ b l m) (sxt s.1 id) m j) s 9).1.length ≤ room) :
    PartC B w G P M b l s room H (sxt s.1 id) 73 #[.pointer (some ⟨G, 0, none⟩)] #[] (partG (growQ b l m) (sxt s.1 id) m j) := by
  intro k h9 wr H' hg _
  have hw := (wys b l m hm s hk id j hj hl).p9
  have w1 := wy_of hk hw k (by omega)
  have le := (Wy.le hk hw (k + 1) (9 - (k + 1)) (by omega)).length_le
  rw [show k + 1 + (9 - (k + 1)) = 9 by omega] at le
  have e : ∀ s', partG (growQ b l m) (sxt s.1 id) m j s' k = midG s' (wf (sxt s.1 id) 4 k 0) (wf (sxt s.1 id) 4 k 1) (wf (sxt s.1 id) 4 k 2) (wf (sxt s.1 id) 4 k 3) := fun s' => by
    unfold partG
    rw [if_neg hf]
    rfl
  have hr2 : (partG (growQ b l m) (sxt s.1 id) m j (stOf (partG (growQ b l m) (sxt s.1 id) m j) s k) k).1.1.length ≤ room := Nat.le_trans le hr
  rw [e] at hr2 ⊢
  exact mid_any hg m (by omega) (wf (sxt s.1 id) 4 k) (wf_lv hk.inv w1.ext hl k) hr2
end Go.Proofs.YtlejohclijjhnaaGreatDoor
namespace Go.Proofs.YtlejohclijjhnaaGreatDoor
open Go.RowKit Ti Qd Go.Maps Go.WideMaps Ru

abbrev pb (G : Nat) : Obj := .cells #[.pointer (some ⟨G, 0, none⟩)] 135
theorem Gs.call3 {B : Nat} {w0 w : World} {H0 : Nat → Prop} {G P M b l room : Nat} {s : GS} {bx : List (Nat × Obj)} (h : Gs B w0 H0 G P M b l room s bx w) : ∃ H, Gr B w G P M b l s room H ∧ (∀ x ∈ bx, ¬ H x.1) ∧ ∀ (s' : GS) (w' : World), Gt B w G P M b l room H s' w' → Gs B w0 H0 G P M b l room s' bx w' := by
  obtain ⟨⟨H, h1, h2, h3⟩, h4, h5⟩ := h
  exact ⟨H, h1, fun x hx => (h3 x hx).2.1, fun _ _ hg => Gs.goes ⟨h1, h2, h3⟩ h4 h5 hg⟩
theorem one_cell {w : World} {g : Nat} {v : Value} {T : TypeId} (h : w.heap[g]? = some (.cells #[v] T (0, 0))) : w.cell? ⟨g, 0, none⟩ = some v := by
  rw [cell_of_row w g _ _ _ _ h]
  rfl
end Go.Proofs.YtlejohclijjhnaaGreatDoor
namespace Go.Proofs.YtlejohclijjhnaaGreatDoor
open Go.RowKit Ti Qd Go.Maps Go.WideMaps Ru

theorem Gs.noted {B : Nat} {w0 w w' : World} {H0 : Nat → Prop} {G P M b l room : Nat} {s : GS} {bx : List (Nat × Obj)} {K' : Kn} (h : Gs B w0 H0 G P M b l room s bx w) (hk : KAt w' M K') (hg : w.grownBy w' (some M)) : Gs B w0 H0 G P M b l room (s.1, K') bx w' := by
  obtain ⟨⟨H, ⟨Hs, hs, rfl⟩, h2, h3⟩, h4, h5⟩ := h
  have ne : ∀ x, x < w.heap.size → ¬ x = M → w'.heap[x]? = w.heap[x]? := fun x hx hn => hg.block x hx fun e => hn (Option.some.inj e)
  have eG := ne G hs.ltG hs.GM
  refine ⟨⟨_, ⟨Hs, ⟨hs.st.moved fun x hx => ne x (hs.st.lt x hx).2 fun e => hs.nM (e ▸ hx), (World.cell?_of_block eG).trans hs.c0, (World.cell?_of_block eG).trans hs.c1, (World.cell?_of_block eG).trans hs.c2, (World.cell?_of_block eG).trans hs.c3, hk, hs.bG, hs.bM, hs.nG, hs.nM, hs.GM⟩, rfl⟩, h2.trans ⟨hg.os, hg.tape, hg.output, hg.size, fun k hk hn => ne k hk fun e => hn (.inl e), fun k hk => .inl hk⟩, fun x hx => ⟨(h3 x hx).1, (h3 x hx).2.1, (ne x.1 (lt_of_block (h3 x hx).2.2) fun e => (h3 x hx).2.1 (.inl e)).trans (h3 x hx).2.2⟩⟩, h4, h5⟩
theorem Gs.kn {B : Nat} {w0 w : World} {H0 : Nat → Prop} {G P M b l room : Nat} {s : GS} {bx : List (Nat × Obj)} (h : Gs B w0 H0 G P M b l room s bx w) : KAt w M s.2 := by
  obtain ⟨⟨H, ⟨Hs, hs, rfl⟩, _, _⟩, _⟩ := h
  exact hs.kn
theorem two_cells {w : World} {g : Nat} {v0 v1 : Value} {T : TypeId} (h : w.heap[g]? = some (.cells #[v0, v1] T (0, 0))) : w.cell? ⟨g, 0, none⟩ = some v0 ∧ w.cell? ⟨g, 1, none⟩ = some v1 := by
  constructor <;> (rw [cell_of_row w g _ _ _ _ h]; rfl)
theorem ok_i1 {L : List Sq} (h : L.length ≤ 65536) {id : Int} (ho : Ok L id) : I1 id ∧ 1 ≤ id ∧ id ≤ 65536 := by
  unfold Ok at ho
  unfold I1
  omega
theorem gr_small {B : Nat} {w : World} {G P M b l : Nat} {s : GS} {room : Nat} {H : Nat → Prop} (h : Gr B w G P M b l s room H) : s.1.length ≤ 65536 ∧ room ≤ 65536 := by
  obtain ⟨Hs, hs, _⟩ := h
  refine ⟨hs.st.small, ?_⟩
  obtain ⟨M', sv, q, _⟩ := hs.st
  exact q.r6
end Go.Proofs.YtlejohclijjhnaaGreatDoor
namespace Go.Proofs.YtlejohclijjhnaaGreatDoor
open Go.RowKit Ti Qd Go.Maps Go.WideMaps Ru

/-- a grower was made -/
def GMade (B : Nat) (w : World) (P b l room : Nat) (L : List Sq) (Hs : Nat → Prop) (e : Ending) (w' : World) : Prop := ∃ G M H', e = .returned (.tuple #[.pointer (some ⟨G, 0, none⟩), .nilIface]) ∧ Gr B w' G P M b l (L, fun _ _ => none) room H' ∧ Stp w Hs w' H'
theorem four_cells {w : World} {g : Nat} {v0 v1 v2 v3 : Value} {T : TypeId} (h : w.heap[g]? = some (.cells #[v0, v1, v2, v3] T (0, 0))) : w.cell? ⟨g, 0, none⟩ = some v0 ∧ w.cell? ⟨g, 1, none⟩ = some v1 ∧ w.cell? ⟨g, 2, none⟩ = some v2 ∧ w.cell? ⟨g, 3, none⟩ = some v3 := row4 h
theorem gmade_of {B : Nat} {w w1 : World} {P b l room : Nat} {L : List Sq} {Hs : Nat → Prop} (h : St B w P L room Hs) (hB : B ≤ w.heap.size) (hb : Below w.heap.size w w1) :
    GMade B w P b l room L Hs (.returned (.tuple #[.pointer (some ⟨w1.heap.size + 1, 0, none⟩), .nilIface])) ((w1.alloc (.map #[] 0)).alloc (.cells #[.pointer (some ⟨P, 0, none⟩), .int .u16 b, .int .u16 l, .map (some w1.heap.size)] 102)) := by
  have h1 := alX w1 (.map #[] 0)
  have h2 := alX (w1.alloc (.map #[] 0)) (.cells #[.pointer (some ⟨P, 0, none⟩), .int .u16 b, .int .u16 l, .map (some w1.heap.size)] 102)
  have hc : ((w1.alloc (.map #[] 0)).alloc (.cells #[.pointer (some ⟨P, 0, none⟩), .int .u16 b, .int .u16 l, .map (some w1.heap.size)] 102)).heap[w1.heap.size + 1]? = some (.cells #[.pointer (some ⟨P, 0, none⟩), .int .u16 b, .int .u16 l, .map (some w1.heap.size)] 102 (0, 0)) := by
    have := heap_alloc_new (w1.alloc (.map #[] 0)) (.cells #[.pointer (some ⟨P, 0, none⟩), .int .u16 b, .int .u16 l, .map (some w1.heap.size)] 102)
    simpa using this
  have hbb := hb.trans ((h1.trans (h2.mono (by simp))).mono hb.size)
  obtain ⟨c0, c1, c2, c3⟩ := four_cells hc
  have hz := hb.size
  refine ⟨w1.heap.size + 1, w1.heap.size, fun x => x = w1.heap.size ∨ Hs x, rfl, ⟨Hs, ⟨h.below hbb (Nat.le_refl _), c0, c1, c2, c3, ⟨.map [], [], ((World.ownsMap_made (H := Unit) w1 Tryz.prog 229 (plainElem Tryz.prog 3)).alloc _), mpA_nil, List.nodup_nil, by simp, by simp⟩, by omega, by omega, fun e => ?_, fun e => ?_, by omega⟩, rfl⟩, ?_⟩
  · have := (h.lt _ e).2; omega
  · have := (h.lt _ e).2; omega
  · exact ⟨hbb.os, hbb.tape, hbb.output, hbb.size, fun k hk _ => hbb.block k hk, fun k hk => by
      rcases hk with rfl | hk
      · exact .inr hz
      · exact .inl hk⟩
set_option maxRecDepth 100000 in
set_option maxHeartbeats 1000000 in
theorem gnew_ok {B : Nat} {w : World} {P room : Nat} {L : List Sq} {Hs : Nat → Prop} (h : St B w P L room Hs) (hB : B ≤ w.heap.size) (b l : Nat) (hm : mayR b l = true) :
    Calls Tryz.prog 19 #[.pointer (some ⟨P, 0, none⟩), Rv b l] w (GMade B w P b l room L Hs) := by
  have HC := Lib.hid (fun w => check_ok b l hm w)
  have HM := Lib.hid (fun (w1 : World) (hb : Below w.heap.size w w1) => gmade_of (b := b) (l := l) h hB hb)
  clear h hB hm
  unfold Rv at HC ⊢
  have HB := Lib.hid (alX w (.cells #[.int .u16 b, .int .u16 l] 44))
  obtain ⟨c0, c1⟩ := two_cells (heap_alloc_new w (.cells #[.int .u16 b, .int .u16 l] 44))
  have HR := Lib.hid (heap_alloc_new w (.cells #[.int .u16 b, .int .u16 l] 44))
  have hmm := @run_makeMap Tryz.prog
  go_enter Tryz.func19, Tryz.ntmps19
  go_wp2_with fail
  refine (HC.out _).mono ?_
  rintro e w1 ⟨rfl, hb⟩
  have HB1 := Lib.hid (HB.out.trans (hb.mono HB.out.size))
  obtain ⟨c0, c1⟩ := two_cells ((hb.block _ (lt_of_block HR.out)).trans HR.out)
  clear hb
  go_wp2
  go_ret2
  exact HM.out _ HB1.out
set_option maxRecDepth 100000 in
set_option maxHeartbeats 4000000 in
theorem center_ok {B : Nat} {w : World} {G P M b l : Nat} {s : GS} {room : Nat} {H : Nat → Prop} (h : Gr B w G P M b l s room H) (n : Nat) (hn : n ≤ 36) (id : Int) (hl : Lv s.1 (n + 1) id)
    (hr : (midG s (kid (at' s.1 id) 0) (kid (at' s.1 id) 1) (kid (at' s.1 id) 2) (kid (at' s.1 id) 3)).1.1.length ≤ room) :
    Calls Tryz.prog 60 #[.pointer (some ⟨G, 0, none⟩), .int .i64 id] w fun e w' => e = .returned (.tuple #[.int .i64 (midG s (kid (at' s.1 id) 0) (kid (at' s.1 id) 1) (kid (at' s.1 id) 2) (kid (at' s.1 id) 3)).2, .nilIface]) ∧ Gt B w G P M b l room H (midG s (kid (at' s.1 id) 0) (kid (at' s.1 id) 1) (kid (at' s.1 id) 2) (kid (at' s.1 id) 3)).1 w' := by
  have HS := Lib.hid (Gs.start h)
  have hinv := HS.out.inv.1
  have hp := HS.out.ptr
  have HM := Lib.hid (fun (wx : World) (Hx : Nat → Prop) (hx : Gr B wx G P M b l s room Hx) => mid_any hx n hn (kid (at' s.1 id)) (fun i h4 => hinv.kid hl i) hr)
  obtain ⟨Hs, hst, _⟩ := HS.out.store
  have HK := Lib.hid (kids_ok hst n id hl _ rfl)
  clear h hn hl hr hinv hst
  go_enter Tryz.func60, Tryz.ntmps60
  go_wp2_with fail
  refine HK.out.mono ?_
  rintro e w2 ⟨rfl, hb⟩
  have HS2 := Lib.hid ((HS.out.below hb).alloc (.cells #[.int .i64 (at' s.1 id).k0, .int .i64 (at' s.1 id).k1, .int .i64 (at' s.1 id).k2, .int .i64 (at' s.1 id).k3] 93))
  clear hb hp HK HS
  go_upto_region 6 with (fail)
  obtain ⟨g6, hg6⟩ : ∃ g, g = w2.heap.size := ⟨_, rfl⟩
  rw [← hg6] at HS2 ⊢
  generalize World.alloc _ _ = W2 at HS2 ⊢
  clear hg6
  have HD := Lib.hid HS2.out.drew
  have KD := Lib.hid (row4 HD.out.b0)
  obtain ⟨H1, h1, h2⟩ := HD.out.call
  have HC := Lib.hid (HM.out _ _ h1)
  have HX := Lib.hid h2
  clear h1 h2 HM
  go_region_held3 (fun w' => w'.cell? ⟨g6, 0, none⟩ = some (.int .i64 (at' s.1 id).k0) ∧ w'.cell? ⟨g6, 1, none⟩ = some (.int .i64 (at' s.1 id).k1) ∧ w'.cell? ⟨g6, 2, none⟩ = some (.int .i64 (at' s.1 id).k2) ∧ w'.cell? ⟨g6, 3, none⟩ = some (.int .i64 (at' s.1 id).k3)) (first | with_reducible exact KD.out | with_reducible exact ks)
    ((go_at_call 73; refine HC.out.mono ?_; rintro e w4 ⟨rfl, hg⟩; have HS4 := Lib.hid (HX.out _ _ hg); have ks := row4 HS4.out.b0; clear hg))
  go_wp2
  go_ret2
  exact ⟨rfl, HS4.out.gt⟩
end Go.Proofs.YtlejohclijjhnaaGreatDoor

/-
  WALKS of copied and Frames: frames that share nothing. Conditions: what is copied lies in memory, and is short.
  THE WALKS of tileCorners, corners. Conditions: the grower lies in memory, and there is room.
-/
import Derived.Test.YtlejohclijjhnaaGreatDoorL37
import Derived.Test.YtlejohclijjhnaaGreatDoorL27
import Derived.Test.YtlejohclijjhnaaGreatDoorL05
namespace Go.Proofs.YtlejohclijjhnaaGreatDoor.Fm
open Go.RowKit Ti Qd Go.Maps Go.WideMaps Ru

set_option maxRecDepth 100000 in
set_option maxHeartbeats 4000000 in
theorem copied_f (ao : Option Addr) (c : Nat) (us : List FH) (w : World) (hl : LiesF w ao us) (hh : ∀ x ∈ us, LiesI w x.2 x.1.got ∧ x.1.got.length ≤ 1000 ∧ (x.1.got = [] → x.2 = .slice none 0 0)) (hm : us.length ≤ 1000) :
    Calls Tryz.prog 25 #[.slice ao us.length c] w (Copied w us) := by
  have HCL := Lib.hid (clone_f ao c us w hl (fun x hx => by obtain ⟨a, p, e, _⟩ := (hh x hx).1; exact ⟨_, _, _, e⟩) hm)
  have HH := Lib.hid hh
  have HM := Lib.hid hm
  clear hl hh hm
  generalize hn : us.length = n at *
  have HN := Lib.hid hn
  clear hn
  go_enter Tryz.func25, Tryz.ntmps25
  go_wp2_with fail
  refine HCL.out.mono ?_
  rintro e w1 ⟨a2, c2, rfl, ho, hb⟩
  rw [HN.out]
  rw [HN.out] at ho
  have HP : Hid (∃ nw, Cpd w (.slice a2 n c2) us 0 w1 nw) := Lib.hid ⟨[], rfl, rfl, by rw [HN.out]; unfold OwnF at ho; rw [HN.out] at ho; exact ho, (fun x hx => by cases hx), by unfold ownV ownU; cases (Value.slice a2 n c2).ownBlock <;> simp, (fun x hx => by cases hx), hb⟩
  have HSH := Lib.hid (show a2 = none → n = 0 from fun e => by
    subst e
    rcases ho.2 with ⟨e1, e2⟩ | ⟨g, cap, cur, e1, _⟩
    · rw [← HN.out]; exact e2
    · injection e1 with e1; cases e1)
  have HSG := Lib.hid (show ∀ a, a2 = some a → ∃ g, a = ⟨g, 0, none⟩ from fun a e => by
    subst e
    rcases ho.2 with ⟨e1, e2⟩ | ⟨g, cap, cur, e1, _⟩
    · injection e1 with e1; cases e1
    · injection e1 with e1; injection e1 with e1; exact ⟨g, e1⟩)
  clear ho hb HCL
  go_wp2
  go_loopw [9] (fun i wr => ∃ k : Nat, k ≤ n ∧ i = .int .i64 k ∧ Hid (∃ nw, Cpd w (.slice a2 n c2) us k wr nw)) (fun i _ => n - (intOf i).toNat)
  case atStart => exact ⟨0, Nat.zero_le _, rfl, HP⟩
  case round =>
    clear HP
    obtain ⟨k, hk, rfl, HR⟩ := hrel
    by_cases hlt : k < n
    · have hku : k < us.length := by rw [HN.out]; exact hlt
      cases a2 with
      | none => exact absurd (HSH.out rfl) (by omega)
      | some a =>
        obtain ⟨g, rfl⟩ := HSG.out a rfl
        obtain ⟨nw, hc⟩ := HR.out
        have hrow := hc.row
        rw [HN.out] at hrow
        have hd : us.drop k = us[k] :: us.drop (k + 1) := List.drop_eq_getElem_cons hku
        have hcell : wr.cell? ⟨g, k * 4 + 3, none⟩ = some us[k].2 := by
          rw [hrow.cellAt _ (by omega), hd, fls_app, List.getElem?_append_right (by rw [fls_len, hc.len]; omega), fls_len, hc.len, Nat.add_sub_cancel_left]
          rfl
        have hfr := hrow.frozenAt (k * 4 + 3)
        have hx := HH.out us[k] (List.getElem_mem hku)
        have HCI := Lib.hid (clone_i us[k].2 us[k].1.got wr (hx.1.bel hc.bel) hx.2.1)
        have hc2 : Cpd w (.slice (some ⟨g, 0, none⟩) us.length c2) us k wr nw := by rw [HN.out]; exact hc
        have HX := Lib.hid (fun (w1 : World) (h' : Value) (hb : Below wr.heap.size wr w1) (ho : OwnI w1 wr.heap.size h' us[k].1.got) (hn : us[k].2 = nilS → h' = .slice none 0 0) => hc2.next hku hb ho fun he => hn (hx.2.2 he))
        have HG := Lib.hid (show g < wr.heap.size from World.block_lt_of_cell? wr _ hcell)
        have k0 : (0 : Int) ≤ (k : Int) := by omega
        have k1 : (k : Int) < (n : Int) := by omega
        have k2 : (k : Int) ≤ 1000 := by have := HM.out; omega
        have HLT := Lib.hid hlt
        obtain ⟨ah, ph, hsl, _⟩ := hx.1
        have HSL := Lib.hid hsl
        rw [hsl] at hcell
        clear hrow hd hx hc hc2 hsl HR hlt
        have HCF := Lib.hid (And.intro hcell hfr)
        go_wp2_with fail
        rw [← HSL.out]
        refine HCI.out.mono ?_
        rintro e w2 ⟨a3, n3, p3, rfl, ho, hnil, hb⟩
        have HY := Lib.hid (HX.out w2 _ hb ho hnil)
        have hcell2 : w2.cell? ⟨g, k * 4 + 3, none⟩ = some (.slice ah us[k].1.got.length ph) := (World.cell?_of_block (a := ⟨g, k * 4 + 3, none⟩) (hb.block g HG.out)).trans HCF.out.1
        have hfr2 : w2.frozen? ⟨g, k * 4 + 3, none⟩ = false := (World.frozen?_of_block (a := ⟨g, k * 4 + 3, none⟩) (hb.block g HG.out)).trans HCF.out.2
        clear ho hnil hb hcell hfr
        go_wp2
        go_roundw
        case rel => exact ⟨k + 1, by have := HLT.out; omega, by go_num, Lib.hid ⟨_, by have := HY.out; rw [HN.out] at this; exact this⟩⟩
        case measure => have := HLT.out; simp [intOf]; omega
    · obtain rfl : k = n := by omega
      have HE := Lib.hid HR.out
      clear HR
      go_wp2
      go_ret
      obtain ⟨nw, hc⟩ := HE.out
      have hlen : nw.length = us.length := by rw [HN.out]; exact hc.len
      have hrow := hc.row
      rw [List.drop_of_length_le (by rw [HN.out]; exact Nat.le_refl _), List.append_nil] at hrow
      have hf := hc.fst
      rw [List.take_of_length_le (by rw [HN.out]; exact Nat.le_refl _)] at hf
      refine ⟨a2, c2, nw, (by show Ending.returned (Value.slice a2 k c2) = _; rw [HN.out]), hf, ?_, hc.got, by rw [HN.out]; exact hc.nd, hc.gn, hc.bel⟩
      unfold OwnF
      rw [hlen]
      rw [HN.out] at hrow ⊢
      exact hrow
/-- what is told of what is under way -/
def Told (w : World) (U : List Fr) (e : Ending) (w' : World) : Prop := ∃ ao cap nw, e = .returned (.slice ao U.length cap) ∧ nw.map Prod.fst = U.reverse ∧ LiesF w' ao nw ∧ (∀ x ∈ nw, LiesI w' x.2 x.1.got ∧ (x.1.got = [] → x.2 = .slice none 0 0)) ∧ U.length ≤ cap ∧ cap ≤ 9223372036854775807 ∧ Below w.heap.size w w'
theorem own_lies {w : World} {B : Nat} {v : Value} {l : List Int} (h : OwnI w B v l) : LiesI w v l := by
  rcases h.2 with ⟨rfl, h0⟩ | ⟨g, cap, cur, rfl, hb, hg, hc, hm, _⟩
  · exact ⟨none, 0, by rw [h0], by omega, by omega, fun i hi => by omega⟩
  · refine ⟨_, cap, rfl, hc, hm, fun i hi => ⟨g, 0, rfl, ?_⟩⟩
    rw [Nat.zero_add]
    have := World.ownsRow.cellAt h i (by omega)
    rw [this]
    unfold ints
    simp [hi]
theorem own_liesf {w : World} {B : Nat} {v : Value} {us : List FH} (h : OwnF w B v us) : ∃ ao cap, v = .slice ao us.length cap ∧ LiesF w ao us ∧ us.length ≤ cap ∧ cap ≤ 9223372036854775807 := by
  rcases h.2 with ⟨rfl, h0⟩ | ⟨g, cap, cur, rfl, hb, hg, hc, hm, _⟩
  · exact ⟨none, 0, by rw [h0], (fun i hi => by omega), by omega, by omega⟩
  · refine ⟨_, cap, rfl, fun i hi => ⟨g, 0, rfl, fun j hj => ?_⟩, hc, hm⟩
    rw [Nat.zero_add, World.ownsRow.cellAt h _ (by omega)]
    exact fls_at us i hi j hj
set_option maxRecDepth 100000 in
theorem frames_f {B P room b l G M : Nat} {s : MS} {w : World} {H : Nat → Prop} (h : Mc B P room b l G M s w H) (hs : ∀ g ∈ s.U, g.got.length ≤ 1000) (hm : s.U.length ≤ 1000) :
    Calls Tryz.prog 9 #[.pointer (some ⟨G, 0, none⟩)] w (Told w s.U) := by
  obtain ⟨uv, us, gr, Hs, k1, k2, k3, k4, rfl⟩ := h
  have hl : us.length = s.U.length := by
    have := congrArg List.length k3
    simpa using this
  obtain ⟨ao, cap, rfl, hlf, hc1, hc2⟩ := own_liesf k2.row
  have hmem : ∀ x ∈ us, x.1 ∈ s.U := fun x hx => by
    have : x.1 ∈ us.map Prod.fst := List.mem_map.2 ⟨x, hx, rfl⟩
    rw [k3] at this
    exact List.mem_reverse.1 this
  have HC := Lib.hid (copied_f ao cap us w hlf (fun x hx => ⟨own_lies (k2.got x hx), hs _ (hmem x hx), k2.gn x hx⟩) (by omega))
  have c3 := k2.c3
  have HK := Lib.hid (And.intro k3 hl)
  clear k1 k2 k3 k4 hlf hc1 hc2 hmem hs hm hl
  generalize hn : us.length = n at *
  have HN := Lib.hid hn
  clear hn
  go_enter Tryz.func9, Tryz.ntmps9
  go_wp2_with fail
  refine HC.out.mono ?_
  rintro e w1 ⟨a2, c2, nw, rfl, n1, n2, n3, n4, n5, n6⟩
  have HE := Lib.hid (And.intro n1 (And.intro n2 (And.intro n3 (And.intro n5 n6))))
  rw [HN.out]
  clear n1 n2 n3 n4 n5 n6
  go_wp2
  go_ret
  obtain ⟨n1, n2, n3, n5, n6⟩ := HE.out
  have hlen : nw.length = us.length := by
    have := congrArg List.length n1
    simpa using this
  obtain ⟨a4, c4, e4, l4, b4, d4⟩ := own_liesf n2
  rw [HN.out] at e4 hlen
  rw [hlen] at e4 b4
  injection e4 with q1 q2 q3
  subst q1 q3
  refine ⟨a2, c2, nw, (by show Ending.returned (Value.slice a2 n c2) = _; rw [← HK.out.2]), n1.trans HK.out.1, l4, fun x hx => ⟨own_lies (n3 x hx), n5 x hx⟩, by rw [← HK.out.2]; exact b4, d4, n6⟩
end Go.Proofs.YtlejohclijjhnaaGreatDoor.Fm
namespace Go.Proofs.YtlejohclijjhnaaGreatDoor
open Go.RowKit Ti Qd Go.Maps Go.WideMaps Ru

theorem cornT_ext (t : T6) (s : GS) (k : Nat) : s.1 <+: (cornT t s k).1.1 := put_ext _ _
theorem cornN_ext (q : Sq) (e : Int) (s : GS) (k : Nat) : s.1 <+: (cornN q e s k).1.1 := put_ext _ _
theorem Gs.swap {B : Nat} {w0 w : World} {H0 : Nat → Prop} {G P M b l room : Nat} {s : GS} {bx : List (Nat × Obj)} {x y : Nat × Obj} (h : Gs B w0 H0 G P M b l room s (x :: y :: bx) w) : Gs B w0 H0 G P M b l room s (y :: x :: bx) w :=
  h.sub (fun z hz => by
    rcases List.mem_cons.1 hz with rfl | hz
    · exact List.mem_cons_of_mem _ List.mem_cons_self
    rcases List.mem_cons.1 hz with rfl | hz
    · exact List.mem_cons_self
    · exact List.mem_cons_of_mem _ (List.mem_cons_of_mem _ hz)) (((List.Perm.swap y x bx).map Prod.fst).nodup_iff.1 h.nd)
theorem upd_ab0 (t : T6) (k m : Nat) (hm : m = 3 - k) : upd (fun _ => 0#64) m t = ab0 t k := by
  subst hm
  rfl
theorem upd_abI (e kd : Int) (k m : Nat) (hm : m = 3 - k) : upd (fun _ => e) m kd = abI e kd k := by
  subst hm
  rfl
set_option maxRecDepth 100000 in
set_option maxHeartbeats 8000000 in
theorem tileCorners_ok {B : Nat} {w : World} {G P M b l : Nat} {s : GS} {room : Nat} {H : Nat → Prop} (h : Gr B w G P M b l s room H) (id : Int) (hl : Lv s.1 0 id) (t : T6) (ht : (at' s.1 id).til = t) (hr : (stOf (cornT t) s 4).1.length ≤ room) :
    Calls Tryz.prog 68 #[.pointer (some ⟨G, 0, none⟩), .int .i64 id] w fun e w' => e = .returned (.tuple #[.agg #[.int .i64 (outOf (cornT t) s 0), .int .i64 (outOf (cornT t) s 1), .int .i64 (outOf (cornT t) s 2), .int .i64 (outOf (cornT t) s 3)], .nilIface]) ∧ Gt B w G P M b l room H (stOf (cornT t) s 4) w' := by
  have HS : Hid (Gs B w H G P M b l room s [(w.heap.size, z4l)] (w.alloc (.cells #[.int .i64 0, .int .i64 0, .int .i64 0, .int .i64 0] 93))) := Lib.hid ((Gs.start h).alloc' z4l rfl)
  have HRM := Lib.hid (fun k (hk : k < 4) => (show (put (stOf (cornT t) s k).1 (leafQ (growB 0 0 0 (q4 (ab0 t k 0) (ab0 t k 1) (ab0 t k 2) (ab0 t k 3))))).length ≤ room from by
    have := (stOf_ext (cornT t) s (fun s k => cornT_ext t s k) (k + 1) (4 - (k + 1))).length_le
    rw [show k + 1 + (4 - (k + 1)) = 4 by omega] at this
    exact Nat.le_trans this hr))
  have HL := Lib.hid hl
  have HT := Lib.hid ht
  clear h hl hr ht
  go_enter Tryz.func68, Tryz.ntmps68
  go_upto_region 1 with (fail)
  generalize World.alloc _ _ = W at HS ⊢
  have hp := HS.out.ptr
  obtain ⟨Hs, hst, _⟩ := HS.out.store
  have HC := Lib.hid (tile_ok hst id HL.out t HT.out)
  clear hst
  go_wp2_with fail
  refine HC.out.mono ?_
  rintro e w1 ⟨rfl, hb⟩
  have HS1 := Lib.hid ((HS.out.below hb).alloc z4l)
  clear hb HC hp HS
  obtain ⟨g8, hg8⟩ : ∃ g, g = w1.heap.size := ⟨_, rfl⟩
  go_wp2
  rw [← hg8] at HS1 ⊢
  generalize World.alloc _ _ = W1 at HS1 ⊢
  clear hg8
  have HR0 : Hid (Gs B w H G P M b l room s [(g8, .cells (ir (cpF 0 (outOf (cornT t) s) 0) 4) 93), (w.heap.size, z4l)] W1) := HS1
  clear HS1
  go_loopw [24] (fun i wr => ∃ k : Nat, k ≤ 4 ∧ i = .int .i64 k ∧ Hid (Gs B w H G P M b l room (stOf (cornT t) s k) [(g8, .cells (ir (cpF 0 (outOf (cornT t) s) k) 4) 93), (w.heap.size, z4l)] wr)) (fun i _ => 4 - (intOf i).toNat)
  case atStart => exact ⟨0, by omega, rfl, HR0⟩
  case round =>
    clear HR0
    obtain ⟨k, hk, rfl, HR⟩ := hrel
    have k0 : (0 : Int) ≤ (k : Int) := by omega
    by_cases hlt : k < 4
    · have k1 : (k : Int) < 4 := by omega
      have HLT := Lib.hid hlt
      obtain ⟨m, hm⟩ : ∃ m, m = 3 - k := ⟨_, rfl⟩
      have m0 : (0 : Int) ≤ (m : Int) := by omega
      have m1 : (m : Int) < 4 := by omega
      have HM := Lib.hid (opposite_m k m hlt hm)
      have HR1 : Hid (Gs B w H G P M b l room (stOf (cornT t) s k) [(wr.heap.size, .cells (trow (fun _ => 0#64) 4) 167), (g8, .cells (ir (cpF 0 (outOf (cornT t) s) k) 4) 93), (w.heap.size, z4l)] (wr.alloc (.cells #[.int .u64 0, .int .u64 0, .int .u64 0, .int .u64 0] 167))) := Lib.hid (HR.out.alloc zt4)
      have HMD := Lib.hid (fun w => middle_any (ab0 t k 0) (ab0 t k 1) (ab0 t k 2) (ab0 t k 3) w)
      have HRK := Lib.hid (HRM.out k hlt)
      have HQ := Lib.hid (show nr (stOf (cornT t) s k).1 (leafQ (growB 0 0 0 (q4 (ab0 t k 0) (ab0 t k 1) (ab0 t k 2) (ab0 t k 3)))) = outOf (cornT t) s k ∧ (put (stOf (cornT t) s k).1 (leafQ (growB 0 0 0 (q4 (ab0 t k 0) (ab0 t k 1) (ab0 t k 2) (ab0 t k 3)))), (stOf (cornT t) s k).2) = stOf (cornT t) s (k + 1) from ⟨rfl, rfl⟩)
      generalize growB 0 0 0 (q4 (ab0 t k 0) (ab0 t k 1) (ab0 t k 2) (ab0 t k 3)) = X at *
      have HMM := Lib.hid hm
      clear hlt hm HR
      go_upto_region 9 with (fail)
      obtain ⟨g10, hg10⟩ : ∃ g, g = wr.heap.size := ⟨_, rfl⟩
      rw [← hg10] at HR1 ⊢
      generalize World.alloc _ _ = W1 at HR1 ⊢
      clear hg10
      obtain ⟨tc, tf⟩ := tr_cell HR1.out.b0 (show m < 4 by omega)
      have HP := Lib.hid (show (W1.setCell ⟨g10, m, none⟩ (.int .u64 (rg t))).heap[g10]? = some (.cells #[.int .u64 (rg (ab0 t k 0)), .int .u64 (rg (ab0 t k 1)), .int .u64 (rg (ab0 t k 2)), .int .u64 (rg (ab0 t k 3))] 167) from by
        have h1 := tr_set (i := m) HR1.out.b0 t
        rw [upd_ab0 t k m HMM.out] at h1
        exact h1)
      have HR2 := Lib.hid (HR1.out.set HP.out)
      obtain ⟨a0, ha0⟩ : ∃ a, a = ab0 t k 0 := ⟨_, rfl⟩
      obtain ⟨a1, ha1⟩ : ∃ a, a = ab0 t k 1 := ⟨_, rfl⟩
      obtain ⟨a2, ha2⟩ : ∃ a, a = ab0 t k 2 := ⟨_, rfl⟩
      obtain ⟨a3, ha3⟩ : ∃ a, a = ab0 t k 3 := ⟨_, rfl⟩
      rw [← ha0, ← ha1, ← ha2, ← ha3] at HR2 HMD
      clear HP ha0 ha1 ha2 ha3
      go_upto_region 10 with (go_at_call 69; refine (HM.out _).mono ?_; rintro e w3 ⟨rfl, rfl⟩)
      clear tc tf HR1
      generalize World.setCell _ _ _ = W2 at HR2 ⊢
      have HD := Lib.hid HR2.out.drew
      have KD := Lib.hid (And.intro HD.out.ptr (row4 HD.out.b0))
      have HLF := Lib.hid (show ∀ (wx : World) (Hx : Nat → Prop), St B wx P (stOf (cornT t) s k).1 room Hx → Calls Tryz.prog 47 #[.pointer (some ⟨P, 0, none⟩), .int .u64 (rg X)] wx fun e w' => e = .returned (.tuple #[.int .i64 (outOf (cornT t) s k), .nilIface]) ∧ Goes B wx P room Hx (put (stOf (cornT t) s k).1 (leafQ X)) w' from fun wx Hx hst => by
        rw [← HQ.out.1]
        exact leaf_ok hst X HRK.out)
      go_region_held3 (fun w' => w'.cell? ⟨G, 0, none⟩ = some (.pointer (some ⟨P, 0, none⟩)) ∧ w'.cell? ⟨g10, 0, none⟩ = some (.int .u64 (rg a0)) ∧ w'.cell? ⟨g10, 1, none⟩ = some (.int .u64 (rg a1)) ∧ w'.cell? ⟨g10, 2, none⟩ = some (.int .u64 (rg a2)) ∧ w'.cell? ⟨g10, 3, none⟩ = some (.int .u64 (rg a3))) (first | with_reducible exact KD.out | with_reducible exact ks | with_reducible exact kx)
        (first
          | (go_at_call 76; with_reducible refine (HMD.out _).mono ?_; rintro e w5 ⟨rfl, hb⟩; have HR5 := Lib.hid (HD.out.below hb); have ks := And.intro HR5.out.ptr (row4 HR5.out.b0); obtain ⟨Hs5, hst, hgo⟩ := HR5.out.store; have HGO := Lib.hid hgo; have HL5 := Lib.hid (HLF.out _ _ hst); clear hb hst hgo)
          | (go_at_call 47; with_reducible refine HL5.out.mono ?_; rintro e w7 ⟨rfl, hg⟩; have HR7 := Lib.hid (HGO.out _ _ hg); have ks := And.intro HR7.out.ptr (row4 HR7.out.b0); have hc := ir_cell HR7.out.b1 k HLT.out; have hfz := ir_fro HR7.out.b1 k; have HR8 := Lib.hid (HR7.out.swap.set (i := k) (v := .int .i64 (outOf (cornT t) s k)) (ir_put HR7.out.b1 k (outOf (cornT t) s k))); have kx := And.intro HR8.out.ptr (row4 HR8.out.b1); clear hg))
      have HR9 : Hid (Gs B w H G P M b l room (stOf (cornT t) s (k + 1)) [(g8, .cells (ir (cpF 0 (outOf (cornT t) s) (k + 1)) 4) 93), (w.heap.size, z4l)] (w7.setCell ⟨g8, k, none⟩ (.int .i64 (outOf (cornT t) s k)))) := Lib.hid (by
        rw [← HQ.out.2, ← cp_step 0 (outOf (cornT t) s) k]
        exact HR8.out.swap.tail)
      go_wp2
      go_roundw
      case rel => exact ⟨k + 1, by have := HLT.out; omega, by go_num, HR9⟩
      case measure => have := HLT.out; simp [intOf]; omega
    · obtain rfl : k = 4 := by omega
      have HD : Hid (Gs B w H G P M b l room (stOf (cornT t) s 4) [(g8, .cells #[.int .i64 (outOf (cornT t) s 0), .int .i64 (outOf (cornT t) s 1), .int .i64 (outOf (cornT t) s 2), .int .i64 (outOf (cornT t) s 3)] 93), (w.heap.size, z4l)] wr) := HR
      obtain ⟨c0, c1, c2, c3⟩ := row4 HD.out.b0
      obtain ⟨d0, d1, d2, d3⟩ := row4 HD.out.b1
      have f0 := frozen_of_row _ _ 0 _ _ HD.out.b1
      have f1 := frozen_of_row _ _ 1 _ _ HD.out.b1
      have f2 := frozen_of_row _ _ 2 _ _ HD.out.b1
      have f3 := frozen_of_row _ _ 3 _ _ HD.out.b1
      have HX := Lib.hid HD.out.b1
      have HE := Lib.hid (Gs.set4 HD.out.tail (.int .i64 (outOf (cornT t) s 0)) (.int .i64 (outOf (cornT t) s 1)) (.int .i64 (outOf (cornT t) s 2)) (.int .i64 (outOf (cornT t) s 3)))
      clear HR HD
      go_wp2
      refine post_row_tmp Tryz.results68 w.heap.size 93 #[.int .i64 (outOf (cornT t) s 0), .int .i64 (outOf (cornT t) s 1), .int .i64 (outOf (cornT t) s 2), .int .i64 (outOf (cornT t) s 3)] (0, 0) _ .nilIface Tryz.underlying93 rfl info_4 ?_ ?_ (row_set4 HX.out _ _ _ _) ?_ ?_
      · rfl
      · rfl
      · rfl
      exact ⟨rfl, HE.out.gt⟩
end Go.Proofs.YtlejohclijjhnaaGreatDoor

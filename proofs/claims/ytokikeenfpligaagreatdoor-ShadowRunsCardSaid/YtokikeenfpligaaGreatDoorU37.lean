/-
  A SHADOW IS BEGUN: the walk of New. Conditions: those that each lemma names.
  SMALL CALLS OF A SHADOW: check, checkNumber, Epoch, Free; all calls of none. Conditions: those that each lemma names.
  WHERE A PAGE IS LAID: the walks of written and place. Conditions: those that each lemma names.
  A MAP THAT TURNS. Conditions: those that each lemma names.
  A PAGE WRITTEN, plainly. Conditions: those that each lemma names.
-/
import Derived.Test.YtokikeenfpligaaGreatDoorU36
namespace Go.Proofs.YtokikeenfpligaaGreatDoor.Sh
open Go.RowKit Go.Maps

theorem other_any (r : Nat) (h : r < 2) (w : World) : Calls Tryz.prog 36 #[.int .i64 r] w fun e w' => e = .returned (.int .i64 ((1 - r : Nat) : Int)) ∧ w = w' := by
  have h0 : (0 : Int) ≤ (r : Int) := by omega
  have h1 : (r : Int) < 2 := by omega
  go_enter Tryz.func36, Tryz.ntmps36
  go_wp2
  go_ret
  exact ⟨Sm.ret_int (by omega), rfl⟩
theorem bsec_lt {st : Nat → Option (Nat × List Nat)} : bsec (best st 2) < 2 := by
  have h1 : ∀ k, bsec (best st k) < k ∨ best st k = none := by
    intro k
    induction k with
    | zero => exact .inr rfl
    | succ k ih =>
      cases hs : st k with
      | none => rw [best_none hs]; rcases ih with e | e; exact .inl (by omega); exact .inr e
      | some el =>
        obtain ⟨e, l⟩ := el
        cases hb : best st k with
        | none => rw [best_first hs hb]; exact .inl (by show k < k + 1; omega)
        | some sel =>
          obtain ⟨s, e', l'⟩ := sel
          by_cases he : e' < e
          · rw [best_more hs hb he]; exact .inl (by show k < k + 1; omega)
          · rw [best_stay hs hb he]
            rw [hb] at ih
            rcases ih with q | q
            · exact .inl (by have : s < k := q; show s < k + 1; omega)
            · cases q
  rcases h1 2 with e | e
  · exact e
  · rw [e]; decide
theorem mpf_none : MpF (fun _ => 0) (.map []) := by
  refine ⟨?_, fun z => ?_, fun k hk => absurd rfl hk, fun k hk => absurd rfl hk, fun k => by decide⟩
  · exact ⟨[], rfl, by simp⟩
  · constructor
    · intro h; cases h
    · rintro ⟨k, _, q⟩; exact absurd rfl q
theorem secs_none (n : Nat) : Secs n [] (fun _ => 0) := ⟨List.nodup_nil, fun x hx => absurd hx (by simp), fun k hk => absurd rfl hk, fun j k hj => absurd rfl hj, fun k hk => absurd rfl hk⟩
theorem PS.stp {W w w' : World} {N p D n m : Nat} {ct : Nat → ByteArray} {Q H S S' : Nat → Prop} (h : PS W N w p D ct Q n m H) (s : Stp w S w' S') (hd : ∀ b, H b → ¬ S b) (hlo : ∀ b, S b → W.heap.size ≤ b) : PS W N w' p D ct Q n m H := by
  obtain ⟨X, ⟨μ, h1, h2, h3, h4, rfl, h6⟩, rest⟩ := h
  exact ⟨X, ⟨μ, h1.moved s.size (fun b hb => s.block b (h1.lt b hb).2 (hd b hb)), h2, h3, h4, rfl, h6.trans (s.below hlo h6.size)⟩, rest⟩
theorem new_inv {n m c : Nat} {ct : Nat → ByteArray} (σ : Sd) (hc : c < 2) (h4 : 4 ≤ n) (hn : n ≤ 16384) (h1 : 1 ≤ m) (h2 : m ≤ 1024) (en : σ.n = n) (em : σ.m = m) (htk : Tk n [] (fun _ => 0) σ.S) (etb : σ.tb = []) (ekp : σ.kp = fun _ => 0) (enw : σ.nw = fun _ => 0) (ert : σ.root = 0) (eep : σ.ep = 0) (efl : σ.fl = false) (ect : σ.ct = updT (updT ct (1 - c) (bt (pg4 82 0 ((0 : Nat) : Int) []))) c (bt (pg4 82 0 ((0 : Nat) : Int) []))) : Inv σ (fun _ => True) p0 p0 := by
  refine ⟨by omega, by omega, by omega, by omega, htk.1.trans en.symm, fun i => ?_, by rw [etb, ekp]; exact secs_none _, by rw [etb, enw]; exact secs_none _, fun j k hj => absurd (by rw [enw]) hj, by rw [etb, ekp]; exact ⟨fun k hk => absurd rfl hk, .inl rfl⟩, fun k hk => absurd (by rw [ekp]) hk, fun k hk => absurd (by rw [enw]) hk, fun i hi => absurd hi (by rw [etb]; simp), by omega, by omega, ⟨fun _ => some (0, []), fun r hr => ?_, by rw [eep, etb], by rw [ert, eep, etb]; rfl⟩, efl, ⟨fun _ _ => trivial, fun _ _ => trivial, fun _ _ => trivial⟩⟩
  · rw [htk.2 i, etb, ekp, enw]
    simp
  · refine ⟨?_, by decide, fun x hx => absurd hx (by simp), by decide⟩
    rw [ect]
    unfold updT
    by_cases e : r = c
    · rw [if_pos e]
    · rw [if_neg e, if_pos (by omega)]
def rt0 : ByteArray := bt (pg4 82 0 ((0 : Nat) : Int) [])
def NewSh (W : World) (N : Nat) (D n m : Nat) (e : Ending) (w' : World) : Prop :=
  ∃ σ : Sd, e = .returned (.tuple #[.pointer (some ⟨σ.P, 0, none⟩), .nilIface]) ∧ Sh W N w' σ (fun _ => True) ∧ Inv σ (fun _ => True) p0 p0 ∧ σ.D = D ∧ σ.n = n ∧ σ.m = m ∧ σ.ep = 0 ∧ σ.nw = (fun _ => 0) ∧ σ.kp = (fun _ => 0) ∧ σ.tb = []
set_option maxRecDepth 100000 in
set_option maxHeartbeats 2000000 in
theorem new_any {W w : World} {D n N : Nat} {ct : Nat → ByteArray} {Hd : Nat → Prop} (m : Nat) (h : DkS W w D n ct N Hd) (hHd : ∀ k, Hd k → k < w.heap.size) (hW : W.heap.size ≤ w.heap.size) (h4 : 4 ≤ n) (hn : n ≤ 16384) (h1 : 1 ≤ m) (h2 : m ≤ 1024) (st : Nat → Option (Nat × List Nat)) (hst : ∀ r, r < 2 → Rt ct r (st r)) (hN : N + 10000 < 2305843009213693952) :
    Calls Tryz.prog 11 #[.pointer (some ⟨D, 0, none⟩), .int .i64 (m : Int)] w (NewSh W (N + 4 + (1 + m) + (1 + m)) D n m) := by
  have HD := Lib.hid h
  have HHD := Lib.hid hHd
  have HST := Lib.hid hst
  have HWW := Lib.hid hW
  clear h hHd hst hW
  go_enter Tryz.func11, Tryz.ntmps11
  go_wp2_with fail
  refine (on_any m HD.out HHD.out h4 hn h1 h2).mono ?_
  rintro e w1 ⟨P, p, K, G, T, H, rfl, hon⟩
  have HON := Lib.hid hon
  have HC0 := Lib.hid hon.hd.c0
  have HPH := Lib.hid hon.nh.1
  clear hon
  go_wp2_with fail
  refine (newest_any P HON.out.ps HC0.out HPH.out (by omega) st HST.out (by omega)).mono ?_
  rintro e w2 ⟨ra, cap, H2, B, C, rfl, hr, hB, hC, hdj, hps, hs2⟩
  have HPS2 := Lib.hid (hps.below (Sm.alX w2 (.cells #[.int .u8 (bpg (best st 2)).kind, .int .u32 (bpg (best st 2)).number, .int .u64 (bpg (best st 2)).epoch, .int .i64 (bpg (best st 2)).size, .slice ra (bpg (best st 2)).recs.length cap] 47)))
  have HS2 := Lib.hid (hs2.trans (.of_below (H := H2) (Sm.alX w2 (.cells #[.int .u8 (bpg (best st 2)).kind, .int .u32 (bpg (best st 2)).number, .int .u64 (bpg (best st 2)).epoch, .int .i64 (bpg (best st 2)).size, .slice ra (bpg (best st 2)).recs.length cap] 47))))
  have hc2 := bsec_lt (st := st)
  clear hr hB hC hdj hps hs2
  unfold pv
  go_wp2_with (go_at_call 36; refine (other_any _ hc2 _).mono ?_; rintro e w' ⟨rfl, rfl⟩)
  generalize bsec (best st 2) = c at hc2 ⊢
  obtain ⟨z, hz⟩ : ∃ z, z = w2.alloc (.cells #[.int .u8 (bpg (best st 2)).kind, .int .u32 (bpg (best st 2)).number, .int .u64 (bpg (best st 2)).epoch, .int .i64 (bpg (best st 2)).size, .slice ra (bpg (best st 2)).recs.length cap] 47) := ⟨_, rfl⟩
  have hzs : z.heap.size = w2.heap.size + 1 := by rw [hz]; simp
  rw [← hz] at HPS2 HS2 ⊢
  rw [← hzs]
  have HX0 := Lib.hid (cell_of_row _ _ 0 _ _ _ (heap_alloc_new z (.cells #[Value.int .i64 ((1 - c : Nat) : Int), .int .i64 (c : Int)] 3)))
  have HX1 := Lib.hid (cell_of_row _ _ 1 _ _ _ (heap_alloc_new z (.cells #[Value.int .i64 ((1 - c : Nat) : Int), .int .i64 (c : Int)] 3)))
  have HPS3 := Lib.hid (HPS2.out.below (Sm.alX z (.cells #[Value.int .i64 ((1 - c : Nat) : Int), .int .i64 (c : Int)] 3)))
  have HS3 := Lib.hid (HS2.out.trans (.of_below (H := H2) (Sm.alX z (.cells #[Value.int .i64 ((1 - c : Nat) : Int), .int .i64 (c : Int)] 3))))
  have HXN := Lib.hid (show ¬ H2 z.heap.size from fun q => by have := (HPS2.out.lt _ q).2; omega)
  have HXL := Lib.hid (show z.heap.size < (z.alloc (.cells #[Value.int .i64 ((1 - c : Nat) : Int), .int .i64 (c : Int)] 3)).heap.size by simp)
  generalize z.alloc (.cells #[Value.int .i64 ((1 - c : Nat) : Int), .int .i64 (c : Int)] 3) = w3 at HX0 HX1 HPS3 HS3 HXL ⊢
  clear hz hzs HPS2 HS2
  generalize z.heap.size = x at HX0 HX1 HXN HXL ⊢
  have x0 : w3.cell? ⟨x, 0, none⟩ = some (.int .i64 ((1 - c : Nat) : Int)) := HX0.out
  have HC3 := Lib.hid (HS3.out.cell HC0.out HPH.out)
  have HPH3 := Lib.hid (show ¬ H2 P from fun q => by
    rcases HS3.out.own P q with e | e
    · exact HPH.out e
    · have : P < w1.heap.size := World.block_lt_of_cell? w1 _ HC0.out
      omega)
  refine wp_loop_rounds 3 ?_
  rw [rounds_succ]
  go_wp2_with fail
  refine (layRoot_any P (HPS3.out.less (Q' := fun _ => False) (fun _ q => q.elim)) HC3.out (1 - c) (by omega) (fun q => q) HPH3.out 0 (by decide) [] none 0 0 rfl (by decide) (fun i hi => absurd hi (by simp [zl])) (fun x hx => absurd hx (by simp)) (by omega)).mono ?_
  rintro e w4 ⟨rfl, H4, hps4, hs4⟩
  have HPS4 := Lib.hid hps4
  have x1 : w4.cell? ⟨x, 1, none⟩ = some (.int .i64 (c : Int)) := hs4.cell HX1.out HXN.out
  have HC4 := Lib.hid (hs4.cell HC3.out HPH3.out)
  have HPH4 := Lib.hid (show ¬ H4 P from fun q => by
    rcases hs4.own P q with e | e
    · exact HPH3.out e
    · have : P < w3.heap.size := World.block_lt_of_cell? w3 _ HC3.out
      omega)
  have HS4 := Lib.hid (HS3.out.trans hs4)
  clear hps4 hs4 x0
  go_wp2
  rw [rounds_succ]
  go_wp2_with fail
  refine (layRoot_any P (HPS4.out.less (Q' := fun _ => False) (fun _ q => q.elim)) HC4.out c (by omega) (fun q => q) HPH4.out 0 (by decide) [] none 0 0 rfl (by decide) (fun i hi => absurd hi (by simp [zl])) (fun x hx => absurd hx (by simp)) (by omega)).mono ?_
  rintro e w5 ⟨rfl, H5, hps5, hs5⟩
  have HPS5 := Lib.hid hps5
  have HS5 := Lib.hid (HS4.out.trans hs5)
  have HPH5 := Lib.hid (show ∀ b, b < w1.heap.size → ¬ H b → ¬ H5 b from fun b hb hn q => by
    rcases HS5.out.own b q with e | e
    · exact hn e
    · omega)
  clear hps5 hs5 x1
  go_wp2
  rw [rounds_succ]
  have hd5 := HON.out.hd.same (HS5.out.block P (World.block_lt_of_cell? w1 _ HC0.out) HPH.out)
  have hsp5 := HON.out.sp.same (HS5.out.block G HON.out.sp.ltG HON.out.nh.2.2.1) (HS5.out.block T HON.out.sp.ltT HON.out.nh.2.2.2)
  have hkm5 := owns_same HON.out.km (HS5.out.block K HON.out.km.lt HON.out.nh.2.1)
  have HSE := Lib.hid (settle_any w5 P p K G T n 0 (.map []) none 0 0 none 0 0 false [] (fun _ => 0) _ hd5 rfl (fun i hi => absurd hi (by simp [zl])) (fun b o e => by cases e) hkm5 mpf_none hsp5 rfl (secs_none n) HON.out.ne (by decide))
  clear hd5 hsp5 hkm5
  go_wp2_with (go_at_call 38; refine HSE.out.mono ?_; rintro e w6 ⟨rfl, S, hse⟩; have HSS := Lib.hid hse; clear hse)
  go_ret2
  have hne := HON.out.ne
  have hnh := HON.out.nh
  have hlo := HON.out.lo
  have hb1 := HON.out.b.size
  have hWW := HWW.out
  have l1 : P < w1.heap.size := World.block_lt_of_cell? w1 _ HC0.out
  have l2 := HON.out.km.lt
  have l3 := HON.out.sp.ltG
  have l4 := HON.out.sp.ltT
  have h5s := HS5.out.size
  have k1 := HPH5.out P l1 hnh.1
  have k2 := HPH5.out K l2 hnh.2.1
  have k3 := HPH5.out G l3 hnh.2.2.1
  have k4 := HPH5.out T l4 hnh.2.2.2
  have k5 : ¬ H5 w5.heap.size := fun q => by have := (HPS5.out.lt _ q).2; omega
  have hkm5 := owns_same HON.out.km (HS5.out.block K HON.out.km.lt HON.out.nh.2.1)
  have nv : w5.heap.size ≠ P ∧ w5.heap.size ≠ K ∧ w5.heap.size ≠ G ∧ w5.heap.size ≠ T := by omega
  have lo : W.heap.size ≤ P ∧ W.heap.size ≤ K ∧ W.heap.size ≤ G ∧ W.heap.size ≤ T ∧ W.heap.size ≤ w5.heap.size := by omega
  refine ⟨{ P := P, p := p, D := D, K := K, V := w5.heap.size, G := G, T := T, n := n, m := m, nK := 0, nV := 0, DK := .map [], DV := .map [], ta := none, tc := 0, tb := [], kp := fun _ => 0, nw := fun _ => 0, root := 0, ep := 0, fl := false, S := S, ct := updT (updT ct (1 - c) (bt (pg4 82 0 ((0 : Nat) : Int) []))) c (bt (pg4 82 0 ((0 : Nat) : Int) [])), H := H5 }, rfl, ⟨HSS.out.hd, owns_same hkm5 (HSS.out.st.block K (by omega) (fun q => by rcases q with q | q | q; exact hne.1 q.symm; exact hne.2.2.2.1 q; exact hne.2.2.2.2 q)), mpf_none, HSS.out.vm, mpf_none, fun i hi => absurd hi (by simp [zl]), HSS.out.sp, ?_, ⟨hne, nv, ⟨k1, k2, k3, k4, k5⟩, lo, fun b o e => by cases e⟩, ⟨Nat.zero_le _, Nat.zero_le _⟩⟩, new_inv _ hc2 h4 hn h1 h2 rfl rfl HSS.out.tk rfl rfl rfl rfl rfl rfl rfl, rfl, rfl, rfl, rfl, rfl, rfl, rfl⟩
  exact (HPS5.out.mono (M := N + 4 + (1 + m) + (1 + m)) (by omega)).stp HSS.out.st (fun b hb q => by rcases q with q | q | q; exact k1 (q ▸ hb); exact k3 (q ▸ hb); exact k4 (q ▸ hb)) (fun b q => by rcases q with q | q | q <;> omega)
end Go.Proofs.YtokikeenfpligaaGreatDoor.Sh
namespace Go.Proofs.YtokikeenfpligaaGreatDoor.Sh
open Go.RowKit Go.Maps

theorem check_ok (P : Nat) (w : World) (c7 : w.cell? ⟨P, 7, none⟩ = some (.bool false)) : Calls Tryz.prog 57 #[.pointer (some ⟨P, 0, none⟩)] w fun e w' => e = .returned .nilIface ∧ w = w' := by
  go_enter Tryz.func57, Tryz.ntmps57
  go_wp2
  go_ret
  exact ⟨rfl, rfl⟩
theorem check_nil (w : World) : Calls Tryz.prog 57 #[.pointer none] w fun e w' => e = .returned (.iface 78 (.int .i64 1)) ∧ w = w' := by
  go_enter Tryz.func57, Tryz.ntmps57
  go_wp2
  go_ret
  exact ⟨rfl, rfl⟩
theorem number_ok (P : Nat) (n : Int) (w : World) (c7 : w.cell? ⟨P, 7, none⟩ = some (.bool false)) (h0 : 0 ≤ n) (h1 : n < 15006) : Calls Tryz.prog 43 #[.pointer (some ⟨P, 0, none⟩), .int .i64 n] w fun e w' => e = .returned .nilIface ∧ w = w' := by
  have h2 : ¬ 15006 ≤ n := by omega
  go_enter Tryz.func43, Tryz.ntmps43
  go_wp2_with (go_at_call 57; refine (check_ok P _ c7).mono ?_; rintro e w' ⟨rfl, rfl⟩)
  go_ret
  exact ⟨rfl, rfl⟩
theorem number_range (P : Nat) (n : Int) (w : World) (c7 : w.cell? ⟨P, 7, none⟩ = some (.bool false)) (h : n < 0 ∨ 15006 ≤ n) : Calls Tryz.prog 43 #[.pointer (some ⟨P, 0, none⟩), .int .i64 n] w fun e w' => e = .returned (.iface 78 (.int .i64 4)) ∧ w = w' := by
  rcases h with h | h
  · go_enter Tryz.func43, Tryz.ntmps43
    go_wp2_with (go_at_call 57; refine (check_ok P _ c7).mono ?_; rintro e w' ⟨rfl, rfl⟩)
    go_ret
    exact ⟨rfl, rfl⟩
  · have h0 : ¬ n < 0 := by omega
    go_enter Tryz.func43, Tryz.ntmps43
    go_wp2_with (go_at_call 57; refine (check_ok P _ c7).mono ?_; rintro e w' ⟨rfl, rfl⟩)
    go_ret
    exact ⟨rfl, rfl⟩
theorem number_nil (n : Int) (w : World) : Calls Tryz.prog 43 #[.pointer none, .int .i64 n] w fun e w' => e = .returned (.iface 78 (.int .i64 1)) ∧ w = w' := by
  go_enter Tryz.func43, Tryz.ntmps43
  go_wp2_with (go_at_call 57; refine (check_nil _).mono ?_; rintro e w' ⟨rfl, rfl⟩)
  go_ret
  exact ⟨rfl, rfl⟩
theorem epoch_any (P : Nat) (x : Int) (w : World) (c5 : w.cell? ⟨P, 5, none⟩ = some (.int .i64 x)) : Calls Tryz.prog 23 #[.pointer (some ⟨P, 0, none⟩)] w fun e w' => e = .returned (.int .i64 x) ∧ w = w' := by
  go_enter Tryz.func23, Tryz.ntmps23
  go_wp2
  go_ret
  exact ⟨rfl, rfl⟩
theorem epoch_nil (w : World) : Calls Tryz.prog 23 #[.pointer none] w fun e w' => e = .returned (.int .i64 0) ∧ w = w' := by
  go_enter Tryz.func23, Tryz.ntmps23
  go_wp2
  go_ret
  exact ⟨rfl, rfl⟩
theorem free_any (P G T : Nat) (S : Spc) (w : World) (c6 : w.cell? ⟨P, 6, none⟩ = some (.pointer (some ⟨G, 0, none⟩))) (h : SpAt w G T S) : Calls Tryz.prog 24 #[.pointer (some ⟨P, 0, none⟩)] w fun e w' => e = .returned (.int .i64 (S.free : Int)) ∧ w = w' := by
  have c1 := h.c1
  clear h
  go_enter Tryz.func24, Tryz.ntmps24
  go_wp2
  go_ret
  exact ⟨rfl, rfl⟩
theorem free_nil (w : World) : Calls Tryz.prog 24 #[.pointer none] w fun e w' => e = .returned (.int .i64 0) ∧ w = w' := by
  go_enter Tryz.func24, Tryz.ntmps24
  go_wp2
  go_ret
  exact ⟨rfl, rfl⟩
theorem pages_nil (w : World) : Calls Tryz.prog 25 #[.pointer none] w fun e w' => e = .returned (.slice none 0 0) ∧ w = w' := by
  go_enter Tryz.func25, Tryz.ntmps25
  go_wp2
  go_ret
  exact ⟨rfl, rfl⟩
theorem commit_nil (w : World) : Calls Tryz.prog 21 #[.pointer none] w fun e w' => e = .returned (.iface 78 (.int .i64 1)) ∧ w = w' := by
  go_enter Tryz.func21, Tryz.ntmps21
  go_wp2_with (go_at_call 57; refine (check_nil _).mono ?_; rintro e w' ⟨rfl, rfl⟩)
  go_ret
  exact ⟨rfl, rfl⟩
theorem abort_nil (w : World) : Calls Tryz.prog 22 #[.pointer none] w fun e w' => e = .returned (.iface 78 (.int .i64 1)) ∧ w = w' := by
  go_enter Tryz.func22, Tryz.ntmps22
  go_wp2_with (go_at_call 57; refine (check_nil _).mono ?_; rintro e w' ⟨rfl, rfl⟩)
  go_ret
  exact ⟨rfl, rfl⟩
theorem drop_nil' (n : Int) (w : World) : Calls Tryz.prog 20 #[.pointer none, .int .i64 n] w fun e w' => e = .returned (.iface 78 (.int .i64 1)) ∧ w = w' := by
  go_enter Tryz.func20, Tryz.ntmps20
  go_wp2_with (go_at_call 43; refine (number_nil _ _).mono ?_; rintro e w' ⟨rfl, rfl⟩)
  go_ret
  exact ⟨rfl, rfl⟩
theorem write_nil (n ki nu ep si : Int) (ra : Option Addr) (k cap : Nat) (w : World) : Calls Tryz.prog 19 #[.pointer none, .int .i64 n, .agg #[.int .u8 ki, .int .u32 nu, .int .u64 ep, .int .i64 si, .slice ra k cap]] w fun e w' => e = .returned (.iface 78 (.int .i64 1)) ∧ Below w.heap.size w w' := by
  go_enter Tryz.func19, Tryz.ntmps19
  go_wp2_with (go_at_call 43; refine (number_nil _ _).mono ?_; rintro e w' ⟨rfl, rfl⟩)
  go_ret
  exact ⟨rfl, Sm.alX _ _⟩
set_option maxRecDepth 100000 in
theorem read_nil (n : Int) (w : World) : Calls Tryz.prog 14 #[.pointer none, .int .i64 n] w fun e w' => e = .returned (.tuple #[.agg #[.int .u8 0, .int .u32 0, .int .u64 0, .int .i64 0, .slice none 0 0], .iface 78 (.int .i64 1)]) ∧ Below w.heap.size w w' := by
  go_enter Tryz.func14, Tryz.ntmps14
  go_wp2_with (go_at_call 43; refine (number_nil _ _).mono ?_; rintro e w' ⟨rfl, rfl⟩)
  refine bodyPost_ret (v := .tuple #[.agg #[.int .u8 0, .int .u32 0, .int .u64 0, .int .i64 0, .slice none 0 0], .iface 78 (.int .i64 1)]) (by simp [results, Tryz.results14, go_sem]) rfl ⟨rfl, ?_⟩
  exact Sm.alX _ _
end Go.Proofs.YtokikeenfpligaaGreatDoor.Sh
namespace Go.Proofs.YtokikeenfpligaaGreatDoor.Sh
open Go.RowKit Go.Maps

theorem keyN (k : Nat) (h : k < 15006) : keyOf Tryz.prog 3 (.int .i64 (k : Int)) = some (.int .i64 (k : Int)) := key_of (by omega)
set_option maxRecDepth 100000 in
theorem look1 {w : World} {b n : Nat} {D : DataW Unit} {f : Nat → Nat} (h : Owns w b n D) (hf : MpF f D) (k : Nat) (hk : k < 15006) : (Instr.lookup 100 (.map (some b)) (.int .i64 (k : Int)) true).run Tryz.prog w = .ok (.tuple #[.int .i64 (f k : Int), .bool (decide (f k ≠ 0))]) w := by
  obtain ⟨v, ps, hrun, hv⟩ := h.look_ok klaw Tryz.underlying100 (zeroI w) (plainElem_int Tryz.underlying3 (by decide : (Lit.int .i64 0).wf = true)) (keyN k hk)
  obtain ⟨c, rfl, hc, hwc⟩ := plainElem_int_inv Tryz.underlying3 hv
  have h1 := congrArg Prod.fst hc
  simp only at h1
  rw [hf.at_any k] at h1
  injection h1 with h2
  injection h2 with _ h3
  have hh : Maps.has D (.int .i64 (k : Int)) = decide (f k ≠ 0) := by
    rw [Bool.eq_iff_iff, hf.has, decide_eq_true_eq]
    constructor
    · rintro ⟨j, e, q⟩
      obtain rfl : k = j := by omega
      exact q
    · intro q; exact ⟨k, rfl, q⟩
  rw [hrun, hh, ← h3]
set_option maxRecDepth 100000 in
theorem look0 {w : World} {b n : Nat} {D : DataW Unit} {f : Nat → Nat} (h : Owns w b n D) (hf : MpF f D) (k : Nat) (hk : k < 15006) : (Instr.lookup 100 (.map (some b)) (.int .i64 (k : Int)) false).run Tryz.prog w = .ok (.int .i64 (f k : Int)) w := by
  obtain ⟨c, hrun, hat, hwc⟩ := h.lookup_int klaw Tryz.underlying100 Tryz.underlying3 (zeroI w) (keyN k hk)
  rw [hf.at_any k] at hat
  injection hat with h2
  injection h2 with _ h3
  rw [hrun, ← h3]
def wrt (kp nw : Nat → Nat) (k : Nat) : Bool := decide (nw k ≠ 0) && decide (nw k ≠ kp k)
set_option maxRecDepth 100000 in
theorem written_any (P K V nK nV : Nat) (DK DV : DataW Unit) (kp nw : Nat → Nat) (w : World) (c1 : w.cell? ⟨P, 1, none⟩ = some (.map (some K))) (c2 : w.cell? ⟨P, 2, none⟩ = some (.map (some V))) (km : Owns w K nK DK) (kf : MpF kp DK) (vm : Owns w V nV DV) (vf : MpF nw DV) (k : Nat) (hk : k < 15006) :
    Calls Tryz.prog 55 #[.pointer (some ⟨P, 0, none⟩), .int .i64 k] w fun e w' => e = .returned (.bool (wrt kp nw k)) ∧ w = w' := by
  have l1 := look1 vm vf k hk
  have l0 := look0 km kf k hk
  clear km kf vm vf
  by_cases h : nw k = 0
  · have hd : decide (nw k ≠ 0) = false := decide_eq_false (by simpa using h)
    have HW := Lib.hid (show wrt kp nw k = false by unfold wrt; rw [hd]; rfl)
    rw [hd] at l1
    clear h hd
    go_enter Tryz.func55, Tryz.ntmps55
    go_wp2
    go_ret
    exact ⟨Sm.ret_bool HW.out.symm, rfl⟩
  · have hd : decide (nw k ≠ 0) = true := decide_eq_true h
    rw [hd] at l1
    by_cases h2 : nw k = kp k
    · have HW := Lib.hid (show wrt kp nw k = false by unfold wrt; rw [hd, decide_eq_false (by simpa using h2)]; rfl)
      have hb : (((nw k : Nat) : Int) != ((kp k : Nat) : Int)) = false := by simp [h2]
      clear h hd h2
      go_enter Tryz.func55, Tryz.ntmps55
      go_wp2
      go_ret
      exact ⟨Sm.ret_bool HW.out.symm, rfl⟩
    · have HW := Lib.hid (show wrt kp nw k = true by unfold wrt; rw [hd, decide_eq_true h2]; rfl)
      have hb : (((nw k : Nat) : Int) != ((kp k : Nat) : Int)) = true := by simp; omega
      clear h hd h2
      go_enter Tryz.func55, Tryz.ntmps55
      go_wp2
      go_ret
      exact ⟨Sm.ret_bool HW.out.symm, rfl⟩
/-- the sector where a page is laid, and whether there is one -/
def PlaceE (σ : Sd) (k : Nat) (s : Nat) (b : Bool) : Prop := if wrt σ.kp σ.nw k = true then s = σ.nw k ∧ b = true else (if σ.S.lowest 1 = [] then s = 0 ∧ b = false else [s] = σ.S.lowest 1 ∧ b = true)
def Placed (w : World) (σ : Sd) (k : Nat) (e : Ending) (w' : World) : Prop := ∃ s b, e = .returned (.tuple #[.int .i64 ((s : Nat) : Int), .bool b]) ∧ PlaceE σ k s b ∧ Below w.heap.size w w'
theorem low_one {w : World} {s : Nat} {e : Ending} {w' : World} (h : LowAt w [s] e w') : ∃ gb go' cap, e = .returned (.slice (some ⟨gb, go', none⟩) 1 cap) ∧ w'.cell? ⟨gb, go', none⟩ = some (.int .i64 ((s : Nat) : Int)) ∧ Below w.heap.size w w' := by
  obtain ⟨ao, cap, rfl, hx, _, hb, _⟩ := h
  obtain ⟨gb, go', rfl, hc⟩ := hx 0 (by simp [zl])
  exact ⟨gb, go', cap, rfl, hc, hb⟩
set_option maxRecDepth 100000 in
theorem place_any {W w : World} {N : Nat} {σ : Sd} {Q : Nat → Prop} (h : Sh W N w σ Q) (k : Nat) (hk : k < 15006) :
    Calls Tryz.prog 51 #[.pointer (some ⟨σ.P, 0, none⟩), .int .i64 k] w (Placed w σ k) := by
  have HWR := Lib.hid (written_any σ.P σ.K σ.V σ.nK σ.nV σ.DK σ.DV σ.kp σ.nw w h.hd.c1 h.hd.c2 h.km h.kf h.vm h.vf k hk)
  have l0 := look0 h.vm h.vf k hk
  have c2 := h.hd.c2
  have c6 := h.hd.c6
  have HSP := Lib.hid h.sp
  cases hw : wrt σ.kp σ.nw k
  · rw [hw] at HWR
    clear h l0 c2
    cases hl : σ.S.lowest 1 with
    | nil =>
      have HP := Lib.hid (show PlaceE σ k 0 false by unfold PlaceE; rw [hw, if_neg (by decide), if_pos hl]; exact ⟨rfl, rfl⟩)
      have HLO := Lib.hid (lowest_any σ.G σ.T σ.S 1 w HSP.out (by decide))
      rw [hl] at HLO
      clear hl hw
      go_enter Tryz.func51, Tryz.ntmps51
      go_wp2_with (first | (go_at_call 55; refine HWR.out.mono ?_; rintro e w' ⟨rfl, rfl⟩) | (go_at_call 59; refine HLO.out.mono ?_; rintro e w1 ⟨ao, cap, rfl, hx, _, hb, _⟩; have HB := Lib.hid hb; clear hb hx))
      go_ret2
      exact ⟨0, false, rfl, HP.out, HB.out⟩
    | cons s r =>
      have hlen : (σ.S.lowest 1).length ≤ 1 := by unfold Spc.lowest; rw [List.length_take]; omega
      rw [hl] at hlen
      obtain rfl : r = [] := List.eq_nil_of_length_eq_zero (by simp at hlen; simpa using hlen)
      have HP := Lib.hid (show PlaceE σ k s true by unfold PlaceE; rw [hw, if_neg (by decide), if_neg (by rw [hl]; simp)]; exact ⟨hl.symm, rfl⟩)
      have HLO := Lib.hid (lowest_any σ.G σ.T σ.S 1 w HSP.out (by decide))
      rw [hl] at HLO
      clear hl hw hlen
      go_enter Tryz.func51, Tryz.ntmps51
      go_wp2_with (first | (go_at_call 55; refine HWR.out.mono ?_; rintro e w' ⟨rfl, rfl⟩) | (go_at_call 59; refine HLO.out.mono ?_; intro e w1 hx; obtain ⟨gb, go', cap, rfl, hc, hb⟩ := low_one hx; have HB := Lib.hid hb; clear hb hx))
      go_ret2
      exact ⟨s, true, rfl, HP.out, HB.out⟩
  · rw [hw] at HWR
    have HP := Lib.hid (show PlaceE σ k (σ.nw k) true by unfold PlaceE; rw [hw, if_pos rfl]; exact ⟨rfl, rfl⟩)
    clear h hw
    go_enter Tryz.func51, Tryz.ntmps51
    go_wp2_with (go_at_call 55; refine HWR.out.mono ?_; rintro e w' ⟨rfl, rfl⟩)
    go_ret2
    exact ⟨σ.nw k, true, rfl, HP.out, Below.refl _ _⟩
end Go.Proofs.YtokikeenfpligaaGreatDoor.Sh
namespace Go.Proofs.YtokikeenfpligaaGreatDoor.Sh
open Go.RowKit Go.Maps

def updN (f : Nat → Nat) (k s : Nat) : Nat → Nat := fun j => if j = k then s else f j
theorem updN_same (f : Nat → Nat) (k s : Nat) : updN f k s k = s := if_pos rfl
theorem updN_ne {f : Nat → Nat} {k s j : Nat} (h : j ≠ k) : updN f k s j = f j := if_neg h
theorem lk_ne {z : Int} {k : Nat} (h : z ≠ (k : Int)) : (Lit.int .i64 z) ≠ (Lit.int .i64 (k : Int)) := key_ne h
theorem MpF.put {f : Nat → Nat} {D : DataW Unit} (h : MpF f D) {k s : Nat} (hk : k < 15006) (h0 : s ≠ 0) (hs : s ≤ 16384) : MpF (updN f k s) (D.put (.int .i64 (k : Int)) (.lit (.int .i64 (s : Int)))) := by
  have hl : WideAt.IsKeyLit (.int .i64 (k : Int)) := trivial
  refine ⟨h.tidy.put hl _, fun z => ?_, fun j hj => ?_, fun j hj => ?_, fun j => ?_⟩
  · by_cases e : z = (k : Int)
    · subst e
      rw [has_put_same h.tidy.isMap hl]
      exact ⟨fun _ => ⟨k, rfl, by rw [updN_same]; exact h0⟩, fun _ => rfl⟩
    · rw [has_put_other (lk_ne e), h.has z]
      constructor
      · rintro ⟨j, rfl, q⟩; exact ⟨j, rfl, by rw [updN_ne (by omega)]; exact q⟩
      · rintro ⟨j, rfl, q⟩; exact ⟨j, rfl, by rw [updN_ne (by omega)] at q; exact q⟩
  · by_cases e : j = k
    · subst e
      rw [atKey_put_same h.tidy.isMap hl, updN_same]
    · rw [updN_ne e] at hj ⊢
      rw [atKey_put_other (lk_ne (by omega))]
      exact h.at' j hj
  · by_cases e : j = k
    · omega
    · rw [updN_ne e] at hj; exact h.bnd j hj
  · by_cases e : j = k
    · subst e; rw [updN_same]; exact hs
    · rw [updN_ne e]; exact h.val j
theorem MpF.del {f : Nat → Nat} {D : DataW Unit} (h : MpF f D) (k : Nat) : MpF (updN f k 0) (D.del (.int .i64 (k : Int))) := by
  refine ⟨h.tidy.del _, fun z => ?_, fun j hj => ?_, fun j hj => ?_, fun j => ?_⟩
  · by_cases e : z = (k : Int)
    · subst e
      rw [has_del_same]
      constructor
      · intro q; exact absurd q (by decide)
      · rintro ⟨j, e, q⟩
        obtain rfl : k = j := by omega
        rw [updN_same] at q; exact absurd rfl q
    · rw [has_del_other (lk_ne e), h.has z]
      constructor
      · rintro ⟨j, rfl, q⟩; exact ⟨j, rfl, by rw [updN_ne (by omega)]; exact q⟩
      · rintro ⟨j, rfl, q⟩; exact ⟨j, rfl, by rw [updN_ne (by omega)] at q; exact q⟩
  · by_cases e : j = k
    · subst e; rw [updN_same] at hj; exact absurd rfl hj
    · rw [updN_ne e] at hj ⊢
      rw [atKey_del_other (lk_ne (by omega))]
      exact h.at' j hj
  · by_cases e : j = k
    · subst e; rw [updN_same] at hj; exact absurd rfl hj
    · rw [updN_ne e] at hj; exact h.bnd j hj
  · by_cases e : j = k
    · subst e; rw [updN_same]; omega
    · rw [updN_ne e]; exact h.val j
def isB (V b : Nat) : Prop := b = V
theorem turned_wrt {w w' : World} {V : Nat} (h : w.mapTurned w' V) : Wrt (isB V) w w' := by
  obtain ⟨es, clock, es', clock', hb, rfl⟩ := h
  exact ⟨rfl, rfl, rfl, by simp [ChangeMaps.setBlock], fun k hk => ChangeMaps.heap_setBlock_other hb _ (fun e => hk e)⟩
/-- another map's cells, and all that lies elsewhere, stay: a map that is now turns -/
theorem Sh.nowMap {W w w' : World} {N : Nat} {σ : Sd} {Q : Nat → Prop} (h : Sh W N w σ Q) (ht : w.mapTurned w' σ.V) (nV : Nat) (DV : DataW Unit) (nw : Nat → Nat) (hm : Owns w' σ.V nV DV) (hf : MpF nw DV) (hn : nV ≤ N + 1) : Sh W (N + 1) w' { σ with nV := nV, DV := DV, nw := nw } Q := by
  have hw := turned_wrt ht
  obtain ⟨v1, v2, v3, v4⟩ := h.se.nv
  obtain ⟨h1, h2, h3, h4, h5⟩ := h.se.nh
  have hb : ∀ b, b ≠ σ.V → w'.heap[b]? = w.heap[b]? := fun b hb => hw.block b hb
  exact ⟨h.hd.same (hb _ v1.symm), owns_same h.km (hb _ v2.symm), h.kf, hm, hf, ints_same h.ti (fun b o e => hb b (h.se.ta b o e).2.2.2.2.1), h.sp.same (hb _ v3.symm) (hb _ v4.symm),
    (h.ps.mono (Nat.le_succ N)).stp hw.stp (fun b hb q => h5 (q ▸ hb)) (fun b q => by rw [show b = σ.V from q]; exact h.se.lo.2.2.2.2),
    ⟨h.se.ne, h.se.nv, h.se.nh, h.se.lo, fun b o e => by obtain ⟨a1, a2, a3, a4, a5, a6, a7, a8⟩ := h.se.ta b o e; exact ⟨a1, a2, a3, a4, a5, a6, a7, by rw [hw.size]; exact a8⟩⟩, ⟨Nat.le_succ_of_le h.nb.1, hn⟩⟩
/-- the sectors that are taken turn -/
theorem Sh.space {W w w' : World} {N : Nat} {σ : Sd} {Q : Nat → Prop} (h : Sh W N w σ Q) (S : Spc) (hs : SpAt w' σ.G σ.T S) (hw : Wrt (spH σ.G σ.T) w w') : Sh W N w' { σ with S := S } Q := by
  obtain ⟨e1, e2, e3, e4, e5⟩ := h.se.ne
  obtain ⟨v1, v2, v3, v4⟩ := h.se.nv
  obtain ⟨h1, h2, h3, h4, h5⟩ := h.se.nh
  have hb : ∀ b, b ≠ σ.G → b ≠ σ.T → w'.heap[b]? = w.heap[b]? := fun b x y => hw.block b (fun q => by rcases q with q | q; exact x q; exact y q)
  exact ⟨h.hd.same (hb _ e2 e3), owns_same h.km (hb _ e4 e5), h.kf, owns_same h.vm (hb _ v3 v4), h.vf, ints_same h.ti (fun b o e => by obtain ⟨_, _, a3, a4, _⟩ := h.se.ta b o e; exact hb b a3 a4), hs,
    h.ps.stp hw.stp (fun b hb q => by rcases q with q | q; exact h3 (q ▸ hb); exact h4 (q ▸ hb)) (fun b q => by have := h.se.lo; rcases q with q | q <;> omega),
    ⟨h.se.ne, h.se.nv, h.se.nh, h.se.lo, fun b o e => by obtain ⟨a1, a2, a3, a4, a5, a6, a7, a8⟩ := h.se.ta b o e; exact ⟨a1, a2, a3, a4, a5, a6, a7, by rw [hw.size]; exact a8⟩⟩, h.nb⟩
end Go.Proofs.YtokikeenfpligaaGreatDoor.Sh
namespace Go.Proofs.YtokikeenfpligaaGreatDoor.Sh
open Go.RowKit Go.Maps

/-- the sectors that hold what is kept -/
def Kept (σ : Sd) (q : Nat) : Prop := q < 2 ∨ q ∈ σ.tb ∨ ∃ k, σ.kp k ≠ 0 ∧ σ.kp k = q
theorem Inv.kept {σ : Sd} {Q : Nat → Prop} {pk pn : Nat → Sm.Pg} (h : Inv σ Q pk pn) : Inv σ (Kept σ) pk pn :=
  ⟨h.n4, h.n1, h.m1, h.m2, h.sn, h.tk, h.sk, h.sw, h.one, h.it, h.ck, h.cn, h.tt, h.r2, h.e1, h.st, h.fl, ⟨fun _ q => .inl q, fun _ q => .inr (.inl q), fun k q => .inr (.inr ⟨k, q, rfl⟩)⟩⟩
theorem Inv.le {σ : Sd} {Q : Nat → Prop} {pk pn : Nat → Sm.Pg} (h : Inv σ Q pk pn) (q : Nat) (hq : Kept σ q) : Q q := by
  obtain ⟨h1, h2, h3⟩ := h.sq
  rcases hq with e | e | ⟨k, e, rfl⟩
  · exact h1 q e
  · exact h2 q e
  · exact h3 k e
def updP (f : Nat → Sm.Pg) (k : Nat) (p : Sm.Pg) : Nat → Sm.Pg := fun j => if j = k then p else f j
theorem updP_same (f : Nat → Sm.Pg) (k : Nat) (p : Sm.Pg) : updP f k p k = p := if_pos rfl
theorem updP_ne {f : Nat → Sm.Pg} {k j : Nat} {p : Sm.Pg} (h : j ≠ k) : updP f k p j = f j := if_neg h
theorem updT_same (ct : Nat → ByteArray) (q : Nat) (t : ByteArray) : updT ct q t q = t := if_pos rfl
theorem updT_ne {ct : Nat → ByteArray} {q j : Nat} {t : ByteArray} (h : j ≠ q) : updT ct q t j = ct j := if_neg h
theorem rt_ne {ct ct' : Nat → ByteArray} {r : Nat} {x : Option (Nat × List Nat)} (h : Rt ct r x) (e : ct' r = ct r) : Rt ct' r x := by
  cases x with
  | none => exact (congrArg goodT e).trans h
  | some y => exact ⟨e.trans h.1, h.2⟩
theorem wrt_no {kp nw : Nat → Nat} {k : Nat} (h : wrt kp nw k = false) : nw k = 0 ∨ nw k = kp k := by
  unfold wrt at h
  rw [Bool.and_eq_false_iff, decide_eq_false_iff_not, decide_eq_false_iff_not] at h
  omega
theorem wrt_yes {kp nw : Nat → Nat} {k : Nat} (h : wrt kp nw k = true) : nw k ≠ 0 ∧ nw k ≠ kp k := by
  unfold wrt at h
  rw [Bool.and_eq_true, decide_eq_true_eq, decide_eq_true_eq] at h
  exact h
/-- a sector that nothing else holds: nothing that is kept, and no other page that is now -/
structure Own1 (σ : Sd) (k s : Nat) : Prop where
  s2 : 2 ≤ s
  sn : s < σ.n
  tb : s ∉ σ.tb
  kp : ∀ j, σ.kp j ≠ 0 → σ.kp j ≠ s
  nw : ∀ j, j ≠ k → σ.nw j ≠ 0 → σ.nw j ≠ s
  cl : ∀ i, (σ.S.claim s).1.t i = true ↔ i = s ∨ σ.S.t i = true
  cn : (σ.S.claim s).1.n = σ.S.n
theorem Inv.own1 {σ : Sd} {Q : Nat → Prop} {pk pn : Nat → Sm.Pg} (h : Inv σ Q pk pn) {k s : Nat} (hp : PlaceE σ k s true) : Own1 σ k s := by
  unfold PlaceE at hp
  split at hp
  · rename_i hw
    obtain ⟨rfl, -⟩ := hp
    obtain ⟨h0, h1⟩ := wrt_yes hw
    obtain ⟨b1, b2⟩ := h.sw.fl k h0
    have ht : σ.S.t (σ.nw k) = true := (h.tk _).2 (.inr (.inr (.inr ⟨k, rfl, h0⟩)))
    have hc := claim_no (S := σ.S) (s := (σ.nw k : Int)) (.inr (.inr ht))
    refine ⟨b1, b2, h.sw.dj k h0, fun j hj e => ?_, fun j hj h2 e => hj (h.sw.inj j k h2 e), fun i => ?_, by rw [hc]⟩
    · have := h.one k j h0 e.symm
      subst this
      exact h1 e.symm
    · rw [hc]
      exact ⟨.inr, fun q => by rcases q with rfl | q; exact ht; exact q⟩
  · split at hp
    · exact absurd hp.2 (by decide)
    · obtain ⟨hm, -⟩ := hp
      obtain ⟨m1, _, m3⟩ := lowest_mem (S := σ.S) (c := 1) (s := s) (by rw [← hm]; exact List.mem_singleton.2 rfl)
      have hno : ¬ (s < 2 ∨ s ∈ σ.tb ∨ (∃ k, σ.kp k = s ∧ σ.kp k ≠ 0) ∨ (∃ k, σ.nw k = s ∧ σ.nw k ≠ 0)) := fun q => by rw [(h.tk s).2 q] at m3; exact absurd m3 (by decide)
      obtain ⟨_, c2, _, c4⟩ := claim_t m1 m3
      refine ⟨by omega, by rw [← h.sn]; exact m1, fun q => hno (.inr (.inl q)), fun j hj e => hno (.inr (.inr (.inl ⟨j, e, hj⟩))), fun j _ hj e => hno (.inr (.inr (.inr ⟨j, e, hj⟩))), fun i => ?_, c4⟩
      rw [c2]
      unfold updB
      by_cases e : i = s
      · simp [e]
      · simp [e]
theorem Inv.write {σ : Sd} {pk pn : Nat → Sm.Pg} (h : Inv σ (Kept σ) pk pn) {k s : Nat} (hp : PlaceE σ k s true) (pg : Sm.Pg) (hg : PgOk pg) (hk : pg.number = (k : Int)) (H' : Nat → Prop) (nV : Nat) (DV : DataW Unit) :
    Inv { σ with nw := updN σ.nw k s, ct := updT σ.ct s (bt pg), S := (σ.S.claim s).1, H := H', nV := nV, DV := DV } (Kept σ) pk (updP pn k pg) := by
  have o := h.own1 hp
  have hkw : ∀ i, (∃ j, σ.kp j = i ∧ σ.kp j ≠ 0) ∨ (∃ j, σ.nw j = i ∧ σ.nw j ≠ 0) → (∃ j, σ.kp j = i ∧ σ.kp j ≠ 0) ∨ (∃ j, updN σ.nw k s j = i ∧ updN σ.nw k s j ≠ 0) := by
    intro i q
    rcases q with q | ⟨j, rfl, q⟩
    · exact .inl q
    · by_cases e : j = k
      · subst e
        unfold PlaceE at hp
        split at hp
        · rw [← hp.1]
          exact .inr ⟨j, by rw [updN_same], by rw [updN_same]; have := o.s2; omega⟩
        · rename_i hw
          rcases wrt_no (by simpa using hw) with e | e
          · exact absurd e q
          · exact .inl ⟨j, e.symm, by rw [← e]; exact q⟩
      · exact .inr ⟨j, updN_ne e, by rw [updN_ne e]; exact q⟩
  refine ⟨h.n4, h.n1, h.m1, h.m2, o.cn.trans h.sn, fun i => ?_, h.sk, ?_, fun j i hj e => ?_, h.it, fun i hi => ?_, fun i hi => ?_, fun i hi => ?_, h.r2, h.e1, ?_, h.fl, h.sq⟩
  · show (σ.S.claim s).1.t i = true ↔ _
    rw [o.cl i, h.tk i]
    constructor
    · rintro (rfl | q | q | q)
      · exact .inr (.inr (.inr ⟨k, updN_same _ _ _, by have := o.s2; show updN σ.nw k _ k ≠ 0; rw [updN_same]; omega⟩))
      · exact .inl q
      · exact .inr (.inl q)
      · exact .inr (.inr (hkw i q))
    · rintro (q | q | q | ⟨j, q1, q2⟩)
      · exact .inr (.inl q)
      · exact .inr (.inr (.inl q))
      · exact .inr (.inr (.inr (.inl q)))
      · by_cases e : j = k
        · subst e
          simp only [updN_same] at q1
          exact .inl q1.symm
        · simp only [updN_ne e] at q1 q2
          exact .inr (.inr (.inr (.inr ⟨j, q1, q2⟩)))
  · refine ⟨h.sw.nd, h.sw.tl, fun j hj => ?_, fun j i hj e => ?_, fun j hj => ?_⟩
    · by_cases e : j = k
      · subst e; simp only [updN_same]; exact ⟨o.s2, o.sn⟩
      · simp only [updN_ne e] at hj ⊢; exact h.sw.fl j hj
    · by_cases e1 : j = k
      · subst e1
        by_cases e2 : i = j
        · exact e2.symm
        · simp only [updN_same, updN_ne e2] at e hj
          exact absurd e.symm (o.nw i e2 (by rw [← e]; exact hj))
      · by_cases e2 : i = k
        · subst e2
          simp only [updN_same, updN_ne e1] at e hj
          exact absurd e (o.nw j e1 hj)
        · simp only [updN_ne e1, updN_ne e2] at e hj
          exact h.sw.inj j i hj e
    · by_cases e : j = k
      · subst e; simp only [updN_same]; exact o.tb
      · simp only [updN_ne e] at hj ⊢; exact h.sw.dj j hj
  · by_cases e1 : j = k
    · subst e1
      simp only [updN_same] at e hj
      exact absurd e.symm (o.kp i (by rw [← e]; exact hj))
    · simp only [updN_ne e1] at e hj
      exact h.one j i hj e
  · show updT σ.ct s (bt pg) (σ.kp i) = _ ∧ _
    rw [updT_ne (o.kp i hi)]
    exact h.ck i hi
  · show updT σ.ct s (bt pg) (updN σ.nw k s i) = _ ∧ _
    by_cases e : i = k
    · subst e
      rw [updN_same, updT_same, updP_same]
      exact ⟨rfl, hg, hk⟩
    · have hi' : σ.nw i ≠ 0 := by simpa only [updN_ne e] using hi
      rw [updN_ne e, updT_ne (o.nw i e hi'), updP_ne e]
      exact h.cn i hi'
  · show updT σ.ct s (bt pg) σ.tb[i] = _
    rw [updT_ne (fun e => o.tb (by rw [← e]; exact List.getElem_mem hi))]
    exact h.tt i hi
  · obtain ⟨st, h1, h2⟩ := h.st
    exact ⟨st, fun r hr => rt_ne (h1 r hr) (updT_ne (by have := o.s2; omega)), h2⟩
end Go.Proofs.YtokikeenfpligaaGreatDoor.Sh

/-
  THE STATEMENTS' OWN sure. No condition.
-/
import Derived.Test.YtgimphkamjojpaaDoorE45
import Derived.Test.YtgimphkamjojpaaDoorE46
namespace Go.Proofs.YtgimphkamjojpaaDoor
open Go.RowKit Ti Qd Go.Maps Go.WideMaps Ru

theorem Gs.made {B : Nat} {w0 W w3 : World} {H0 : Nat → Prop} {G P M b l room : Nat} {s : GS} {bx : List (Nat × Obj)} {o : Obj} (h : Gs B w0 H0 G P M b l room s bx W) (hb : Below W.heap.size W w3) (hg : w3.heap[W.heap.size]? = some o) : Gs B w0 H0 G P M b l room s ((W.heap.size, o) :: bx) w3 := by
  have h' := h.below hb
  obtain ⟨⟨H, h1, h2, h3⟩, h4, h5⟩ := h
  refine ⟨⟨H, h1.below hb (Nat.le_refl _), h2.trans (.of_below hb), fun x hx => ?_⟩, List.nodup_cons.2 ⟨fun hm => ?_, h4⟩, h5⟩
  · rcases List.mem_cons.1 hx with rfl | hx
    · exact ⟨h2.size, fun e => by have := (h1.lt _ e).2; exact Nat.lt_irrefl _ this, hg⟩
    · exact ⟨(h3 x hx).1, (h3 x hx).2.1, (hb.block _ (lt_of_block (h3 x hx).2.2)).trans (h3 x hx).2.2⟩
  · obtain ⟨y, hy, e⟩ := List.mem_map.1 hm
    have := lt_of_block (h3 y hy).2.2
    omega
theorem Gs.store2 {B : Nat} {w0 w : World} {H0 : Nat → Prop} {G P M b l room : Nat} {s : GS} {bx : List (Nat × Obj)} (h : Gs B w0 H0 G P M b l room s bx w) : ∃ Hs, St B w P s.1 room Hs ∧ (∀ x ∈ bx, ¬ Hs x.1) ∧ ∀ (L' : List Sq) (w' : World), Goes B w P room Hs L' w' → Gs B w0 H0 G P M b l room (L', s.2) bx w' := by
  obtain ⟨⟨H, h1, h2, h3⟩, h4, h5⟩ := h
  have h1' := h1
  obtain ⟨Hs0, hs0, rfl⟩ := h1
  refine ⟨Hs0, hs0.st, fun x hx e => (h3 x hx).2.1 (.inr e), fun L' w' hg => ?_⟩
  refine Gs.goes ⟨h1', h2, h3⟩ h4 h5 ?_
  obtain ⟨Hs', k1, k2⟩ := hg
  have g1 := k2.block G hs0.ltG hs0.nG
  have g2 := k2.block M hs0.kn.lt hs0.nM
  refine ⟨_, ⟨Hs', ⟨k1, (World.cell?_of_block g1).trans hs0.c0, (World.cell?_of_block g1).trans hs0.c1, (World.cell?_of_block g1).trans hs0.c2, (World.cell?_of_block g1).trans hs0.c3, hs0.kn.moved g2, hs0.bG, hs0.bM, fun e => ?_, fun e => ?_, hs0.GM⟩, rfl⟩, ⟨k2.os, k2.tape, k2.output, k2.size, fun k hk hn => k2.block k hk fun e => hn (.inr e), fun k hk => ?_⟩⟩
  · rcases k2.own G e with q | q
    · exact hs0.nG q
    · have := hs0.ltG; omega
  · rcases k2.own M e with q | q
    · exact hs0.nM q
    · have := hs0.kn.lt; omega
  · rcases hk with rfl | hk
    · exact .inl (.inl rfl)
    · rcases k2.own k hk with q | q
      · exact .inl (.inr q)
      · exact .inr q
theorem Gs.bel {B : Nat} {w0 w : World} {H0 : Nat → Prop} {G P M b l room : Nat} {s : GS} {bx : List (Nat × Obj)} (h : Gs B w0 H0 G P M b l room s bx w) (hH : ∀ x, H0 x → B ≤ x) (hB : B ≤ w0.heap.size) : Below B w0 w := by
  obtain ⟨⟨H, h1, h2, h3⟩, _, _⟩ := h
  exact h2.below hH hB
theorem count_is {B : Nat} {w : World} {P : Nat} {L : List Sq} {room : Nat} {H : Nat → Prop} (h : St B w P L room H) (id : Int) (ho : Ok L id) (c : Int) (hc : (at' L id).cnt = c) :
    Calls Tryd.prog 20 #[.pointer (some ⟨P, 0, none⟩), .int .i64 id] w fun e w' => e = .returned (.tuple #[.int .i64 c, .nilIface]) ∧ Below w.heap.size w w' := by
  subst hc
  exact count_ok h id ho
theorem new_lit (room : Nat) (k : Int) (e : (room : Int) = k) (w : World) (h1 : 1 ≤ room) (h2 : room ≤ 65536) : Calls Tryd.prog 7 #[.int .i64 k] w (Made w room) := by
  subst e
  exact new_ok room w h1 h2
/-- the four numbers of sure -/
def sX (i : Nat) : Nat := if i = 0 then 455 else if i = 1 then 456 else if i = 2 then 519 else 520
theorem sF (x y : Nat) (hx : x < 32) (hy : y < 32) : fF sX 32 4 (y * 32 + x) = blk 7 7 (0 + x) (0 + y) := by
  have e : fF sX 32 4 = upd (upd (upd (upd (fun _ => false) 231 true) 232 true) 263 true) 264 true := rfl
  rw [e]
  unfold upd blk
  by_cases h4 : y * 32 + x = 264
  · rw [if_pos h4, decide_eq_true (by omega)]
  rw [if_neg h4]
  by_cases h3 : y * 32 + x = 263
  · rw [if_pos h3, decide_eq_true (by omega)]
  rw [if_neg h3]
  by_cases h2 : y * 32 + x = 232
  · rw [if_pos h2, decide_eq_true (by omega)]
  rw [if_neg h2]
  by_cases h1 : y * 32 + x = 231
  · rw [if_pos h1, decide_eq_true (by omega)]
  rw [if_neg h1, decide_eq_false (by omega)]
theorem sOk : LayOk [] 2 32 (fF sX 32 4) 1024 := lay_ok inv_nil 2 32 (by omega) rfl _ 1024 (by omega)
theorem blk_fld : fldC (blk 7 7) 0 0 32 32 = 4 := by decide +kernel
/-- what must come of it -/
structure SureOk (S : GS) (id : Int) (A B C : GS × Int) : Prop where
  kS : GOk 8 12 S
  lS : Lv S.1 2 id
  kA : GOk 8 12 A.1
  kB : GOk 8 12 B.1
  lA : Lv A.1.1 3 A.2
  lA2 : Lv B.1.1 3 A.2
  lC : Ok C.1.1 C.2
  eS : S.1.length ≤ 15
  eA : A.1.1.length ≤ 22
  eB : B.1.1.length ≤ 23
  eC : C.1.1.length ≤ 500
  b : B.2 = id
  c : (at' C.1.1 C.2).cnt = 4
  aI : I1 A.2
theorem sure_of (S : GS) (id : Int) (A B C : GS × Int) (kS : GOk 8 12 S) (hw : Wn S.1 2 id (blk 7 7) 0 0) (hl : S.1.length ≤ 15) (hA : A = wideG S 2 id) (hB : B = ctrG A.1 A.2) (hC : C = growQ 8 12 2 B.1 A.2 4) : SureOk S id A B C := by
  have al : Alone (blk 7 7) 0 0 (2 ^ (2 + 3)) := fun x y h => decide_eq_false (by
    have h : x < 0 ∨ 0 + ((32 : Nat) : Int) ≤ x ∨ y < 0 ∨ 0 + ((32 : Nat) : Int) ≤ y := h
    omega)
  have ra := wide_res kS (n := 2) (by decide) hw al
  rw [← hA] at ra
  have rb := ctr_res ra.ok (n := 2) (by decide) ra.win
  rw [← hB] at rb
  have aB := ra.win.ext ra.ok.inv rb.ext
  have rc := grow_ok 8 12 2 Tt _ (uni_any 8 12) B.1 A.2 4 _ _ _ rb.ok (by decide) (by decide) aB trivial
  rw [← hC] at rc
  have la := ra.len
  have lb := rb.len
  have lc := rc.len
  have ec : cst 2 4 = 365 := by decide
  refine ⟨kS, hw.1, ra.ok, rb.ok, ra.win.1, aB.1, rc.win.1.1, hl, by omega, by omega, by omega, ?_, ?_, (ok_i1 (by omega) ra.win.1.1).1⟩
  · have h1 := (hw.ext kS.inv ra.ext).ext ra.ok.inv rb.ext
    exact Wn.uniq rb.ok.inv rb.win h1
  · have h1 := cnt_wn rc.ok.inv 2 C.2 _ _ _ (by decide) rc.win
    rw [blk_gens] at h1
    rw [h1]
    show ((fldC (blk 7 7) 0 0 32 32 : Nat) : Int) = 4
    rw [blk_fld]
    rfl
theorem sure_q : ∃ (L : List Sq) (id : Int) (A B C : GS × Int), layQ [] 2 32 (fF sX 32 4) 1024 = (L, id) ∧ A = wideG (L, fun _ _ => none) 2 id ∧ B = ctrG A.1 A.2 ∧ C = growQ 8 12 2 B.1 A.2 4 ∧ SureOk (L, fun _ _ => none) id A B C := by
  obtain ⟨R, hR⟩ : ∃ R, R = layQ [] 2 32 (fF sX 32 4) 1024 := ⟨_, rfl⟩
  have ho := sOk
  have hln := ho.len
  have hcl := ho.cel
  have hlv := ho.lv
  have hiv := ho.inv
  rw [← hR] at hln hcl hlv hiv
  have h2 := fF_few sX 32 1024 4
  have h3 : trN (fF sX 32 4) 1024 * (2 + 1) ≤ 4 * 3 := Nat.mul_le_mul h2 (by decide)
  simp only [List.length_nil] at hln
  exact ⟨R.1, R.2, _, _, _, hR.symm, rfl, rfl, rfl, sure_of _ _ _ _ _ (gok_new 8 12 hiv) ⟨hlv, fun x y hx hy => by
    have hx : x < 32 := hx
    have hy : y < 32 := hy
    rw [show cel R.1 2 R.2 x y = _ from hcl x y hx hy, sF x y hx hy, decide_eq_true (by omega), Bool.true_and]⟩ (by show R.1.length ≤ 15; omega) rfl rfl rfl⟩
set_option maxRecDepth 100000 in
set_option maxHeartbeats 4000000 in
theorem sure_any (w : World) : Calls Tryd.prog 6 #[] w fun e w' => e = .returned (.bool true) ∧ Below w.heap.size w w' := by
  have HN := Lib.hid (new_lit 500 500 rfl w (by decide) (by decide))
  obtain ⟨sL, sI, sA, sB, sC, hLQ, hA, hB, hC, hQ⟩ := sure_q
  obtain ⟨sS, hsS⟩ : ∃ sS : GS, sS = (sL, fun _ _ => none) := ⟨_, rfl⟩
  rw [← hsS] at hQ hA
  have HQ := Lib.hid hQ
  have HLQ := Lib.hid hLQ
  have HDE := Lib.hid (And.intro hA (And.intro hB (And.intro hC hsS)))
  clear hLQ hA hB hC hQ hsS
  go_enter Tryd.func6, Tryd.ntmps6
  go_wp2_with fail
  refine HN.out.mono ?_
  rintro e w1 ⟨P, H, rfl, hs, hb⟩
  have HB1 := Lib.hid hb
  have HG := Lib.hid (show Calls Tryd.prog 8 #[.pointer (some ⟨P, 0, none⟩), .agg #[.int .u16 8, .int .u16 12]] w1 (GMade w.heap.size w1 P 8 12 500 [] H) from gnew_ok hs hb.size 8 12 (by decide))
  have HS1 := Lib.hid hs
  clear hs hb HN
  go_wp2_with fail
  refine HG.out.mono ?_
  rintro e w2 ⟨G, M, H', rfl, hgr, hst⟩
  have HH := Lib.hid (show (∀ x, H' x → w.heap.size ≤ x) ∧ Below w.heap.size w w2 ∧ w.heap.size ≤ w2.heap.size from ⟨fun x hx => (hgr.lt x hx).1, HB1.out.trans (hst.below (fun x hx => (HS1.out.lt x hx).1) HB1.out.size), Nat.le_trans HB1.out.size hst.size⟩)
  have HS := Lib.hid ((Gs.start hgr).alloc (.cells #[.int .u64 455, .int .u64 456, .int .u64 519, .int .u64 520] 53))
  clear hgr hst HG HS1 HB1
  have HX := Lib.hid (show LiesX (w2.alloc (.cells #[.int .u64 455, .int .u64 456, .int .u64 519, .int .u64 520] 53)) (some ⟨w2.heap.size, 0, none⟩) 4 sX from fun i hi => ⟨w2.heap.size, 0, rfl, by
    obtain ⟨c0, c1, c2, c3⟩ := row4 (heap_alloc_new w2 (.cells #[.int .u64 455, .int .u64 456, .int .u64 519, .int .u64 520] 53))
    rcases (show i = 0 ∨ i = 1 ∨ i = 2 ∨ i = 3 by omega) with rfl | rfl | rfl | rfl
    · exact c0
    · exact c1
    · exact c2
    · exact c3, by
    rcases (show i = 0 ∨ i = 1 ∨ i = 2 ∨ i = 3 by omega) with rfl | rfl | rfl | rfl <;> decide⟩)
  go_wp2_with fail
  generalize World.alloc _ _ = W at HS HX ⊢
  refine (show Calls Tryd.prog 9 #[.slice (some ⟨w2.heap.size, 0, none⟩) 4 4, .int .i64 32] W fun e W' => e = .returned (.slice (some ⟨W.heap.size, 0, none⟩) 1024 1024) ∧ FI W sX 32 1024 4 W' from field_ok _ 4 4 sX 32 W HX.out (by decide) (by decide) (by decide)).mono ?_
  rintro e w3 ⟨rfl, hfi⟩
  have HS3 := Lib.hid (HS.out.made hfi.bel hfi.row)
  clear hfi HX HS
  obtain ⟨Hs, hst, hno, hgo⟩ := HS3.out.store2
  have hL := (laid_32 hst (fF sX 32 4) W.heap.size HS3.out.b0 (hno _ List.mem_cons_self) (by rw [HLQ.out]; have h1 := HQ.out.eS; rw [HDE.out.2.2.2] at h1; exact Nat.le_trans h1 (by decide)))
  rw [HLQ.out] at hL
  have HL := Lib.hid hL
  have HGO := Lib.hid hgo
  clear hst hno hgo hL
  go_wp2_with fail
  refine HL.out.mono ?_
  rintro e w4 ⟨rfl, hg⟩
  have HS4 := Lib.hid (show Gs _ _ _ _ _ _ _ _ _ sS [] w4 from HDE.out.2.2.2 ▸ (HGO.out _ _ hg).sub (by' := []) (fun x hx => by cases hx) List.nodup_nil)
  clear hg HL HGO HS3
  obtain ⟨H1, h1, h2⟩ := HS4.out.call
  have HC := Lib.hid (show Calls Tryd.prog 17 #[.pointer (some ⟨G, 0, none⟩), .int .i64 sI] w4 fun e w' => e = .returned (.tuple #[.int .i64 sA.2, .nilIface]) ∧ Gt w.heap.size w4 G P M 8 12 500 H1 sA.1 w' from by
    have h3 := HQ.out.eA
    rw [HDE.out.1] at h3 ⊢
    exact wideP_ok h1 HQ.out.kS 2 (by decide) sI HQ.out.lS (Nat.le_trans h3 (by decide)))
  have HX := Lib.hid h2
  clear h1 h2
  go_wp2_with fail
  refine HC.out.mono ?_
  rintro e w5 ⟨rfl, hg⟩
  have HS5 := Lib.hid (HX.out _ _ hg)
  clear hg HC HX HS4
  obtain ⟨H1, h1, h2⟩ := HS5.out.call
  have HC := Lib.hid (show Calls Tryd.prog 13 #[.pointer (some ⟨G, 0, none⟩), .int .i64 sA.2] w5 fun e w' => e = .returned (.tuple #[.int .i64 sI, .nilIface]) ∧ Gt w.heap.size w5 G P M 8 12 500 H1 sB.1 w' from by
    rw [← HQ.out.b]
    have h3 := HQ.out.eB
    rw [HDE.out.2.1] at h3 ⊢
    exact center_ok h1 2 (by decide) sA.2 HQ.out.lA (Nat.le_trans h3 (by decide)))
  have HX := Lib.hid h2
  clear h1 h2
  go_wp2_with fail
  refine HC.out.mono ?_
  rintro e w6 ⟨rfl, hg⟩
  have HS6 := Lib.hid (HX.out _ _ hg)
  clear hg HC HX HS5
  obtain ⟨H1, h1, h2⟩ := HS6.out.call
  have HC := Lib.hid (show Calls Tryd.prog 11 #[.pointer (some ⟨G, 0, none⟩), .int .i64 sA.2, .int .i64 4] w6 fun e w' => e = .returned (.tuple #[.int .i64 sC.2, .nilIface]) ∧ Gt w.heap.size w6 G P M 8 12 500 H1 sC.1 w' from by
    have h3 := HQ.out.eC
    rw [HDE.out.2.2.1] at h3 ⊢
    exact growP_ok (by decide) h1 HQ.out.kB 2 (by decide) sA.2 HQ.out.lA2 4 (by decide) h3)
  have HX := Lib.hid h2
  clear h1 h2
  go_wp2_with fail
  refine HC.out.mono ?_
  rintro e w7 ⟨rfl, hg⟩
  have HS7 := Lib.hid (HX.out _ _ hg)
  clear hg HC HX HS6
  obtain ⟨Hs, hst, _⟩ := HS7.out.store
  have HC := Lib.hid (count_is hst sC.2 HQ.out.lC 4 HQ.out.c)
  clear hst
  go_wp2_with fail
  refine HC.out.mono ?_
  rintro e w8 ⟨rfl, hb⟩
  have HS8 := Lib.hid (HS7.out.below hb)
  clear hb HC HS7
  obtain ⟨H1, h1, _⟩ := HS8.out.call
  have HK := Lib.hid (known_pos h1 sA.2 4 sC.2 HQ.out.aI (by unfold I1; decide) (by rw [HDE.out.2.2.1]; exact grow_kn 8 12 2 sB.1 sA.2 4))
  clear h1
  have b1 : (sI == sI) = true := by simp
  go_wp2_with (go_at_call 18; refine HK.out.mono ?_; rintro e w9 ⟨⟨n, hn, rfl⟩, rfl⟩; have hn2 : (0 : Int) < (n : Int) := by omega)
  go_ret
  exact ⟨rfl, HH.out.2.1.trans (HS8.out.bel HH.out.1 HH.out.2.2)⟩
end Go.Proofs.YtgimphkamjojpaaDoor

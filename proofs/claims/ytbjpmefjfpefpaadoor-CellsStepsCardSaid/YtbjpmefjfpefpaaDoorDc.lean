/-
  THE WALK of the document's Put. Conditions: the list is the call's own.
-/
import Derived.Test.YtbjpmefjfpefpaaDoorDb
namespace Go.Proofs.YtbjpmefjfpefpaaDoor
open Go.RowKit Ru Ce

/-- what Put answers -/
def PutR (w : World) (B : Nat) (v0 : Value) (L : List Cel) (e : Ending) (w' : World) : Prop := ∃ v, e = .returned v ∧ OwnC 24 w' B v L.length L ∧ (v = v0 ∨ OwnC 24 w' w.heap.size v L.length L) ∧ Below w.heap.size w w'
/-- a cell's box -/
def Bx (w : World) (g : Nat) (x : Cel) : Prop := w.cell? ⟨g, 0, none⟩ = some (.int .i64 x.1) ∧ w.cell? ⟨g, 1, none⟩ = some (.int .i64 x.2)
theorem Bx.below {w w' : World} {g n : Nat} {x : Cel} (h : Bx w g x) (hb : Below n w w') (hg : g < n) : Bx w' g x := ⟨(hb.cell (p := ⟨g, 0, none⟩) hg).trans h.1, (hb.cell (p := ⟨g, 1, none⟩) hg).trans h.2⟩
theorem bx_new (w : World) (x : Cel) : Bx (w.alloc (.cells #[.int .i64 x.1, .int .i64 x.2] 24)) w.heap.size x :=
  ⟨cell_of_row _ _ 0 _ _ _ (heap_alloc_new w _), cell_of_row _ _ 1 _ _ _ (heap_alloc_new w _)⟩
theorem Bx.lt {w : World} {g : Nat} {x : Cel} (h : Bx w g x) : g < w.heap.size := World.block_lt_of_cell? w _ h.1
theorem cells2' (w : World) (x : Cel) : ∀ ad, some (⟨w.heap.size, 0, none⟩ : Addr) = some ad → ∀ j u, (cl [x])[j]? = some u → (w.alloc (.cells #[.int .i64 x.1, .int .i64 x.2] 24)).cell? (ad.add j) = some u := by
  intro ad had j u hu
  obtain rfl : (⟨w.heap.size, 0, none⟩ : Addr) = ad := Option.some.inj had
  exact cells2 _ w x j u (by simpa [cl] using hu)
theorem cells2'' {w wA : World} {x : Cel} (hg : ((w.alloc (.cells #[.int .i64 x.1, .int .i64 x.2] 24)).drew).grownBy wA (Value.slice none 0 0).ownBlock) : ∀ ad, some (⟨w.heap.size, 0, none⟩ : Addr) = some ad → ∀ j u, (cl [x])[j]? = some u → wA.cell? (ad.add j) = some u := by
  intro ad had j u hu
  have h := cells2' w x ad had j u hu
  obtain rfl : (⟨w.heap.size, 0, none⟩ : Addr) = ad := Option.some.inj had
  rw [show (⟨w.heap.size, 0, none⟩ : Addr).add j = ⟨w.heap.size, j, none⟩ from by simp [Addr.add]; omega] at h ⊢
  have h2 : ((w.alloc (.cells #[.int .i64 x.1, .int .i64 x.2] 24)).drew).cell? ⟨w.heap.size, j, none⟩ = some u := h
  rw [hg.cell h2 (by simp [Value.ownBlock])]
/-- a cell's box, and a cell in a list -/
def S4 (w : World) (g : Nat) (x : Cel) (b o : Nat) (y : Cel) : Prop := (w.cell? ⟨g, 0, none⟩ = some (.int .i64 x.1) ∧ w.cell? ⟨g, 1, none⟩ = some (.int .i64 x.2)) ∧ w.cell? ⟨b, o, none⟩ = some (.int .i64 y.1) ∧ w.cell? ⟨b, o + 1, none⟩ = some (.int .i64 y.2)
theorem S4.below {w w' : World} {g b o n : Nat} {x y : Cel} (h : S4 w g x b o y) (hb : Below n w w') (hn : w.heap.size ≤ n) : S4 w' g x b o y := by
  have h1 := World.block_lt_of_cell? w _ h.1.1
  have h2 := World.block_lt_of_cell? w _ h.2.1
  simp only at h1 h2
  exact ⟨⟨(hb.cell (p := ⟨g, 0, none⟩) (by simp only; omega)).trans h.1.1, (hb.cell (p := ⟨g, 1, none⟩) (by simp only; omega)).trans h.1.2⟩, (hb.cell (p := ⟨b, o, none⟩) (by simp only; omega)).trans h.2.1, (hb.cell (p := ⟨b, o + 1, none⟩) (by simp only; omega)).trans h.2.2⟩
theorem und {n : Nat} {w w' : World} (h : Below n w.drew w') : Below n w w' := ⟨h.os, h.tape, h.output, h.size, h.block⟩
theorem put_done {w : World} {B n k : Nat} {v : Value} {L P : List Cel} {x : Cel} (h : OwnC 24 w B v (0 + k + 1 + (n - k)) ([] ++ L.take k ++ [x] ++ L.drop k)) (hP : P = L.take k ++ [x] ++ L.drop k) : OwnC 24 w B v P.length P := by
  rw [List.nil_append, ← hP] at h
  have hl := h.1
  rw [cl_len] at hl
  have e2 : P.length = 0 + k + 1 + (n - k) := by omega
  rw [e2]
  exact h
set_option maxRecDepth 100000 in
set_option maxHeartbeats 4000000 in
theorem put_ref {w : World} {B n : Nat} {v : Value} {L : List Cel} (h : OwnC 24 w B v n L) (hB : B ≤ w.heap.size) (hn : n ≤ 100000) (x : Cel) :
    Calls Tryd.prog 26 #[v, cv x] w (PutR w B v (put L x)) := by
  obtain ⟨ao, cap, rfl, hcls, hnc, hcap, hl, hz1, hz2⟩ := own_cls h
  clear hz1 hz2 hcap
  have HO := Lib.hid h
  have HC := Lib.hid hcls
  have HL := Lib.hid hl
  have HBB := Lib.hid hB
  obtain ⟨P, hP⟩ : ∃ P, P = put L x := ⟨_, rfl⟩
  rw [← hP]
  have HP := Lib.hid hP
  have HNC := Lib.hid hnc
  clear h hcls hl hB hP hnc
  unfold cv
  go_enter Tryd.func26, Tryd.ntmps26
  go_wp2
  have HB0 := Lib.hid (alX w (.cells #[.int .i64 x.1, .int .i64 x.2] 24))
  have HX0 := Lib.hid (bx_new w x)
  generalize w.alloc (.cells #[.int .i64 x.1, .int .i64 x.2] 24) = w0 at HX0 HB0 ⊢
  go_loopw [5] (fun i wr => ∃ k : Nat, k ≤ n ∧ i = .int .i64 k ∧ Hid (∀ i (h : i < L.length), i < k → lt L[i] x = true) ∧ Hid (Below w.heap.size w wr) ∧ Hid (Bx wr w.heap.size x)) (fun i _ => n - (intOf i).toNat)
  case atStart => exact ⟨0, by omega, rfl, Lib.hid (fun i _ h => absurd h (by omega)), HB0, HX0⟩
  case round =>
    obtain ⟨k, hk, rfl, HLT, HB, HX⟩ := hrel
    clear HB0 HX0
    have i0 : (0 : Int) ≤ (k : Int) := by omega
    have HK := Lib.hid hk
    by_cases hlt : k < n
    · have hkl : k < L.length := by rw [HL.out]; exact hlt
      obtain ⟨b, off, rfl, c0, c1⟩ := (HC.out.below HB.out (Nat.le_refl _)) k hkl
      have i1 : (k : Int) < (n : Int) := by omega
      obtain ⟨y, hy⟩ : ∃ y, y = L[k] := ⟨_, rfl⟩
      rw [← hy] at c0 c1
      have HY := Lib.hid hy
      clear hy
      have HV := Lib.hid (fun W => less_ref y x W)
      unfold cv at HV
      obtain ⟨a0, a1⟩ := HX.out
      have HSV := Lib.hid (show S4 wr w.heap.size x b (off + k * 2) y from ⟨⟨a0, a1⟩, c0, c1⟩)
      have KA := Lib.hid HSV.out
      have KD := Lib.hid (show S4 wr.drew w.heap.size x b (off + k * 2) y from HSV.out)
      have KB := Lib.hid (show ∀ w1, Below wr.drew.heap.size wr.drew w1 → S4 w1 w.heap.size x b (off + k * 2) y from fun w1 hb => S4.below (show S4 wr.drew w.heap.size x b (off + k * 2) y from HSV.out) hb (Nat.le_refl _))
      unfold S4 at KA KD KB
      cases hq : lt y x
      · rw [hq] at HV
        have HQ := Lib.hid hq
        clear hq
        clear a0 a1 c0 c1
        go_upto_region 2 with (fail)
        go_region_held3 (fun w' => (w'.cell? ⟨w.heap.size, 0, none⟩ = some (.int .i64 x.1) ∧ w'.cell? ⟨w.heap.size, 1, none⟩ = some (.int .i64 x.2)) ∧ w'.cell? ⟨b, off + k * 2, none⟩ = some (.int .i64 y.1) ∧ w'.cell? ⟨b, off + k * 2 + 1, none⟩ = some (.int .i64 y.2)) (first | with_reducible exact KA.out | with_reducible exact KD.out | with_reducible exact KB.out _ (by assumption)) (first | (go_at_call 39; refine (HV.out _).mono ?_; rintro e w1 ⟨rfl, hb1⟩))
        all_goals have HB1 := Lib.hid (HB.out.trans ((und hb1).mono HB.out.size))
        all_goals have HS1 := Lib.hid (KB.out w1 hb1)
        all_goals clear hb1 KA KD KB HSV
        all_goals have he := eql_q y x
        all_goals obtain ⟨⟨a0, a1⟩, c0, c1⟩ := HS1.out
        all_goals by_cases hxy : y = x
        · have hd : decide (y = x) = true := by simpa using hxy
          rw [hd] at he
          have HE := Lib.hid (show P = L from by rw [HP.out]; exact put_is L k x hkl HLT.out (by rw [← HY.out]; exact hxy))
          clear hd hxy
          go_wp2
          go_quiet (fail)
          go_wp2
          go_ret
          refine ⟨_, rfl, ?_, .inl rfl, bdn HB1.out _⟩
          rw [HE.out, HL.out]
          exact own_keep HO.out (bdn HB1.out _) (Nat.le_refl _)
        · have hd : decide (y = x) = false := by simpa using hxy
          rw [hd] at he
          have HIN := Lib.hid (show P = L.take k ++ [x] ++ L.drop k from by rw [HP.out]; exact put_at L k x (Nat.le_of_lt hkl) HLT.out (.inr ⟨hkl, by rw [← HY.out]; exact HQ.out, by rw [← HY.out]; exact hxy⟩))
          have HKN := Lib.hid hk
          have HO1 := Lib.hid (own_keep HO.out HB1.out (Nat.le_refl _))
          have HX1 := Lib.hid (show Bx w1 w.heap.size x from HS1.out.1)
          clear hd hxy
          go_wp2
          go_quiet (fail)
          go_upto_region 7 with (fail)
          clear he a0 a1 c0 c1
          have HX2 := Lib.hid (show Bx (w1.drewN nq) w.heap.size x from HX1.out)
          have HO2 := Lib.hid (show OwnC 24 (w1.drewN nq) B _ n L from HO1.out)
          have HB2 := Lib.hid (bdn HB1.out nq)
          clear HX1 HO1 HB1 HS1 HO HC HX HB HLT HQ
          generalize w1.drewN nq = w2 at HX2 HO2 HB2 ⊢
          obtain ⟨A1, c1', A2, c2', hcut⟩ := cut_any HO2.out k HKN.out
          have HCUT := Lib.hid hcut
          have hs1 := hcut.s1
          have hs2 := hcut.s2
          clear hcut
          have HSZ := Lib.hid HB2.out.size
          have HLT2 := Lib.hid HX2.out.lt
          have hb1 : Below w2.heap.size w2 w2.drew := (Below.refl _ _).drew
          have hb2 : Below w2.heap.size w2 ((w2.alloc (.cells #[.int .i64 x.1, .int .i64 x.2] 24)).drew) := ((Below.refl _ _).alloc (Nat.le_refl _) _).drew
          have KA := Lib.hid HX2.out
          have KD := Lib.hid (show Bx w2.drew w.heap.size x from HX2.out)
          have KG := Lib.hid (show Bx (w2.alloc (.cells #[.int .i64 x.1, .int .i64 x.2] 24)) w.heap.size x from HX2.out.below (alX _ _) HLT2.out)
          have KJ := Lib.hid (show Bx ((w2.alloc (.cells #[.int .i64 x.1, .int .i64 x.2] 24)).drew) w.heap.size x from KG.out)
          unfold Bx at KA KD KG KJ
          go_region_held3 (fun w' => w'.cell? ⟨w.heap.size, 0, none⟩ = some (.int .i64 x.1) ∧ w'.cell? ⟨w.heap.size, 1, none⟩ = some (.int .i64 x.2)) (first | with_reducible exact KD.out | with_reducible exact KA.out | with_reducible exact KE.out | with_reducible exact KF.out | with_reducible exact KG.out | with_reducible exact KJ.out | with_reducible exact KH.out | with_reducible exact KI.out) (first | (refine step_appC rfl (.tmp 34) (.tmp 37) rfl w2.heap.size 0 (.slice none 0 0) [] rfl (World.ownsRow_nil _ _ _ _) A1 k c1' (L.take k) rfl HCUT.out.l1 HCUT.out.n1 (HCUT.out.m1 _ (by assumption)) (by have := HKN.out; omega) (by simp) ?_; intro vA wA hoA hgA; have hbA := Below.grown (by assumption) hgA (by simp) (by intro k hk; cases hk); have KE := Lib.hid (HX2.out.below hbA HLT2.out); have KF := Lib.hid (HX2.out.below (hbA.alloc hbA.size (.cells #[.int .i64 x.1, .int .i64 x.2] 24)) HLT2.out); unfold Bx at KE KF) | (refine step_appC rfl (.tmp 38) (.tmp 40) rfl w2.heap.size (0 + k) vA _ rfl (hoA.alloc _) (some ⟨wA.heap.size, 0, none⟩) 1 1 [x] rfl rfl (fun q => by cases q) (cells2' wA x) (by have := HKN.out; omega) (by have := hbA.size; simp; omega) ?_; intro vB wB hoB hgB; have hbB := Below.grown (hbA.alloc hbA.size (.cells #[.int .i64 x.1, .int .i64 x.2] 24)) hgB (by have := hbA.size; simp; omega) (fun k hk => (hoA.lt k hk).1); have KH := Lib.hid (HX2.out.below hbB HLT2.out); unfold Bx at KH) | (refine step_appC rfl (.tmp 38) (.tmp 40) rfl w2.heap.size (0 + k) vA _ rfl hoA (some ⟨w2.heap.size, 0, none⟩) 1 1 [x] rfl rfl (fun q => by cases q) (cells2'' hgA) (by have := HKN.out; omega) (by have := hbA.size; omega) ?_; intro vB wB hoB hgB; have hbB := Below.grown hbA hgB hbA.size (fun k hk => (hoA.lt k hk).1); have KH := Lib.hid (HX2.out.below hbB HLT2.out); unfold Bx at KH) | (refine step_appC rfl (.tmp 41) (.tmp 44) rfl w2.heap.size (0 + k + 1) vB _ rfl hoB A2 (n - k) c2' (L.drop k) rfl HCUT.out.l2 HCUT.out.n2 (HCUT.out.m2 _ hbB) (by have := HKN.out; omega) (by have := hbB.size; omega) ?_; intro vC wC hoC hgC; have hbC := Below.grown hbB hgC hbB.size (fun k hk => (hoB.lt k hk).1); have KI := Lib.hid (HX2.out.below hbC HLT2.out); unfold Bx at KI))
          all_goals have HOC := Lib.hid (own_monoC (put_done hoC HIN.out) HSZ.out)
          all_goals have HBC := Lib.hid (HB2.out.trans (hbC.mono HSZ.out))
          all_goals clear hoC hgC hoA hgA hoB hgB hbA hbB hbC KA KD KE KG KJ KH KI hs1 hs2
          all_goals obtain ⟨ao', cap', rfl, _⟩ := own_cls HOC.out
          all_goals go_wp2
          all_goals go_ret
          all_goals exact ⟨_, rfl, own_monoC HOC.out HBB.out, .inr HOC.out, HBC.out⟩
      · rw [hq] at HV
        have HQ := Lib.hid (show ∀ i (h : i < L.length), i < k + 1 → lt L[i] x = true from fun i h hi => by
          by_cases q : i < k
          · exact HLT.out i h q
          · obtain rfl : i = k := by omega
            rw [← HY.out]; exact hq)
        clear hq
        clear a0 a1 c0 c1
        go_upto_region 2 with (fail)
        go_region_held3 (fun w' => (w'.cell? ⟨w.heap.size, 0, none⟩ = some (.int .i64 x.1) ∧ w'.cell? ⟨w.heap.size, 1, none⟩ = some (.int .i64 x.2)) ∧ w'.cell? ⟨b, off + k * 2, none⟩ = some (.int .i64 y.1) ∧ w'.cell? ⟨b, off + k * 2 + 1, none⟩ = some (.int .i64 y.2)) (first | with_reducible exact KA.out | with_reducible exact KD.out | with_reducible exact KB.out _ (by assumption)) (first | (go_at_call 39; refine (HV.out _).mono ?_; rintro e w1 ⟨rfl, hb1⟩))
        all_goals have HB1 := Lib.hid (HB.out.trans ((und hb1).mono HB.out.size))
        all_goals have HS1 := Lib.hid (show Bx w1 w.heap.size x from (KB.out w1 hb1).1)
        all_goals clear hb1 KA KD KB HSV
        all_goals go_wp2
        all_goals go_roundw
        case rel => exact ⟨k + 1, by omega, by go_num, HQ, HB1, HS1⟩
        case measure => simp [intOf]; omega
    · obtain rfl : k = n := by omega
      have i1 : ¬ (k : Int) < (k : Int) := by omega
      have i2 : decide ((k : Int) < (k : Int)) = false := by simp
      have HIN := Lib.hid (show P = L.take k ++ [x] ++ L.drop k from by rw [HP.out]; exact put_at L k x (by have := HL.out; omega) HLT.out (.inl HL.out.symm))
      have HKN := Lib.hid hk
      go_wp2
      go_quiet (fail)
      have HX1 := Lib.hid (show Bx (wr.drewN nq) w.heap.size x from HX.out)
      have HO1 := Lib.hid (show OwnC 24 (wr.drewN nq) B _ k L from own_keep HO.out (bdn HB.out nq) (Nat.le_refl _))
      have HB1 := Lib.hid (bdn HB.out nq)
      clear HX HO HB HC HLT
      generalize wr.drewN nq = w1 at HX1 HO1 HB1 ⊢
      go_wp2
      go_quiet (fail)
      go_upto_region 7 with (fail)
      have HX2 := Lib.hid (show Bx (w1.drewN nq) w.heap.size x from HX1.out)
      have HO2 := Lib.hid (show OwnC 24 (w1.drewN nq) B _ k L from HO1.out)
      have HB2 := Lib.hid (bdn HB1.out nq)
      clear HX1 HO1 HB1
      generalize w1.drewN nq = w2 at HX2 HO2 HB2 ⊢
      obtain ⟨A1, c1', A2, c2', hcut⟩ := cut_any HO2.out k HKN.out
      have HCUT := Lib.hid hcut
      have hs1 := hcut.s1
      have hs2 := hcut.s2
      have HDL := Lib.hid (show (L.drop k).length = 0 by have := hcut.l2; rwa [Nat.sub_self] at this)
      simp only [Nat.sub_self] at hs2
      clear hcut
      have HSZ := Lib.hid HB2.out.size
      have HLT2 := Lib.hid HX2.out.lt
      have hb1 : Below w2.heap.size w2 w2.drew := (Below.refl _ _).drew
      have hb2 : Below w2.heap.size w2 ((w2.alloc (.cells #[.int .i64 x.1, .int .i64 x.2] 24)).drew) := ((Below.refl _ _).alloc (Nat.le_refl _) _).drew
      have KA := Lib.hid HX2.out
      have KD := Lib.hid (show Bx w2.drew w.heap.size x from HX2.out)
      have KG := Lib.hid (show Bx (w2.alloc (.cells #[.int .i64 x.1, .int .i64 x.2] 24)) w.heap.size x from HX2.out.below (alX _ _) HLT2.out)
      have KJ := Lib.hid (show Bx ((w2.alloc (.cells #[.int .i64 x.1, .int .i64 x.2] 24)).drew) w.heap.size x from KG.out)
      unfold Bx at KA KD KG KJ
      go_region_held3 (fun w' => w'.cell? ⟨w.heap.size, 0, none⟩ = some (.int .i64 x.1) ∧ w'.cell? ⟨w.heap.size, 1, none⟩ = some (.int .i64 x.2)) (first | with_reducible exact KD.out | with_reducible exact KA.out | with_reducible exact KE.out | with_reducible exact KF.out | with_reducible exact KG.out | with_reducible exact KJ.out | with_reducible exact KH.out | with_reducible exact KI.out) (first | (refine step_appC rfl (.tmp 34) (.tmp 37) rfl w2.heap.size 0 (.slice none 0 0) [] rfl (World.ownsRow_nil _ _ _ _) A1 k c1' (L.take k) rfl HCUT.out.l1 HCUT.out.n1 (HCUT.out.m1 _ (by assumption)) (by have := HKN.out; omega) (by simp) ?_; intro vA wA hoA hgA; have hbA := Below.grown (by assumption) hgA (by simp) (by intro k hk; cases hk); have KE := Lib.hid (HX2.out.below hbA HLT2.out); have KF := Lib.hid (HX2.out.below (hbA.alloc hbA.size (.cells #[.int .i64 x.1, .int .i64 x.2] 24)) HLT2.out); unfold Bx at KE KF) | (refine step_appC rfl (.tmp 38) (.tmp 40) rfl w2.heap.size (0 + k) vA _ rfl (hoA.alloc _) (some ⟨wA.heap.size, 0, none⟩) 1 1 [x] rfl rfl (fun q => by cases q) (cells2' wA x) (by have := HKN.out; omega) (by have := hbA.size; simp; omega) ?_; intro vB wB hoB hgB; have hbB := Below.grown (hbA.alloc hbA.size (.cells #[.int .i64 x.1, .int .i64 x.2] 24)) hgB (by have := hbA.size; simp; omega) (fun k hk => (hoA.lt k hk).1); have KH := Lib.hid (HX2.out.below hbB HLT2.out); unfold Bx at KH) | (refine step_appC rfl (.tmp 38) (.tmp 40) rfl w2.heap.size (0 + k) vA _ rfl hoA (some ⟨w2.heap.size, 0, none⟩) 1 1 [x] rfl rfl (fun q => by cases q) (cells2'' hgA) (by have := HKN.out; omega) (by have := hbA.size; omega) ?_; intro vB wB hoB hgB; have hbB := Below.grown hbA hgB hbA.size (fun k hk => (hoA.lt k hk).1); have KH := Lib.hid (HX2.out.below hbB HLT2.out); unfold Bx at KH) | (refine step_appC rfl (.tmp 41) (.tmp 44) rfl w2.heap.size (0 + k + 1) vB _ rfl hoB A2 0 c2' (L.drop k) rfl HDL.out (fun _ => rfl) (HCUT.out.m2 _ hbB) (by have := HKN.out; omega) (by have := hbB.size; omega) ?_; intro vC wC hoC hgC; have hbC := Below.grown hbB hgC hbB.size (fun k hk => (hoB.lt k hk).1); have KI := Lib.hid (HX2.out.below hbC HLT2.out); unfold Bx at KI))
      all_goals have HOC := Lib.hid (own_monoC (put_done (n := k) (by rw [Nat.sub_self]; exact hoC) HIN.out) HSZ.out)
      all_goals have HBC := Lib.hid (HB2.out.trans (hbC.mono HSZ.out))
      all_goals clear hoC hgC hoA hgA hoB hgB hbA hbB hbC KA KD KE KG KJ KH KI hs1 hs2
      all_goals obtain ⟨ao', cap', rfl, _⟩ := own_cls HOC.out
      all_goals go_wp2
      all_goals go_ret
      all_goals exact ⟨_, rfl, own_monoC HOC.out HBB.out, .inr HOC.out, HBC.out⟩
end Go.Proofs.YtbjpmefjfpefpaaDoor

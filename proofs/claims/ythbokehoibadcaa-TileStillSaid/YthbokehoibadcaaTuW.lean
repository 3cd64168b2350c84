/-
  TileTurned, the walk. No condition but that the input could be read.
-/
import Derived.Test.YthbokehoibadcaaTin
import Derived.Test.YthbokehoibadcaaTu
import Derived.BigQuiet
import Derived.Deep.QuietTactic
import Derived.Deep.RegionHeld3
namespace Go.Proofs.Ythbokehoibadcaa
open Go.RowKit Ti Ru

theorem rem5 (n : Int) : ∃ k : Nat, k ≤ 4 ∧ wrap64 ((IntKind.u64.wrap n).tmod 5) = (k : Int) := by
  rw [IntKind.wrap_u64]
  have h0 : 0 ≤ n % 18446744073709551616 := by omega
  generalize n % 18446744073709551616 = m at h0
  rw [Int.tmod_eq_emod_of_nonneg h0]
  refine ⟨(m % 5).toNat, by omega, ?_⟩
  unfold wrap64
  omega
/-- a callee that draws nothing, in a region that reads -/
theorem quiet_same {P : Program} {f : FuncId} {args : Array Value} {v : Value} (h : ∀ w, Calls P f args w fun e w' => e = .returned v ∧ w = w') (w : World) (n : Nat) : Calls P f args (w.drewN n) fun e w'' => e = .returned v ∧ ∃ m, w'' = w.drewN m :=
  (h _).mono fun _ _ ⟨he, hm⟩ => ⟨he, n, hm.symm⟩
/-- what the walk has at hand: the rule's box, the four tiles as the program's -/
structure TuAt (W : World) (G : Nat) (r l : Nat) (a b c d : T6) (w : World) : Prop where
  rule : w.heap[W.heap.size]? = some (.cells #[.int .u16 r, .int .u16 l] 24)
  four : w.heap[G]? = some (box4 a b c d)
  below : Below W.heap.size W w
theorem TuAt.on {W : World} {G r l : Nat} {a b c d : T6} {w w' : World} (h : TuAt W G r l a b c d w) (k : Below w.heap.size w w') : TuAt W G r l a b c d w' :=
  ⟨(k.block _ (lt_of_block h.rule)).trans h.rule, (k.block _ (lt_of_block h.four)).trans h.four, h.below.trans (k.mono h.below.size)⟩
theorem TuAt.cells {W : World} {G r l : Nat} {a b c d : T6} {w : World} (h : TuAt W G r l a b c d w) : (w.cell? ⟨W.heap.size, 0, none⟩ = some (.int .u16 r) ∧ w.cell? ⟨W.heap.size, 1, none⟩ = some (.int .u16 l)) ∧ w.cell? ⟨G, 0, none⟩ = some (.int .u64 (rg a)) ∧ w.cell? ⟨G, 1, none⟩ = some (.int .u64 (rg b)) ∧ w.cell? ⟨G, 2, none⟩ = some (.int .u64 (rg c)) ∧ w.cell? ⟨G, 3, none⟩ = some (.int .u64 (rg d)) :=
  ⟨⟨cell_of_row _ _ 0 _ _ _ h.rule, cell_of_row _ _ 1 _ _ _ h.rule⟩, cell_of_row _ _ 0 _ _ _ h.four, cell_of_row _ _ 1 _ _ _ h.four, cell_of_row _ _ 2 _ _ _ h.four, cell_of_row _ _ 3 _ _ _ h.four⟩
theorem TuAt.flat {W : World} {G r l : Nat} {a b c d : T6} {w : World} (h : TuAt W G r l a b c d w) : w.cell? ⟨W.heap.size, 0, none⟩ = some (.int .u16 r) ∧ w.cell? ⟨W.heap.size, 1, none⟩ = some (.int .u16 l) ∧ w.cell? ⟨G, 0, none⟩ = some (.int .u64 (rg a)) ∧ w.cell? ⟨G, 1, none⟩ = some (.int .u64 (rg b)) ∧ w.cell? ⟨G, 2, none⟩ = some (.int .u64 (rg c)) ∧ w.cell? ⟨G, 3, none⟩ = some (.int .u64 (rg d)) :=
  ⟨h.cells.1.1, h.cells.1.2, h.cells.2⟩
theorem tu_start (r l : Nat) (a b c d : T6) (W w1 : World) (h : Below ((W.alloc (.cells #[.int .u16 r, .int .u16 l] 24)).alloc (.cells #[.int .u64 (rg a), .int .u64 (rg b), .int .u64 (rg c), .int .u64 (rg d)] 26)).heap.size ((W.alloc (.cells #[.int .u16 r, .int .u16 l] 24)).alloc (.cells #[.int .u64 (rg a), .int .u64 (rg b), .int .u64 (rg c), .int .u64 (rg d)] 26)) w1) : TuAt W w1.heap.size r l a b c d (w1.alloc (box4 a b c d)) := by
  have ht := two_boxes W (.cells #[.int .u16 r, .int .u16 l] 24) (.cells #[.int .u64 (rg a), .int .u64 (rg b), .int .u64 (rg c), .int .u64 (rg d)] 26)
  have hr := (h.block _ (lt_of_block ht.1)).trans ht.1
  have hb := ht.2.2.1.trans (h.mono ht.2.2.1.size)
  exact ⟨((alX w1 _).block _ (lt_of_block hr)).trans hr, heap_alloc_new _ _, hb.trans ((alX w1 _).mono hb.size)⟩
set_option maxRecDepth 100000 in
set_option maxHeartbeats 1000000 in
theorem turned_walk (r l : Nat) (a b c d : T6) (n : Int) (W : World) (_w0 : r < 65536 ∧ l < 65536) (_w2 : (Lit.int .i64 n).wf = true) :
    Calls Try.prog 3 #[.agg #[.int .u16 r, .int .u16 l], .agg #[.int .u64 (rg a), .int .u64 (rg b), .int .u64 (rg c), .int .u64 (rg d)], .int .i64 n] W fun e w' => e = .returned (.bool true) ∧ Below W.heap.size W w' := by
  obtain ⟨k, hk, hn⟩ := rem5 n
  have HS := Lib.hid sure_any
  have HGi := Lib.hid (give_any (rg a) (rg b) (rg c) (rg d))
  have HT1 := Lib.hid (fun w => turn_any a w)
  have HT2 := Lib.hid (fun w => turn_any (turnB a) w)
  have HT3 := Lib.hid (fun w => turn_any (turnB (turnB a)) w)
  have HT4 := Lib.hid (fun w => turn_any (turnB (turnB (turnB a))) w)
  rw [turn4] at HT4
  have HF1 := Lib.hid (fun w => flip_any a w)
  have HF2 := Lib.hid (fun w => flip_any (flipB a) w)
  rw [flip2] at HF2
  have HC1 := Lib.hid (fun w => count_any a w)
  have HC2 := Lib.hid (fun w => count_any (turnB a) w)
  rw [liv_turn] at HC2
  have HTb := Lib.hid (fun w => turn_any b w)
  have HTc := Lib.hid (fun w => turn_any c w)
  have HTd := Lib.hid (fun w => turn_any d w)
  have HFb := Lib.hid (fun w => flip_any b w)
  have HFc := Lib.hid (fun w => flip_any c w)
  have HFd := Lib.hid (fun w => flip_any d w)
  have HM := Lib.hid (fun w => may_ref r l w)
  have HG1 := Lib.hid (fun h w => grow_fine r l h a b c d k hk w)
  have HG2 := Lib.hid (fun h w => grow_fine r l h (turnB c) (turnB a) (turnB d) (turnB b) k hk w)
  have HG3 := Lib.hid (fun h w => grow_fine r l h (flipB b) (flipB a) (flipB d) (flipB c) k hk w)
  rw [grow_turn] at HG2
  rw [grow_flip] at HG3
  have HTG := Lib.hid (fun w => turn_any (growB r l k (q4 a b c d)) w)
  have HFG := Lib.hid (fun w => flip_any (growB r l k (q4 a b c d)) w)
  unfold Rv at HM HG1 HG2 HG3
  generalize turnB (growB r l k (q4 a b c d)) = gt at HG2 HTG
  generalize flipB (growB r l k (q4 a b c d)) = gf at HG3 HFG
  generalize growB r l k (q4 a b c d) = g1 at HG1 HTG HFG
  generalize turnB (turnB (turnB a)) = a3 at HT3 HT4
  generalize turnB (turnB a) = a2 at HT2 HT3
  generalize turnB a = a1 at *
  generalize flipB a = f1 at *
  generalize turnB b = b1 at *
  generalize turnB c = c1 at *
  generalize turnB d = d1 at *
  generalize flipB b = b2 at *
  generalize flipB c = c2 at *
  generalize flipB d = d2 at *
  generalize liv a = n1 at *
  have HST := Lib.hid (tu_start r l a b c d W)
  clear _w0 _w2 hk
  go_enter Try.func3, Try.ntmps3
  go_wp2_with (first | (go_at_call 7; refine (HGi.out _).mono ?_; rintro e w1 ⟨rfl, hb1⟩; have HA0 := Lib.hid (HST.out _ hb1); clear hb1))
  generalize w1.alloc (.cells #[.int .u64 (rg a), .int .u64 (rg b), .int .u64 (rg c), .int .u64 (rg d)] 29) = w2 at HA0 ⊢
  obtain ⟨⟨r0, r1⟩, p0, p1, p2, p3⟩ := HA0.out.cells
  go_quiet (first | (go_at_call 8; exact quiet_same HT1.out _ _) | (go_at_call 8; exact quiet_same HT2.out _ _) | (go_at_call 8; exact quiet_same HT3.out _ _) | (go_at_call 8; exact quiet_same HT4.out _ _) | (go_at_call 9; exact quiet_same HF1.out _ _) | (go_at_call 9; exact quiet_same HF2.out _ _) | (go_at_call 10; exact quiet_same HC1.out _ _) | (go_at_call 10; exact quiet_same HC2.out _ _))
  have HA1 := Lib.hid (HA0.out.on (below_drewN (Below.refl _ w2) nq))
  generalize World.drewN w2 nq = w3 at HA1 ⊢
  clear r0 r1 p0 p1 p2 p3 HA0 HT2 HT3 HT4 HF2 HC1 HC2
  obtain ⟨⟨r0, r1⟩, p0, p1, p2, p3⟩ := HA1.out.cells
  cases hm : mayR r l
  · rw [hm] at HM
    clear hm HG1 HG2 HG3
    go_wp2_with (first | (go_at_call 11; refine (HM.out _).mono ?_; rintro e w4 ⟨rfl, hb4⟩; have HA2 := Lib.hid (HA1.out.on hb4); clear hb4) | (go_at_call 12; refine (HS.out _).mono ?_; rintro e w5 ⟨rfl, hb5⟩; have HB5 := Lib.hid (HA2.out.on hb5).below; clear hb5))
    go_ret
    exact ⟨rfl, HB5.out⟩
  · rw [hm] at HM
    have HG1 := Lib.hid (HG1.out hm)
    have HG2 := Lib.hid (HG2.out hm)
    have HG3 := Lib.hid (HG3.out hm)
    clear hm
    go_wp2_with (first | (go_at_call 11; refine (HM.out _).mono ?_; rintro e w4 ⟨rfl, hb4⟩; have HA2 := Lib.hid (HA1.out.on hb4); obtain ⟨⟨s0, s1⟩, t0, t1, t2, t3⟩ := HA2.out.cells; clear hb4) | (go_at_call 13; refine (HG1.out _).mono ?_; rintro e w5 ⟨rfl, hb5⟩; have HA3 := Lib.hid (HA2.out.on hb5); clear hb5))
    clear r0 r1 p0 p1 p2 p3 s0 s1 t0 t1 t2 t3
    have HA4 := Lib.hid (HA3.out.on (Below.refl _ w5).drew)
    have KD := Lib.hid HA4.out.flat
    go_region_held3 (fun w' => w'.cell? ⟨W.heap.size, 0, none⟩ = some (.int .u16 r) ∧ w'.cell? ⟨W.heap.size, 1, none⟩ = some (.int .u16 l) ∧ w'.cell? ⟨w1.heap.size, 0, none⟩ = some (.int .u64 (rg a)) ∧ w'.cell? ⟨w1.heap.size, 1, none⟩ = some (.int .u64 (rg b)) ∧ w'.cell? ⟨w1.heap.size, 2, none⟩ = some (.int .u64 (rg c)) ∧ w'.cell? ⟨w1.heap.size, 3, none⟩ = some (.int .u64 (rg d))) (first | with_reducible exact KD.out | with_reducible exact KE.out) (first | (go_at_call 8; with_reducible refine (HTc.out _).mono ?_; rintro e w' ⟨rfl, rfl⟩) | (go_at_call 8; with_reducible refine (HT1.out _).mono ?_; rintro e w' ⟨rfl, rfl⟩) | (go_at_call 8; with_reducible refine (HTd.out _).mono ?_; rintro e w' ⟨rfl, rfl⟩) | (go_at_call 8; with_reducible refine (HTb.out _).mono ?_; rintro e w' ⟨rfl, rfl⟩) | (go_at_call 13; with_reducible refine (HG2.out _).mono ?_; rintro e w7 ⟨rfl, hb⟩; have HA5 := Lib.hid (HA4.out.on hb); have KE := Lib.hid HA5.out.flat; clear hb))
    go_wp2
    have HA6 := Lib.hid (HA5.out.on (Below.refl _ w7).drew)
    have KF := Lib.hid HA6.out.flat
    go_region_held3 (fun w' => w'.cell? ⟨W.heap.size, 0, none⟩ = some (.int .u16 r) ∧ w'.cell? ⟨W.heap.size, 1, none⟩ = some (.int .u16 l) ∧ w'.cell? ⟨w1.heap.size, 0, none⟩ = some (.int .u64 (rg a)) ∧ w'.cell? ⟨w1.heap.size, 1, none⟩ = some (.int .u64 (rg b)) ∧ w'.cell? ⟨w1.heap.size, 2, none⟩ = some (.int .u64 (rg c)) ∧ w'.cell? ⟨w1.heap.size, 3, none⟩ = some (.int .u64 (rg d))) (first | with_reducible exact KF.out | with_reducible exact KG.out) (first | (go_at_call 9; with_reducible refine (HFb.out _).mono ?_; rintro e w' ⟨rfl, rfl⟩) | (go_at_call 9; with_reducible refine (HF1.out _).mono ?_; rintro e w' ⟨rfl, rfl⟩) | (go_at_call 9; with_reducible refine (HFd.out _).mono ?_; rintro e w' ⟨rfl, rfl⟩) | (go_at_call 9; with_reducible refine (HFc.out _).mono ?_; rintro e w' ⟨rfl, rfl⟩) | (go_at_call 13; with_reducible refine (HG3.out _).mono ?_; rintro e w9 ⟨rfl, hb⟩; have HA7 := Lib.hid (HA6.out.on hb); have KG := Lib.hid HA7.out.flat; clear hb))
    go_wp2_with (first | (go_at_call 8; with_reducible refine (HTG.out _).mono ?_; rintro e w' ⟨rfl, rfl⟩) | (go_at_call 9; with_reducible refine (HFG.out _).mono ?_; rintro e w' ⟨rfl, rfl⟩) | (go_at_call 12; refine (HS.out _).mono ?_; rintro e wa ⟨rfl, hba⟩; have HBA := Lib.hid (HA7.out.on hba).below; clear hba))
    go_ret
    exact ⟨rfl, HBA.out⟩
end Go.Proofs.Ythbokehoibadcaa

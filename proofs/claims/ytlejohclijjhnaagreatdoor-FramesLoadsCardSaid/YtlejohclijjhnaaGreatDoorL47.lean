/-
  WALKS of canStand, of a list with a frame that can't be, or that is not the next part of the one beneath. Conditions: what each lemma names.
-/
import Derived.Test.YtlejohclijjhnaaGreatDoorL45
namespace Go.Proofs.YtlejohclijjhnaaGreatDoor.Fm
open Go.RowKit Ti Qd Go.Maps Go.WideMaps Ru

set_option maxRecDepth 100000 in
set_option maxHeartbeats 4000000 in
theorem canStand_be {w : World} {G : Nat} (ao : Option Addr) (cap : Nat) (us : List FH) (hl : LiesF w ao us) (hsl : ∀ i (hi : i < us.length), ∃ a n c, us[i].2 = .slice a n c) (hp : 0 < us.length) (hle : us.length ≤ 40) (k : Nat)
    (hcb : ∀ W, Below w.heap.size w W → ∀ i (hi : i < us.length), i < k → Calls Tryz.prog 45 #[.pointer (some ⟨G, 0, none⟩), .agg #[.int .i64 us[i].1.id, .int .i64 us[i].1.j, .int .i64 us[i].1.st, us[i].2]] W fun e w' => e = .returned (.bool true) ∧ Below W.heap.size W w')
    (hfb : ∀ W, Below w.heap.size w W → ∀ i (hi : i + 1 < us.length), i + 1 < k → Calls Tryz.prog 46 #[.pointer (some ⟨G, 0, none⟩), .agg #[.int .i64 us[i].1.id, .int .i64 us[i].1.j, .int .i64 us[i].1.st, us[i].2], .agg #[.int .i64 us[i + 1].1.id, .int .i64 us[i + 1].1.j, .int .i64 us[i + 1].1.st, us[i + 1].2]] W fun e w' => e = .returned (.bool true) ∧ Below W.heap.size W w')
    (hk : k < us.length) (hno : ∀ W, Below w.heap.size w W → Calls Tryz.prog 45 #[.pointer (some ⟨G, 0, none⟩), .agg #[.int .i64 us[k].1.id, .int .i64 us[k].1.j, .int .i64 us[k].1.st, us[k].2]] W fun e w' => e = .returned (.bool false) ∧ Below W.heap.size W w') :
    Calls Tryz.prog 28 #[.pointer (some ⟨G, 0, none⟩), .slice ao us.length cap] w fun e w' => e = .returned (.bool false) ∧ Below w.heap.size w w' := by
  have HL := Lib.hid hl
  have HCB := Lib.hid hcb
  have HFB := Lib.hid hfb
  have HSL := Lib.hid hsl
  have HNO := Lib.hid hno
  clear hno
  clear hl hcb hfb hsl
  obtain ⟨n, hn⟩ : ∃ n, n = us.length := ⟨_, rfl⟩
  have HNN := Lib.hid hn
  have hk2 : k < n := by omega
  rw [← hn] at hp hle ⊢
  have hn0 : ((n : Int) == 0) = false := by rw [beq_eq_false_iff_ne]; omega
  have hn1 : decide ((40 : Int) < (n : Int)) = false := decide_eq_false (by omega)
  have hn2 : ¬ (40 : Int) < (n : Int) := by omega
  clear hn
  have HB0 := Lib.hid (Below.refl w.heap.size w)
  go_enter Tryz.func28, Tryz.ntmps28
  go_wp2
  go_loopw [17] (fun v wr => ∃ i : Nat, i ≤ k ∧ v = .int .i64 (i : Int) ∧ Hid (Below w.heap.size w wr)) (fun v _ => n - (intOf v).toNat)
  case atStart => exact ⟨0, Nat.zero_le _, rfl, HB0⟩
  case round =>
    clear HB0
    obtain ⟨i, hi, rfl, HR⟩ := hrel
    by_cases hlt : i < k
    · have hiu : i < us.length := by rw [← HNN.out]; omega
      obtain ⟨bb, off, rfl, d0, d1, d2, d3⟩ := liesf_at (HL.out.bel HR.out) i hiu
      obtain ⟨sa, sn, sc, hsl⟩ := HSL.out i hiu
      have hin : (i : Int) < (n : Int) := by omega
      have hi0 : (0 : Int) ≤ (i : Int) := by omega
      have hi64 : (i : Int) ≤ 40 := by omega
      cases i with
      | zero =>
        have HC1 := Lib.hid (fun W hW => HCB.out W hW 0 hiu hlt)
        rw [show ((0 : Nat) : Int) = (0 : Int) from rfl]
        simp only [Nat.zero_mul, Nat.add_zero] at d0 d1 d2 d3
        have hp0 : (0 : Int) < (n : Int) := by omega
        obtain ⟨⟨⟨fid, fj, fst, fgot⟩, fh⟩, hF⟩ : ∃ F, F = us[0] := ⟨_, rfl⟩
        rw [← hF] at d0 d1 d2 d3 HC1 hsl
        clear hF
        simp only at hsl
        subst hsl
        have HW := Lib.hid (show Below w.heap.size w (wr.alloc (.cells #[.int .i64 fid, .int .i64 fj, .int .i64 fst, .slice sa sn sc] 47)) ∧ (wr.alloc (.cells #[.int .i64 fid, .int .i64 fj, .int .i64 fst, .slice sa sn sc] 47)).heap[wr.heap.size]? = some (.cells #[.int .i64 fid, .int .i64 fj, .int .i64 fst, .slice sa sn sc] 47) from ⟨HR.out.trans ((alX wr _).mono HR.out.size), heap_alloc_new wr _⟩)
        have HBD := Lib.hid (show Below w.heap.size w (wr.alloc (.cells #[.int .i64 fid, .int .i64 fj, .int .i64 fst, .slice sa sn sc] 47)).drew from HW.out.1.drew)
        have SK : ∀ (W W' : World), ((W.cell? ⟨wr.heap.size, 0, none⟩ = some (.int .i64 fid) ∧ W.cell? ⟨wr.heap.size, 1, none⟩ = some (.int .i64 fj) ∧ W.cell? ⟨wr.heap.size, 2, none⟩ = some (.int .i64 fst) ∧ W.cell? ⟨wr.heap.size, 3, none⟩ = some (.slice sa sn sc))) → Below W.heap.size W W' → ((W'.cell? ⟨wr.heap.size, 0, none⟩ = some (.int .i64 fid) ∧ W'.cell? ⟨wr.heap.size, 1, none⟩ = some (.int .i64 fj) ∧ W'.cell? ⟨wr.heap.size, 2, none⟩ = some (.int .i64 fst) ∧ W'.cell? ⟨wr.heap.size, 3, none⟩ = some (.slice sa sn sc))) := fun W W' h k => ⟨cell_bel h.1 k, cell_bel h.2.1 k, cell_bel h.2.2.1 k, cell_bel h.2.2.2 k⟩
        have KD := Lib.hid (show ((wr.alloc (.cells #[.int .i64 fid, .int .i64 fj, .int .i64 fst, .slice sa sn sc] 47)).drew.cell? ⟨wr.heap.size, 0, none⟩ = some (.int .i64 fid) ∧ (wr.alloc (.cells #[.int .i64 fid, .int .i64 fj, .int .i64 fst, .slice sa sn sc] 47)).drew.cell? ⟨wr.heap.size, 1, none⟩ = some (.int .i64 fj) ∧ (wr.alloc (.cells #[.int .i64 fid, .int .i64 fj, .int .i64 fst, .slice sa sn sc] 47)).drew.cell? ⟨wr.heap.size, 2, none⟩ = some (.int .i64 fst) ∧ (wr.alloc (.cells #[.int .i64 fid, .int .i64 fj, .int .i64 fst, .slice sa sn sc] 47)).drew.cell? ⟨wr.heap.size, 3, none⟩ = some (.slice sa sn sc)) from row4 HW.out.2)
        have HSK := Lib.hid SK
        clear SK
        go_upto_region 6 with (fail)
        clear d0 d1 d2 d3
        have hS0 := KD.out
        refine Till.region (s := 19) (S := fun _ w' => w'.cell? ⟨wr.heap.size, 0, none⟩ = some (.int .i64 fid) ∧ w'.cell? ⟨wr.heap.size, 1, none⟩ = some (.int .i64 fj) ∧ w'.cell? ⟨wr.heap.size, 2, none⟩ = some (.int .i64 fst) ∧ w'.cell? ⟨wr.heap.size, 3, none⟩ = some (.slice sa sn sc)) (by kernel_rfl) ?_
        simp only [List.size_toArray, List.length_cons, List.length_nil]
        refine Till.move (i := 0) (d := 22) (v := ?_) rfl rfl (by kernel_rfl) (by kernel_rfl) (by kernel_rfl) (by kernel_rfl) (fun _ _ _ h => h) hS0 ?_ (by rfl) (by kernel_rfl) ?_
        rotate_left 1
        · intro w
          go_simp
          try with_reducible rfl
        dsimp only [Act.put]
        simp only [List.setIfInBounds_toArray, List.set_cons_zero, List.set_cons_succ]
        refine Till.read (i := 1) (d := 23) (v := ?_) (G := fun w' => w'.cell? ⟨wr.heap.size, 0, none⟩ = some (.int .i64 fid) ∧ w'.cell? ⟨wr.heap.size, 1, none⟩ = some (.int .i64 fj) ∧ w'.cell? ⟨wr.heap.size, 2, none⟩ = some (.int .i64 fst) ∧ w'.cell? ⟨wr.heap.size, 3, none⟩ = some (.slice sa sn sc)) (fun _ _ h => h) rfl rfl (by kernel_rfl) (by kernel_rfl) (by kernel_rfl) (by kernel_rfl) (fun _ _ _ h => h) hS0 ?_ (by rfl) (by kernel_rfl) ?_
        rotate_left 1
        · intro w' hx
          obtain ⟨x0, x1, x2, x3⟩ := hx
          go_simp
          try with_reducible rfl
        dsimp only [Act.put]
        simp only [List.setIfInBounds_toArray, List.set_cons_zero, List.set_cons_succ]
        refine Till.only false (i := 2) rfl (by kernel_rfl) (by rfl) (by kernel_rfl) fun K hK => ?_
        go_simp
        refine (HC1.out _ HBD.out).mono ?_
        rintro e w2 ⟨rfl, hb⟩
        have hS1 := HSK.out _ _ KD.out hb
        have HR2 := Lib.hid (HBD.out.trans (hb.mono HBD.out.size))
        clear hb
        refine hK.out _ _ hS1 ?_
        clear hK K
        refine Till.move (i := 3) (d := 25) (v := ?_) rfl rfl (by kernel_rfl) (by kernel_rfl) (by kernel_rfl) (by kernel_rfl) (fun _ _ _ h => h) hS1 ?_ (by rfl) (by kernel_rfl) ?_
        rotate_left 1
        · intro w
          go_simp
          try with_reducible rfl
        dsimp only [Act.put]
        simp only [List.setIfInBounds_toArray, List.set_cons_zero, List.set_cons_succ]
        refine Till.move (i := 4) (d := 26) (v := ?_) rfl rfl (by kernel_rfl) (by kernel_rfl) (by kernel_rfl) (by kernel_rfl) (fun _ _ _ h => h) hS1 ?_ (by rfl) (by kernel_rfl) ?_
        rotate_left 1
        · intro w
          go_simp
          try with_reducible rfl
        dsimp only [Act.put]
        simp only [List.setIfInBounds_toArray, List.set_cons_zero, List.set_cons_succ]
        refine Till.move (i := 5) (d := 27) (v := ?_) rfl rfl (by kernel_rfl) (by kernel_rfl) (by kernel_rfl) (by kernel_rfl) (fun _ _ _ h => h) hS1 ?_ (by rfl) (by kernel_rfl) ?_
        rotate_left 1
        · intro w
          go_simp
          try with_reducible rfl
        dsimp only [Act.put]
        simp only [List.setIfInBounds_toArray, List.set_cons_zero, List.set_cons_succ]
        refine Till.move (i := 6) (d := 28) (v := ?_) rfl rfl (by kernel_rfl) (by kernel_rfl) (by kernel_rfl) (by kernel_rfl) (fun _ _ _ h => h) hS1 ?_ (by rfl) (by kernel_rfl) ?_
        rotate_left 1
        · intro w
          go_simp
          try with_reducible rfl
        dsimp only [Act.put]
        simp only [List.setIfInBounds_toArray, List.set_cons_zero, List.set_cons_succ]
        refine Till.move (i := 7) (d := 29) (v := ?_) rfl rfl (by kernel_rfl) (by kernel_rfl) (by kernel_rfl) (by kernel_rfl) (fun _ _ _ h => h) hS1 ?_ (by rfl) (by kernel_rfl) ?_
        rotate_left 1
        · intro w
          go_simp
          try with_reducible rfl
        dsimp only [Act.put]
        simp only [List.setIfInBounds_toArray, List.set_cons_zero, List.set_cons_succ]
        refine Till.skip (i := 8) (d := 30) rfl rfl (by kernel_rfl) (by kernel_rfl) (by kernel_rfl) (by kernel_rfl) (fun _ _ _ h => h) hS1 (by rfl) (by kernel_rfl) ?_
        dsimp only [Act.put]
        simp only [List.setIfInBounds_toArray, List.set_cons_zero, List.set_cons_succ]
        refine Till.skip (i := 9) (d := 31) rfl rfl (by kernel_rfl) (by kernel_rfl) (by kernel_rfl) (by kernel_rfl) (fun _ _ _ h => h) hS1 (by rfl) (by kernel_rfl) ?_
        dsimp only [Act.put]
        simp only [List.setIfInBounds_toArray, List.set_cons_zero, List.set_cons_succ]
        refine Till.skip (i := 10) (d := 32) rfl rfl (by kernel_rfl) (by kernel_rfl) (by kernel_rfl) (by kernel_rfl) (fun _ _ _ h => h) hS1 (by rfl) (by kernel_rfl) ?_
        dsimp only [Act.put]
        simp only [List.setIfInBounds_toArray, List.set_cons_zero, List.set_cons_succ]
        refine Till.skip (i := 11) (d := 33) rfl rfl (by kernel_rfl) (by kernel_rfl) (by kernel_rfl) (by kernel_rfl) (fun _ _ _ h => h) hS1 (by rfl) (by kernel_rfl) ?_
        dsimp only [Act.put]
        simp only [List.setIfInBounds_toArray, List.set_cons_zero, List.set_cons_succ]
        refine Till.skip (i := 12) (d := 34) rfl rfl (by kernel_rfl) (by kernel_rfl) (by kernel_rfl) (by kernel_rfl) (fun _ _ _ h => h) hS1 (by rfl) (by kernel_rfl) ?_
        dsimp only [Act.put]
        simp only [List.setIfInBounds_toArray, List.set_cons_zero, List.set_cons_succ]
        refine Till.skip (i := 13) (d := 35) rfl rfl (by kernel_rfl) (by kernel_rfl) (by kernel_rfl) (by kernel_rfl) (fun _ _ _ h => h) hS1 (by rfl) (by kernel_rfl) ?_
        dsimp only [Act.put]
        simp only [List.setIfInBounds_toArray, List.set_cons_zero, List.set_cons_succ]
        refine Till.skip (i := 14) (d := 36) rfl rfl (by kernel_rfl) (by kernel_rfl) (by kernel_rfl) (by kernel_rfl) (fun _ _ _ h => h) hS1 (by rfl) (by kernel_rfl) ?_
        dsimp only [Act.put]
        simp only [List.setIfInBounds_toArray, List.set_cons_zero, List.set_cons_succ]
        refine Till.skip (i := 15) (d := 37) rfl rfl (by kernel_rfl) (by kernel_rfl) (by kernel_rfl) (by kernel_rfl) (fun _ _ _ h => h) hS1 (by rfl) (by kernel_rfl) ?_
        dsimp only [Act.put]
        simp only [List.setIfInBounds_toArray, List.set_cons_zero, List.set_cons_succ]
        refine Till.skip (i := 16) (d := 38) rfl rfl (by kernel_rfl) (by kernel_rfl) (by kernel_rfl) (by kernel_rfl) (fun _ _ _ h => h) hS1 (by rfl) (by kernel_rfl) ?_
        dsimp only [Act.put]
        simp only [List.setIfInBounds_toArray, List.set_cons_zero, List.set_cons_succ]
        refine Till.move (i := 17) (d := 39) (v := ?_) rfl rfl (by kernel_rfl) (by kernel_rfl) (by kernel_rfl) (by kernel_rfl) (fun _ _ _ h => h) hS1 ?_ (by rfl) (by kernel_rfl) ?_
        rotate_left 1
        · intro w
          go_simp
          try with_reducible rfl
        dsimp only [Act.put]
        simp only [List.setIfInBounds_toArray, List.set_cons_zero, List.set_cons_succ]
        refine Till.move (i := 18) (d := 40) (v := ?_) rfl rfl (by kernel_rfl) (by kernel_rfl) (by kernel_rfl) (by kernel_rfl) (fun _ _ _ h => h) hS1 ?_ (by rfl) (by kernel_rfl) ?_
        rotate_left 1
        · intro w
          go_simp
          try with_reducible rfl
        dsimp only [Act.put]
        simp only [List.setIfInBounds_toArray, List.set_cons_zero, List.set_cons_succ]
        refine Till.done (by kernel_rfl) ?_ _
        go_wp2
        go_roundw
        case rel => exact ⟨0 + 1, by omega, by go_num, HR2⟩
        case measure => simp [intOf]; omega
      | succ q =>
        have HC1 := Lib.hid (fun W hW => HCB.out W hW (q + 1) hiu hlt)
        have hq0 : q < us.length := by omega
        have HF1 := Lib.hid (fun W hW => HFB.out W hW q hiu hlt)
        obtain ⟨b2, of2, eb, c0, c1, c2, c3⟩ := liesf_at (HL.out.bel HR.out) q hq0
        obtain ⟨ta, tn, tc, htl⟩ := HSL.out q hq0
        injection eb with eb
        injection eb with eb1 eb2
        subst eb1 eb2
        obtain ⟨⟨⟨gid, gj, gst, ggot⟩, gh⟩, hG⟩ : ∃ F, F = us[q] := ⟨_, rfl⟩
        rw [← hG] at c0 c1 c2 c3 HF1 htl
        clear hG
        obtain ⟨⟨⟨fid, fj, fst, fgot⟩, fh⟩, hF⟩ : ∃ F, F = us[(q + 1)] := ⟨_, rfl⟩
        rw [← hF] at d0 d1 d2 d3 HC1 hsl
        rw [← hF] at HF1
        simp only at htl
        subst htl
        have e1 : IntKind.i64.wrap (((q + 1 : Nat) : Int) - 1) = (q : Int) := by
          rw [show ((q + 1 : Nat) : Int) - 1 = (q : Int) by omega]
          exact IntWalk.i64_in _ (by omega)
        have e4 : IntKind.i64.wrap (q : Int) = (q : Int) := IntWalk.i64_in _ (by omega)
        have e5 : ((q : Int)).toNat = q := by omega
        have e2 : (0 : Int) ≤ (q : Int) := by omega
        have e3 : (q : Int) < (n : Int) := by omega
        have e6 : (0 : Int) < ((q + 1 : Nat) : Int) := by omega
        clear hF
        simp only at hsl
        subst hsl
        have HW := Lib.hid (show Below w.heap.size w (wr.alloc (.cells #[.int .i64 fid, .int .i64 fj, .int .i64 fst, .slice sa sn sc] 47)) ∧ (wr.alloc (.cells #[.int .i64 fid, .int .i64 fj, .int .i64 fst, .slice sa sn sc] 47)).heap[wr.heap.size]? = some (.cells #[.int .i64 fid, .int .i64 fj, .int .i64 fst, .slice sa sn sc] 47) from ⟨HR.out.trans ((alX wr _).mono HR.out.size), heap_alloc_new wr _⟩)
        have HBD := Lib.hid (show Below w.heap.size w (wr.alloc (.cells #[.int .i64 fid, .int .i64 fj, .int .i64 fst, .slice sa sn sc] 47)).drew from HW.out.1.drew)
        have SK : ∀ (W W' : World), ((W.cell? ⟨wr.heap.size, 0, none⟩ = some (.int .i64 fid) ∧ W.cell? ⟨wr.heap.size, 1, none⟩ = some (.int .i64 fj) ∧ W.cell? ⟨wr.heap.size, 2, none⟩ = some (.int .i64 fst) ∧ W.cell? ⟨wr.heap.size, 3, none⟩ = some (.slice sa sn sc)) ∧ (W.cell? ⟨bb, off + q * 4, none⟩ = some (.int .i64 gid) ∧ W.cell? ⟨bb, off + q * 4 + 1, none⟩ = some (.int .i64 gj) ∧ W.cell? ⟨bb, off + q * 4 + 2, none⟩ = some (.int .i64 gst) ∧ W.cell? ⟨bb, off + q * 4 + 3, none⟩ = some (.slice ta tn tc))) → Below W.heap.size W W' → ((W'.cell? ⟨wr.heap.size, 0, none⟩ = some (.int .i64 fid) ∧ W'.cell? ⟨wr.heap.size, 1, none⟩ = some (.int .i64 fj) ∧ W'.cell? ⟨wr.heap.size, 2, none⟩ = some (.int .i64 fst) ∧ W'.cell? ⟨wr.heap.size, 3, none⟩ = some (.slice sa sn sc)) ∧ (W'.cell? ⟨bb, off + q * 4, none⟩ = some (.int .i64 gid) ∧ W'.cell? ⟨bb, off + q * 4 + 1, none⟩ = some (.int .i64 gj) ∧ W'.cell? ⟨bb, off + q * 4 + 2, none⟩ = some (.int .i64 gst) ∧ W'.cell? ⟨bb, off + q * 4 + 3, none⟩ = some (.slice ta tn tc))) := fun W W' h k => ⟨⟨cell_bel h.1.1 k, cell_bel h.1.2.1 k, cell_bel h.1.2.2.1 k, cell_bel h.1.2.2.2 k⟩, cell_bel h.2.1 k, cell_bel h.2.2.1 k, cell_bel h.2.2.2.1 k, cell_bel h.2.2.2.2 k⟩
        have KD := Lib.hid (show ((wr.alloc (.cells #[.int .i64 fid, .int .i64 fj, .int .i64 fst, .slice sa sn sc] 47)).drew.cell? ⟨wr.heap.size, 0, none⟩ = some (.int .i64 fid) ∧ (wr.alloc (.cells #[.int .i64 fid, .int .i64 fj, .int .i64 fst, .slice sa sn sc] 47)).drew.cell? ⟨wr.heap.size, 1, none⟩ = some (.int .i64 fj) ∧ (wr.alloc (.cells #[.int .i64 fid, .int .i64 fj, .int .i64 fst, .slice sa sn sc] 47)).drew.cell? ⟨wr.heap.size, 2, none⟩ = some (.int .i64 fst) ∧ (wr.alloc (.cells #[.int .i64 fid, .int .i64 fj, .int .i64 fst, .slice sa sn sc] 47)).drew.cell? ⟨wr.heap.size, 3, none⟩ = some (.slice sa sn sc)) ∧ ((wr.alloc (.cells #[.int .i64 fid, .int .i64 fj, .int .i64 fst, .slice sa sn sc] 47)).drew.cell? ⟨bb, off + q * 4, none⟩ = some (.int .i64 gid) ∧ (wr.alloc (.cells #[.int .i64 fid, .int .i64 fj, .int .i64 fst, .slice sa sn sc] 47)).drew.cell? ⟨bb, off + q * 4 + 1, none⟩ = some (.int .i64 gj) ∧ (wr.alloc (.cells #[.int .i64 fid, .int .i64 fj, .int .i64 fst, .slice sa sn sc] 47)).drew.cell? ⟨bb, off + q * 4 + 2, none⟩ = some (.int .i64 gst) ∧ (wr.alloc (.cells #[.int .i64 fid, .int .i64 fj, .int .i64 fst, .slice sa sn sc] 47)).drew.cell? ⟨bb, off + q * 4 + 3, none⟩ = some (.slice ta tn tc)) from ⟨row4 HW.out.2, cell_al _ c0, cell_al _ c1, cell_al _ c2, cell_al _ c3⟩)
        have HSK := Lib.hid SK
        clear SK
        go_upto_region 6 with (fail)
        clear d0 d1 d2 d3 c0 c1 c2 c3
        go_region_held3 (fun w' => (w'.cell? ⟨wr.heap.size, 0, none⟩ = some (.int .i64 fid) ∧ w'.cell? ⟨wr.heap.size, 1, none⟩ = some (.int .i64 fj) ∧ w'.cell? ⟨wr.heap.size, 2, none⟩ = some (.int .i64 fst) ∧ w'.cell? ⟨wr.heap.size, 3, none⟩ = some (.slice sa sn sc)) ∧ (w'.cell? ⟨bb, off + q * 4, none⟩ = some (.int .i64 gid) ∧ w'.cell? ⟨bb, off + q * 4 + 1, none⟩ = some (.int .i64 gj) ∧ w'.cell? ⟨bb, off + q * 4 + 2, none⟩ = some (.int .i64 gst) ∧ w'.cell? ⟨bb, off + q * 4 + 3, none⟩ = some (.slice ta tn tc))) (first | with_reducible exact KD.out | with_reducible exact ks2 | with_reducible exact ks)
          (first
            | (go_at_call 45; refine (HC1.out _ HBD.out).mono ?_; rintro e w2 ⟨rfl, hb⟩; have ks := HSK.out _ _ KD.out hb; have HR2 := Lib.hid (HBD.out.trans (hb.mono HBD.out.size)); clear hb)
            | (go_at_call 46; refine (HF1.out _ HR2.out).mono ?_; rintro e w3 ⟨rfl, hb⟩; have ks2 := HSK.out _ _ ks hb; have HR3 := Lib.hid (HR2.out.trans (hb.mono HR2.out.size)); clear hb))
        go_wp2
        go_roundw
        case rel => exact ⟨(q + 1) + 1, by omega, by go_num, HR3⟩
        case measure => simp [intOf]; omega
    · obtain rfl : i = k := by omega
      have hiu : i < us.length := by rw [← HNN.out]; exact hk2
      obtain ⟨bb, off, rfl, d0, d1, d2, d3⟩ := liesf_at (HL.out.bel HR.out) i hiu
      obtain ⟨sa, sn, sc, hsl⟩ := HSL.out i hiu
      have hin : (i : Int) < (n : Int) := by omega
      have hi0 : (0 : Int) ≤ (i : Int) := by omega
      have hi64 : (i : Int) ≤ 40 := by omega
      have HC1 := HNO
      obtain ⟨⟨⟨fid, fj, fst, fgot⟩, fh⟩, hF⟩ : ∃ F, F = us[i] := ⟨_, rfl⟩
      rw [← hF] at d0 d1 d2 d3 HC1 hsl
      clear hF
      simp only at hsl
      subst hsl
      have HW := Lib.hid (show Below w.heap.size w (wr.alloc (.cells #[.int .i64 fid, .int .i64 fj, .int .i64 fst, .slice sa sn sc] 47)) ∧ (wr.alloc (.cells #[.int .i64 fid, .int .i64 fj, .int .i64 fst, .slice sa sn sc] 47)).heap[wr.heap.size]? = some (.cells #[.int .i64 fid, .int .i64 fj, .int .i64 fst, .slice sa sn sc] 47) from ⟨HR.out.trans ((alX wr _).mono HR.out.size), heap_alloc_new wr _⟩)
      have HBD := Lib.hid (show Below w.heap.size w (wr.alloc (.cells #[.int .i64 fid, .int .i64 fj, .int .i64 fst, .slice sa sn sc] 47)).drew from HW.out.1.drew)
      have SK : ∀ (W W' : World), ((W.cell? ⟨wr.heap.size, 0, none⟩ = some (.int .i64 fid) ∧ W.cell? ⟨wr.heap.size, 1, none⟩ = some (.int .i64 fj) ∧ W.cell? ⟨wr.heap.size, 2, none⟩ = some (.int .i64 fst) ∧ W.cell? ⟨wr.heap.size, 3, none⟩ = some (.slice sa sn sc))) → Below W.heap.size W W' → ((W'.cell? ⟨wr.heap.size, 0, none⟩ = some (.int .i64 fid) ∧ W'.cell? ⟨wr.heap.size, 1, none⟩ = some (.int .i64 fj) ∧ W'.cell? ⟨wr.heap.size, 2, none⟩ = some (.int .i64 fst) ∧ W'.cell? ⟨wr.heap.size, 3, none⟩ = some (.slice sa sn sc))) := fun W W' h k => ⟨cell_bel h.1 k, cell_bel h.2.1 k, cell_bel h.2.2.1 k, cell_bel h.2.2.2 k⟩
      have KD := Lib.hid (show ((wr.alloc (.cells #[.int .i64 fid, .int .i64 fj, .int .i64 fst, .slice sa sn sc] 47)).drew.cell? ⟨wr.heap.size, 0, none⟩ = some (.int .i64 fid) ∧ (wr.alloc (.cells #[.int .i64 fid, .int .i64 fj, .int .i64 fst, .slice sa sn sc] 47)).drew.cell? ⟨wr.heap.size, 1, none⟩ = some (.int .i64 fj) ∧ (wr.alloc (.cells #[.int .i64 fid, .int .i64 fj, .int .i64 fst, .slice sa sn sc] 47)).drew.cell? ⟨wr.heap.size, 2, none⟩ = some (.int .i64 fst) ∧ (wr.alloc (.cells #[.int .i64 fid, .int .i64 fj, .int .i64 fst, .slice sa sn sc] 47)).drew.cell? ⟨wr.heap.size, 3, none⟩ = some (.slice sa sn sc)) from row4 HW.out.2)
      have HSK := Lib.hid SK
      clear SK
      go_upto_region 6 with (fail)
      clear d0 d1 d2 d3
      have hS0 := KD.out
      refine Till.region (s := 19) (S := fun _ w' => w'.cell? ⟨wr.heap.size, 0, none⟩ = some (.int .i64 fid) ∧ w'.cell? ⟨wr.heap.size, 1, none⟩ = some (.int .i64 fj) ∧ w'.cell? ⟨wr.heap.size, 2, none⟩ = some (.int .i64 fst) ∧ w'.cell? ⟨wr.heap.size, 3, none⟩ = some (.slice sa sn sc)) (by kernel_rfl) ?_
      simp only [List.size_toArray, List.length_cons, List.length_nil]
      refine Till.move (i := 0) (d := 22) (v := ?_) rfl rfl (by kernel_rfl) (by kernel_rfl) (by kernel_rfl) (by kernel_rfl) (fun _ _ _ h => h) hS0 ?_ (by rfl) (by kernel_rfl) ?_
      rotate_left 1
      · intro w
        go_simp
        try with_reducible rfl
      dsimp only [Act.put]
      simp only [List.setIfInBounds_toArray, List.set_cons_zero, List.set_cons_succ]
      refine Till.read (i := 1) (d := 23) (v := ?_) (G := fun w' => w'.cell? ⟨wr.heap.size, 0, none⟩ = some (.int .i64 fid) ∧ w'.cell? ⟨wr.heap.size, 1, none⟩ = some (.int .i64 fj) ∧ w'.cell? ⟨wr.heap.size, 2, none⟩ = some (.int .i64 fst) ∧ w'.cell? ⟨wr.heap.size, 3, none⟩ = some (.slice sa sn sc)) (fun _ _ h => h) rfl rfl (by kernel_rfl) (by kernel_rfl) (by kernel_rfl) (by kernel_rfl) (fun _ _ _ h => h) hS0 ?_ (by rfl) (by kernel_rfl) ?_
      rotate_left 1
      · intro w' hx
        obtain ⟨x0, x1, x2, x3⟩ := hx
        go_simp
        try with_reducible rfl
      dsimp only [Act.put]
      simp only [List.setIfInBounds_toArray, List.set_cons_zero, List.set_cons_succ]
      refine Till.only false (i := 2) rfl (by kernel_rfl) (by rfl) (by kernel_rfl) fun K hK => ?_
      go_simp
      refine (HC1.out _ HBD.out).mono ?_
      rintro e w2 ⟨rfl, hb⟩
      have hS1 := HSK.out _ _ KD.out hb
      have HR2 := Lib.hid (HBD.out.trans (hb.mono HBD.out.size))
      clear hb
      refine hK.out _ _ hS1 ?_
      clear hK K
      refine Till.move (i := 3) (d := 25) (v := ?_) rfl rfl (by kernel_rfl) (by kernel_rfl) (by kernel_rfl) (by kernel_rfl) (fun _ _ _ h => h) hS1 ?_ (by rfl) (by kernel_rfl) ?_
      rotate_left 1
      · intro w
        go_simp
        try with_reducible rfl
      dsimp only [Act.put]
      simp only [List.setIfInBounds_toArray, List.set_cons_zero, List.set_cons_succ]
      refine Till.move (i := 4) (d := 26) (v := ?_) rfl rfl (by kernel_rfl) (by kernel_rfl) (by kernel_rfl) (by kernel_rfl) (fun _ _ _ h => h) hS1 ?_ (by rfl) (by kernel_rfl) ?_
      rotate_left 1
      · intro w
        go_simp
        try with_reducible rfl
      dsimp only [Act.put]
      simp only [List.setIfInBounds_toArray, List.set_cons_zero, List.set_cons_succ]
      refine Till.skip (i := 5) (d := 27) rfl rfl (by kernel_rfl) (by kernel_rfl) (by kernel_rfl) (by kernel_rfl) (fun _ _ _ h => h) hS1 (by rfl) (by kernel_rfl) ?_
      dsimp only [Act.put]
      simp only [List.setIfInBounds_toArray, List.set_cons_zero, List.set_cons_succ]
      refine Till.skip (i := 6) (d := 28) rfl rfl (by kernel_rfl) (by kernel_rfl) (by kernel_rfl) (by kernel_rfl) (fun _ _ _ h => h) hS1 (by rfl) (by kernel_rfl) ?_
      dsimp only [Act.put]
      simp only [List.setIfInBounds_toArray, List.set_cons_zero, List.set_cons_succ]
      refine Till.skip (i := 7) (d := 29) rfl rfl (by kernel_rfl) (by kernel_rfl) (by kernel_rfl) (by kernel_rfl) (fun _ _ _ h => h) hS1 (by rfl) (by kernel_rfl) ?_
      dsimp only [Act.put]
      simp only [List.setIfInBounds_toArray, List.set_cons_zero, List.set_cons_succ]
      refine Till.skip (i := 8) (d := 30) rfl rfl (by kernel_rfl) (by kernel_rfl) (by kernel_rfl) (by kernel_rfl) (fun _ _ _ h => h) hS1 (by rfl) (by kernel_rfl) ?_
      dsimp only [Act.put]
      simp only [List.setIfInBounds_toArray, List.set_cons_zero, List.set_cons_succ]
      refine Till.skip (i := 9) (d := 31) rfl rfl (by kernel_rfl) (by kernel_rfl) (by kernel_rfl) (by kernel_rfl) (fun _ _ _ h => h) hS1 (by rfl) (by kernel_rfl) ?_
      dsimp only [Act.put]
      simp only [List.setIfInBounds_toArray, List.set_cons_zero, List.set_cons_succ]
      refine Till.skip (i := 10) (d := 32) rfl rfl (by kernel_rfl) (by kernel_rfl) (by kernel_rfl) (by kernel_rfl) (fun _ _ _ h => h) hS1 (by rfl) (by kernel_rfl) ?_
      dsimp only [Act.put]
      simp only [List.setIfInBounds_toArray, List.set_cons_zero, List.set_cons_succ]
      refine Till.skip (i := 11) (d := 33) rfl rfl (by kernel_rfl) (by kernel_rfl) (by kernel_rfl) (by kernel_rfl) (fun _ _ _ h => h) hS1 (by rfl) (by kernel_rfl) ?_
      dsimp only [Act.put]
      simp only [List.setIfInBounds_toArray, List.set_cons_zero, List.set_cons_succ]
      refine Till.skip (i := 12) (d := 34) rfl rfl (by kernel_rfl) (by kernel_rfl) (by kernel_rfl) (by kernel_rfl) (fun _ _ _ h => h) hS1 (by rfl) (by kernel_rfl) ?_
      dsimp only [Act.put]
      simp only [List.setIfInBounds_toArray, List.set_cons_zero, List.set_cons_succ]
      refine Till.skip (i := 13) (d := 35) rfl rfl (by kernel_rfl) (by kernel_rfl) (by kernel_rfl) (by kernel_rfl) (fun _ _ _ h => h) hS1 (by rfl) (by kernel_rfl) ?_
      dsimp only [Act.put]
      simp only [List.setIfInBounds_toArray, List.set_cons_zero, List.set_cons_succ]
      refine Till.skip (i := 14) (d := 36) rfl rfl (by kernel_rfl) (by kernel_rfl) (by kernel_rfl) (by kernel_rfl) (fun _ _ _ h => h) hS1 (by rfl) (by kernel_rfl) ?_
      dsimp only [Act.put]
      simp only [List.setIfInBounds_toArray, List.set_cons_zero, List.set_cons_succ]
      refine Till.skip (i := 15) (d := 37) rfl rfl (by kernel_rfl) (by kernel_rfl) (by kernel_rfl) (by kernel_rfl) (fun _ _ _ h => h) hS1 (by rfl) (by kernel_rfl) ?_
      dsimp only [Act.put]
      simp only [List.setIfInBounds_toArray, List.set_cons_zero, List.set_cons_succ]
      refine Till.skip (i := 16) (d := 38) rfl rfl (by kernel_rfl) (by kernel_rfl) (by kernel_rfl) (by kernel_rfl) (fun _ _ _ h => h) hS1 (by rfl) (by kernel_rfl) ?_
      dsimp only [Act.put]
      simp only [List.setIfInBounds_toArray, List.set_cons_zero, List.set_cons_succ]
      refine Till.skip (i := 17) (d := 39) rfl rfl (by kernel_rfl) (by kernel_rfl) (by kernel_rfl) (by kernel_rfl) (fun _ _ _ h => h) hS1 (by rfl) (by kernel_rfl) ?_
      dsimp only [Act.put]
      simp only [List.setIfInBounds_toArray, List.set_cons_zero, List.set_cons_succ]
      refine Till.move (i := 18) (d := 40) (v := ?_) rfl rfl (by kernel_rfl) (by kernel_rfl) (by kernel_rfl) (by kernel_rfl) (fun _ _ _ h => h) hS1 ?_ (by rfl) (by kernel_rfl) ?_
      rotate_left 1
      · intro w
        go_simp
        try with_reducible rfl
      dsimp only [Act.put]
      simp only [List.setIfInBounds_toArray, List.set_cons_zero, List.set_cons_succ]
      refine Till.done (by kernel_rfl) ?_ _
      go_wp2
      go_ret
      exact ⟨rfl, HR2.out⟩
set_option maxRecDepth 100000 in
set_option maxHeartbeats 4000000 in
theorem canStand_fol {w : World} {G : Nat} (ao : Option Addr) (cap : Nat) (us : List FH) (hl : LiesF w ao us) (hsl : ∀ i (hi : i < us.length), ∃ a n c, us[i].2 = .slice a n c) (hp : 0 < us.length) (hle : us.length ≤ 40) (q0 : Nat)
    (hcb : ∀ W, Below w.heap.size w W → ∀ i (hi : i < us.length), i < q0 + 1 → Calls Tryz.prog 45 #[.pointer (some ⟨G, 0, none⟩), .agg #[.int .i64 us[i].1.id, .int .i64 us[i].1.j, .int .i64 us[i].1.st, us[i].2]] W fun e w' => e = .returned (.bool true) ∧ Below W.heap.size W w')
    (hfb : ∀ W, Below w.heap.size w W → ∀ i (hi : i + 1 < us.length), i + 1 < q0 + 1 → Calls Tryz.prog 46 #[.pointer (some ⟨G, 0, none⟩), .agg #[.int .i64 us[i].1.id, .int .i64 us[i].1.j, .int .i64 us[i].1.st, us[i].2], .agg #[.int .i64 us[i + 1].1.id, .int .i64 us[i + 1].1.j, .int .i64 us[i + 1].1.st, us[i + 1].2]] W fun e w' => e = .returned (.bool true) ∧ Below W.heap.size W w')
    (hk : q0 + 1 < us.length) (hyes : ∀ W, Below w.heap.size w W → Calls Tryz.prog 45 #[.pointer (some ⟨G, 0, none⟩), .agg #[.int .i64 us[q0 + 1].1.id, .int .i64 us[q0 + 1].1.j, .int .i64 us[q0 + 1].1.st, us[q0 + 1].2]] W fun e w' => e = .returned (.bool true) ∧ Below W.heap.size W w') (hno : ∀ W, Below w.heap.size w W → Calls Tryz.prog 46 #[.pointer (some ⟨G, 0, none⟩), .agg #[.int .i64 us[q0].1.id, .int .i64 us[q0].1.j, .int .i64 us[q0].1.st, us[q0].2], .agg #[.int .i64 us[q0 + 1].1.id, .int .i64 us[q0 + 1].1.j, .int .i64 us[q0 + 1].1.st, us[q0 + 1].2]] W fun e w' => e = .returned (.bool false) ∧ Below W.heap.size W w') :
    Calls Tryz.prog 28 #[.pointer (some ⟨G, 0, none⟩), .slice ao us.length cap] w fun e w' => e = .returned (.bool false) ∧ Below w.heap.size w w' := by
  have HL := Lib.hid hl
  have HCB := Lib.hid hcb
  have HFB := Lib.hid hfb
  have HSL := Lib.hid hsl
  have HNO := Lib.hid hno
  have HYES := Lib.hid hyes
  clear hno hyes
  clear hl hcb hfb hsl
  obtain ⟨n, hn⟩ : ∃ n, n = us.length := ⟨_, rfl⟩
  have HNN := Lib.hid hn
  have hk2 : q0 + 1 < n := by omega
  rw [← hn] at hp hle ⊢
  have hn0 : ((n : Int) == 0) = false := by rw [beq_eq_false_iff_ne]; omega
  have hn1 : decide ((40 : Int) < (n : Int)) = false := decide_eq_false (by omega)
  have hn2 : ¬ (40 : Int) < (n : Int) := by omega
  clear hn
  have HB0 := Lib.hid (Below.refl w.heap.size w)
  go_enter Tryz.func28, Tryz.ntmps28
  go_wp2
  go_loopw [17] (fun v wr => ∃ i : Nat, i ≤ q0 + 1 ∧ v = .int .i64 (i : Int) ∧ Hid (Below w.heap.size w wr)) (fun v _ => n - (intOf v).toNat)
  case atStart => exact ⟨0, Nat.zero_le _, rfl, HB0⟩
  case round =>
    clear HB0
    obtain ⟨i, hi, rfl, HR⟩ := hrel
    by_cases hlt : i < q0 + 1
    · have hiu : i < us.length := by rw [← HNN.out]; omega
      obtain ⟨bb, off, rfl, d0, d1, d2, d3⟩ := liesf_at (HL.out.bel HR.out) i hiu
      obtain ⟨sa, sn, sc, hsl⟩ := HSL.out i hiu
      have hin : (i : Int) < (n : Int) := by omega
      have hi0 : (0 : Int) ≤ (i : Int) := by omega
      have hi64 : (i : Int) ≤ 40 := by omega
      cases i with
      | zero =>
        have HC1 := Lib.hid (fun W hW => HCB.out W hW 0 hiu hlt)
        rw [show ((0 : Nat) : Int) = (0 : Int) from rfl]
        simp only [Nat.zero_mul, Nat.add_zero] at d0 d1 d2 d3
        have hp0 : (0 : Int) < (n : Int) := by omega
        obtain ⟨⟨⟨fid, fj, fst, fgot⟩, fh⟩, hF⟩ : ∃ F, F = us[0] := ⟨_, rfl⟩
        rw [← hF] at d0 d1 d2 d3 HC1 hsl
        clear hF
        simp only at hsl
        subst hsl
        have HW := Lib.hid (show Below w.heap.size w (wr.alloc (.cells #[.int .i64 fid, .int .i64 fj, .int .i64 fst, .slice sa sn sc] 47)) ∧ (wr.alloc (.cells #[.int .i64 fid, .int .i64 fj, .int .i64 fst, .slice sa sn sc] 47)).heap[wr.heap.size]? = some (.cells #[.int .i64 fid, .int .i64 fj, .int .i64 fst, .slice sa sn sc] 47) from ⟨HR.out.trans ((alX wr _).mono HR.out.size), heap_alloc_new wr _⟩)
        have HBD := Lib.hid (show Below w.heap.size w (wr.alloc (.cells #[.int .i64 fid, .int .i64 fj, .int .i64 fst, .slice sa sn sc] 47)).drew from HW.out.1.drew)
        have SK : ∀ (W W' : World), ((W.cell? ⟨wr.heap.size, 0, none⟩ = some (.int .i64 fid) ∧ W.cell? ⟨wr.heap.size, 1, none⟩ = some (.int .i64 fj) ∧ W.cell? ⟨wr.heap.size, 2, none⟩ = some (.int .i64 fst) ∧ W.cell? ⟨wr.heap.size, 3, none⟩ = some (.slice sa sn sc))) → Below W.heap.size W W' → ((W'.cell? ⟨wr.heap.size, 0, none⟩ = some (.int .i64 fid) ∧ W'.cell? ⟨wr.heap.size, 1, none⟩ = some (.int .i64 fj) ∧ W'.cell? ⟨wr.heap.size, 2, none⟩ = some (.int .i64 fst) ∧ W'.cell? ⟨wr.heap.size, 3, none⟩ = some (.slice sa sn sc))) := fun W W' h k => ⟨cell_bel h.1 k, cell_bel h.2.1 k, cell_bel h.2.2.1 k, cell_bel h.2.2.2 k⟩
        have KD := Lib.hid (show ((wr.alloc (.cells #[.int .i64 fid, .int .i64 fj, .int .i64 fst, .slice sa sn sc] 47)).drew.cell? ⟨wr.heap.size, 0, none⟩ = some (.int .i64 fid) ∧ (wr.alloc (.cells #[.int .i64 fid, .int .i64 fj, .int .i64 fst, .slice sa sn sc] 47)).drew.cell? ⟨wr.heap.size, 1, none⟩ = some (.int .i64 fj) ∧ (wr.alloc (.cells #[.int .i64 fid, .int .i64 fj, .int .i64 fst, .slice sa sn sc] 47)).drew.cell? ⟨wr.heap.size, 2, none⟩ = some (.int .i64 fst) ∧ (wr.alloc (.cells #[.int .i64 fid, .int .i64 fj, .int .i64 fst, .slice sa sn sc] 47)).drew.cell? ⟨wr.heap.size, 3, none⟩ = some (.slice sa sn sc)) from row4 HW.out.2)
        have HSK := Lib.hid SK
        clear SK
        go_upto_region 6 with (fail)
        clear d0 d1 d2 d3
        have hS0 := KD.out
        refine Till.region (s := 19) (S := fun _ w' => w'.cell? ⟨wr.heap.size, 0, none⟩ = some (.int .i64 fid) ∧ w'.cell? ⟨wr.heap.size, 1, none⟩ = some (.int .i64 fj) ∧ w'.cell? ⟨wr.heap.size, 2, none⟩ = some (.int .i64 fst) ∧ w'.cell? ⟨wr.heap.size, 3, none⟩ = some (.slice sa sn sc)) (by kernel_rfl) ?_
        simp only [List.size_toArray, List.length_cons, List.length_nil]
        refine Till.move (i := 0) (d := 22) (v := ?_) rfl rfl (by kernel_rfl) (by kernel_rfl) (by kernel_rfl) (by kernel_rfl) (fun _ _ _ h => h) hS0 ?_ (by rfl) (by kernel_rfl) ?_
        rotate_left 1
        · intro w
          go_simp
          try with_reducible rfl
        dsimp only [Act.put]
        simp only [List.setIfInBounds_toArray, List.set_cons_zero, List.set_cons_succ]
        refine Till.read (i := 1) (d := 23) (v := ?_) (G := fun w' => w'.cell? ⟨wr.heap.size, 0, none⟩ = some (.int .i64 fid) ∧ w'.cell? ⟨wr.heap.size, 1, none⟩ = some (.int .i64 fj) ∧ w'.cell? ⟨wr.heap.size, 2, none⟩ = some (.int .i64 fst) ∧ w'.cell? ⟨wr.heap.size, 3, none⟩ = some (.slice sa sn sc)) (fun _ _ h => h) rfl rfl (by kernel_rfl) (by kernel_rfl) (by kernel_rfl) (by kernel_rfl) (fun _ _ _ h => h) hS0 ?_ (by rfl) (by kernel_rfl) ?_
        rotate_left 1
        · intro w' hx
          obtain ⟨x0, x1, x2, x3⟩ := hx
          go_simp
          try with_reducible rfl
        dsimp only [Act.put]
        simp only [List.setIfInBounds_toArray, List.set_cons_zero, List.set_cons_succ]
        refine Till.only false (i := 2) rfl (by kernel_rfl) (by rfl) (by kernel_rfl) fun K hK => ?_
        go_simp
        refine (HC1.out _ HBD.out).mono ?_
        rintro e w2 ⟨rfl, hb⟩
        have hS1 := HSK.out _ _ KD.out hb
        have HR2 := Lib.hid (HBD.out.trans (hb.mono HBD.out.size))
        clear hb
        refine hK.out _ _ hS1 ?_
        clear hK K
        refine Till.move (i := 3) (d := 25) (v := ?_) rfl rfl (by kernel_rfl) (by kernel_rfl) (by kernel_rfl) (by kernel_rfl) (fun _ _ _ h => h) hS1 ?_ (by rfl) (by kernel_rfl) ?_
        rotate_left 1
        · intro w
          go_simp
          try with_reducible rfl
        dsimp only [Act.put]
        simp only [List.setIfInBounds_toArray, List.set_cons_zero, List.set_cons_succ]
        refine Till.move (i := 4) (d := 26) (v := ?_) rfl rfl (by kernel_rfl) (by kernel_rfl) (by kernel_rfl) (by kernel_rfl) (fun _ _ _ h => h) hS1 ?_ (by rfl) (by kernel_rfl) ?_
        rotate_left 1
        · intro w
          go_simp
          try with_reducible rfl
        dsimp only [Act.put]
        simp only [List.setIfInBounds_toArray, List.set_cons_zero, List.set_cons_succ]
        refine Till.move (i := 5) (d := 27) (v := ?_) rfl rfl (by kernel_rfl) (by kernel_rfl) (by kernel_rfl) (by kernel_rfl) (fun _ _ _ h => h) hS1 ?_ (by rfl) (by kernel_rfl) ?_
        rotate_left 1
        · intro w
          go_simp
          try with_reducible rfl
        dsimp only [Act.put]
        simp only [List.setIfInBounds_toArray, List.set_cons_zero, List.set_cons_succ]
        refine Till.move (i := 6) (d := 28) (v := ?_) rfl rfl (by kernel_rfl) (by kernel_rfl) (by kernel_rfl) (by kernel_rfl) (fun _ _ _ h => h) hS1 ?_ (by rfl) (by kernel_rfl) ?_
        rotate_left 1
        · intro w
          go_simp
          try with_reducible rfl
        dsimp only [Act.put]
        simp only [List.setIfInBounds_toArray, List.set_cons_zero, List.set_cons_succ]
        refine Till.move (i := 7) (d := 29) (v := ?_) rfl rfl (by kernel_rfl) (by kernel_rfl) (by kernel_rfl) (by kernel_rfl) (fun _ _ _ h => h) hS1 ?_ (by rfl) (by kernel_rfl) ?_
        rotate_left 1
        · intro w
          go_simp
          try with_reducible rfl
        dsimp only [Act.put]
        simp only [List.setIfInBounds_toArray, List.set_cons_zero, List.set_cons_succ]
        refine Till.skip (i := 8) (d := 30) rfl rfl (by kernel_rfl) (by kernel_rfl) (by kernel_rfl) (by kernel_rfl) (fun _ _ _ h => h) hS1 (by rfl) (by kernel_rfl) ?_
        dsimp only [Act.put]
        simp only [List.setIfInBounds_toArray, List.set_cons_zero, List.set_cons_succ]
        refine Till.skip (i := 9) (d := 31) rfl rfl (by kernel_rfl) (by kernel_rfl) (by kernel_rfl) (by kernel_rfl) (fun _ _ _ h => h) hS1 (by rfl) (by kernel_rfl) ?_
        dsimp only [Act.put]
        simp only [List.setIfInBounds_toArray, List.set_cons_zero, List.set_cons_succ]
        refine Till.skip (i := 10) (d := 32) rfl rfl (by kernel_rfl) (by kernel_rfl) (by kernel_rfl) (by kernel_rfl) (fun _ _ _ h => h) hS1 (by rfl) (by kernel_rfl) ?_
        dsimp only [Act.put]
        simp only [List.setIfInBounds_toArray, List.set_cons_zero, List.set_cons_succ]
        refine Till.skip (i := 11) (d := 33) rfl rfl (by kernel_rfl) (by kernel_rfl) (by kernel_rfl) (by kernel_rfl) (fun _ _ _ h => h) hS1 (by rfl) (by kernel_rfl) ?_
        dsimp only [Act.put]
        simp only [List.setIfInBounds_toArray, List.set_cons_zero, List.set_cons_succ]
        refine Till.skip (i := 12) (d := 34) rfl rfl (by kernel_rfl) (by kernel_rfl) (by kernel_rfl) (by kernel_rfl) (fun _ _ _ h => h) hS1 (by rfl) (by kernel_rfl) ?_
        dsimp only [Act.put]
        simp only [List.setIfInBounds_toArray, List.set_cons_zero, List.set_cons_succ]
        refine Till.skip (i := 13) (d := 35) rfl rfl (by kernel_rfl) (by kernel_rfl) (by kernel_rfl) (by kernel_rfl) (fun _ _ _ h => h) hS1 (by rfl) (by kernel_rfl) ?_
        dsimp only [Act.put]
        simp only [List.setIfInBounds_toArray, List.set_cons_zero, List.set_cons_succ]
        refine Till.skip (i := 14) (d := 36) rfl rfl (by kernel_rfl) (by kernel_rfl) (by kernel_rfl) (by kernel_rfl) (fun _ _ _ h => h) hS1 (by rfl) (by kernel_rfl) ?_
        dsimp only [Act.put]
        simp only [List.setIfInBounds_toArray, List.set_cons_zero, List.set_cons_succ]
        refine Till.skip (i := 15) (d := 37) rfl rfl (by kernel_rfl) (by kernel_rfl) (by kernel_rfl) (by kernel_rfl) (fun _ _ _ h => h) hS1 (by rfl) (by kernel_rfl) ?_
        dsimp only [Act.put]
        simp only [List.setIfInBounds_toArray, List.set_cons_zero, List.set_cons_succ]
        refine Till.skip (i := 16) (d := 38) rfl rfl (by kernel_rfl) (by kernel_rfl) (by kernel_rfl) (by kernel_rfl) (fun _ _ _ h => h) hS1 (by rfl) (by kernel_rfl) ?_
        dsimp only [Act.put]
        simp only [List.setIfInBounds_toArray, List.set_cons_zero, List.set_cons_succ]
        refine Till.move (i := 17) (d := 39) (v := ?_) rfl rfl (by kernel_rfl) (by kernel_rfl) (by kernel_rfl) (by kernel_rfl) (fun _ _ _ h => h) hS1 ?_ (by rfl) (by kernel_rfl) ?_
        rotate_left 1
        · intro w
          go_simp
          try with_reducible rfl
        dsimp only [Act.put]
        simp only [List.setIfInBounds_toArray, List.set_cons_zero, List.set_cons_succ]
        refine Till.move (i := 18) (d := 40) (v := ?_) rfl rfl (by kernel_rfl) (by kernel_rfl) (by kernel_rfl) (by kernel_rfl) (fun _ _ _ h => h) hS1 ?_ (by rfl) (by kernel_rfl) ?_
        rotate_left 1
        · intro w
          go_simp
          try with_reducible rfl
        dsimp only [Act.put]
        simp only [List.setIfInBounds_toArray, List.set_cons_zero, List.set_cons_succ]
        refine Till.done (by kernel_rfl) ?_ _
        go_wp2
        go_roundw
        case rel => exact ⟨0 + 1, by omega, by go_num, HR2⟩
        case measure => simp [intOf]; omega
      | succ q =>
        have HC1 := Lib.hid (fun W hW => HCB.out W hW (q + 1) hiu hlt)
        have hq0 : q < us.length := by omega
        have HF1 := Lib.hid (fun W hW => HFB.out W hW q hiu hlt)
        obtain ⟨b2, of2, eb, c0, c1, c2, c3⟩ := liesf_at (HL.out.bel HR.out) q hq0
        obtain ⟨ta, tn, tc, htl⟩ := HSL.out q hq0
        injection eb with eb
        injection eb with eb1 eb2
        subst eb1 eb2
        obtain ⟨⟨⟨gid, gj, gst, ggot⟩, gh⟩, hG⟩ : ∃ F, F = us[q] := ⟨_, rfl⟩
        rw [← hG] at c0 c1 c2 c3 HF1 htl
        clear hG
        obtain ⟨⟨⟨fid, fj, fst, fgot⟩, fh⟩, hF⟩ : ∃ F, F = us[(q + 1)] := ⟨_, rfl⟩
        rw [← hF] at d0 d1 d2 d3 HC1 hsl
        rw [← hF] at HF1
        simp only at htl
        subst htl
        have e1 : IntKind.i64.wrap (((q + 1 : Nat) : Int) - 1) = (q : Int) := by
          rw [show ((q + 1 : Nat) : Int) - 1 = (q : Int) by omega]
          exact IntWalk.i64_in _ (by omega)
        have e4 : IntKind.i64.wrap (q : Int) = (q : Int) := IntWalk.i64_in _ (by omega)
        have e5 : ((q : Int)).toNat = q := by omega
        have e2 : (0 : Int) ≤ (q : Int) := by omega
        have e3 : (q : Int) < (n : Int) := by omega
        have e6 : (0 : Int) < ((q + 1 : Nat) : Int) := by omega
        clear hF
        simp only at hsl
        subst hsl
        have HW := Lib.hid (show Below w.heap.size w (wr.alloc (.cells #[.int .i64 fid, .int .i64 fj, .int .i64 fst, .slice sa sn sc] 47)) ∧ (wr.alloc (.cells #[.int .i64 fid, .int .i64 fj, .int .i64 fst, .slice sa sn sc] 47)).heap[wr.heap.size]? = some (.cells #[.int .i64 fid, .int .i64 fj, .int .i64 fst, .slice sa sn sc] 47) from ⟨HR.out.trans ((alX wr _).mono HR.out.size), heap_alloc_new wr _⟩)
        have HBD := Lib.hid (show Below w.heap.size w (wr.alloc (.cells #[.int .i64 fid, .int .i64 fj, .int .i64 fst, .slice sa sn sc] 47)).drew from HW.out.1.drew)
        have SK : ∀ (W W' : World), ((W.cell? ⟨wr.heap.size, 0, none⟩ = some (.int .i64 fid) ∧ W.cell? ⟨wr.heap.size, 1, none⟩ = some (.int .i64 fj) ∧ W.cell? ⟨wr.heap.size, 2, none⟩ = some (.int .i64 fst) ∧ W.cell? ⟨wr.heap.size, 3, none⟩ = some (.slice sa sn sc)) ∧ (W.cell? ⟨bb, off + q * 4, none⟩ = some (.int .i64 gid) ∧ W.cell? ⟨bb, off + q * 4 + 1, none⟩ = some (.int .i64 gj) ∧ W.cell? ⟨bb, off + q * 4 + 2, none⟩ = some (.int .i64 gst) ∧ W.cell? ⟨bb, off + q * 4 + 3, none⟩ = some (.slice ta tn tc))) → Below W.heap.size W W' → ((W'.cell? ⟨wr.heap.size, 0, none⟩ = some (.int .i64 fid) ∧ W'.cell? ⟨wr.heap.size, 1, none⟩ = some (.int .i64 fj) ∧ W'.cell? ⟨wr.heap.size, 2, none⟩ = some (.int .i64 fst) ∧ W'.cell? ⟨wr.heap.size, 3, none⟩ = some (.slice sa sn sc)) ∧ (W'.cell? ⟨bb, off + q * 4, none⟩ = some (.int .i64 gid) ∧ W'.cell? ⟨bb, off + q * 4 + 1, none⟩ = some (.int .i64 gj) ∧ W'.cell? ⟨bb, off + q * 4 + 2, none⟩ = some (.int .i64 gst) ∧ W'.cell? ⟨bb, off + q * 4 + 3, none⟩ = some (.slice ta tn tc))) := fun W W' h k => ⟨⟨cell_bel h.1.1 k, cell_bel h.1.2.1 k, cell_bel h.1.2.2.1 k, cell_bel h.1.2.2.2 k⟩, cell_bel h.2.1 k, cell_bel h.2.2.1 k, cell_bel h.2.2.2.1 k, cell_bel h.2.2.2.2 k⟩
        have KD := Lib.hid (show ((wr.alloc (.cells #[.int .i64 fid, .int .i64 fj, .int .i64 fst, .slice sa sn sc] 47)).drew.cell? ⟨wr.heap.size, 0, none⟩ = some (.int .i64 fid) ∧ (wr.alloc (.cells #[.int .i64 fid, .int .i64 fj, .int .i64 fst, .slice sa sn sc] 47)).drew.cell? ⟨wr.heap.size, 1, none⟩ = some (.int .i64 fj) ∧ (wr.alloc (.cells #[.int .i64 fid, .int .i64 fj, .int .i64 fst, .slice sa sn sc] 47)).drew.cell? ⟨wr.heap.size, 2, none⟩ = some (.int .i64 fst) ∧ (wr.alloc (.cells #[.int .i64 fid, .int .i64 fj, .int .i64 fst, .slice sa sn sc] 47)).drew.cell? ⟨wr.heap.size, 3, none⟩ = some (.slice sa sn sc)) ∧ ((wr.alloc (.cells #[.int .i64 fid, .int .i64 fj, .int .i64 fst, .slice sa sn sc] 47)).drew.cell? ⟨bb, off + q * 4, none⟩ = some (.int .i64 gid) ∧ (wr.alloc (.cells #[.int .i64 fid, .int .i64 fj, .int .i64 fst, .slice sa sn sc] 47)).drew.cell? ⟨bb, off + q * 4 + 1, none⟩ = some (.int .i64 gj) ∧ (wr.alloc (.cells #[.int .i64 fid, .int .i64 fj, .int .i64 fst, .slice sa sn sc] 47)).drew.cell? ⟨bb, off + q * 4 + 2, none⟩ = some (.int .i64 gst) ∧ (wr.alloc (.cells #[.int .i64 fid, .int .i64 fj, .int .i64 fst, .slice sa sn sc] 47)).drew.cell? ⟨bb, off + q * 4 + 3, none⟩ = some (.slice ta tn tc)) from ⟨row4 HW.out.2, cell_al _ c0, cell_al _ c1, cell_al _ c2, cell_al _ c3⟩)
        have HSK := Lib.hid SK
        clear SK
        go_upto_region 6 with (fail)
        clear d0 d1 d2 d3 c0 c1 c2 c3
        go_region_held3 (fun w' => (w'.cell? ⟨wr.heap.size, 0, none⟩ = some (.int .i64 fid) ∧ w'.cell? ⟨wr.heap.size, 1, none⟩ = some (.int .i64 fj) ∧ w'.cell? ⟨wr.heap.size, 2, none⟩ = some (.int .i64 fst) ∧ w'.cell? ⟨wr.heap.size, 3, none⟩ = some (.slice sa sn sc)) ∧ (w'.cell? ⟨bb, off + q * 4, none⟩ = some (.int .i64 gid) ∧ w'.cell? ⟨bb, off + q * 4 + 1, none⟩ = some (.int .i64 gj) ∧ w'.cell? ⟨bb, off + q * 4 + 2, none⟩ = some (.int .i64 gst) ∧ w'.cell? ⟨bb, off + q * 4 + 3, none⟩ = some (.slice ta tn tc))) (first | with_reducible exact KD.out | with_reducible exact ks2 | with_reducible exact ks)
          (first
            | (go_at_call 45; refine (HC1.out _ HBD.out).mono ?_; rintro e w2 ⟨rfl, hb⟩; have ks := HSK.out _ _ KD.out hb; have HR2 := Lib.hid (HBD.out.trans (hb.mono HBD.out.size)); clear hb)
            | (go_at_call 46; refine (HF1.out _ HR2.out).mono ?_; rintro e w3 ⟨rfl, hb⟩; have ks2 := HSK.out _ _ ks hb; have HR3 := Lib.hid (HR2.out.trans (hb.mono HR2.out.size)); clear hb))
        go_wp2
        go_roundw
        case rel => exact ⟨(q + 1) + 1, by omega, by go_num, HR3⟩
        case measure => simp [intOf]; omega
    · obtain rfl : i = q0 + 1 := by omega
      have hiu : q0 + 1 < us.length := by rw [← HNN.out]; exact hk2
      obtain ⟨bb, off, rfl, d0, d1, d2, d3⟩ := liesf_at (HL.out.bel HR.out) (q0 + 1) hiu
      obtain ⟨sa, sn, sc, hsl⟩ := HSL.out (q0 + 1) hiu
      have hin : ((q0 + 1 : Nat) : Int) < (n : Int) := by omega
      have hi0 : (0 : Int) ≤ ((q0 + 1 : Nat) : Int) := by omega
      have hi64 : ((q0 + 1 : Nat) : Int) ≤ 40 := by omega
      have HC1 := HYES
      have hq0 : q0 < us.length := by omega
      have HF1 := HNO
      obtain ⟨b2, of2, eb, c0, c1, c2, c3⟩ := liesf_at (HL.out.bel HR.out) q0 hq0
      obtain ⟨ta, tn, tc, htl⟩ := HSL.out q0 hq0
      injection eb with eb
      injection eb with eb1 eb2
      subst eb1 eb2
      obtain ⟨⟨⟨gid, gj, gst, ggot⟩, gh⟩, hG⟩ : ∃ F, F = us[q0] := ⟨_, rfl⟩
      rw [← hG] at c0 c1 c2 c3 HF1 htl
      clear hG
      obtain ⟨⟨⟨fid, fj, fst, fgot⟩, fh⟩, hF⟩ : ∃ F, F = us[(q0 + 1)] := ⟨_, rfl⟩
      rw [← hF] at d0 d1 d2 d3 HC1 hsl
      rw [← hF] at HF1
      simp only at htl
      subst htl
      have e1 : IntKind.i64.wrap (((q0 + 1 : Nat) : Int) - 1) = (q0 : Int) := by
        rw [show ((q0 + 1 : Nat) : Int) - 1 = (q0 : Int) by omega]
        exact IntWalk.i64_in _ (by omega)
      have e4 : IntKind.i64.wrap (q0 : Int) = (q0 : Int) := IntWalk.i64_in _ (by omega)
      have e5 : ((q0 : Int)).toNat = q0 := by omega
      have e2 : (0 : Int) ≤ (q0 : Int) := by omega
      have e3 : (q0 : Int) < (n : Int) := by omega
      have e6 : (0 : Int) < ((q0 + 1 : Nat) : Int) := by omega
      clear hF
      simp only at hsl
      subst hsl
      have HW := Lib.hid (show Below w.heap.size w (wr.alloc (.cells #[.int .i64 fid, .int .i64 fj, .int .i64 fst, .slice sa sn sc] 47)) ∧ (wr.alloc (.cells #[.int .i64 fid, .int .i64 fj, .int .i64 fst, .slice sa sn sc] 47)).heap[wr.heap.size]? = some (.cells #[.int .i64 fid, .int .i64 fj, .int .i64 fst, .slice sa sn sc] 47) from ⟨HR.out.trans ((alX wr _).mono HR.out.size), heap_alloc_new wr _⟩)
      have HBD := Lib.hid (show Below w.heap.size w (wr.alloc (.cells #[.int .i64 fid, .int .i64 fj, .int .i64 fst, .slice sa sn sc] 47)).drew from HW.out.1.drew)
      have SK : ∀ (W W' : World), ((W.cell? ⟨wr.heap.size, 0, none⟩ = some (.int .i64 fid) ∧ W.cell? ⟨wr.heap.size, 1, none⟩ = some (.int .i64 fj) ∧ W.cell? ⟨wr.heap.size, 2, none⟩ = some (.int .i64 fst) ∧ W.cell? ⟨wr.heap.size, 3, none⟩ = some (.slice sa sn sc)) ∧ (W.cell? ⟨bb, off + q0 * 4, none⟩ = some (.int .i64 gid) ∧ W.cell? ⟨bb, off + q0 * 4 + 1, none⟩ = some (.int .i64 gj) ∧ W.cell? ⟨bb, off + q0 * 4 + 2, none⟩ = some (.int .i64 gst) ∧ W.cell? ⟨bb, off + q0 * 4 + 3, none⟩ = some (.slice ta tn tc))) → Below W.heap.size W W' → ((W'.cell? ⟨wr.heap.size, 0, none⟩ = some (.int .i64 fid) ∧ W'.cell? ⟨wr.heap.size, 1, none⟩ = some (.int .i64 fj) ∧ W'.cell? ⟨wr.heap.size, 2, none⟩ = some (.int .i64 fst) ∧ W'.cell? ⟨wr.heap.size, 3, none⟩ = some (.slice sa sn sc)) ∧ (W'.cell? ⟨bb, off + q0 * 4, none⟩ = some (.int .i64 gid) ∧ W'.cell? ⟨bb, off + q0 * 4 + 1, none⟩ = some (.int .i64 gj) ∧ W'.cell? ⟨bb, off + q0 * 4 + 2, none⟩ = some (.int .i64 gst) ∧ W'.cell? ⟨bb, off + q0 * 4 + 3, none⟩ = some (.slice ta tn tc))) := fun W W' h k => ⟨⟨cell_bel h.1.1 k, cell_bel h.1.2.1 k, cell_bel h.1.2.2.1 k, cell_bel h.1.2.2.2 k⟩, cell_bel h.2.1 k, cell_bel h.2.2.1 k, cell_bel h.2.2.2.1 k, cell_bel h.2.2.2.2 k⟩
      have KD := Lib.hid (show ((wr.alloc (.cells #[.int .i64 fid, .int .i64 fj, .int .i64 fst, .slice sa sn sc] 47)).drew.cell? ⟨wr.heap.size, 0, none⟩ = some (.int .i64 fid) ∧ (wr.alloc (.cells #[.int .i64 fid, .int .i64 fj, .int .i64 fst, .slice sa sn sc] 47)).drew.cell? ⟨wr.heap.size, 1, none⟩ = some (.int .i64 fj) ∧ (wr.alloc (.cells #[.int .i64 fid, .int .i64 fj, .int .i64 fst, .slice sa sn sc] 47)).drew.cell? ⟨wr.heap.size, 2, none⟩ = some (.int .i64 fst) ∧ (wr.alloc (.cells #[.int .i64 fid, .int .i64 fj, .int .i64 fst, .slice sa sn sc] 47)).drew.cell? ⟨wr.heap.size, 3, none⟩ = some (.slice sa sn sc)) ∧ ((wr.alloc (.cells #[.int .i64 fid, .int .i64 fj, .int .i64 fst, .slice sa sn sc] 47)).drew.cell? ⟨bb, off + q0 * 4, none⟩ = some (.int .i64 gid) ∧ (wr.alloc (.cells #[.int .i64 fid, .int .i64 fj, .int .i64 fst, .slice sa sn sc] 47)).drew.cell? ⟨bb, off + q0 * 4 + 1, none⟩ = some (.int .i64 gj) ∧ (wr.alloc (.cells #[.int .i64 fid, .int .i64 fj, .int .i64 fst, .slice sa sn sc] 47)).drew.cell? ⟨bb, off + q0 * 4 + 2, none⟩ = some (.int .i64 gst) ∧ (wr.alloc (.cells #[.int .i64 fid, .int .i64 fj, .int .i64 fst, .slice sa sn sc] 47)).drew.cell? ⟨bb, off + q0 * 4 + 3, none⟩ = some (.slice ta tn tc)) from ⟨row4 HW.out.2, cell_al _ c0, cell_al _ c1, cell_al _ c2, cell_al _ c3⟩)
      have HSK := Lib.hid SK
      clear SK
      go_upto_region 6 with (fail)
      clear d0 d1 d2 d3 c0 c1 c2 c3
      go_region_held3 (fun w' => (w'.cell? ⟨wr.heap.size, 0, none⟩ = some (.int .i64 fid) ∧ w'.cell? ⟨wr.heap.size, 1, none⟩ = some (.int .i64 fj) ∧ w'.cell? ⟨wr.heap.size, 2, none⟩ = some (.int .i64 fst) ∧ w'.cell? ⟨wr.heap.size, 3, none⟩ = some (.slice sa sn sc)) ∧ (w'.cell? ⟨bb, off + q0 * 4, none⟩ = some (.int .i64 gid) ∧ w'.cell? ⟨bb, off + q0 * 4 + 1, none⟩ = some (.int .i64 gj) ∧ w'.cell? ⟨bb, off + q0 * 4 + 2, none⟩ = some (.int .i64 gst) ∧ w'.cell? ⟨bb, off + q0 * 4 + 3, none⟩ = some (.slice ta tn tc))) (first | with_reducible exact KD.out | with_reducible exact ks2 | with_reducible exact ks)
        (first
          | (go_at_call 45; refine (HC1.out _ HBD.out).mono ?_; rintro e w2 ⟨rfl, hb⟩; have ks := HSK.out _ _ KD.out hb; have HR2 := Lib.hid (HBD.out.trans (hb.mono HBD.out.size)); clear hb)
          | (go_at_call 46; refine (HF1.out _ HR2.out).mono ?_; rintro e w3 ⟨rfl, hb⟩; have ks2 := HSK.out _ _ ks hb; have HR3 := Lib.hid (HR2.out.trans (hb.mono HR2.out.size)); clear hb))
      go_wp2
      go_ret
      exact ⟨rfl, HR3.out⟩
end Go.Proofs.YtlejohclijjhnaaGreatDoor.Fm

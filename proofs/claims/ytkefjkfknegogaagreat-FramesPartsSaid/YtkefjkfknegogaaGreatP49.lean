/-
  WALK of canStand, of frames that can be, one upon the other. Conditions: the store and the list lie in memory.
  WALK of Load, of frames that can be loaded. Conditions: nothing is under way; the list lies in memory.
  FRAMES THAT ARE TOLD CAN BE LOADED; what stays from run to run. Conditions: those that each lemma names.
-/
import Derived.Test.YtkefjkfknegogaaGreatP47
import Derived.Test.YtkefjkfknegogaaGreatP48
namespace Go.Proofs.YtkefjkfknegogaaGreat.Fm
open Go.RowKit Ti Qd Go.Maps Go.WideMaps Ru

/-- a list of frames that can be loaded -/
structure Ldb (b l : Nat) (L : List Sq) (us : List FH) : Prop where
  pos : 0 < us.length
  le : us.length ≤ 40
  ok : ∀ i (hi : i < us.length), ∃ n, FOk b l L us[i].1 n
  fol : ∀ i (hi : i + 1 < us.length), Fol L us[i].1 us[i + 1].1
theorem liesf_at {w : World} {ao : Option Addr} {us : List FH} (h : LiesF w ao us) (i : Nat) (hi : i < us.length) : ∃ bb off, ao = some ⟨bb, off, none⟩ ∧ w.cell? ⟨bb, off + i * 4, none⟩ = some (.int .i64 us[i].1.id) ∧ w.cell? ⟨bb, off + i * 4 + 1, none⟩ = some (.int .i64 us[i].1.j) ∧ w.cell? ⟨bb, off + i * 4 + 2, none⟩ = some (.int .i64 us[i].1.st) ∧ w.cell? ⟨bb, off + i * 4 + 3, none⟩ = some us[i].2 := by
  obtain ⟨bb, off, e, hc⟩ := h i hi
  exact ⟨bb, off, e, hc 0 (by decide), hc 1 (by decide), hc 2 (by decide), hc 3 (by decide)⟩
set_option maxRecDepth 100000 in
set_option maxHeartbeats 4000000 in
theorem canStand_f {B : Nat} {w : World} {P b l : Nat} {L : List Sq} {room : Nat} {Hs : Nat → Prop} {G : Nat} (hst : St B w P L room Hs) (hc : w.cell? ⟨G, 0, none⟩ = some (.pointer (some ⟨P, 0, none⟩))) (ao : Option Addr) (cap : Nat) (us : List FH) (hl : LiesF w ao us) (hg : ∀ x ∈ us, LiesI w x.2 x.1.got) (hd : Ldb b l L us) :
    Calls Tryz.prog 26 #[.pointer (some ⟨G, 0, none⟩), .slice ao us.length cap] w fun e w' => e = .returned (.bool true) ∧ Below w.heap.size w w' := by
  have HL := Lib.hid hl
  have HCB := Lib.hid (fun (W : World) (hW : Below w.heap.size w W) (i : Nat) (hi : i < us.length) => show Calls Tryz.prog 41 #[.pointer (some ⟨G, 0, none⟩), .agg #[.int .i64 us[i].1.id, .int .i64 us[i].1.j, .int .i64 us[i].1.st, us[i].2]] W fun e w' => e = .returned (.bool true) ∧ Below W.heap.size W w' from by
    obtain ⟨n, hf⟩ := hd.ok i hi
    exact canBe_f (hst.bel hW) (cell_bel hc hW) us[i].1 us[i].2 n hf ((hg _ (List.getElem_mem hi)).bel hW))
  have HFB := Lib.hid (fun (W : World) (hW : Below w.heap.size w W) (i : Nat) (hi : i + 1 < us.length) => show Calls Tryz.prog 42 #[.pointer (some ⟨G, 0, none⟩), .agg #[.int .i64 us[i].1.id, .int .i64 us[i].1.j, .int .i64 us[i].1.st, us[i].2], .agg #[.int .i64 us[i + 1].1.id, .int .i64 us[i + 1].1.j, .int .i64 us[i + 1].1.st, us[i + 1].2]] W fun e w' => e = .returned (.bool true) ∧ Below W.heap.size W w' from by
    obtain ⟨n, hf⟩ := hd.ok i (by omega)
    obtain ⟨m, hf2⟩ := hd.ok (i + 1) hi
    exact follows_f (hst.bel hW) (cell_bel hc hW) us[i].1 us[i + 1].1 us[i].2 us[i + 1].2 n m hf ((hg _ (List.getElem_mem (by omega))).bel hW) ((hg _ (List.getElem_mem hi)).bel hW) (hd.fol i hi) hf2.lv)
  have HSL := Lib.hid (fun i (hi : i < us.length) => show ∃ a n c, us[i].2 = .slice a n c from by
    obtain ⟨a, c, e, _⟩ := hg _ (List.getElem_mem hi)
    exact ⟨a, _, c, e⟩)
  have hp := hd.pos
  have hle := hd.le
  clear hst hc hl hg hd
  have HN := Lib.hid (show us.length = us.length from rfl)
  obtain ⟨n, hn⟩ : ∃ n, n = us.length := ⟨_, rfl⟩
  have HNN := Lib.hid hn
  rw [← hn] at hp hle ⊢
  have hn0 : ((n : Int) == 0) = false := by rw [beq_eq_false_iff_ne]; omega
  have hn1 : decide ((40 : Int) < (n : Int)) = false := decide_eq_false (by omega)
  have hn2 : ¬ (40 : Int) < (n : Int) := by omega
  clear hn HN
  have HB0 := Lib.hid (Below.refl w.heap.size w)
  go_enter Tryz.func26, Tryz.ntmps26
  go_wp2
  go_loopw [17] (fun v wr => ∃ i : Nat, i ≤ n ∧ v = .int .i64 (i : Int) ∧ Hid (Below w.heap.size w wr)) (fun v _ => n - (intOf v).toNat)
  case atStart => exact ⟨0, Nat.zero_le _, rfl, HB0⟩
  case round =>
    clear HB0
    obtain ⟨i, hi, rfl, HR⟩ := hrel
    by_cases hlt : i < n
    · have hiu : i < us.length := by rw [← HNN.out]; exact hlt
      obtain ⟨bb, off, rfl, d0, d1, d2, d3⟩ := liesf_at (HL.out.bel HR.out) i hiu
      obtain ⟨sa, sn, sc, hsl⟩ := HSL.out i hiu
      have hin : (i : Int) < (n : Int) := by omega
      have hi0 : (0 : Int) ≤ (i : Int) := by omega
      have hi64 : (i : Int) ≤ 40 := by omega
      cases i with
      | zero =>
        have HC1 := Lib.hid (fun W hW => HCB.out W hW 0 hiu)
        rw [show ((0 : Nat) : Int) = (0 : Int) from rfl]
        simp only [Nat.zero_mul, Nat.add_zero] at d0 d1 d2 d3
        have hp0 : (0 : Int) < (n : Int) := by omega
        obtain ⟨⟨⟨fid, fj, fst, fgot⟩, fh⟩, hF⟩ : ∃ F, F = us[0] := ⟨_, rfl⟩
        rw [← hF] at d0 d1 d2 d3 HC1 hsl
        clear hF
        simp only at hsl
        subst hsl
        have HW := Lib.hid (show Below w.heap.size w (wr.alloc (.cells #[.int .i64 fid, .int .i64 fj, .int .i64 fst, .slice sa sn sc] 79)) ∧ (wr.alloc (.cells #[.int .i64 fid, .int .i64 fj, .int .i64 fst, .slice sa sn sc] 79)).heap[wr.heap.size]? = some (.cells #[.int .i64 fid, .int .i64 fj, .int .i64 fst, .slice sa sn sc] 79) from ⟨HR.out.trans ((alX wr _).mono HR.out.size), heap_alloc_new wr _⟩)
        have HBD := Lib.hid (show Below w.heap.size w (wr.alloc (.cells #[.int .i64 fid, .int .i64 fj, .int .i64 fst, .slice sa sn sc] 79)).drew from HW.out.1.drew)
        have SK : ∀ (W W' : World), ((W.cell? ⟨wr.heap.size, 0, none⟩ = some (.int .i64 fid) ∧ W.cell? ⟨wr.heap.size, 1, none⟩ = some (.int .i64 fj) ∧ W.cell? ⟨wr.heap.size, 2, none⟩ = some (.int .i64 fst) ∧ W.cell? ⟨wr.heap.size, 3, none⟩ = some (.slice sa sn sc))) → Below W.heap.size W W' → ((W'.cell? ⟨wr.heap.size, 0, none⟩ = some (.int .i64 fid) ∧ W'.cell? ⟨wr.heap.size, 1, none⟩ = some (.int .i64 fj) ∧ W'.cell? ⟨wr.heap.size, 2, none⟩ = some (.int .i64 fst) ∧ W'.cell? ⟨wr.heap.size, 3, none⟩ = some (.slice sa sn sc))) := fun W W' h k => ⟨cell_bel h.1 k, cell_bel h.2.1 k, cell_bel h.2.2.1 k, cell_bel h.2.2.2 k⟩
        have KD := Lib.hid (show ((wr.alloc (.cells #[.int .i64 fid, .int .i64 fj, .int .i64 fst, .slice sa sn sc] 79)).drew.cell? ⟨wr.heap.size, 0, none⟩ = some (.int .i64 fid) ∧ (wr.alloc (.cells #[.int .i64 fid, .int .i64 fj, .int .i64 fst, .slice sa sn sc] 79)).drew.cell? ⟨wr.heap.size, 1, none⟩ = some (.int .i64 fj) ∧ (wr.alloc (.cells #[.int .i64 fid, .int .i64 fj, .int .i64 fst, .slice sa sn sc] 79)).drew.cell? ⟨wr.heap.size, 2, none⟩ = some (.int .i64 fst) ∧ (wr.alloc (.cells #[.int .i64 fid, .int .i64 fj, .int .i64 fst, .slice sa sn sc] 79)).drew.cell? ⟨wr.heap.size, 3, none⟩ = some (.slice sa sn sc)) from row4 HW.out.2)
        have HSK := Lib.hid SK
        clear SK
        go_upto_region 6 with (fail)
        clear d0 d1 d2 d3
        have hS0 := KD.out
        refine Till.region (s := 19) (S := fun _ w' => w'.cell? ⟨wr.heap.size, 0, none⟩ = some (.int .i64 fid) ∧ w'.cell? ⟨wr.heap.size, 1, none⟩ = some (.int .i64 fj) ∧ w'.cell? ⟨wr.heap.size, 2, none⟩ = some (.int .i64 fst) ∧ w'.cell? ⟨wr.heap.size, 3, none⟩ = some (.slice sa sn sc)) (by kernel_rfl) ?_
        simp only [List.size_toArray, List.length_cons, List.length_nil]
        refine Till.move (i := 0) (d := 22) (v := ?_) rfl rfl (by kernel_rfl) (by kernel_rfl) (by kernel_rfl) (by kernel_rfl) (fun _ _ _ h => h) hS0 ?_ (by rfl) (by kernel_rfl) ?_
        rotate_left 1
        · intro w
          go_simp
          try with_reducible rfl
        dsimp only [Act.put]
        simp only [List.setIfInBounds_toArray, List.set_cons_zero, List.set_cons_succ]
        refine Till.read (i := 1) (d := 23) (v := ?_) (G := fun w' => w'.cell? ⟨wr.heap.size, 0, none⟩ = some (.int .i64 fid) ∧ w'.cell? ⟨wr.heap.size, 1, none⟩ = some (.int .i64 fj) ∧ w'.cell? ⟨wr.heap.size, 2, none⟩ = some (.int .i64 fst) ∧ w'.cell? ⟨wr.heap.size, 3, none⟩ = some (.slice sa sn sc)) (fun _ _ h => h) rfl rfl (by kernel_rfl) (by kernel_rfl) (by kernel_rfl) (by kernel_rfl) (fun _ _ _ h => h) hS0 ?_ (by rfl) (by kernel_rfl) ?_
        rotate_left 1
        · intro w' hx
          obtain ⟨x0, x1, x2, x3⟩ := hx
          go_simp
          try with_reducible rfl
        dsimp only [Act.put]
        simp only [List.setIfInBounds_toArray, List.set_cons_zero, List.set_cons_succ]
        refine Till.only false (i := 2) rfl (by kernel_rfl) (by rfl) (by kernel_rfl) fun K hK => ?_
        go_simp
        refine (HC1.out _ HBD.out).mono ?_
        rintro e w2 ⟨rfl, hb⟩
        have hS1 := HSK.out _ _ KD.out hb
        have HR2 := Lib.hid (HBD.out.trans (hb.mono HBD.out.size))
        clear hb
        refine hK.out _ _ hS1 ?_
        clear hK K
        refine Till.move (i := 3) (d := 25) (v := ?_) rfl rfl (by kernel_rfl) (by kernel_rfl) (by kernel_rfl) (by kernel_rfl) (fun _ _ _ h => h) hS1 ?_ (by rfl) (by kernel_rfl) ?_
        rotate_left 1
        · intro w
          go_simp
          try with_reducible rfl
        dsimp only [Act.put]
        simp only [List.setIfInBounds_toArray, List.set_cons_zero, List.set_cons_succ]
        refine Till.move (i := 4) (d := 26) (v := ?_) rfl rfl (by kernel_rfl) (by kernel_rfl) (by kernel_rfl) (by kernel_rfl) (fun _ _ _ h => h) hS1 ?_ (by rfl) (by kernel_rfl) ?_
        rotate_left 1
        · intro w
          go_simp
          try with_reducible rfl
        dsimp only [Act.put]
        simp only [List.setIfInBounds_toArray, List.set_cons_zero, List.set_cons_succ]
        refine Till.move (i := 5) (d := 27) (v := ?_) rfl rfl (by kernel_rfl) (by kernel_rfl) (by kernel_rfl) (by kernel_rfl) (fun _ _ _ h => h) hS1 ?_ (by rfl) (by kernel_rfl) ?_
        rotate_left 1
        · intro w
          go_simp
          try with_reducible rfl
        dsimp only [Act.put]
        simp only [List.setIfInBounds_toArray, List.set_cons_zero, List.set_cons_succ]
        refine Till.move (i := 6) (d := 28) (v := ?_) rfl rfl (by kernel_rfl) (by kernel_rfl) (by kernel_rfl) (by kernel_rfl) (fun _ _ _ h => h) hS1 ?_ (by rfl) (by kernel_rfl) ?_
        rotate_left 1
        · intro w
          go_simp
          try with_reducible rfl
        dsimp only [Act.put]
        simp only [List.setIfInBounds_toArray, List.set_cons_zero, List.set_cons_succ]
        refine Till.move (i := 7) (d := 29) (v := ?_) rfl rfl (by kernel_rfl) (by kernel_rfl) (by kernel_rfl) (by kernel_rfl) (fun _ _ _ h => h) hS1 ?_ (by rfl) (by kernel_rfl) ?_
        rotate_left 1
        · intro w
          go_simp
          try with_reducible rfl
        dsimp only [Act.put]
        simp only [List.setIfInBounds_toArray, List.set_cons_zero, List.set_cons_succ]
        refine Till.skip (i := 8) (d := 30) rfl rfl (by kernel_rfl) (by kernel_rfl) (by kernel_rfl) (by kernel_rfl) (fun _ _ _ h => h) hS1 (by rfl) (by kernel_rfl) ?_
        dsimp only [Act.put]
        simp only [List.setIfInBounds_toArray, List.set_cons_zero, List.set_cons_succ]
        refine Till.skip (i := 9) (d := 31) rfl rfl (by kernel_rfl) (by kernel_rfl) (by kernel_rfl) (by kernel_rfl) (fun _ _ _ h => h) hS1 (by rfl) (by kernel_rfl) ?_
        dsimp only [Act.put]
        simp only [List.setIfInBounds_toArray, List.set_cons_zero, List.set_cons_succ]
        refine Till.skip (i := 10) (d := 32) rfl rfl (by kernel_rfl) (by kernel_rfl) (by kernel_rfl) (by kernel_rfl) (fun _ _ _ h => h) hS1 (by rfl) (by kernel_rfl) ?_
        dsimp only [Act.put]
        simp only [List.setIfInBounds_toArray, List.set_cons_zero, List.set_cons_succ]
        refine Till.skip (i := 11) (d := 33) rfl rfl (by kernel_rfl) (by kernel_rfl) (by kernel_rfl) (by kernel_rfl) (fun _ _ _ h => h) hS1 (by rfl) (by kernel_rfl) ?_
        dsimp only [Act.put]
        simp only [List.setIfInBounds_toArray, List.set_cons_zero, List.set_cons_succ]
        refine Till.skip (i := 12) (d := 34) rfl rfl (by kernel_rfl) (by kernel_rfl) (by kernel_rfl) (by kernel_rfl) (fun _ _ _ h => h) hS1 (by rfl) (by kernel_rfl) ?_
        dsimp only [Act.put]
        simp only [List.setIfInBounds_toArray, List.set_cons_zero, List.set_cons_succ]
        refine Till.skip (i := 13) (d := 35) rfl rfl (by kernel_rfl) (by kernel_rfl) (by kernel_rfl) (by kernel_rfl) (fun _ _ _ h => h) hS1 (by rfl) (by kernel_rfl) ?_
        dsimp only [Act.put]
        simp only [List.setIfInBounds_toArray, List.set_cons_zero, List.set_cons_succ]
        refine Till.skip (i := 14) (d := 36) rfl rfl (by kernel_rfl) (by kernel_rfl) (by kernel_rfl) (by kernel_rfl) (fun _ _ _ h => h) hS1 (by rfl) (by kernel_rfl) ?_
        dsimp only [Act.put]
        simp only [List.setIfInBounds_toArray, List.set_cons_zero, List.set_cons_succ]
        refine Till.skip (i := 15) (d := 37) rfl rfl (by kernel_rfl) (by kernel_rfl) (by kernel_rfl) (by kernel_rfl) (fun _ _ _ h => h) hS1 (by rfl) (by kernel_rfl) ?_
        dsimp only [Act.put]
        simp only [List.setIfInBounds_toArray, List.set_cons_zero, List.set_cons_succ]
        refine Till.skip (i := 16) (d := 38) rfl rfl (by kernel_rfl) (by kernel_rfl) (by kernel_rfl) (by kernel_rfl) (fun _ _ _ h => h) hS1 (by rfl) (by kernel_rfl) ?_
        dsimp only [Act.put]
        simp only [List.setIfInBounds_toArray, List.set_cons_zero, List.set_cons_succ]
        refine Till.move (i := 17) (d := 39) (v := ?_) rfl rfl (by kernel_rfl) (by kernel_rfl) (by kernel_rfl) (by kernel_rfl) (fun _ _ _ h => h) hS1 ?_ (by rfl) (by kernel_rfl) ?_
        rotate_left 1
        · intro w
          go_simp
          try with_reducible rfl
        dsimp only [Act.put]
        simp only [List.setIfInBounds_toArray, List.set_cons_zero, List.set_cons_succ]
        refine Till.move (i := 18) (d := 40) (v := ?_) rfl rfl (by kernel_rfl) (by kernel_rfl) (by kernel_rfl) (by kernel_rfl) (fun _ _ _ h => h) hS1 ?_ (by rfl) (by kernel_rfl) ?_
        rotate_left 1
        · intro w
          go_simp
          try with_reducible rfl
        dsimp only [Act.put]
        simp only [List.setIfInBounds_toArray, List.set_cons_zero, List.set_cons_succ]
        refine Till.done (by kernel_rfl) ?_ _
        go_wp2
        go_roundw
        case rel => exact ⟨0 + 1, by omega, by go_num, HR2⟩
        case measure => simp [intOf]; omega
      | succ q =>
        have HC1 := Lib.hid (fun W hW => HCB.out W hW (q + 1) hiu)
        have hq0 : q < us.length := by omega
        have HF1 := Lib.hid (fun W hW => HFB.out W hW q hiu)
        obtain ⟨b2, of2, eb, c0, c1, c2, c3⟩ := liesf_at (HL.out.bel HR.out) q hq0
        obtain ⟨ta, tn, tc, htl⟩ := HSL.out q hq0
        injection eb with eb
        injection eb with eb1 eb2
        subst eb1 eb2
        obtain ⟨⟨⟨gid, gj, gst, ggot⟩, gh⟩, hG⟩ : ∃ F, F = us[q] := ⟨_, rfl⟩
        rw [← hG] at c0 c1 c2 c3 HF1 htl
        clear hG
        obtain ⟨⟨⟨fid, fj, fst, fgot⟩, fh⟩, hF⟩ : ∃ F, F = us[(q + 1)] := ⟨_, rfl⟩
        rw [← hF] at d0 d1 d2 d3 HC1 hsl
        rw [← hF] at HF1
        simp only at htl
        subst htl
        have e1 : IntKind.i64.wrap (((q + 1 : Nat) : Int) - 1) = (q : Int) := by
          rw [show ((q + 1 : Nat) : Int) - 1 = (q : Int) by omega]
          exact IntWalk.i64_in _ (by omega)
        have e4 : IntKind.i64.wrap (q : Int) = (q : Int) := IntWalk.i64_in _ (by omega)
        have e5 : ((q : Int)).toNat = q := by omega
        have e2 : (0 : Int) ≤ (q : Int) := by omega
        have e3 : (q : Int) < (n : Int) := by omega
        have e6 : (0 : Int) < ((q + 1 : Nat) : Int) := by omega
        clear hF
        simp only at hsl
        subst hsl
        have HW := Lib.hid (show Below w.heap.size w (wr.alloc (.cells #[.int .i64 fid, .int .i64 fj, .int .i64 fst, .slice sa sn sc] 79)) ∧ (wr.alloc (.cells #[.int .i64 fid, .int .i64 fj, .int .i64 fst, .slice sa sn sc] 79)).heap[wr.heap.size]? = some (.cells #[.int .i64 fid, .int .i64 fj, .int .i64 fst, .slice sa sn sc] 79) from ⟨HR.out.trans ((alX wr _).mono HR.out.size), heap_alloc_new wr _⟩)
        have HBD := Lib.hid (show Below w.heap.size w (wr.alloc (.cells #[.int .i64 fid, .int .i64 fj, .int .i64 fst, .slice sa sn sc] 79)).drew from HW.out.1.drew)
        have SK : ∀ (W W' : World), ((W.cell? ⟨wr.heap.size, 0, none⟩ = some (.int .i64 fid) ∧ W.cell? ⟨wr.heap.size, 1, none⟩ = some (.int .i64 fj) ∧ W.cell? ⟨wr.heap.size, 2, none⟩ = some (.int .i64 fst) ∧ W.cell? ⟨wr.heap.size, 3, none⟩ = some (.slice sa sn sc)) ∧ (W.cell? ⟨bb, off + q * 4, none⟩ = some (.int .i64 gid) ∧ W.cell? ⟨bb, off + q * 4 + 1, none⟩ = some (.int .i64 gj) ∧ W.cell? ⟨bb, off + q * 4 + 2, none⟩ = some (.int .i64 gst) ∧ W.cell? ⟨bb, off + q * 4 + 3, none⟩ = some (.slice ta tn tc))) → Below W.heap.size W W' → ((W'.cell? ⟨wr.heap.size, 0, none⟩ = some (.int .i64 fid) ∧ W'.cell? ⟨wr.heap.size, 1, none⟩ = some (.int .i64 fj) ∧ W'.cell? ⟨wr.heap.size, 2, none⟩ = some (.int .i64 fst) ∧ W'.cell? ⟨wr.heap.size, 3, none⟩ = some (.slice sa sn sc)) ∧ (W'.cell? ⟨bb, off + q * 4, none⟩ = some (.int .i64 gid) ∧ W'.cell? ⟨bb, off + q * 4 + 1, none⟩ = some (.int .i64 gj) ∧ W'.cell? ⟨bb, off + q * 4 + 2, none⟩ = some (.int .i64 gst) ∧ W'.cell? ⟨bb, off + q * 4 + 3, none⟩ = some (.slice ta tn tc))) := fun W W' h k => ⟨⟨cell_bel h.1.1 k, cell_bel h.1.2.1 k, cell_bel h.1.2.2.1 k, cell_bel h.1.2.2.2 k⟩, cell_bel h.2.1 k, cell_bel h.2.2.1 k, cell_bel h.2.2.2.1 k, cell_bel h.2.2.2.2 k⟩
        have KD := Lib.hid (show ((wr.alloc (.cells #[.int .i64 fid, .int .i64 fj, .int .i64 fst, .slice sa sn sc] 79)).drew.cell? ⟨wr.heap.size, 0, none⟩ = some (.int .i64 fid) ∧ (wr.alloc (.cells #[.int .i64 fid, .int .i64 fj, .int .i64 fst, .slice sa sn sc] 79)).drew.cell? ⟨wr.heap.size, 1, none⟩ = some (.int .i64 fj) ∧ (wr.alloc (.cells #[.int .i64 fid, .int .i64 fj, .int .i64 fst, .slice sa sn sc] 79)).drew.cell? ⟨wr.heap.size, 2, none⟩ = some (.int .i64 fst) ∧ (wr.alloc (.cells #[.int .i64 fid, .int .i64 fj, .int .i64 fst, .slice sa sn sc] 79)).drew.cell? ⟨wr.heap.size, 3, none⟩ = some (.slice sa sn sc)) ∧ ((wr.alloc (.cells #[.int .i64 fid, .int .i64 fj, .int .i64 fst, .slice sa sn sc] 79)).drew.cell? ⟨bb, off + q * 4, none⟩ = some (.int .i64 gid) ∧ (wr.alloc (.cells #[.int .i64 fid, .int .i64 fj, .int .i64 fst, .slice sa sn sc] 79)).drew.cell? ⟨bb, off + q * 4 + 1, none⟩ = some (.int .i64 gj) ∧ (wr.alloc (.cells #[.int .i64 fid, .int .i64 fj, .int .i64 fst, .slice sa sn sc] 79)).drew.cell? ⟨bb, off + q * 4 + 2, none⟩ = some (.int .i64 gst) ∧ (wr.alloc (.cells #[.int .i64 fid, .int .i64 fj, .int .i64 fst, .slice sa sn sc] 79)).drew.cell? ⟨bb, off + q * 4 + 3, none⟩ = some (.slice ta tn tc)) from ⟨row4 HW.out.2, cell_al _ c0, cell_al _ c1, cell_al _ c2, cell_al _ c3⟩)
        have HSK := Lib.hid SK
        clear SK
        go_upto_region 6 with (fail)
        clear d0 d1 d2 d3 c0 c1 c2 c3
        go_region_held3 (fun w' => (w'.cell? ⟨wr.heap.size, 0, none⟩ = some (.int .i64 fid) ∧ w'.cell? ⟨wr.heap.size, 1, none⟩ = some (.int .i64 fj) ∧ w'.cell? ⟨wr.heap.size, 2, none⟩ = some (.int .i64 fst) ∧ w'.cell? ⟨wr.heap.size, 3, none⟩ = some (.slice sa sn sc)) ∧ (w'.cell? ⟨bb, off + q * 4, none⟩ = some (.int .i64 gid) ∧ w'.cell? ⟨bb, off + q * 4 + 1, none⟩ = some (.int .i64 gj) ∧ w'.cell? ⟨bb, off + q * 4 + 2, none⟩ = some (.int .i64 gst) ∧ w'.cell? ⟨bb, off + q * 4 + 3, none⟩ = some (.slice ta tn tc))) (first | with_reducible exact KD.out | with_reducible exact ks2 | with_reducible exact ks)
          (first
            | (go_at_call 41; refine (HC1.out _ HBD.out).mono ?_; rintro e w2 ⟨rfl, hb⟩; have ks := HSK.out _ _ KD.out hb; have HR2 := Lib.hid (HBD.out.trans (hb.mono HBD.out.size)); clear hb)
            | (go_at_call 42; refine (HF1.out _ HR2.out).mono ?_; rintro e w3 ⟨rfl, hb⟩; have ks2 := HSK.out _ _ ks hb; have HR3 := Lib.hid (HR2.out.trans (hb.mono HR2.out.size)); clear hb))
        go_wp2
        go_roundw
        case rel => exact ⟨(q + 1) + 1, by omega, by go_num, HR3⟩
        case measure => simp [intOf]; omega
    · obtain rfl : i = n := by omega
      go_wp2
      go_ret
      exact ⟨rfl, HR.out⟩
end Go.Proofs.YtkefjkfknegogaaGreat.Fm
namespace Go.Proofs.YtkefjkfknegogaaGreat.Fm
open Go.RowKit Ti Qd Go.Maps Go.WideMaps Ru

set_option maxRecDepth 100000 in
set_option maxHeartbeats 4000000 in
theorem load_f {B P room b l G M : Nat} {s : MS} {w : World} {H : Nat → Prop} (h : Mc B P room b l G M s w H) (hB : B ≤ w.heap.size) (hu : s.U = []) (ao : Option Addr) (cap : Nat) (us : List FH) (hl : LiesF w ao us) (hg : ∀ x ∈ us, LiesI w x.2 x.1.got ∧ x.1.got.length ≤ 1000 ∧ (x.1.got = [] → x.2 = .slice none 0 0)) (hd : Ldb b l s.L us) :
    Calls Tryz.prog 11 #[.pointer (some ⟨G, 0, none⟩), .slice ao us.length cap] w fun e w' => e = .returned .nilIface ∧ Goz (Mc B P room b l G M ⟨s.L, s.K, (us.map Prod.fst).reverse, 0⟩) w H w' := by
  obtain ⟨a3, p3, c3, _, _⟩ := h.under
  rw [hu] at c3
  have c3 : w.cell? ⟨G, 3, none⟩ = some (.slice a3 0 p3) := c3
  obtain ⟨Hs, k1, _⟩ := h.store
  have HCS := Lib.hid (canStand_f k1 h.cells.1 ao cap us hl (fun x hx => (hg x hx).1) hd)
  have HCP := Lib.hid (fun (W : World) (hW : Below w.heap.size w W) => copied_f ao cap us W (hl.bel hW) (fun x hx => ⟨(hg x hx).1.bel hW, (hg x hx).2⟩) (by have := hd.le; omega))
  have HH := Lib.hid h
  have HB := Lib.hid hB
  clear h hB hu k1 hl hg hd
  generalize hn : us.length = n at *
  have HN := Lib.hid hn
  clear hn
  go_enter Tryz.func11, Tryz.ntmps11
  go_wp2_with fail
  refine HCS.out.mono ?_
  rintro e w1 ⟨rfl, hb1⟩
  have HB1 := Lib.hid hb1
  have HC1 := Lib.hid (HCP.out w1 hb1)
  clear hb1 c3 HCS HCP
  go_wp2_with fail
  refine HC1.out.mono ?_
  rintro e w2 ⟨a2, c2, nw, rfl, q1, q2, q3, q4, q5, q6⟩
  have q2' := q2
  rw [HN.out]
  have hlen : nw.length = n := by
    have := congrArg List.length q1
    simp only [List.length_map] at this
    rw [this, HN.out]
  have hST := start_f HH.out (ao := a2) (n := n) (cap := c2) (us' := nw) ((us.map Prod.fst).reverse) (HB1.out.trans (q6.mono HB1.out.size)) (by rw [HN.out] at q2; unfold OwnF at q2 ⊢; rw [hlen] at q2 ⊢; exact own_mono q2 HB1.out.size) (fun x hx => own_mono (q3 x hx) HB1.out.size) (by rw [HN.out] at q4; exact q4) q5 (by rw [q1, List.reverse_reverse]) HB.out
  have HST := Lib.hid hST
  clear hST q1 q2 q2' q3 q4 q5 q6 hlen HC1
  go_wp2_with fail
  refine HST.out.mono ?_
  rintro e w3 ⟨rfl, hg3⟩
  have HG3 := Lib.hid hg3
  clear hg3 HST
  go_wp2
  go_ret
  exact ⟨rfl, HG3.out⟩
end Go.Proofs.YtkefjkfknegogaaGreat.Fm
namespace Go.Proofs.YtkefjkfknegogaaGreat.Fm
open Go.RowKit Ti Qd Go.Maps Go.WideMaps Ru

theorem stk_fol {b l : Nat} {L : List Sq} : ∀ {U : List Fr}, Stk b l L U → ∀ i (hi : i + 1 < U.length), Fol L U[i + 1] U[i]
  | [], _, i, hi => absurd hi (by simp)
  | [_], _, i, hi => absurd hi (by simp)
  | g :: f :: r, h, 0, _ => h.2.1
  | g :: f :: r, h, i + 1, hi => stk_fol (U := f :: r) h.2.2 i (by simpa using hi)
theorem stk_each {b l : Nat} {L : List Sq} : ∀ {U : List Fr}, Stk b l L U → ∀ g ∈ U, ∃ n, FOk b l L g n
  | [], _, g, hg => absurd hg (by simp)
  | f :: r, h, g, hg => by
    rcases List.mem_cons.1 hg with rfl | hg
    · exact Stk.top h
    · exact stk_each (Stk.rest h) g hg
theorem ldb_of {b l : Nat} {s : MS} (h : SOk b l s) (hu : s.U ≠ []) {us : List FH} (e : us.map Prod.fst = s.U.reverse) : Ldb b l s.L us := by
  have hl : us.length = s.U.length := by
    have := congrArg List.length e
    simpa using this
  have hat : ∀ i (hi : i < us.length), us[i].1 = s.U[s.U.length - 1 - i]'(by omega) := fun i hi => by
    have h1 : (us.map Prod.fst)[i]'(by simpa using hi) = us[i].1 := by simp
    have h2 : (us.map Prod.fst)[i]'(by simpa using hi) = s.U.reverse[i]'(by simp; omega) := by simp only [e]
    rw [← h1, h2, List.getElem_reverse]
  have hpos : 0 < s.U.length := List.length_pos_iff.2 hu
  have hle : s.U.length ≤ 40 := by
    have hst := h.stk
    have hi : Inv s.L := h.kn.inv
    match hU : s.U with
    | [] => exact absurd hU hu
    | f :: r =>
      rw [hU] at hst
      obtain ⟨n, hf⟩ := Stk.top hst
      have := stk_len hi r f n hst hf
      show r.length + 1 ≤ 40
      omega
  refine ⟨by omega, by omega, fun i hi => ?_, fun i hi => ?_⟩
  · rw [hat i hi]
    exact stk_each h.stk _ (List.getElem_mem _)
  · have e1 := hat i (by omega)
    have e2 := hat (i + 1) hi
    rw [e1, e2]
    have k := stk_fol h.stk (s.U.length - 2 - i) (by omega)
    have q1 : s.U.length - 2 - i + 1 = s.U.length - 1 - i := by omega
    have q2 : s.U.length - 1 - (i + 1) = s.U.length - 2 - i := by omega
    simp only [q1] at k
    simp only [q2]
    exact k
/-- what stays, from run to run, whichever machine runs -/
structure Iv (r l : Nat) (L0 : List Sq) (id j : Int) (s : MS) : Prop where
  ok : SOk r l s
  bas : Bas id j s
  ext : L0 <+: s.L
  len : s.L.length + 2 * pot s.L s.U ≤ 9818
theorem Iv.run {r l : Nat} {L0 : List Sq} {id j : Int} {s : MS} (h : Iv r l L0 id j s) (n : Nat) : Iv r l L0 id j (runF r l n s).2 ∧ (runF r l n s).2.L.length ≤ 40000 := by
  have ro := run_ok n h.ok
  have h1 := ro.len
  have h2 := ro.pot
  have h3 := h.len
  exact ⟨⟨ro.ok, ro.bas id j h.bas, h.ext.trans ro.ext, by omega⟩, by omega⟩
theorem Iv.load {r l : Nat} {L0 : List Sq} {id j : Int} {s : MS} (h : Iv r l L0 id j s) (hu : s.U ≠ []) : Iv r l L0 id j ⟨s.L, K0, s.U, 0⟩ := by
  refine ⟨⟨gok_new r l h.ok.kn.inv, h.ok.stk⟩, ?_, h.ext, h.len⟩
  rcases h.bas with ⟨e, _⟩ | e
  · exact absurd e hu
  · exact .inr e
theorem Iv.last {r l : Nat} {L0 : List Sq} {id j : Int} {s : MS} (h : Iv r l L0 id j s) (hu : s.U ≠ []) : (runF r l 1048576 s).2.U = [] ∧ 0 < (runF r l 1048576 s).1 := by
  obtain ⟨N, hN⟩ : ∃ N : Nat, N = 1048576 := ⟨_, rfl⟩
  rw [← hN]
  have := h.len
  exact ⟨run_end h.ok (by omega), (run_ok N h.ok).pos hu (by omega)⟩
theorem cst_le : ∀ p, p ≤ 3 → ∀ j, j ≤ p + 2 → cst p j ≤ 25000 := by decide
/-- what came of it is what Grow answers -/
theorem Iv.end_ {r l : Nat} {L0 : List Sq} {id : Int} {j p : Nat} {s : MS} (h : Iv r l L0 id j s) (hu : s.U = []) (hl : Lv L0 (p + 1) id) (hp : p ≤ 3) (hj : j ≤ p + 2) : (s.out != 0) = true ∧ (growQ r l p (s.L, K0) id j).2 = s.out ∧ (growQ r l p (s.L, K0) id j).1.1.length ≤ 40000 ∧ GOk r l (s.L, K0) ∧ Lv s.L (p + 1) id := by
  have hk := bas_end h.bas hu
  have hv : Lv s.L (p + 1) id := hl.ext h.ext
  have g : Grn r l s.L id j s.out := (h.ok.kn.kn _ _ _ hk).2
  have hi : Inv s.L := h.ok.kn.inv
  have hg : GOk r l (s.L, K0) := gok_new r l hi
  have gr := grow_ok r l p Tt _ (uni_any r l) (s.L, K0) id j _ 0 0 hg (by omega) hj (Wn.self hv) trivial
  have w1 := (g p _ _ _ (Wn.self hv)).2
  have e0 : s.L <+: (growQ r l p (s.L, K0) id j).1.1 := gr.ext
  have w2 := w1.ext hi e0
  rw [show ((j : Int)).toNat = j from Int.toNat_natCast j] at w2
  have hlen := gr.len
  have hcs := cst_le p hp j hj
  have hL := h.len
  have e1 : ((s.L, K0) : GS).1.length = s.L.length := rfl
  refine ⟨?_, Wn.uniq gr.ok.inv gr.win w2, by omega, hg, hv⟩
  have ho := w1.1.1
  unfold Ok at ho
  rw [bne_iff_ne]
  intro q
  rw [q] at ho
  omega
end Go.Proofs.YtkefjkfknegogaaGreat.Fm

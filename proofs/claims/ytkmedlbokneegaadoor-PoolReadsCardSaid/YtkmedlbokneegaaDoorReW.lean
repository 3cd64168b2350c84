/-
  PoolReads: each sector that was laid is read as it was laid last, whatever was read and laid between, by however few frames; so it is behind a flush, by another pool. No condition but that the input could be read.
-/
import Derived.Test.YtkmedlbokneegaaDoorDo
import Derived.Test.YtkmedlbokneegaaDoorTill
import Derived.Deep.RegionHeld3
namespace Go.Proofs.YtkmedlbokneegaaDoor
open Go.RowKit Go.Maps

/-- what a read of a sector that was laid asks and gives -/
structure ReadOk (W w3 : World) (N p D g K : Nat) (X : Px) (ls ct : Nat → ByteArray) (H : Nat → Prop) (q : Nat) (Y : Px) : Prop where
  e : readP X q = (Y, ls q, 0)
  sem : Sem Y ct
  keep : Keep X Y
  size : (ls q).size = 512
theorem PInv.reads {W wr : World} {N p D g K : Nat} {X : Px} {ls ct : Nat → ByteArray} (h : PInv W wr N p D g K X ls ct) (q : Nat) (hq : q < K) (hl : ls q ≠ ⟨#[]⟩) : ∃ Y, readP X q = (Y, ls q, 0) ∧ Sem Y ct ∧ Keep X Y ∧ (ls q).size = 512 := by
  obtain ⟨H, h1, h2⟩ := h.pl
  have hn : q < X.d.n := by rw [h.n]; exact hq
  rcases h.laid q with ⟨e, _⟩ | ⟨e, e2, e3⟩
  · exact absurd e hl
  · obtain ⟨r1, r2, r3⟩ := sem_read h.sem h1.ok hn (by rw [e]; exact e2) (by rw [e]; exact e3) (.inr (.inr (h.free.held h1.ok)))
    have hk := read_keep h.sem h.free h1.ok hn
    refine ⟨(readP X q).1, ?_, r3, hk, e2⟩
    rw [← e, ← r2, ← r1]
theorem PInv.readsNo {W wr : World} {N p D g K : Nat} {X : Px} {ls ct : Nat → ByteArray} (h : PInv W wr N p D g K X ls ct) (q : Nat) (hq : q < K) (hl : ls q = ⟨#[]⟩) : (readP X q).2.2 = 7 ∧ (readP X q).1 = X.load ∧ Sem X.load ct ∧ Keep X X.load := by
  have hn : q < X.d.n := by rw [h.n]; exact hq
  rcases h.laid q with ⟨_, e⟩ | ⟨_, e2, _⟩
  · obtain ⟨r1, r2⟩ := sem_bad h.sem hn (by rw [e]; exact zT_bad)
    exact ⟨r1, r2, h.sem.load, rfl, rfl, h.free⟩
  · rw [hl] at e2; exact absurd e2 (by decide)
set_option maxHeartbeats 2000000 in
set_option maxRecDepth 100000 in
theorem reads_walk (n0 n1 : Int) (a : Option Addr) (len cap : Nat) (l : Nat → ActV) (W : World) (_w0 : (Lit.int .i64 n0).wf = true) (_w1 : (Lit.int .i64 n1).wf = true) (hw : IsActs W a len l) (hL : Laid W) :
    Calls Tryd.prog 5 #[.int .i64 n0, .int .i64 n1, .slice a len cap] W fun e w' => e = .returned (.bool true) ∧ Below W.heap.size W w' := by
  obtain ⟨k, hk, hk8⟩ := red_nat n0 8 (by omega) (by omega)
  obtain ⟨m, hm, hm5⟩ := red_nat n1 5 (by omega) (by omega)
  have hmk := make_str (k + 1) (1 + (k : Int)) (by omega) (by omega)
  have HA := Lib.hid hw
  have HLD := Lib.hid hL
  clear hw hL
  go_enter Tryd.func5, Tryd.ntmps5
  go_wp2_with (first | (go_at_call 7; refine (disk_new' (W := W) (k + 1) _ (by omega) _ (Below.refl _ _) (by omega) (by omega)).mono ?_; rintro e wa ⟨D, H, rfl, h⟩; have HD := Lib.hid h; clear h) | (go_at_call 8; refine (newp_at' 0 (m + 1) _ (by omega) HD.out (by omega) (by omega) (show (0 : Int) ≤ 0 by decide) (show (0 : Int) ≤ (0 : Nat) by decide)).mono ?_; rintro e wb ⟨p, H1, rfl, h⟩; have HP0 := Lib.hid h; clear h))
  obtain ⟨G, hG⟩ : ∃ G, G = wb.heap.size := ⟨_, rfl⟩
  have HI : Hid (∃ X ls ct, PInv W (wb.alloc (.cells (Array.replicate (k + 1) (.string ⟨#[]⟩)) 9)) (10 * 0) p D G (k + 1) X ls ct) := by
    have h := HP0.out
    rw [hG]
    exact Lib.hid ⟨_, _, _, ⟨H1, h.below ((Below.refl _ _).alloc (Nat.le_refl _) _), fun q => by have := (h.lt _ q).2; omega⟩, h.b.size, by simp, Last.made wb (k + 1), fun q => .inl ⟨rfl, rfl⟩, sem_fresh rfl, Free.fresh _ _, rfl⟩
  rw [← hG]
  clear HP0 HD hmk
  generalize wb.alloc (.cells (Array.replicate (k + 1) (.string ⟨#[]⟩)) 9) = w1 at HI ⊢
  clear hG
  have k0 : (0 : Int) ≤ (k : Int) := by omega
  have hlen := HA.out.1
  go_loopw [14, 15, 16, 17] (fun x _ _ _ wr => ∃ i : Nat, i ≤ len ∧ i ≤ 60 ∧ x = .int .i64 i ∧ Hid (∃ X ls ct, PInv W wr (10 * i) p D G (k + 1) X ls ct)) (fun x _ _ _ _ => 60 - (intOf x).toNat)
  case atStart => exact ⟨0, by omega, by omega, rfl, HI⟩
  case round =>
    obtain ⟨i, hi1, hi2, rfl, HR⟩ := hrel
    by_cases hlt : i < len ∧ i < 60
    · obtain ⟨hlt1, hlt2⟩ := hlt
      have j0 : (0 : Int) ≤ (i : Int) := by omega
      have j1 : (i : Int) < (len : Int) := by omega
      have j2 : (i : Int) < 60 := by omega
      obtain ⟨b, o, rfl, hr, hok⟩ := HA.out.2 i hlt1
      obtain ⟨X, ls, ct, hP⟩ := HR.out
      obtain ⟨H, hpl, hg⟩ := hP.pl
      have x0 := act_cell hpl.b hr 0 _ rfl
      have x1 := act_cell hpl.b hr 1 _ rfl
      have x2 := act_cell hpl.b hr 2 _ rfl
      change wr.cell? ⟨b, o + i * 5, none⟩ = some (.int .i64 (l i).kind) at x0
      obtain ⟨q, hq, hqk⟩ := red_nat (l i).i (1 + (k : Int)) (by omega) (by omega)
      have hqk' : q < k + 1 := by omega
      have q0 : (0 : Int) ≤ (q : Int) := by omega
      have q1 : (q : Int) < 1 + (k : Int) := by omega
      have q2 : (q : Int) < (k : Int) + 1 := by omega
      have q3 : (q : Int) < ((k + 1 : Nat) : Int) := by omega
      have c13 := hP.last.c q hqk'
      have f13 := hP.last.f q
      have HP := Lib.hid hP
      have HPL := Lib.hid hpl.first
      have HG := Lib.hid hg
      have HOB := Lib.hid hok.b
      clear hP hpl hg hok hr HR
      by_cases hev : (l i).kind.tmod 2 = 0
      · have hev' : ((l i).kind.tmod 2 == 0) = true := by simp [hev]
        go_upto_region 13 with (go_at_call 23; refine (marked_from HPL.out (l i).b HOB.out).mono ?_; rintro e w2 ⟨rfl, h⟩; have HP2 := Lib.hid h; have c14 := h.cell c13 HG.out; have f14 := h.frozen HP.out.gl HG.out f13; clear h)
        have HN3 := Lib.hid (stored HP.out HP2.out HG.out q hqk' (l i).b)
        generalize w2.setCell ⟨G, q, none⟩ (.string (mkT (l i).b)) = w3 at HN3 ⊢
        clear c13 f13 c14 f14 HP2 HPL
        obtain ⟨⟨H2, hpl2, hg2⟩, hl3, hgl3⟩ := HN3.out
        have c13 := hl3.c q hqk'
        rw [show updT ls q (mkT (l i).b) q = mkT (l i).b by unfold updT; rw [if_pos rfl]] at c13
        have hcv := conv_b (mkT (l i).b) (mkT_size _)
        have HPL3 := Lib.hid hpl2.first
        have HG3 := Lib.hid hg2
        have HL3 := Lib.hid hl3
        have HGL3 := Lib.hid hgl3
        obtain ⟨hw0, hws⟩ := sem_write HP.out.sem hpl2.ok (q := q) (by rw [HP.out.n]; exact hqk') (mkT_size (l i).b) (mkT_good (l i).b) (.inr (.inr (HP.out.free.held hpl2.ok)))
        have HK := Lib.hid (write_keep HP.out.sem HP.out.free hpl2.ok (q := q) (by rw [HP.out.n]; exact hqk') (mkT_size (l i).b) (mkT_good (l i).b))
        obtain ⟨Y, hY⟩ : ∃ Y, writeP X q (mkT (l i).b) = (Y, 0) := ⟨_, Prod.ext rfl hw0⟩
        have HY := Lib.hid hY
        rw [hY] at hws HK
        have HWS := Lib.hid hws
        clear hpl2 hg2 hl3 hgl3 hw0 hws hY HN3
        go_upto_region 15 with (go_at_call 16; refine (pl_write_ok HPL3.out q _ _ (mkT_size _) (by have := bc_le w3 (mkT (l i).b); rw [mkT_size] at this; exact this) (by omega) HY.out).mono ?_; rintro e w4 ⟨rfl, h⟩; have HP4 := Lib.hid h; clear h)
        have HPI := Lib.hid (written HP.out HP4.out HG3.out q (l i).b HL3.out HGL3.out HWS.out HK.out (Nat.le_refl _))
        clear c13 hcv HP4 HPL3 HG3 HL3 HGL3 HWS HK HY
        have hlne : updT ls q (mkT (l i).b) q ≠ ⟨#[]⟩ := by unfold updT; rw [if_pos rfl]; intro e; have := mkT_size (l i).b; rw [e] at this; exact absurd this (by decide)
        generalize updT ls q (mkT (l i).b) = ls4 at HPI hlne
        generalize updT ct q (mkT (l i).b) = ct4 at HPI
        obtain ⟨N4, hN4⟩ : ∃ N4, N4 = 10 * i + 1 := ⟨_, rfl⟩
        rw [← hN4] at HPI
        obtain ⟨Z, hZ, hZs, hZk, hZz⟩ := HPI.out.reads q hqk' hlne
        obtain ⟨H4, hp4, hg4⟩ := HPI.out.pl
        have HRD := Lib.hid (pl_read_is hp4.first q (by omega) hZ hZz)
        have HG4 := Lib.hid hg4
        have HZS := Lib.hid hZs
        have HZK := Lib.hid hZk
        have c15 := HPI.out.last.c q hqk'
        obtain ⟨hne, hne2, hne3⟩ := str_some hZz
        have HGL4 := Lib.hid HPI.out.gl
        clear hp4 hg4 hZ hZs hZk hlne
        go_upto_region 16 with (go_at_call 14; refine HRD.out.mono ?_; rintro e w5 ⟨g, cp, rfl, hl, h⟩; have HL5 := Lib.hid hl; have HP5 := Lib.hid h; have d15 := h.cell c15 HG4.out; clear hl h)
        have hcv := fun n => conv_t (c := cp) (HL5.out.drewN n) hZz
        clear c15
        go_quiet (fail)
        go_wp2
        go_roundw
        case rel => exact ⟨i + 1, by omega, by omega, by go_num, Lib.hid ⟨Z, _, _, (HPI.out.to (HP5.out.drewN _) HG4.out HGL4.out HPI.out.last HPI.out.laid HZS.out HZK.out).mono (by omega)⟩⟩
        case measure => simp [intOf]; omega
      · have hev' : ((l i).kind.tmod 2 == 0) = false := by simp [hev]
        have HPI := HP
        clear c13 f13
        obtain ⟨N4, hN4⟩ : ∃ N4, N4 = 10 * i := ⟨_, rfl⟩
        rw [← hN4] at HPI
        by_cases hle : ls q = ⟨#[]⟩
        · clear HPL HG
          obtain ⟨h7, hlo, hs7, hk7⟩ := HPI.out.readsNo q hqk' hle
          obtain ⟨H4, hp4, hg4⟩ := HPI.out.pl
          have HRD := Lib.hid (pl_read_no hp4.first q 7 (by omega) h7 (by decide) hlo)
          have HG4 := Lib.hid hg4
          have HZS := Lib.hid hs7
          have HZK := Lib.hid hk7
          have c15 := HPI.out.last.c q hqk'
          rw [hle] at c15
          have C15 := Lib.hid c15
          have HGL4 := Lib.hid HPI.out.gl
          clear hp4 hg4 h7 hlo hs7 hk7 hle c15
          go_upto_region 16 with (go_at_call 14; refine HRD.out.mono ?_; rintro e w5 ⟨rfl, h⟩; have HP5 := Lib.hid h; clear h)
          have N5 := Lib.hid HP5.out.drew
          have hS0 := N5.out.cell C15.out HG4.out
          refine Till.region (s := 30) (S := fun _ w' => w'.cell? ⟨G, q, none⟩ = some (.string ⟨#[]⟩)) (by kernel_rfl) ?_
          simp only [List.size_toArray, List.length_cons, List.length_nil]
          refine Till.move (i := 0) (d := 107) (v := ?_) rfl rfl (by kernel_rfl) (by kernel_rfl) (by kernel_rfl) (by kernel_rfl) (fun _ _ _ h => h) hS0 ?_ (by rfl) (by kernel_rfl) ?_
          rotate_left 1
          · intro w
            go_simp
            try with_reducible rfl
          dsimp only [Act.put]
          simp only [List.setIfInBounds_toArray, List.set_cons_zero, List.set_cons_succ]
          refine Till.move (i := 1) (d := 108) (v := ?_) rfl rfl (by kernel_rfl) (by kernel_rfl) (by kernel_rfl) (by kernel_rfl) (fun _ _ _ h => h) hS0 ?_ (by rfl) (by kernel_rfl) ?_
          rotate_left 1
          · intro w
            go_simp
            try with_reducible rfl
          dsimp only [Act.put]
          simp only [List.setIfInBounds_toArray, List.set_cons_zero, List.set_cons_succ]
          refine Till.move (i := 2) (d := 109) (v := ?_) rfl rfl (by kernel_rfl) (by kernel_rfl) (by kernel_rfl) (by kernel_rfl) (fun _ _ _ h => h) hS0 ?_ (by rfl) (by kernel_rfl) ?_
          rotate_left 1
          · intro w
            go_simp
            try with_reducible rfl
          dsimp only [Act.put]
          simp only [List.setIfInBounds_toArray, List.set_cons_zero, List.set_cons_succ]
          refine Till.read (i := 3) (d := 110) (v := ?_) (G := fun w' => w'.cell? ⟨G, q, none⟩ = some (.string ⟨#[]⟩)) (fun _ _ h => h) rfl rfl (by kernel_rfl) (by kernel_rfl) (by kernel_rfl) (by kernel_rfl) (fun _ _ _ h => h) hS0 ?_ (by rfl) (by kernel_rfl) ?_
          rotate_left 1
          · intro w' hx
            go_simp
            try with_reducible rfl
          dsimp only [Act.put]
          simp only [List.setIfInBounds_toArray, List.set_cons_zero, List.set_cons_succ]
          refine Till.move (i := 4) (d := 111) (v := ?_) rfl rfl (by kernel_rfl) (by kernel_rfl) (by kernel_rfl) (by kernel_rfl) (fun _ _ _ h => h) hS0 ?_ (by rfl) (by kernel_rfl) ?_
          rotate_left 1
          · intro w
            go_simp
            try with_reducible rfl
          dsimp only [Act.put]
          simp only [List.setIfInBounds_toArray, List.set_cons_zero, List.set_cons_succ]
          refine Till.move (i := 5) (d := 112) (v := ?_) rfl rfl (by kernel_rfl) (by kernel_rfl) (by kernel_rfl) (by kernel_rfl) (fun _ _ _ h => h) hS0 ?_ (by rfl) (by kernel_rfl) ?_
          rotate_left 1
          · intro w
            go_simp
            try with_reducible rfl
          dsimp only [Act.put]
          simp only [List.setIfInBounds_toArray, List.set_cons_zero, List.set_cons_succ]
          refine Till.move (i := 6) (d := 113) (v := ?_) rfl rfl (by kernel_rfl) (by kernel_rfl) (by kernel_rfl) (by kernel_rfl) (fun _ _ _ h => h) hS0 ?_ (by rfl) (by kernel_rfl) ?_
          rotate_left 1
          · intro w
            go_simp
            try with_reducible rfl
          dsimp only [Act.put]
          simp only [List.setIfInBounds_toArray, List.set_cons_zero, List.set_cons_succ]
          refine Till.only false (i := 7) rfl (by kernel_rfl) (by rfl) (by kernel_rfl) fun K hK => ?_
          go_simp
          refine (num_pl N5.out HLD.out 7).mono ?_
          rintro e w6 ⟨rfl, n6⟩
          have N6 := Lib.hid n6
          have hS1 := n6.cell C15.out HG4.out
          clear n6
          refine hK.out _ _ hS1 ?_
          clear hK K
          refine Till.move (i := 8) (d := 115) (v := ?_) rfl rfl (by kernel_rfl) (by kernel_rfl) (by kernel_rfl) (by kernel_rfl) (fun _ _ _ h => h) hS1 ?_ (by rfl) (by kernel_rfl) ?_
          rotate_left 1
          · intro w
            go_simp
            try with_reducible rfl
          dsimp only [Act.put]
          simp only [List.setIfInBounds_toArray, List.set_cons_zero, List.set_cons_succ]
          refine Till.move (i := 9) (d := 116) (v := ?_) rfl rfl (by kernel_rfl) (by kernel_rfl) (by kernel_rfl) (by kernel_rfl) (fun _ _ _ h => h) hS1 ?_ (by rfl) (by kernel_rfl) ?_
          rotate_left 1
          · intro w
            go_simp
            try with_reducible rfl
          dsimp only [Act.put]
          simp only [List.setIfInBounds_toArray, List.set_cons_zero, List.set_cons_succ]
          refine Till.move (i := 10) (d := 117) (v := ?_) rfl rfl (by kernel_rfl) (by kernel_rfl) (by kernel_rfl) (by kernel_rfl) (fun _ _ _ h => h) hS1 ?_ (by rfl) (by kernel_rfl) ?_
          rotate_left 1
          · intro w
            go_simp
            try with_reducible rfl
          dsimp only [Act.put]
          simp only [List.setIfInBounds_toArray, List.set_cons_zero, List.set_cons_succ]
          refine Till.move (i := 11) (d := 118) (v := ?_) rfl rfl (by kernel_rfl) (by kernel_rfl) (by kernel_rfl) (by kernel_rfl) (fun _ _ _ h => h) hS1 ?_ (by rfl) (by kernel_rfl) ?_
          rotate_left 1
          · intro w
            go_simp
            try with_reducible rfl
          dsimp only [Act.put]
          simp only [List.setIfInBounds_toArray, List.set_cons_zero, List.set_cons_succ]
          refine Till.move (i := 12) (d := 119) (v := ?_) rfl rfl (by kernel_rfl) (by kernel_rfl) (by kernel_rfl) (by kernel_rfl) (fun _ _ _ h => h) hS1 ?_ (by rfl) (by kernel_rfl) ?_
          rotate_left 1
          · intro w
            go_simp
            try with_reducible rfl
          dsimp only [Act.put]
          simp only [List.setIfInBounds_toArray, List.set_cons_zero, List.set_cons_succ]
          refine Till.move (i := 13) (d := 120) (v := ?_) rfl rfl (by kernel_rfl) (by kernel_rfl) (by kernel_rfl) (by kernel_rfl) (fun _ _ _ h => h) hS1 ?_ (by rfl) (by kernel_rfl) ?_
          rotate_left 1
          · intro w
            go_simp
            try with_reducible rfl
          dsimp only [Act.put]
          simp only [List.setIfInBounds_toArray, List.set_cons_zero, List.set_cons_succ]
          refine Till.read (i := 14) (d := 121) (v := ?_) (G := fun w' => w'.cell? ⟨G, q, none⟩ = some (.string ⟨#[]⟩)) (fun _ _ h => h) rfl rfl (by kernel_rfl) (by kernel_rfl) (by kernel_rfl) (by kernel_rfl) (fun _ _ _ h => h) hS1 ?_ (by rfl) (by kernel_rfl) ?_
          rotate_left 1
          · intro w' hx
            go_simp
            try with_reducible rfl
          dsimp only [Act.put]
          simp only [List.setIfInBounds_toArray, List.set_cons_zero, List.set_cons_succ]
          refine Till.move (i := 15) (d := 122) (v := ?_) rfl rfl (by kernel_rfl) (by kernel_rfl) (by kernel_rfl) (by kernel_rfl) (fun _ _ _ h => h) hS1 ?_ (by rfl) (by kernel_rfl) ?_
          rotate_left 1
          · intro w
            go_simp
            try with_reducible rfl
          dsimp only [Act.put]
          simp only [List.setIfInBounds_toArray, List.set_cons_zero, List.set_cons_succ]
          refine Till.move (i := 16) (d := 123) (v := ?_) rfl rfl (by kernel_rfl) (by kernel_rfl) (by kernel_rfl) (by kernel_rfl) (fun _ _ _ h => h) hS1 ?_ (by rfl) (by kernel_rfl) ?_
          rotate_left 1
          · intro w
            go_simp
            try with_reducible rfl
          dsimp only [Act.put]
          simp only [List.setIfInBounds_toArray, List.set_cons_zero, List.set_cons_succ]
          refine Till.skip (i := 17) (d := 124) rfl rfl (by kernel_rfl) (by kernel_rfl) (by kernel_rfl) (by kernel_rfl) (fun _ _ _ h => h) hS1 (by rfl) (by kernel_rfl) ?_
          dsimp only [Act.put]
          simp only [List.setIfInBounds_toArray, List.set_cons_zero, List.set_cons_succ]
          refine Till.skip (i := 18) (d := 125) rfl rfl (by kernel_rfl) (by kernel_rfl) (by kernel_rfl) (by kernel_rfl) (fun _ _ _ h => h) hS1 (by rfl) (by kernel_rfl) ?_
          dsimp only [Act.put]
          simp only [List.setIfInBounds_toArray, List.set_cons_zero, List.set_cons_succ]
          refine Till.skip (i := 19) (d := 126) rfl rfl (by kernel_rfl) (by kernel_rfl) (by kernel_rfl) (by kernel_rfl) (fun _ _ _ h => h) hS1 (by rfl) (by kernel_rfl) ?_
          dsimp only [Act.put]
          simp only [List.setIfInBounds_toArray, List.set_cons_zero, List.set_cons_succ]
          refine Till.skip (i := 20) (d := 127) rfl rfl (by kernel_rfl) (by kernel_rfl) (by kernel_rfl) (by kernel_rfl) (fun _ _ _ h => h) hS1 (by rfl) (by kernel_rfl) ?_
          dsimp only [Act.put]
          simp only [List.setIfInBounds_toArray, List.set_cons_zero, List.set_cons_succ]
          refine Till.skip (i := 21) (d := 128) rfl rfl (by kernel_rfl) (by kernel_rfl) (by kernel_rfl) (by kernel_rfl) (fun _ _ _ h => h) hS1 (by rfl) (by kernel_rfl) ?_
          dsimp only [Act.put]
          simp only [List.setIfInBounds_toArray, List.set_cons_zero, List.set_cons_succ]
          refine Till.skip (i := 22) (d := 129) rfl rfl (by kernel_rfl) (by kernel_rfl) (by kernel_rfl) (by kernel_rfl) (fun _ _ _ h => h) hS1 (by rfl) (by kernel_rfl) ?_
          dsimp only [Act.put]
          simp only [List.setIfInBounds_toArray, List.set_cons_zero, List.set_cons_succ]
          refine Till.skip (i := 23) (d := 130) rfl rfl (by kernel_rfl) (by kernel_rfl) (by kernel_rfl) (by kernel_rfl) (fun _ _ _ h => h) hS1 (by rfl) (by kernel_rfl) ?_
          dsimp only [Act.put]
          simp only [List.setIfInBounds_toArray, List.set_cons_zero, List.set_cons_succ]
          refine Till.skip (i := 24) (d := 131) rfl rfl (by kernel_rfl) (by kernel_rfl) (by kernel_rfl) (by kernel_rfl) (fun _ _ _ h => h) hS1 (by rfl) (by kernel_rfl) ?_
          dsimp only [Act.put]
          simp only [List.setIfInBounds_toArray, List.set_cons_zero, List.set_cons_succ]
          refine Till.skip (i := 25) (d := 132) rfl rfl (by kernel_rfl) (by kernel_rfl) (by kernel_rfl) (by kernel_rfl) (fun _ _ _ h => h) hS1 (by rfl) (by kernel_rfl) ?_
          dsimp only [Act.put]
          simp only [List.setIfInBounds_toArray, List.set_cons_zero, List.set_cons_succ]
          refine Till.skip (i := 26) (d := 133) rfl rfl (by kernel_rfl) (by kernel_rfl) (by kernel_rfl) (by kernel_rfl) (fun _ _ _ h => h) hS1 (by rfl) (by kernel_rfl) ?_
          dsimp only [Act.put]
          simp only [List.setIfInBounds_toArray, List.set_cons_zero, List.set_cons_succ]
          refine Till.skip (i := 27) (d := 134) rfl rfl (by kernel_rfl) (by kernel_rfl) (by kernel_rfl) (by kernel_rfl) (fun _ _ _ h => h) hS1 (by rfl) (by kernel_rfl) ?_
          dsimp only [Act.put]
          simp only [List.setIfInBounds_toArray, List.set_cons_zero, List.set_cons_succ]
          refine Till.move (i := 28) (d := 135) (v := ?_) rfl rfl (by kernel_rfl) (by kernel_rfl) (by kernel_rfl) (by kernel_rfl) (fun _ _ _ h => h) hS1 ?_ (by rfl) (by kernel_rfl) ?_
          rotate_left 1
          · intro w
            go_simp
            try with_reducible rfl
          dsimp only [Act.put]
          simp only [List.setIfInBounds_toArray, List.set_cons_zero, List.set_cons_succ]
          refine Till.move (i := 29) (d := 136) (v := ?_) rfl rfl (by kernel_rfl) (by kernel_rfl) (by kernel_rfl) (by kernel_rfl) (fun _ _ _ h => h) hS1 ?_ (by rfl) (by kernel_rfl) ?_
          rotate_left 1
          · intro w
            go_simp
            try with_reducible rfl
          dsimp only [Act.put]
          simp only [List.setIfInBounds_toArray, List.set_cons_zero, List.set_cons_succ]
          refine Till.done (by kernel_rfl) ?_ _
          all_goals go_wp2
          all_goals go_roundw
          case rel => exact ⟨i + 1, by omega, by omega, by go_num, Lib.hid ⟨_, _, _, (HPI.out.to N6.out HG4.out HGL4.out HPI.out.last HPI.out.laid HZS.out HZK.out).mono (by omega)⟩⟩
          case measure => simp [intOf]; omega
        · have hlne := hle
          clear hle HPL HG
          obtain ⟨Z, hZ, hZs, hZk, hZz⟩ := HPI.out.reads q hqk' hlne
          obtain ⟨H4, hp4, hg4⟩ := HPI.out.pl
          have HRD := Lib.hid (pl_read_is hp4.first q (by omega) hZ hZz)
          have HG4 := Lib.hid hg4
          have HZS := Lib.hid hZs
          have HZK := Lib.hid hZk
          have c15 := HPI.out.last.c q hqk'
          obtain ⟨hne, hne2, hne3⟩ := str_some hZz
          have HGL4 := Lib.hid HPI.out.gl
          clear hp4 hg4 hZ hZs hZk hlne
          go_upto_region 16 with (go_at_call 14; refine HRD.out.mono ?_; rintro e w5 ⟨g, cp, rfl, hl, h⟩; have HL5 := Lib.hid hl; have HP5 := Lib.hid h; have d15 := h.cell c15 HG4.out; clear hl h)
          have hcv := fun n => conv_t (c := cp) (HL5.out.drewN n) hZz
          clear c15
          go_quiet (fail)
          go_wp2
          go_roundw
          case rel => exact ⟨i + 1, by omega, by omega, by go_num, Lib.hid ⟨Z, _, _, (HPI.out.to (HP5.out.drewN _) HG4.out HGL4.out HPI.out.last HPI.out.laid HZS.out HZK.out).mono (by omega)⟩⟩
          case measure => simp [intOf]; omega
    · have hcase : (¬ (i : Int) < (len : Int)) ∨ ((i : Int) < (len : Int) ∧ ¬ (i : Int) < 60) := by omega
      obtain ⟨X, ls, ct, hP⟩ := HR.out
      obtain ⟨H, hpl, hg⟩ := hP.pl
      obtain ⟨hf0, hfl, hpe⟩ := flush_sem hP.sem hpl.ok
      have hmX := hpl.ok.m1
      have HF := Lib.hid (pl_flush hpl.first (by omega))
      rw [hf0, errv0] at HF
      generalize flushP X = R at HF hfl hpe
      obtain ⟨Y, eY⟩ := R
      simp only at HF hfl hpe
      have HY := Lib.hid hfl
      have HPE := Lib.hid hpe
      have HP := Lib.hid hP
      have HGG := Lib.hid hg
      have HDN := Lib.hid (dirt_nil (X := Y) fun j hj => hfl.d j (by rw [← hfl.m]; exact hj))
      clear hP hpl hg hf0 hfl hpe HR hlt
      rcases hcase with e1 | ⟨e1, e2⟩
      all_goals (
        go_upto_region 24 with (first | (go_at_call 19; refine HF.out.mono ?_; rintro e w5 ⟨rfl, h⟩; have HP5 := Lib.hid h; clear h) | (go_at_call 21; refine (pl_dirty_nil HP5.out HDN.out).mono ?_; rintro e w6 ⟨ao, ac, rfl, h⟩; have HP6 := Lib.hid h; clear h) | (go_at_call 24; refine (pd_pending_nil HP6.out HPE.out).mono ?_; rintro e w7 ⟨bo, bc, rfl, h⟩; have HP7 := Lib.hid h; clear h) | (go_at_call 8; refine (HP.out.again HY.out HP7.out HGG.out).mono ?_; rintro e w8 ⟨p2, rfl, h⟩; have HP8 := Lib.hid h; clear h))
        have HI2 : Hid (∃ X2, PInv W w8 (10 * i + X.m + 2 * 0) p2 D G (k + 1) X2 ls ct) := Lib.hid ⟨_, HP8.out⟩
        clear HP8 HF HY HPE HP HGG HDN HP5 HP6 HP7
        generalize hNN : 10 * i + X.m = NN at HI2
        have hNl : NN ≤ 2000 := by omega
        clear hNN hmX
        go_loopw [20, 21, 22] (fun x _ _ wz => ∃ j : Nat, j ≤ k + 1 ∧ x = .int .i64 j ∧ Hid (∃ X2, PInv W wz (NN + 2 * j) p2 D G (k + 1) X2 ls ct)) (fun x _ _ _ => k + 1 - (intOf x).toNat)
        case atStart => exact ⟨0, by omega, rfl, HI2⟩
        case round =>
          obtain ⟨j, hj, rfl, HR⟩ := hrel
          by_cases hjk : j < k + 1
          · have t0 : (0 : Int) ≤ (j : Int) := by omega
            have t1 : (j : Int) < 1 + (k : Int) := by omega
            have t2 : (j : Int) < (k : Int) + 1 := by omega
            have t3 : (j : Int) < ((k + 1 : Nat) : Int) := by omega
            obtain ⟨X2, hP2⟩ := HR.out
            have HPI := Lib.hid hP2
            clear hP2 HR
            by_cases hle : ls j = ⟨#[]⟩
            · skip
              obtain ⟨h7, hlo, hs7, hk7⟩ := HPI.out.readsNo j hjk hle
              obtain ⟨H4, hp4, hg4⟩ := HPI.out.pl
              have HRD := Lib.hid (pl_read_no hp4.first j 7 (by omega) h7 (by decide) hlo)
              have HG4 := Lib.hid hg4
              have HZS := Lib.hid hs7
              have HZK := Lib.hid hk7
              have c15 := HPI.out.last.c j hjk
              rw [hle] at c15
              have C15 := Lib.hid c15
              have HGL4 := Lib.hid HPI.out.gl
              clear hp4 hg4 h7 hlo hs7 hk7 hle c15
              go_upto_region 27 with (go_at_call 14; refine HRD.out.mono ?_; rintro e w5 ⟨rfl, h⟩; have HP5 := Lib.hid h; clear h)
              have N5 := Lib.hid HP5.out.drew
              have hS0 := N5.out.cell C15.out HG4.out
              refine Till.region (s := 30) (S := fun _ w' => w'.cell? ⟨G, j, none⟩ = some (.string ⟨#[]⟩)) (by kernel_rfl) ?_
              simp only [List.size_toArray, List.length_cons, List.length_nil]
              refine Till.move (i := 0) (d := 170) (v := ?_) rfl rfl (by kernel_rfl) (by kernel_rfl) (by kernel_rfl) (by kernel_rfl) (fun _ _ _ h => h) hS0 ?_ (by rfl) (by kernel_rfl) ?_
              rotate_left 1
              · intro w
                go_simp
                try with_reducible rfl
              dsimp only [Act.put]
              simp only [List.setIfInBounds_toArray, List.set_cons_zero, List.set_cons_succ]
              refine Till.move (i := 1) (d := 171) (v := ?_) rfl rfl (by kernel_rfl) (by kernel_rfl) (by kernel_rfl) (by kernel_rfl) (fun _ _ _ h => h) hS0 ?_ (by rfl) (by kernel_rfl) ?_
              rotate_left 1
              · intro w
                go_simp
                try with_reducible rfl
              dsimp only [Act.put]
              simp only [List.setIfInBounds_toArray, List.set_cons_zero, List.set_cons_succ]
              refine Till.move (i := 2) (d := 172) (v := ?_) rfl rfl (by kernel_rfl) (by kernel_rfl) (by kernel_rfl) (by kernel_rfl) (fun _ _ _ h => h) hS0 ?_ (by rfl) (by kernel_rfl) ?_
              rotate_left 1
              · intro w
                go_simp
                try with_reducible rfl
              dsimp only [Act.put]
              simp only [List.setIfInBounds_toArray, List.set_cons_zero, List.set_cons_succ]
              refine Till.read (i := 3) (d := 173) (v := ?_) (G := fun w' => w'.cell? ⟨G, j, none⟩ = some (.string ⟨#[]⟩)) (fun _ _ h => h) rfl rfl (by kernel_rfl) (by kernel_rfl) (by kernel_rfl) (by kernel_rfl) (fun _ _ _ h => h) hS0 ?_ (by rfl) (by kernel_rfl) ?_
              rotate_left 1
              · intro w' hx
                go_simp
                try with_reducible rfl
              dsimp only [Act.put]
              simp only [List.setIfInBounds_toArray, List.set_cons_zero, List.set_cons_succ]
              refine Till.move (i := 4) (d := 174) (v := ?_) rfl rfl (by kernel_rfl) (by kernel_rfl) (by kernel_rfl) (by kernel_rfl) (fun _ _ _ h => h) hS0 ?_ (by rfl) (by kernel_rfl) ?_
              rotate_left 1
              · intro w
                go_simp
                try with_reducible rfl
              dsimp only [Act.put]
              simp only [List.setIfInBounds_toArray, List.set_cons_zero, List.set_cons_succ]
              refine Till.move (i := 5) (d := 175) (v := ?_) rfl rfl (by kernel_rfl) (by kernel_rfl) (by kernel_rfl) (by kernel_rfl) (fun _ _ _ h => h) hS0 ?_ (by rfl) (by kernel_rfl) ?_
              rotate_left 1
              · intro w
                go_simp
                try with_reducible rfl
              dsimp only [Act.put]
              simp only [List.setIfInBounds_toArray, List.set_cons_zero, List.set_cons_succ]
              refine Till.move (i := 6) (d := 176) (v := ?_) rfl rfl (by kernel_rfl) (by kernel_rfl) (by kernel_rfl) (by kernel_rfl) (fun _ _ _ h => h) hS0 ?_ (by rfl) (by kernel_rfl) ?_
              rotate_left 1
              · intro w
                go_simp
                try with_reducible rfl
              dsimp only [Act.put]
              simp only [List.setIfInBounds_toArray, List.set_cons_zero, List.set_cons_succ]
              refine Till.only false (i := 7) rfl (by kernel_rfl) (by rfl) (by kernel_rfl) fun K hK => ?_
              go_simp
              refine (num_pl N5.out HLD.out 7).mono ?_
              rintro e w6 ⟨rfl, n6⟩
              have N6 := Lib.hid n6
              have hS1 := n6.cell C15.out HG4.out
              clear n6
              refine hK.out _ _ hS1 ?_
              clear hK K
              refine Till.move (i := 8) (d := 178) (v := ?_) rfl rfl (by kernel_rfl) (by kernel_rfl) (by kernel_rfl) (by kernel_rfl) (fun _ _ _ h => h) hS1 ?_ (by rfl) (by kernel_rfl) ?_
              rotate_left 1
              · intro w
                go_simp
                try with_reducible rfl
              dsimp only [Act.put]
              simp only [List.setIfInBounds_toArray, List.set_cons_zero, List.set_cons_succ]
              refine Till.move (i := 9) (d := 179) (v := ?_) rfl rfl (by kernel_rfl) (by kernel_rfl) (by kernel_rfl) (by kernel_rfl) (fun _ _ _ h => h) hS1 ?_ (by rfl) (by kernel_rfl) ?_
              rotate_left 1
              · intro w
                go_simp
                try with_reducible rfl
              dsimp only [Act.put]
              simp only [List.setIfInBounds_toArray, List.set_cons_zero, List.set_cons_succ]
              refine Till.move (i := 10) (d := 180) (v := ?_) rfl rfl (by kernel_rfl) (by kernel_rfl) (by kernel_rfl) (by kernel_rfl) (fun _ _ _ h => h) hS1 ?_ (by rfl) (by kernel_rfl) ?_
              rotate_left 1
              · intro w
                go_simp
                try with_reducible rfl
              dsimp only [Act.put]
              simp only [List.setIfInBounds_toArray, List.set_cons_zero, List.set_cons_succ]
              refine Till.move (i := 11) (d := 181) (v := ?_) rfl rfl (by kernel_rfl) (by kernel_rfl) (by kernel_rfl) (by kernel_rfl) (fun _ _ _ h => h) hS1 ?_ (by rfl) (by kernel_rfl) ?_
              rotate_left 1
              · intro w
                go_simp
                try with_reducible rfl
              dsimp only [Act.put]
              simp only [List.setIfInBounds_toArray, List.set_cons_zero, List.set_cons_succ]
              refine Till.move (i := 12) (d := 182) (v := ?_) rfl rfl (by kernel_rfl) (by kernel_rfl) (by kernel_rfl) (by kernel_rfl) (fun _ _ _ h => h) hS1 ?_ (by rfl) (by kernel_rfl) ?_
              rotate_left 1
              · intro w
                go_simp
                try with_reducible rfl
              dsimp only [Act.put]
              simp only [List.setIfInBounds_toArray, List.set_cons_zero, List.set_cons_succ]
              refine Till.move (i := 13) (d := 183) (v := ?_) rfl rfl (by kernel_rfl) (by kernel_rfl) (by kernel_rfl) (by kernel_rfl) (fun _ _ _ h => h) hS1 ?_ (by rfl) (by kernel_rfl) ?_
              rotate_left 1
              · intro w
                go_simp
                try with_reducible rfl
              dsimp only [Act.put]
              simp only [List.setIfInBounds_toArray, List.set_cons_zero, List.set_cons_succ]
              refine Till.read (i := 14) (d := 184) (v := ?_) (G := fun w' => w'.cell? ⟨G, j, none⟩ = some (.string ⟨#[]⟩)) (fun _ _ h => h) rfl rfl (by kernel_rfl) (by kernel_rfl) (by kernel_rfl) (by kernel_rfl) (fun _ _ _ h => h) hS1 ?_ (by rfl) (by kernel_rfl) ?_
              rotate_left 1
              · intro w' hx
                go_simp
                try with_reducible rfl
              dsimp only [Act.put]
              simp only [List.setIfInBounds_toArray, List.set_cons_zero, List.set_cons_succ]
              refine Till.move (i := 15) (d := 185) (v := ?_) rfl rfl (by kernel_rfl) (by kernel_rfl) (by kernel_rfl) (by kernel_rfl) (fun _ _ _ h => h) hS1 ?_ (by rfl) (by kernel_rfl) ?_
              rotate_left 1
              · intro w
                go_simp
                try with_reducible rfl
              dsimp only [Act.put]
              simp only [List.setIfInBounds_toArray, List.set_cons_zero, List.set_cons_succ]
              refine Till.move (i := 16) (d := 186) (v := ?_) rfl rfl (by kernel_rfl) (by kernel_rfl) (by kernel_rfl) (by kernel_rfl) (fun _ _ _ h => h) hS1 ?_ (by rfl) (by kernel_rfl) ?_
              rotate_left 1
              · intro w
                go_simp
                try with_reducible rfl
              dsimp only [Act.put]
              simp only [List.setIfInBounds_toArray, List.set_cons_zero, List.set_cons_succ]
              refine Till.skip (i := 17) (d := 187) rfl rfl (by kernel_rfl) (by kernel_rfl) (by kernel_rfl) (by kernel_rfl) (fun _ _ _ h => h) hS1 (by rfl) (by kernel_rfl) ?_
              dsimp only [Act.put]
              simp only [List.setIfInBounds_toArray, List.set_cons_zero, List.set_cons_succ]
              refine Till.skip (i := 18) (d := 188) rfl rfl (by kernel_rfl) (by kernel_rfl) (by kernel_rfl) (by kernel_rfl) (fun _ _ _ h => h) hS1 (by rfl) (by kernel_rfl) ?_
              dsimp only [Act.put]
              simp only [List.setIfInBounds_toArray, List.set_cons_zero, List.set_cons_succ]
              refine Till.skip (i := 19) (d := 189) rfl rfl (by kernel_rfl) (by kernel_rfl) (by kernel_rfl) (by kernel_rfl) (fun _ _ _ h => h) hS1 (by rfl) (by kernel_rfl) ?_
              dsimp only [Act.put]
              simp only [List.setIfInBounds_toArray, List.set_cons_zero, List.set_cons_succ]
              refine Till.skip (i := 20) (d := 190) rfl rfl (by kernel_rfl) (by kernel_rfl) (by kernel_rfl) (by kernel_rfl) (fun _ _ _ h => h) hS1 (by rfl) (by kernel_rfl) ?_
              dsimp only [Act.put]
              simp only [List.setIfInBounds_toArray, List.set_cons_zero, List.set_cons_succ]
              refine Till.skip (i := 21) (d := 191) rfl rfl (by kernel_rfl) (by kernel_rfl) (by kernel_rfl) (by kernel_rfl) (fun _ _ _ h => h) hS1 (by rfl) (by kernel_rfl) ?_
              dsimp only [Act.put]
              simp only [List.setIfInBounds_toArray, List.set_cons_zero, List.set_cons_succ]
              refine Till.skip (i := 22) (d := 192) rfl rfl (by kernel_rfl) (by kernel_rfl) (by kernel_rfl) (by kernel_rfl) (fun _ _ _ h => h) hS1 (by rfl) (by kernel_rfl) ?_
              dsimp only [Act.put]
              simp only [List.setIfInBounds_toArray, List.set_cons_zero, List.set_cons_succ]
              refine Till.skip (i := 23) (d := 193) rfl rfl (by kernel_rfl) (by kernel_rfl) (by kernel_rfl) (by kernel_rfl) (fun _ _ _ h => h) hS1 (by rfl) (by kernel_rfl) ?_
              dsimp only [Act.put]
              simp only [List.setIfInBounds_toArray, List.set_cons_zero, List.set_cons_succ]
              refine Till.skip (i := 24) (d := 194) rfl rfl (by kernel_rfl) (by kernel_rfl) (by kernel_rfl) (by kernel_rfl) (fun _ _ _ h => h) hS1 (by rfl) (by kernel_rfl) ?_
              dsimp only [Act.put]
              simp only [List.setIfInBounds_toArray, List.set_cons_zero, List.set_cons_succ]
              refine Till.skip (i := 25) (d := 195) rfl rfl (by kernel_rfl) (by kernel_rfl) (by kernel_rfl) (by kernel_rfl) (fun _ _ _ h => h) hS1 (by rfl) (by kernel_rfl) ?_
              dsimp only [Act.put]
              simp only [List.setIfInBounds_toArray, List.set_cons_zero, List.set_cons_succ]
              refine Till.skip (i := 26) (d := 196) rfl rfl (by kernel_rfl) (by kernel_rfl) (by kernel_rfl) (by kernel_rfl) (fun _ _ _ h => h) hS1 (by rfl) (by kernel_rfl) ?_
              dsimp only [Act.put]
              simp only [List.setIfInBounds_toArray, List.set_cons_zero, List.set_cons_succ]
              refine Till.skip (i := 27) (d := 197) rfl rfl (by kernel_rfl) (by kernel_rfl) (by kernel_rfl) (by kernel_rfl) (fun _ _ _ h => h) hS1 (by rfl) (by kernel_rfl) ?_
              dsimp only [Act.put]
              simp only [List.setIfInBounds_toArray, List.set_cons_zero, List.set_cons_succ]
              refine Till.move (i := 28) (d := 198) (v := ?_) rfl rfl (by kernel_rfl) (by kernel_rfl) (by kernel_rfl) (by kernel_rfl) (fun _ _ _ h => h) hS1 ?_ (by rfl) (by kernel_rfl) ?_
              rotate_left 1
              · intro w
                go_simp
                try with_reducible rfl
              dsimp only [Act.put]
              simp only [List.setIfInBounds_toArray, List.set_cons_zero, List.set_cons_succ]
              refine Till.move (i := 29) (d := 199) (v := ?_) rfl rfl (by kernel_rfl) (by kernel_rfl) (by kernel_rfl) (by kernel_rfl) (fun _ _ _ h => h) hS1 ?_ (by rfl) (by kernel_rfl) ?_
              rotate_left 1
              · intro w
                go_simp
                try with_reducible rfl
              dsimp only [Act.put]
              simp only [List.setIfInBounds_toArray, List.set_cons_zero, List.set_cons_succ]
              refine Till.done (by kernel_rfl) ?_ _
              go_wp2
              go_roundw
              case rel => exact ⟨j + 1, by omega, by go_num, Lib.hid ⟨_, (HPI.out.to N6.out HG4.out HGL4.out HPI.out.last HPI.out.laid HZS.out HZK.out).mono (by omega)⟩⟩
              case measure => simp [intOf]; omega
            · have hlne := hle
              clear hle
              obtain ⟨Z, hZ, hZs, hZk, hZz⟩ := HPI.out.reads j hjk hlne
              obtain ⟨H4, hp4, hg4⟩ := HPI.out.pl
              have HRD := Lib.hid (pl_read_is hp4.first j (by omega) hZ hZz)
              have HG4 := Lib.hid hg4
              have HZS := Lib.hid hZs
              have HZK := Lib.hid hZk
              have c15 := HPI.out.last.c j hjk
              obtain ⟨hne, hne2, hne3⟩ := str_some hZz
              have HGL4 := Lib.hid HPI.out.gl
              clear hp4 hg4 hZ hZs hZk hlne
              go_upto_region 27 with (go_at_call 14; refine HRD.out.mono ?_; rintro e w5 ⟨g, cp, rfl, hl, h⟩; have HL5 := Lib.hid hl; have HP5 := Lib.hid h; have d15 := h.cell c15 HG4.out; clear hl h)
              have hcv := fun n => conv_t (c := cp) (HL5.out.drewN n) hZz
              clear c15
              go_quiet (fail)
              go_wp2
              go_roundw
              case rel => exact ⟨j + 1, by omega, by go_num, Lib.hid ⟨Z, (HPI.out.to (HP5.out.drewN _) HG4.out HGL4.out HPI.out.last HPI.out.laid HZS.out HZK.out).mono (by omega)⟩⟩
              case measure => simp [intOf]; omega
          · obtain rfl : j = k + 1 := by omega
            have t1 : ¬ ((k + 1 : Nat) : Int) < 1 + (k : Int) := by omega
            obtain ⟨X2, hP2⟩ := HR.out
            obtain ⟨H9, hp9, _⟩ := hP2.pl
            have HB9 := Lib.hid hp9.b
            clear hP2 hp9 HR
            go_wp2_with (go_at_call 11; refine (sure_any _).mono ?_; rintro e w9 ⟨rfl, h⟩; have HB10 := Lib.hid h; clear h)
            go_ret
            exact ⟨rfl, HB9.out.trans (HB10.out.mono HB9.out.size)⟩)
end Go.Proofs.YtkmedlbokneegaaDoor

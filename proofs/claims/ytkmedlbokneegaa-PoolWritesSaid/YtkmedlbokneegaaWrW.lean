/-
  PoolWrites: behind a flush the disk has all that was laid, and nothing is dirty; a flush more writes nothing. No condition but that the input could be read.
-/
import Derived.Test.YtkmedlbokneegaaAct
import Derived.Deep.RegionHeld3
namespace Go.Proofs.Ytkmedlbokneegaa
open Go.RowKit Go.Maps

/-- what was laid last, as the statements keep it -/
structure Last (wr : World) (g K : Nat) (ls : Nat → ByteArray) : Prop where
  c : ∀ q, q < K → wr.cell? ⟨g, q, none⟩ = some (.string (ls q))
  f : ∀ q, wr.frozen? ⟨g, q, none⟩ = false
theorem Last.made (w : World) (n : Nat) : Last (w.alloc (.cells (Array.replicate n (.string ⟨#[]⟩)) 9)) w.heap.size n (fun _ => ⟨#[]⟩) := by
  refine ⟨fun q hq => ?_, fun q => frozen_of_row _ _ _ _ _ (heap_alloc_new _ _)⟩
  rw [cell_of_row _ _ _ _ _ _ (heap_alloc_new _ _)]
  simp [hq]
theorem Last.set {wr : World} {g K : Nat} {ls : Nat → ByteArray} (h : Last wr g K ls) (q : Nat) (hq : q < K) (t : ByteArray) : Last (wr.setCell ⟨g, q, none⟩ (.string t)) g K (updT ls q t) := by
  refine ⟨fun j hj => ?_, fun j => by rw [World.frozen?_setCell]; exact h.f j⟩
  unfold updT
  by_cases e : j = q
  · subst e
    rw [if_pos rfl]
    exact World.cell?_setCell_same _ _ _ (h.c j hj)
  · rw [if_neg e, World.cell?_setCell_other _ _ _ _ (by intro x; simp only [Addr.mk.injEq] at x; omega)]
    exact h.c j hj
theorem Last.keep {w w' : World} {g K : Nat} {ls : Nat → ByteArray} (h : Last w g K ls) (hb : w'.heap[g]? = w.heap[g]?) : Last w' g K ls :=
  ⟨fun q hq => (World.cell?_of_block hb).trans (h.c q hq), fun q => (World.frozen?_of_block hb).trans (h.f q)⟩
/-- what was laid, and what the sectors are -/
def Laid1 (ls ct : Nat → ByteArray) (q : Nat) : Prop := (ls q = ⟨#[]⟩ ∧ ct q = zT) ∨ (ct q = ls q ∧ (ls q).size = 512 ∧ goodT (ls q) = true)
theorem Laid1.upd {ls ct : Nat → ByteArray} (h : ∀ q, Laid1 ls ct q) (p : Nat) (s : ByteArray) : ∀ q, Laid1 (updT ls p (mkT s)) (updT ct p (mkT s)) q := fun q => by
  unfold Laid1 updT
  by_cases e : q = p
  · rw [if_pos e, if_pos e]; exact .inr ⟨rfl, mkT_size s, mkT_good s⟩
  · rw [if_neg e, if_neg e]; exact h q
/-- the pool in the statements' loops -/
structure PInv (W wr : World) (N p D g K : Nat) (X : Px) (ls ct : Nat → ByteArray) : Prop where
  pl : ∃ H, Pl W N wr p D X H ∧ ¬ H g
  gW : W.heap.size ≤ g
  gl : g < wr.heap.size
  last : Last wr g K ls
  laid : ∀ q, Laid1 ls ct q
  sem : Sem X ct
  free : Free X
  n : X.d.n = K
theorem str_some {t : ByteArray} (h : t.size = 512) : (t.toList == (⟨#[]⟩ : ByteArray).toList) = false ∧ (t.toList == []) = false ∧ t.toList ≠ [] := by
  have e : t.toList ≠ [] := fun q => by
    have := congrArg List.length q
    rw [ByteArray.toList_eq, Array.length_toList] at this
    have h2 : t.data.size = 512 := h
    rw [h2] at this
    exact absurd this (by decide)
  have e2 : (⟨#[]⟩ : ByteArray).toList = [] := by rw [ByteArray.toList_eq]
  exact ⟨by rw [e2, beq_eq_false_iff_ne]; exact e, by rw [beq_eq_false_iff_ne]; exact e, e⟩
theorem stored {W wr w2 : World} {N p D g K : Nat} {X : Px} {ls ct : Nat → ByteArray} {H : Nat → Prop} (h : PInv W wr N p D g K X ls ct) (h2 : PlN W N w2 p D X wr H) (hg : ¬ H g) (q : Nat) (hq : q < K) (s : ByteArray) :
    (∃ H2, Pl W N (w2.setCell ⟨g, q, none⟩ (.string (mkT s))) p D X H2 ∧ ¬ H2 g) ∧ Last (w2.setCell ⟨g, q, none⟩ (.string (mkT s))) g K (updT ls q (mkT s)) ∧ g < (w2.setCell ⟨g, q, none⟩ (.string (mkT s))).heap.size := by
  obtain ⟨H2, k1, k2⟩ := h2.open' h.gl hg
  refine ⟨⟨H2, k1.other k2 h.gW _ _, k2⟩, (h.last.keep (h2.block h.gl hg)).set q hq _, ?_⟩
  obtain ⟨_, _, hs⟩ := h2
  have := hs.size
  have := h.gl
  simp
  omega
theorem written {W wr w3 w4 : World} {N M p D g K : Nat} {X Y : Px} {ls ct : Nat → ByteArray} {H : Nat → Prop} (h : PInv W wr N p D g K X ls ct) (h4 : PlN W (N + 1) w4 p D Y w3 H) (hg : ¬ H g) (q : Nat) (s : ByteArray) (hl : Last w3 g K (updT ls q (mkT s))) (hgl : g < w3.heap.size) (hs : Sem Y (updT ct q (mkT s))) (hk : Keep X Y) (hM : N + 1 ≤ M) : PInv W w4 M p D g K Y (updT ls q (mkT s)) (updT ct q (mkT s)) := by
  obtain ⟨H2, k1, k2⟩ := h4.open' hgl hg
  refine ⟨⟨H2, k1.mono hM, k2⟩, h.gW, ?_, hl.keep (h4.block hgl hg), Laid1.upd h.laid q s, hs, hk.free, hk.n.trans h.n⟩
  obtain ⟨_, _, hs⟩ := h4
  exact Nat.lt_of_lt_of_le hgl hs.size
set_option maxHeartbeats 2000000 in
set_option maxRecDepth 100000 in
theorem writes_walk (n0 n1 : Int) (a : Option Addr) (len cap : Nat) (l : Nat → ActV) (W : World) (_w0 : (Lit.int .i64 n0).wf = true) (_w1 : (Lit.int .i64 n1).wf = true) (hw : IsActs W a len l) :
    Calls Try.prog 4 #[.int .i64 n0, .int .i64 n1, .slice a len cap] W fun e w' => e = .returned (.bool true) ∧ Below W.heap.size W w' := by
  obtain ⟨k, hk, hk8⟩ := red_nat n0 8 (by omega) (by omega)
  obtain ⟨m, hm, hm5⟩ := red_nat n1 5 (by omega) (by omega)
  have hmk := make_str (k + 1) (1 + (k : Int)) (by omega) (by omega)
  have HA := Lib.hid hw
  clear hw
  go_enter Try.func4, Try.ntmps4
  go_wp2_with (first | (go_at_call 5; refine (disk_new' (W := W) (k + 1) _ (by omega) _ (Below.refl _ _) (by omega) (by omega)).mono ?_; rintro e wa ⟨D, H, rfl, h⟩; have HD := Lib.hid h; clear h) | (go_at_call 8; refine (newp_at' 0 (m + 1) _ (by omega) HD.out (by omega) (by omega) (show (0 : Int) ≤ 0 by decide) (show (0 : Int) ≤ (0 : Nat) by decide)).mono ?_; rintro e wb ⟨p, H1, rfl, h⟩; have HP0 := Lib.hid h; clear h))
  obtain ⟨G, hG⟩ : ∃ G, G = wb.heap.size := ⟨_, rfl⟩
  have HI : Hid (∃ X ls ct, PInv W (wb.alloc (.cells (Array.replicate (k + 1) (.string ⟨#[]⟩)) 9)) (10 * 0) p D G (k + 1) X ls ct) := by
    have h := HP0.out
    rw [hG]
    exact Lib.hid ⟨_, _, _, ⟨H1, h.below ((Below.refl _ _).alloc (Nat.le_refl _) _), fun q => by have := (h.lt _ q).2; omega⟩, h.b.size, by simp, Last.made wb (k + 1), fun q => .inl ⟨rfl, rfl⟩, sem_fresh rfl, Free.fresh _ _, rfl⟩
  rw [← hG]
  clear HP0 HD hmk
  generalize wb.alloc (.cells (Array.replicate (k + 1) (.string ⟨#[]⟩)) 9) = w1 at HI ⊢
  clear hG
  have k0 : (0 : Int) ≤ (k : Int) := by omega
  have hlen := HA.out.1
  go_loopw [14, 15] (fun x _ wr => ∃ i : Nat, i ≤ len ∧ i ≤ 60 ∧ x = .int .i64 i ∧ Hid (∃ X ls ct, PInv W wr (10 * i) p D G (k + 1) X ls ct)) (fun x _ _ => 60 - (intOf x).toNat)
  case atStart => exact ⟨0, by omega, by omega, rfl, HI⟩
  case round =>
    obtain ⟨i, hi1, hi2, rfl, HR⟩ := hrel
    by_cases hlt : i < len ∧ i < 60
    · obtain ⟨hlt1, hlt2⟩ := hlt
      have j0 : (0 : Int) ≤ (i : Int) := by omega
      have j1 : (i : Int) < (len : Int) := by omega
      have j2 : (i : Int) < 60 := by omega
      obtain ⟨b, o, rfl, hr, hok⟩ := HA.out.2 i hlt1
      obtain ⟨X, ls, ct, hP⟩ := HR.out
      obtain ⟨H, hpl, hg⟩ := hP.pl
      have x1 := act_cell hpl.b hr 1 _ rfl
      have x2 := act_cell hpl.b hr 2 _ rfl
      obtain ⟨q, hq, hqk⟩ := red_nat (l i).i (1 + (k : Int)) (by omega) (by omega)
      have hqk' : q < k + 1 := by omega
      have q0 : (0 : Int) ≤ (q : Int) := by omega
      have q1 : (q : Int) < 1 + (k : Int) := by omega
      have c13 := hP.last.c q hqk'
      have f13 := hP.last.f q
      have HP := Lib.hid hP
      have HPL := Lib.hid hpl.first
      have HG := Lib.hid hg
      have HOB := Lib.hid hok.b
      clear hP hpl hg hok hr HR
      go_upto_region 12 with (go_at_call 7; (refine (marked_from HPL.out (l i).b HOB.out).mono ?_; rintro e w2 ⟨rfl, h⟩; have HP2 := Lib.hid h; have c14 := h.cell c13 HG.out; have f14 := h.frozen HP.out.gl HG.out f13; clear h))
      have HN3 := Lib.hid (stored HP.out HP2.out HG.out q hqk' (l i).b)
      generalize w2.setCell ⟨G, q, none⟩ (.string (mkT (l i).b)) = w3 at HN3 ⊢
      clear c13 f13 c14 f14 HP2 HPL
      obtain ⟨⟨H2, hpl2, hg2⟩, hl3, hgl3⟩ := HN3.out
      have c13 := hl3.c q hqk'
      rw [show updT ls q (mkT (l i).b) q = mkT (l i).b by unfold updT; rw [if_pos rfl]] at c13
      have hcv := conv_b (mkT (l i).b) (mkT_size _)
      have HPL3 := Lib.hid hpl2.first
      have HG3 := Lib.hid hg2
      have HL3 := Lib.hid hl3
      have HGL3 := Lib.hid hgl3
      obtain ⟨hw0, hws⟩ := sem_write HP.out.sem hpl2.ok (q := q) (by rw [HP.out.n]; exact hqk') (mkT_size (l i).b) (mkT_good (l i).b) (.inr (.inr (HP.out.free.held hpl2.ok)))
      have HK := Lib.hid (write_keep HP.out.sem HP.out.free hpl2.ok (q := q) (by rw [HP.out.n]; exact hqk') (mkT_size (l i).b) (mkT_good (l i).b))
      obtain ⟨Y, hY⟩ : ∃ Y, writeP X q (mkT (l i).b) = (Y, 0) := ⟨_, Prod.ext rfl hw0⟩
      have HY := Lib.hid hY
      rw [hY] at hws HK
      have HWS := Lib.hid hws
      clear hpl2 hg2 hl3 hgl3 hw0 hws hY HN3
      go_wp2_with (go_at_call 14; refine (pl_write_ok HPL3.out q _ _ (mkT_size _) (by have := bc_le w3 (mkT (l i).b); rw [mkT_size] at this; exact this) (by omega) HY.out).mono ?_; rintro e w4 ⟨rfl, h⟩; have HP4 := Lib.hid h; clear h)
      go_roundw
      case rel => exact ⟨i + 1, by omega, by omega, by go_num, Lib.hid ⟨Y, _, _, written HP.out HP4.out HG3.out q (l i).b HL3.out HGL3.out HWS.out HK.out (by omega)⟩⟩
      case measure => simp [intOf]; omega
    · have hcase : (¬ (i : Int) < (len : Int)) ∨ ((i : Int) < (len : Int) ∧ ¬ (i : Int) < 60) := by omega
      obtain ⟨X, ls, ct, hP⟩ := HR.out
      obtain ⟨H, hpl, hg⟩ := hP.pl
      obtain ⟨hf0, hfl, hpe⟩ := flush_sem hP.sem hpl.ok
      have hmX := hpl.ok.m1
      have hwN := hpl.ok.wN
      have HF := Lib.hid (pl_flush hpl.first (by omega))
      rw [hf0, errv0] at HF
      generalize flushP X = R at HF hfl
      obtain ⟨Y, eY⟩ := R
      simp only at HF hfl
      have HY := Lib.hid hfl
      have HP := Lib.hid hP
      have HGG := Lib.hid hg
      clear hP hpl hg hf0 hfl hpe HR hlt
      rcases hcase with e1 | ⟨e1, e2⟩
      all_goals (
        go_upto_region 18 with (first | (go_at_call 15; refine HF.out.mono ?_; rintro e w5 ⟨rfl, h⟩; have HP5 := Lib.hid h; clear h) | (go_at_call 12; refine (pd_writes HP5.out).mono ?_; rintro e w5b ⟨rfl, rfl⟩))
        obtain ⟨H5, hp5, hs5⟩ := HP5.out
        have hgl5 : G < w5.heap.size := Nat.lt_of_lt_of_le HP.out.gl hs5.size
        have hl5 : Last w5 G (k + 1) ls := HP.out.last.keep (hs5.block G HP.out.gl HGG.out)
        have hg5 : ¬ H5 G := fun q => by rcases hs5.own G q with e | e; exact HGG.out e; have := HP.out.gl; omega
        have HPL := Lib.hid hp5
        have HL5 := Lib.hid hl5
        have HG5 := Lib.hid hg5
        have HGL5 := Lib.hid hgl5
        have HCT := Lib.hid (show ∀ j, j < k + 1 → Y.d.cur j = ct j from fun j hj => flat_cur HY.out.sem hp5.ok (fun j hj => HY.out.d j (by rw [← HY.out.m]; exact hj)) (by rw [HY.out.n, HP.out.n]; exact hj))
        have HSZ := Lib.hid (show ∀ j, (ct j).size = 512 from fun j => by
          rcases HP.out.laid j with ⟨_, e⟩ | ⟨e, e2, _⟩
          · rw [e]; exact tx_size _
          · rw [e]; exact e2)
        clear hp5 hs5 hgl5 hl5 hg5 HP5
        go_loopw [17, 18, 19] (fun x _ _ wr => ∃ j : Nat, j ≤ k + 1 ∧ x = .int .i64 j ∧ Hid (PlN W (10 * i + X.m) wr p D Y w5 H5)) (fun x _ _ _ => k + 1 - (intOf x).toNat)
        case atStart => exact ⟨0, by omega, rfl, Lib.hid HPL.out.first⟩
        case round =>
          obtain ⟨j, hj, rfl, HPR⟩ := hrel
          by_cases hlt : j < k + 1
          · have t0 : (0 : Int) ≤ (j : Int) := by omega
            have t1 : (j : Int) < 1 + (k : Int) := by omega
            have hct := HCT.out j hlt
            have c13 := HPR.out.cell (HL5.out.c j hlt) HG5.out
            have HRD := Lib.hid (pd_read HPR.out j (by rw [HY.out.n, HP.out.n]; exact hlt))
            rw [hct] at HRD
            have hla := HP.out.laid j
            have hsz := HSZ.out j
            go_upto_region 21 with (go_at_call 16; refine HRD.out.mono ?_; rintro e w6 ⟨g, cp, rfl, hl, h⟩; have HL6 := Lib.hid hl; have HP6 := Lib.hid h; have d13 := h.cell (HL5.out.c j hlt) HG5.out; clear hl h)
            have hcv := fun n => conv_t (c := cp) (HL6.out.drewN n) hsz
            clear c13
            rcases hla with ⟨e3, e4⟩ | ⟨e3, e4, e5⟩
            · rw [e3] at d13
              clear e3 e4 hct hsz
              go_quiet (fail)
              go_wp2
              go_roundw
              case rel => exact ⟨j + 1, by omega, by go_num, Lib.hid (HP6.out.drewN _)⟩
              case measure => simp [intOf]; omega
            · simp only [e3] at hcv
              obtain ⟨hne, hne2, hne3⟩ := str_some e4
              clear e3 e4 e5 hct hsz
              go_quiet (fail)
              go_wp2
              go_roundw
              case rel => exact ⟨j + 1, by omega, by go_num, Lib.hid (HP6.out.drewN _)⟩
              case measure => simp [intOf]; omega
          · obtain rfl : j = k + 1 := by omega
            have t1 : ¬ ((k + 1 : Nat) : Int) < 1 + (k : Int) := by omega
            have hdn : ∀ j, j < Y.m → (Y.fr j).d = false := fun j hj => HY.out.d j (by rw [← HY.out.m]; exact hj)
            have HFF := Lib.hid (pl_flush_flat HPR.out (by omega) hdn)
            have HDN := Lib.hid (dirt_nil (X := Y.disk Y.d.flush) hdn)
            clear hdn
            go_wp2_with (first | (go_at_call 15; refine HFF.out.mono ?_; rintro e w7 ⟨rfl, h⟩; have HP7 := Lib.hid h; clear h) | (go_at_call 12; refine (pd_writes HP7.out).mono ?_; rintro e w7b ⟨rfl, rfl⟩) | (go_at_call 11; refine (pl_dirty_nil HP7.out HDN.out).mono ?_; rintro e w8 ⟨ao, ac, rfl, h⟩; have HP8 := Lib.hid h; clear h) | (go_at_call 13; refine (sure_any _).mono ?_; rintro e w9 ⟨rfl, h⟩; have HB9 := Lib.hid h; clear h))
            go_ret
            exact ⟨rfl, HP8.out.b.trans (HB9.out.mono HP8.out.b.size)⟩)
end Go.Proofs.Ytkmedlbokneegaa

/-
  THE WALKS of the maker's grown: of four tiles, of middles, of parts of one's own. Conditions: the grower lies in memory, what goes on in smaller squares does so, and there is room.
-/
import Derived.Test.YtkefjkfknegogaaGreatP28
namespace Go.Proofs.YtkefjkfknegogaaGreat
open Go.RowKit Ti Qd Go.Maps Go.WideMaps Ru

abbrev pb (G : Nat) : Obj := .cells #[.pointer (some ⟨G, 0, none⟩)] 113
theorem Gs.call3 {B : Nat} {w0 w : World} {H0 : Nat → Prop} {G P M b l room : Nat} {s : GS} {bx : List (Nat × Obj)} (h : Gs B w0 H0 G P M b l room s bx w) : ∃ H, Gr B w G P M b l s room H ∧ (∀ x ∈ bx, ¬ H x.1) ∧ ∀ (s' : GS) (w' : World), Gt B w G P M b l room H s' w' → Gs B w0 H0 G P M b l room s' bx w' := by
  obtain ⟨⟨H, h1, h2, h3⟩, h4, h5⟩ := h
  exact ⟨H, h1, fun x hx => (h3 x hx).2.1, fun _ _ hg => Gs.goes ⟨h1, h2, h3⟩ h4 h5 hg⟩
theorem one_cell {w : World} {g : Nat} {v : Value} {T : TypeId} (h : w.heap[g]? = some (.cells #[v] T (0, 0))) : w.cell? ⟨g, 0, none⟩ = some v := by
  rw [cell_of_row w g _ _ _ _ h]
  rfl
set_option maxRecDepth 100000 in
set_option maxHeartbeats 4000000 in
theorem grown_0 {B : Nat} {w : World} {G P M b l : Nat} {s : GS} {room : Nat} {H : Nat → Prop} (hm : mayR b l = true) (h : Gr B w G P M b l s room H) (id : Int) (hl : Lv s.1 1 id) (j : Nat) (hj : j ≤ 2) (hr : (tileG b l s id j).1.1.length ≤ room) :
    Calls Tryz.prog 43 #[.pointer (some ⟨G, 0, none⟩), .int .i64 id, .int .i64 (j : Int)] w fun e w' => e = .returned (.tuple #[.int .i64 (tileG b l s id j).2, .nilIface]) ∧ Gt B w G P M b l room H (tileG b l s id j).1 w' := by
  have HS : Hid (Gs B w H G P M b l room s [(w.heap.size, pb G)] (w.alloc (.cells #[.pointer (some ⟨G, 0, none⟩)] 113))) := Lib.hid ((Gs.start h).alloc' (pb G) rfl)
  have hinv := HS.out.inv.1
  have HT := Lib.hid (fun (wx : World) (Hx : Nat → Prop) (hx : Gr B wx G P M b l s room Hx) => growTiles_ok hm hx (kid (at' s.1 id)) (fun i h4 => hinv.kid hl i) j hj hr)
  have HL := Lib.hid hl
  have e4 : (at' s.1 id).lev = 4 := hl.2
  have HE := Lib.hid e4
  clear h hl hr hinv hm hj e4
  unfold tileG leafG tilG
  go_enter Tryz.func43, Tryz.ntmps43
  go_upto_region 1 with (fail)
  generalize World.alloc _ _ = W at HS ⊢
  have hp := HS.out.ptr
  have h3 := one_cell HS.out.b0
  obtain ⟨Hs, hst, _⟩ := HS.out.store
  have HLV := Lib.hid (level_is hst id HL.out.1 4 HE.out)
  clear hst
  go_wp2_with fail
  refine HLV.out.mono ?_
  rintro e w1 ⟨rfl, hb⟩
  have HS1 := Lib.hid (HS.out.below hb)
  clear hb hp h3 HLV HS
  have hp := HS1.out.ptr
  have h3 := one_cell HS1.out.b0
  obtain ⟨Hs, hst, _⟩ := HS1.out.store
  have HK := Lib.hid (kids_ok hst 0 id HL.out _ rfl)
  clear hst
  go_wp2_with fail
  refine HK.out.mono ?_
  rintro e w2 ⟨rfl, hb⟩
  have HS2 := Lib.hid ((HS1.out.below hb).alloc (.cells #[.int .i64 (at' s.1 id).k0, .int .i64 (at' s.1 id).k1, .int .i64 (at' s.1 id).k2, .int .i64 (at' s.1 id).k3] 96))
  clear hb hp h3 HK HS1
  go_upto_region 8 with (fail)
  generalize World.alloc _ _ = W2 at HS2 ⊢
  have h3 := one_cell HS2.out.b1
  obtain ⟨c0, c1, c2, c3⟩ := row4 HS2.out.b0
  obtain ⟨H1, h1, h2⟩ := HS2.out.call
  have HT1 := Lib.hid (HT.out _ _ h1)
  have HX := Lib.hid h2
  clear h1 h2 HT
  go_wp2_with fail
  refine HT1.out.mono ?_
  rintro e w3 ⟨rfl, hg⟩
  have HS3 := Lib.hid (HX.out _ _ hg)
  clear hg h3 c0 c1 c2 c3
  go_wp2
  go_ret2
  exact ⟨rfl, HS3.out.gt⟩
set_option maxRecDepth 100000 in
set_option maxHeartbeats 8000000 in
theorem grown_near {B : Nat} {w : World} {G P M b l : Nat} {s : GS} {room : Nat} {H : Nat → Prop} (m : Nat) (hm : m ≤ 35) (hC : GrowC B G P M b l room m) (h : Gr B w G P M b l s room H) (hk : GOk b l s) (id : Int) (hl : Lv s.1 (m + 2) id) (j : Nat) (hj : j ≤ m + 3) (hf : ¬ j = m + 3) (hr : (grownG (growQ b l m) m s id j).1.1.length ≤ room) :
    Calls Tryz.prog 43 #[.pointer (some ⟨G, 0, none⟩), .int .i64 id, .int .i64 (j : Int)] w fun e w' => e = .returned (.tuple #[.int .i64 (grownG (growQ b l m) m s id j).2, .nilIface]) ∧ Gt B w G P M b l room H (grownG (growQ b l m) m s id j).1 w' := by
  have HS : Hid (Gs B w H G P M b l room s [(w.heap.size, pb G)] (w.alloc (.cells #[.pointer (some ⟨G, 0, none⟩)] 113))) := Lib.hid ((Gs.start h).alloc' (pb G) rfl)
  obtain ⟨nf, hnf⟩ : ∃ nf, nf = partG (growQ b l m) (sxt s.1 id) m j := ⟨_, rfl⟩
  obtain ⟨r, hrr⟩ : ∃ r, r = restN m j := ⟨_, rfl⟩
  have hr1 : r ≤ m + 2 := by rw [hrr]; exact rest_le hj
  obtain ⟨ff, hff⟩ : ∃ ff, ff = fourP (growQ b l m) (outOf nf s) 3 r := ⟨_, rfl⟩
  have hq : grownG (growQ b l m) m s id j = nodeG (stOf ff (stOf nf s 9) 4) (outOf ff (stOf nf s 9) 0) (outOf ff (stOf nf s 9) 1) (outOf ff (stOf nf s 9) 2) (outOf ff (stOf nf s 9) 3) := by
    rw [hff, hnf, hrr]
    rfl
  rw [hq] at hr ⊢
  have hw := wys b l m hm s hk id j hj hl
  have p4 := hw.p4
  rw [← hnf, ← hrr, ← hff] at p4
  have p9 := hw.p9
  rw [← hnf] at p9
  have w9 := wy_of hk p9 9 (Nat.le_refl _)
  have le4 := fun k (h4 : k ≤ 4) => (show (stOf ff (stOf nf s 9) k).1 <+: (stOf ff (stOf nf s 9) 4).1 from by
    have := Wy.le w9.ok p4 k (4 - k) (by omega)
    rwa [show k + (4 - k) = 4 by omega] at this)
  have lelast : (stOf ff (stOf nf s 9) 4).1.length ≤ room := Nat.le_trans (put_ext _ _).length_le hr
  have HR9 := Lib.hid (show (stOf (partG (growQ b l m) (sxt s.1 id) m j) s 9).1.length ≤ room from by
    rw [← hnf]
    exact Nat.le_trans (le4 0 (by omega)).length_le lelast)
  have HW := Lib.hid (fun k (h4 : k ≤ 4) => wy_of w9.ok p4 k h4)
  have HFR := Lib.hid (fun k (h4 : k < 4) (wx : World) (Hx : Nat → Prop) (hx : Gr B wx G P M b l (stOf ff (stOf nf s 9) k) room Hx) => (show Calls Tryz.prog 62 #[.pointer (some ⟨G, 0, none⟩), .agg #[.int .i64 (outOf nf s (at4 3 k)), .int .i64 (outOf nf s (at4 3 k + 1)), .int .i64 (outOf nf s (at4 3 k + 3)), .int .i64 (outOf nf s (at4 3 k + 3 + 1))], .int .i64 (r : Int)] wx fun e w' => e = .returned (.tuple #[.int .i64 (outOf ff (stOf nf s 9) k), .nilIface]) ∧ Gt B wx G P M b l room Hx (stOf ff (stOf nf s 9) (k + 1)) w' from by
    have wk := wy_of w9.ok p4 k (by omega)
    have lk := Nat.le_trans (le4 (k + 1) (by omega)).length_le lelast
    have e : stOf ff (stOf nf s 9) (k + 1) = (ff (stOf ff (stOf nf s 9) k) k).1 := rfl
    rw [e] at lk ⊢
    show Calls _ _ _ _ fun e w' => e = .returned (.tuple #[.int .i64 (ff (stOf ff (stOf nf s 9) k) k).2, .nilIface]) ∧ _
    rw [hff] at lk hx ⊢
    rw [hff] at wk
    exact growFour_ok m (by omega) hC hx wk.ok (wf (outOf nf s) 3 k) (fun i _ => by
      unfold wf at4
      split
      · exact (w9.lv _ (by omega)).ext wk.ext
      split
      · exact (w9.lv _ (by omega)).ext wk.ext
      split
      · exact (w9.lv _ (by omega)).ext wk.ext
      · exact (w9.lv _ (by omega)).ext wk.ext) r hr1 lk))
  have w4 := wy_of w9.ok p4 4 (Nat.le_refl _)
  have HND := Lib.hid (fun (wx : World) (Hx : Nat → Prop) (hx : St B wx P (stOf ff (stOf nf s 9) 4).1 room Hx) => node_ok hx (outOf ff (stOf nf s 9) 0) (outOf ff (stOf nf s 9) 1) (outOf ff (stOf nf s 9) 2) (outOf ff (stOf nf s 9) 3) _ (four_of (f := outOf ff (stOf nf s 9)) w4.lv) (by omega) hr)
  obtain ⟨lv, hlv⟩ : ∃ lv : Int, lv = ((m + 2 : Nat) : Int) + 3 := ⟨_, rfl⟩
  have e4 : (lv == 4) = false := by rw [beq_eq_false_iff_ne]; omega
  have eF : ((j : Int) == lv - 2) = false := (by rw [beq_eq_false_iff_ne]; omega)
  have lv0 : (0 : Int) ≤ lv := by omega
  have lv1 : lv ≤ 100 := by omega
  have j0 : (0 : Int) ≤ (j : Int) := by omega
  have j1 : (j : Int) ≤ 100 := by omega
  have HE := Lib.hid (show (at' s.1 id).lev = lv by rw [hlv]; exact hl.2)
  have HL := Lib.hid hl
  have hinv := HS.out.inv.1
  have HNF := Lib.hid hnf
  have HRR := Lib.hid hrr
  have HH := Lib.hid (And.intro hm (And.intro hj (And.intro hf (And.intro hk hC))))
  have HN9 := Lib.hid (fun (wx : World) (Hx : Nat → Prop) (hx : Gr B wx G P M b l s room Hx) (fid : Nat) (fi ca : Array Value) (hcf : ∀ (args : Array Value) (w : World), (callFunc fid args).run Tryz.prog w = .ok (.enter fid args) w) (hc : PartC B wx G P M b l s room Hx (sxt s.1 id) fid fi ca nf) => nine_ok hx (kid (at' s.1 id)) m (fun i h4 => hinv.kid hl i) fid fi ca nf hcf hc)
  clear hlv hl hq p4 p9 hw w9 le4 lelast hr hinv w4 hr1 hff hnf hrr hm hj hf hk hC h
  generalize hs9 : stOf nf s 9 = s9 at *
  have HS9 := Lib.hid hs9
  clear hs9
  unfold nodeG
  go_enter Tryz.func43, Tryz.ntmps43
  go_upto_region 1 with (fail)
  generalize World.alloc _ _ = W at HS ⊢
  have hp := HS.out.ptr
  have h3 := one_cell HS.out.b0
  obtain ⟨Hs, hst, _⟩ := HS.out.store
  have HLV := Lib.hid (level_is hst id HL.out.1 lv HE.out)
  clear hst
  go_wp2_with fail
  refine HLV.out.mono ?_
  rintro e w1 ⟨rfl, hb⟩
  have HS1 := Lib.hid (HS.out.below hb)
  clear hb hp h3 HLV HS
  have hp := HS1.out.ptr
  have h3 := one_cell HS1.out.b0
  obtain ⟨Hs, hst, _⟩ := HS1.out.store
  have HK := Lib.hid (kids_ok hst (m + 1) id HL.out _ rfl)
  clear hst
  go_wp2_with fail
  refine HK.out.mono ?_
  rintro e w2 ⟨rfl, hb⟩
  have HS2 := Lib.hid ((HS1.out.below hb).alloc (.cells #[.int .i64 (at' s.1 id).k0, .int .i64 (at' s.1 id).k1, .int .i64 (at' s.1 id).k2, .int .i64 (at' s.1 id).k3] 96))
  clear hb hp h3 HK HS1
  go_upto_region 9 with (fail)
  obtain ⟨g10, hg10⟩ : ∃ g, g = w2.heap.size := ⟨_, rfl⟩
  rw [← hg10] at HS2 ⊢
  generalize World.alloc _ _ = W2 at HS2 ⊢
  clear hg10
  have h3 := one_cell HS2.out.b1
  have hrj : (r : Int) = (j : Int) := by
    rw [HRR.out]
    unfold restN
    rw [if_neg HH.out.2.2.1]
  have HS3 : Hid (Gs B w H G P M b l room s [(W2.heap.size, .cells #[.int .i64 (r : Int)] 3), (g10, .cells #[.int .i64 (at' s.1 id).k0, .int .i64 (at' s.1 id).k1, .int .i64 (at' s.1 id).k2, .int .i64 (at' s.1 id).k3] 96), (w.heap.size, pb G)] (W2.alloc (.cells #[.int .i64 ((j : Int))] 3))) := by
    rw [← hrj]
    exact Lib.hid (HS2.out.alloc (.cells #[.int .i64 (r : Int)] 3))
  clear hrj
  go_upto_region 13 with (go_at_call 27; refine (farthest_any lv lv0 lv1 _).mono ?_; rintro e w9 ⟨rfl, rfl⟩)
  obtain ⟨g12, hg12⟩ : ∃ g, g = W2.heap.size := ⟨_, rfl⟩
  rw [← hg12] at HS3 ⊢
  generalize World.alloc _ _ = W3 at HS3 ⊢
  clear hg12 h3
  have h3 := one_cell HS3.out.b2
  obtain ⟨c0, c1, c2, c3⟩ := row4 HS3.out.b1
  obtain ⟨H3, h1, h2, hx⟩ := HS3.out.call3
  have HN := Lib.hid (HN9.out _ _ h1 60 #[.pointer (some ⟨G, 0, none⟩)] #[] (enter_run Tryz.func60 rfl rfl) (HNF.out ▸ partC_mid m HH.out.1 HH.out.2.2.2.1 id HL.out j HH.out.2.1 HH.out.2.2.1 HR9.out))
  have HX := Lib.hid hx
  clear h1 h2 hx HN9
  go_wp2_with fail
  refine HN.out.mono ?_
  rintro e w4 ⟨rfl, hg⟩
  have HS4 := Lib.hid (HX.out _ _ hg)
  clear hg h3 c0 c1 c2 c3 HX HS3 HN HS2
  have hone := ir_one (outOf nf s) 9
  have hinf := info_9 (outOf nf s)
  have hsz : (ir (fun _ => 0) 9).size = (ir (outOf nf s) 9).size := by rw [ir_size, ir_size]
  have HA := Lib.hid (And.intro hone (And.intro hinf hsz))
  clear hone hinf hsz
  have HS5 : Hid (Gs B w H G P M b l room s9 [(w4.heap.size + 1, .cells (ir (cpF 0 (outOf ff s9) 0) 4) 96), (w4.heap.size, .cells (ir (outOf nf s) 9) 135), (g12, .cells #[.int .i64 (r : Int)] 3), (g10, .cells #[.int .i64 (at' s.1 id).k0, .int .i64 (at' s.1 id).k1, .int .i64 (at' s.1 id).k2, .int .i64 (at' s.1 id).k3] 96), (w.heap.size, pb G)] (((w4.alloc (.cells #[.int .i64 0, .int .i64 0, .int .i64 0, .int .i64 0, .int .i64 0, .int .i64 0, .int .i64 0, .int .i64 0, .int .i64 0] 135)).setRow w4.heap.size (ir (outOf nf s) 9)).alloc z4l)) := Lib.hid (((HS4.out.alloc (.cells #[.int .i64 0, .int .i64 0, .int .i64 0, .int .i64 0, .int .i64 0, .int .i64 0, .int .i64 0, .int .i64 0, .int .i64 0] 135)).setRow (ir (outOf nf s) 9)).alloc' z4l (by simp [World.setRow]))
  clear HS4
  go_wp2_with (refine wpList_store_row rfl 135 (.tmp 13) (.tmp 63) rfl w4.heap.size (ir (outOf nf s) 9) rfl rfl 135 (ir (fun _ => 0) 9) (heap_alloc_new w4 _) HA.out.2.1 HA.out.2.2 HA.out.1 ?_)
  generalize World.alloc _ _ = W5 at HS5 ⊢
  obtain ⟨g13, hg13⟩ : ∃ g, g = w4.heap.size := ⟨_, rfl⟩
  rw [← hg13] at HS5 ⊢
  obtain ⟨g14, hg14⟩ : ∃ g, g = g13 + 1 := ⟨_, rfl⟩
  rw [← hg14] at HS5 ⊢
  obtain ⟨F, hF⟩ : ∃ F, F = outOf nf s := ⟨_, rfl⟩
  rw [← hF] at HS5 HFR HA ⊢
  clear hg13 hg14 hF HA
  go_loopw [68] (fun i wr => ∃ k : Nat, k ≤ 4 ∧ i = .int .i64 k ∧ Hid (Gs B w H G P M b l room (stOf ff s9 k) [(g14, .cells (ir (cpF 0 (outOf ff s9) k) 4) 96), (g13, .cells (ir F 9) 135), (g12, .cells #[.int .i64 (r : Int)] 3), (g10, .cells #[.int .i64 (at' s.1 id).k0, .int .i64 (at' s.1 id).k1, .int .i64 (at' s.1 id).k2, .int .i64 (at' s.1 id).k3] 96), (w.heap.size, pb G)] wr)) (fun i _ => 4 - (intOf i).toNat)
  case atStart => exact ⟨0, by omega, rfl, HS5⟩
  case round =>
    clear HS5
    obtain ⟨k, hk, rfl, HR⟩ := hrel
    have k0 : (0 : Int) ≤ (k : Int) := by omega
    by_cases hlt : k < 4
    · have k1 : (k : Int) < 4 := by omega
      have HLT := Lib.hid hlt
      have HD := Lib.hid HR.out.drew
      have KD := Lib.hid (And.intro (one_cell HD.out.b4) (one_cell HD.out.b2))
      have HF4 := Lib.hid (four_3 g13 k hlt F _ _ HD.out.b1)
      clear hlt HR
      go_wp2
      go_region_held3 (fun w' => w'.cell? ⟨w.heap.size, 0, none⟩ = some (.pointer (some ⟨G, 0, none⟩)) ∧ w'.cell? ⟨g12, 0, none⟩ = some (.int .i64 (r : Int))) (first | with_reducible exact KD.out | with_reducible exact ks | with_reducible exact kx)
        (first
          | (go_at_call 64; with_reducible refine HF4.out.mono ?_; rintro e w6 ⟨rfl, hb⟩; have HR6 := Lib.hid (HD.out.below hb); have ks := And.intro (one_cell HR6.out.b4) (one_cell HR6.out.b2); obtain ⟨H6, h1, h2⟩ := HR6.out.call; have HP := Lib.hid (HFR.out k HLT.out _ _ h1); have HX := Lib.hid h2; clear hb h1 h2)
          | (go_at_call 62; with_reducible refine HP.out.mono ?_; rintro e w7 ⟨rfl, hg⟩; have HR7 := Lib.hid (HX.out _ _ hg); have ks := And.intro (one_cell HR7.out.b4) (one_cell HR7.out.b2); have hc := ir_cell HR7.out.b0 k HLT.out; have hfz := ir_fro HR7.out.b0 k; have HR8 := Lib.hid (HR7.out.set (i := k) (v := .int .i64 (outOf ff s9 k)) (ir_put HR7.out.b0 k (outOf ff s9 k))); have kx := And.intro (one_cell HR8.out.b4) (one_cell HR8.out.b2); clear hg))
      go_wp2
      go_roundw
      case rel => exact ⟨k + 1, by have := HLT.out; omega, by go_num, Lib.hid (by rw [← cp_step 0 (outOf ff s9) k]; exact HR8.out)⟩
      case measure => have := HLT.out; simp [intOf]; omega
    · obtain rfl : k = 4 := by omega
      have HD : Hid (Gs B w H G P M b l room (stOf ff s9 4) [(g14, .cells #[.int .i64 (outOf ff s9 0), .int .i64 (outOf ff s9 1), .int .i64 (outOf ff s9 2), .int .i64 (outOf ff s9 3)] 96), (g13, .cells (ir F 9) 135), (g12, .cells #[.int .i64 (r : Int)] 3), (g10, .cells #[.int .i64 (at' s.1 id).k0, .int .i64 (at' s.1 id).k1, .int .i64 (at' s.1 id).k2, .int .i64 (at' s.1 id).k3] 96), (w.heap.size, pb G)] wr.drew) := Lib.hid HR.out.drew
      have KD := Lib.hid (And.intro HD.out.ptr (And.intro (one_cell HD.out.b4) (row4 HD.out.b0)))
      obtain ⟨Hs, hst, hgo⟩ := HD.out.store
      have HC := Lib.hid (HND.out _ _ hst)
      have HGO := Lib.hid hgo
      clear hst hgo HR HND
      go_wp2
      go_region_held3 (fun w' => w'.cell? ⟨G, 0, none⟩ = some (.pointer (some ⟨P, 0, none⟩)) ∧ w'.cell? ⟨w.heap.size, 0, none⟩ = some (.pointer (some ⟨G, 0, none⟩)) ∧ w'.cell? ⟨g14, 0, none⟩ = some (.int .i64 (outOf ff s9 0)) ∧ w'.cell? ⟨g14, 1, none⟩ = some (.int .i64 (outOf ff s9 1)) ∧ w'.cell? ⟨g14, 2, none⟩ = some (.int .i64 (outOf ff s9 2)) ∧ w'.cell? ⟨g14, 3, none⟩ = some (.int .i64 (outOf ff s9 3))) (first | with_reducible exact KD.out | with_reducible exact ks)
        ((go_at_call 38; with_reducible refine HC.out.mono ?_; rintro e w8 ⟨rfl, hg⟩; have HS8 := Lib.hid (HGO.out _ _ hg); have ks := And.intro HS8.out.ptr (And.intro (one_cell HS8.out.b4) (row4 HS8.out.b0)); clear hg))
      go_wp2
      go_ret2
      exact ⟨rfl, HS8.out.gt⟩
set_option maxRecDepth 100000 in
set_option maxHeartbeats 8000000 in
theorem grown_far {B : Nat} {w : World} {G P M b l : Nat} {s : GS} {room : Nat} {H : Nat → Prop} (m : Nat) (hm : m ≤ 35) (hC : GrowC B G P M b l room m) (h : Gr B w G P M b l s room H) (hk : GOk b l s) (id : Int) (hl : Lv s.1 (m + 2) id) (j : Nat) (hj : j ≤ m + 3) (hf : j = m + 3) (hr : (grownG (growQ b l m) m s id j).1.1.length ≤ room) :
    Calls Tryz.prog 43 #[.pointer (some ⟨G, 0, none⟩), .int .i64 id, .int .i64 (j : Int)] w fun e w' => e = .returned (.tuple #[.int .i64 (grownG (growQ b l m) m s id j).2, .nilIface]) ∧ Gt B w G P M b l room H (grownG (growQ b l m) m s id j).1 w' := by
  have HS : Hid (Gs B w H G P M b l room s [(w.heap.size, pb G)] (w.alloc (.cells #[.pointer (some ⟨G, 0, none⟩)] 113))) := Lib.hid ((Gs.start h).alloc' (pb G) rfl)
  obtain ⟨nf, hnf⟩ : ∃ nf, nf = partG (growQ b l m) (sxt s.1 id) m j := ⟨_, rfl⟩
  obtain ⟨r, hrr⟩ : ∃ r, r = restN m j := ⟨_, rfl⟩
  have hr1 : r ≤ m + 2 := by rw [hrr]; exact rest_le hj
  obtain ⟨ff, hff⟩ : ∃ ff, ff = fourP (growQ b l m) (outOf nf s) 3 r := ⟨_, rfl⟩
  have hq : grownG (growQ b l m) m s id j = nodeG (stOf ff (stOf nf s 9) 4) (outOf ff (stOf nf s 9) 0) (outOf ff (stOf nf s 9) 1) (outOf ff (stOf nf s 9) 2) (outOf ff (stOf nf s 9) 3) := by
    rw [hff, hnf, hrr]
    rfl
  rw [hq] at hr ⊢
  have hw := wys b l m hm s hk id j hj hl
  have p4 := hw.p4
  rw [← hnf, ← hrr, ← hff] at p4
  have p9 := hw.p9
  rw [← hnf] at p9
  have w9 := wy_of hk p9 9 (Nat.le_refl _)
  have le4 := fun k (h4 : k ≤ 4) => (show (stOf ff (stOf nf s 9) k).1 <+: (stOf ff (stOf nf s 9) 4).1 from by
    have := Wy.le w9.ok p4 k (4 - k) (by omega)
    rwa [show k + (4 - k) = 4 by omega] at this)
  have lelast : (stOf ff (stOf nf s 9) 4).1.length ≤ room := Nat.le_trans (put_ext _ _).length_le hr
  have HR9 := Lib.hid (show (stOf (partG (growQ b l m) (sxt s.1 id) m j) s 9).1.length ≤ room from by
    rw [← hnf]
    exact Nat.le_trans (le4 0 (by omega)).length_le lelast)
  have HW := Lib.hid (fun k (h4 : k ≤ 4) => wy_of w9.ok p4 k h4)
  have HFR := Lib.hid (fun k (h4 : k < 4) (wx : World) (Hx : Nat → Prop) (hx : Gr B wx G P M b l (stOf ff (stOf nf s 9) k) room Hx) => (show Calls Tryz.prog 62 #[.pointer (some ⟨G, 0, none⟩), .agg #[.int .i64 (outOf nf s (at4 3 k)), .int .i64 (outOf nf s (at4 3 k + 1)), .int .i64 (outOf nf s (at4 3 k + 3)), .int .i64 (outOf nf s (at4 3 k + 3 + 1))], .int .i64 (r : Int)] wx fun e w' => e = .returned (.tuple #[.int .i64 (outOf ff (stOf nf s 9) k), .nilIface]) ∧ Gt B wx G P M b l room Hx (stOf ff (stOf nf s 9) (k + 1)) w' from by
    have wk := wy_of w9.ok p4 k (by omega)
    have lk := Nat.le_trans (le4 (k + 1) (by omega)).length_le lelast
    have e : stOf ff (stOf nf s 9) (k + 1) = (ff (stOf ff (stOf nf s 9) k) k).1 := rfl
    rw [e] at lk ⊢
    show Calls _ _ _ _ fun e w' => e = .returned (.tuple #[.int .i64 (ff (stOf ff (stOf nf s 9) k) k).2, .nilIface]) ∧ _
    rw [hff] at lk hx ⊢
    rw [hff] at wk
    exact growFour_ok m (by omega) hC hx wk.ok (wf (outOf nf s) 3 k) (fun i _ => by
      unfold wf at4
      split
      · exact (w9.lv _ (by omega)).ext wk.ext
      split
      · exact (w9.lv _ (by omega)).ext wk.ext
      split
      · exact (w9.lv _ (by omega)).ext wk.ext
      · exact (w9.lv _ (by omega)).ext wk.ext) r hr1 lk))
  have w4 := wy_of w9.ok p4 4 (Nat.le_refl _)
  have HND := Lib.hid (fun (wx : World) (Hx : Nat → Prop) (hx : St B wx P (stOf ff (stOf nf s 9) 4).1 room Hx) => node_ok hx (outOf ff (stOf nf s 9) 0) (outOf ff (stOf nf s 9) 1) (outOf ff (stOf nf s 9) 2) (outOf ff (stOf nf s 9) 3) _ (four_of (f := outOf ff (stOf nf s 9)) w4.lv) (by omega) hr)
  obtain ⟨lv, hlv⟩ : ∃ lv : Int, lv = ((m + 2 : Nat) : Int) + 3 := ⟨_, rfl⟩
  have e4 : (lv == 4) = false := by rw [beq_eq_false_iff_ne]; omega
  have eF : ((j : Int) == lv - 2) = true := beq_iff_eq.2 (by omega)
  have lv0 : (0 : Int) ≤ lv := by omega
  have lv1 : lv ≤ 100 := by omega
  have j0 : (0 : Int) ≤ (j : Int) := by omega
  have j1 : (j : Int) ≤ 100 := by omega
  have HE := Lib.hid (show (at' s.1 id).lev = lv by rw [hlv]; exact hl.2)
  have HL := Lib.hid hl
  have hinv := HS.out.inv.1
  have HNF := Lib.hid hnf
  have HRR := Lib.hid hrr
  have HH := Lib.hid (And.intro hm (And.intro hj (And.intro hf (And.intro hk hC))))
  have HN9 := Lib.hid (fun (wx : World) (Hx : Nat → Prop) (hx : Gr B wx G P M b l s room Hx) (fid : Nat) (fi ca : Array Value) (hcf : ∀ (args : Array Value) (w : World), (callFunc fid args).run Tryz.prog w = .ok (.enter fid args) w) (hc : PartC B wx G P M b l s room Hx (sxt s.1 id) fid fi ca nf) => nine_ok hx (kid (at' s.1 id)) m (fun i h4 => hinv.kid hl i) fid fi ca nf hcf hc)
  clear hlv hl hq p4 p9 hw w9 le4 lelast hr hinv w4 hr1 hff hnf hrr hm hj hf hk hC h
  generalize hs9 : stOf nf s 9 = s9 at *
  have HS9 := Lib.hid hs9
  clear hs9
  unfold nodeG
  go_enter Tryz.func43, Tryz.ntmps43
  go_upto_region 1 with (fail)
  generalize World.alloc _ _ = W at HS ⊢
  have hp := HS.out.ptr
  have h3 := one_cell HS.out.b0
  obtain ⟨Hs, hst, _⟩ := HS.out.store
  have HLV := Lib.hid (level_is hst id HL.out.1 lv HE.out)
  clear hst
  go_wp2_with fail
  refine HLV.out.mono ?_
  rintro e w1 ⟨rfl, hb⟩
  have HS1 := Lib.hid (HS.out.below hb)
  clear hb hp h3 HLV HS
  have hp := HS1.out.ptr
  have h3 := one_cell HS1.out.b0
  obtain ⟨Hs, hst, _⟩ := HS1.out.store
  have HK := Lib.hid (kids_ok hst (m + 1) id HL.out _ rfl)
  clear hst
  go_wp2_with fail
  refine HK.out.mono ?_
  rintro e w2 ⟨rfl, hb⟩
  have HS2 := Lib.hid ((HS1.out.below hb).alloc (.cells #[.int .i64 (at' s.1 id).k0, .int .i64 (at' s.1 id).k1, .int .i64 (at' s.1 id).k2, .int .i64 (at' s.1 id).k3] 96))
  clear hb hp h3 HK HS1
  go_upto_region 9 with (fail)
  obtain ⟨g10, hg10⟩ : ∃ g, g = w2.heap.size := ⟨_, rfl⟩
  rw [← hg10] at HS2 ⊢
  generalize World.alloc _ _ = W2 at HS2 ⊢
  clear hg10
  have h3 := one_cell HS2.out.b1
  have hrj : (r : Int) = (j : Int) - 1 := by
    rw [HRR.out]
    unfold restN
    rw [if_pos HH.out.2.2.1]
    have := HH.out.2.2.1
    omega
  have HS3 : Hid (Gs B w H G P M b l room s [(W2.heap.size, .cells #[.int .i64 (r : Int)] 3), (g10, .cells #[.int .i64 (at' s.1 id).k0, .int .i64 (at' s.1 id).k1, .int .i64 (at' s.1 id).k2, .int .i64 (at' s.1 id).k3] 96), (w.heap.size, pb G)] (W2.alloc (.cells #[.int .i64 ((j : Int) - 1)] 3))) := by
    rw [← hrj]
    exact Lib.hid (HS2.out.alloc (.cells #[.int .i64 (r : Int)] 3))
  clear hrj
  have hb3 := heap_alloc_new W2 (.cells #[.int .i64 (j : Int)] 3)
  have h12 := one_cell hb3
  have f12 := frozen_of_row _ _ 0 _ _ hb3
  have h3a := cell_al (.cells #[.int .i64 (j : Int)] 3) h3
  clear hb3
  go_upto_region 13 with (go_at_call 27; refine (farthest_any lv lv0 lv1 _).mono ?_; rintro e w9 ⟨rfl, rfl⟩)
  obtain ⟨g12, hg12⟩ : ∃ g, g = W2.heap.size := ⟨_, rfl⟩
  rw [← hg12] at HS3 ⊢
  generalize World.alloc _ _ = W3 at HS3 ⊢
  clear hg12 h12 f12 h3a h3
  have h3 := one_cell HS3.out.b2
  obtain ⟨c0, c1, c2, c3⟩ := row4 HS3.out.b1
  obtain ⟨H3, h1, h2, hx⟩ := HS3.out.call3
  have HN := Lib.hid (HN9.out _ _ h1 61 #[] #[.pointer (some ⟨w.heap.size, 0, none⟩), .pointer (some ⟨g12, 0, none⟩)] (enter_run Tryz.func61 rfl rfl) (HNF.out ▸ partC_far m HH.out.1 HH.out.2.2.2.2 HH.out.2.2.2.1 id HL.out j HH.out.2.1 HH.out.2.2.1 HR9.out w.heap.size g12 (one_cell HS3.out.b2) (by rw [← HRR.out]; exact one_cell HS3.out.b0) (h2 _ (List.mem_cons_of_mem _ (List.mem_cons_of_mem _ List.mem_cons_self))) (h2 _ List.mem_cons_self)))
  have HX := Lib.hid hx
  clear h1 h2 hx HN9
  go_wp2_with fail
  refine HN.out.mono ?_
  rintro e w4 ⟨rfl, hg⟩
  have HS4 := Lib.hid (HX.out _ _ hg)
  clear hg h3 c0 c1 c2 c3 HX HS3 HN HS2
  have hone := ir_one (outOf nf s) 9
  have hinf := info_9 (outOf nf s)
  have hsz : (ir (fun _ => 0) 9).size = (ir (outOf nf s) 9).size := by rw [ir_size, ir_size]
  have HA := Lib.hid (And.intro hone (And.intro hinf hsz))
  clear hone hinf hsz
  have HS5 : Hid (Gs B w H G P M b l room s9 [(w4.heap.size + 1, .cells (ir (cpF 0 (outOf ff s9) 0) 4) 96), (w4.heap.size, .cells (ir (outOf nf s) 9) 135), (g12, .cells #[.int .i64 (r : Int)] 3), (g10, .cells #[.int .i64 (at' s.1 id).k0, .int .i64 (at' s.1 id).k1, .int .i64 (at' s.1 id).k2, .int .i64 (at' s.1 id).k3] 96), (w.heap.size, pb G)] (((w4.alloc (.cells #[.int .i64 0, .int .i64 0, .int .i64 0, .int .i64 0, .int .i64 0, .int .i64 0, .int .i64 0, .int .i64 0, .int .i64 0] 135)).setRow w4.heap.size (ir (outOf nf s) 9)).alloc z4l)) := Lib.hid (((HS4.out.alloc (.cells #[.int .i64 0, .int .i64 0, .int .i64 0, .int .i64 0, .int .i64 0, .int .i64 0, .int .i64 0, .int .i64 0, .int .i64 0] 135)).setRow (ir (outOf nf s) 9)).alloc' z4l (by simp [World.setRow]))
  clear HS4
  go_wp2_with (refine wpList_store_row rfl 135 (.tmp 13) (.tmp 63) rfl w4.heap.size (ir (outOf nf s) 9) rfl rfl 135 (ir (fun _ => 0) 9) (heap_alloc_new w4 _) HA.out.2.1 HA.out.2.2 HA.out.1 ?_)
  generalize World.alloc _ _ = W5 at HS5 ⊢
  obtain ⟨g13, hg13⟩ : ∃ g, g = w4.heap.size := ⟨_, rfl⟩
  rw [← hg13] at HS5 ⊢
  obtain ⟨g14, hg14⟩ : ∃ g, g = g13 + 1 := ⟨_, rfl⟩
  rw [← hg14] at HS5 ⊢
  obtain ⟨F, hF⟩ : ∃ F, F = outOf nf s := ⟨_, rfl⟩
  rw [← hF] at HS5 HFR HA ⊢
  clear hg13 hg14 hF HA
  go_loopw [68] (fun i wr => ∃ k : Nat, k ≤ 4 ∧ i = .int .i64 k ∧ Hid (Gs B w H G P M b l room (stOf ff s9 k) [(g14, .cells (ir (cpF 0 (outOf ff s9) k) 4) 96), (g13, .cells (ir F 9) 135), (g12, .cells #[.int .i64 (r : Int)] 3), (g10, .cells #[.int .i64 (at' s.1 id).k0, .int .i64 (at' s.1 id).k1, .int .i64 (at' s.1 id).k2, .int .i64 (at' s.1 id).k3] 96), (w.heap.size, pb G)] wr)) (fun i _ => 4 - (intOf i).toNat)
  case atStart => exact ⟨0, by omega, rfl, HS5⟩
  case round =>
    clear HS5
    obtain ⟨k, hk, rfl, HR⟩ := hrel
    have k0 : (0 : Int) ≤ (k : Int) := by omega
    by_cases hlt : k < 4
    · have k1 : (k : Int) < 4 := by omega
      have HLT := Lib.hid hlt
      have HD := Lib.hid HR.out.drew
      have KD := Lib.hid (And.intro (one_cell HD.out.b4) (one_cell HD.out.b2))
      have HF4 := Lib.hid (four_3 g13 k hlt F _ _ HD.out.b1)
      clear hlt HR
      go_wp2
      go_region_held3 (fun w' => w'.cell? ⟨w.heap.size, 0, none⟩ = some (.pointer (some ⟨G, 0, none⟩)) ∧ w'.cell? ⟨g12, 0, none⟩ = some (.int .i64 (r : Int))) (first | with_reducible exact KD.out | with_reducible exact ks | with_reducible exact kx)
        (first
          | (go_at_call 64; with_reducible refine HF4.out.mono ?_; rintro e w6 ⟨rfl, hb⟩; have HR6 := Lib.hid (HD.out.below hb); have ks := And.intro (one_cell HR6.out.b4) (one_cell HR6.out.b2); obtain ⟨H6, h1, h2⟩ := HR6.out.call; have HP := Lib.hid (HFR.out k HLT.out _ _ h1); have HX := Lib.hid h2; clear hb h1 h2)
          | (go_at_call 62; with_reducible refine HP.out.mono ?_; rintro e w7 ⟨rfl, hg⟩; have HR7 := Lib.hid (HX.out _ _ hg); have ks := And.intro (one_cell HR7.out.b4) (one_cell HR7.out.b2); have hc := ir_cell HR7.out.b0 k HLT.out; have hfz := ir_fro HR7.out.b0 k; have HR8 := Lib.hid (HR7.out.set (i := k) (v := .int .i64 (outOf ff s9 k)) (ir_put HR7.out.b0 k (outOf ff s9 k))); have kx := And.intro (one_cell HR8.out.b4) (one_cell HR8.out.b2); clear hg))
      go_wp2
      go_roundw
      case rel => exact ⟨k + 1, by have := HLT.out; omega, by go_num, Lib.hid (by rw [← cp_step 0 (outOf ff s9) k]; exact HR8.out)⟩
      case measure => have := HLT.out; simp [intOf]; omega
    · obtain rfl : k = 4 := by omega
      have HD : Hid (Gs B w H G P M b l room (stOf ff s9 4) [(g14, .cells #[.int .i64 (outOf ff s9 0), .int .i64 (outOf ff s9 1), .int .i64 (outOf ff s9 2), .int .i64 (outOf ff s9 3)] 96), (g13, .cells (ir F 9) 135), (g12, .cells #[.int .i64 (r : Int)] 3), (g10, .cells #[.int .i64 (at' s.1 id).k0, .int .i64 (at' s.1 id).k1, .int .i64 (at' s.1 id).k2, .int .i64 (at' s.1 id).k3] 96), (w.heap.size, pb G)] wr.drew) := Lib.hid HR.out.drew
      have KD := Lib.hid (And.intro HD.out.ptr (And.intro (one_cell HD.out.b4) (row4 HD.out.b0)))
      obtain ⟨Hs, hst, hgo⟩ := HD.out.store
      have HC := Lib.hid (HND.out _ _ hst)
      have HGO := Lib.hid hgo
      clear hst hgo HR HND
      go_wp2
      go_region_held3 (fun w' => w'.cell? ⟨G, 0, none⟩ = some (.pointer (some ⟨P, 0, none⟩)) ∧ w'.cell? ⟨w.heap.size, 0, none⟩ = some (.pointer (some ⟨G, 0, none⟩)) ∧ w'.cell? ⟨g14, 0, none⟩ = some (.int .i64 (outOf ff s9 0)) ∧ w'.cell? ⟨g14, 1, none⟩ = some (.int .i64 (outOf ff s9 1)) ∧ w'.cell? ⟨g14, 2, none⟩ = some (.int .i64 (outOf ff s9 2)) ∧ w'.cell? ⟨g14, 3, none⟩ = some (.int .i64 (outOf ff s9 3))) (first | with_reducible exact KD.out | with_reducible exact ks)
        ((go_at_call 38; with_reducible refine HC.out.mono ?_; rintro e w8 ⟨rfl, hg⟩; have HS8 := Lib.hid (HGO.out _ _ hg); have ks := And.intro HS8.out.ptr (And.intro (one_cell HS8.out.b4) (row4 HS8.out.b0)); clear hg))
      go_wp2
      go_ret2
      exact ⟨rfl, HS8.out.gt⟩
end Go.Proofs.YtkefjkfknegogaaGreat

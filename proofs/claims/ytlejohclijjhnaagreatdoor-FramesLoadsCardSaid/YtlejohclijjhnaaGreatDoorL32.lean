/-
  WALK of take: what came of a part stands with the uppermost frame. Conditions: something is under way.
  WALKS of growTiles and whole: what comes of a frame whose parts are all done. Conditions: the machine lies in memory, the frame is one that can be, there is room.
-/
import Derived.Maps.AppendAt
import Derived.Test.YtlejohclijjhnaaGreatDoorL31
namespace Go.Proofs.YtlejohclijjhnaaGreatDoor.Fm
open Go.RowKit Ti Qd Go.Maps Go.WideMaps Ru

theorem info_i : (Tryz.prog.info? 3).map (fun i => (i.zero, i.size, i.bytes)) = some (some (.int .i64 0), 1, 8) := by kernel_rfl
theorem ints_app (l : List Int) (o : Int) : ints l ++ [.int .i64 o] = ints (l ++ [o]) := by unfold ints; simp
theorem ints_one (l : List Int) : ∀ u ∈ ints l, u.oneCell' = true := by
  intro u hu
  obtain ⟨x, _, rfl⟩ := List.mem_map.1 hu
  rfl
theorem ints_len (l : List Int) : (ints l).length = l.length := by unfold ints; simp
theorem Goz.pre {T : World → (Nat → Prop) → Prop} {w W w' : World} {H : Nat → Prop} (h : Below w.heap.size w W) (k : Goz T W H w') : Goz T w H w' := by
  obtain ⟨H', k1, k2⟩ := k
  exact ⟨H', k1, (Stp.of_below h).trans k2⟩
theorem info_of {t : TypeId} {z : Value} {a c : Nat} (h : (Tryz.prog.info? t).map (fun i => (i.zero, i.size, i.bytes)) = some (some z, a, c)) : ∃ i, Tryz.prog.info? t = some i ∧ i.zero = some z ∧ i.size = a ∧ i.bytes = c := by
  cases hi : Tryz.prog.info? t with
  | none => rw [hi] at h; cases h
  | some i =>
    rw [hi] at h
    simp at h
    exact ⟨i, rfl, h⟩
theorem own_form {w : World} {B : Nat} {e : TypeId} {s : Nat} {v : Value} {n : Nat} {xs : List Value} (h : w.ownsRow B e s v n xs) : ∃ ao cap, v = .slice ao n cap := by
  rcases h.2 with ⟨rfl, rfl⟩ | ⟨g, cap, cur, rfl, _⟩
  · exact ⟨none, 0, rfl⟩
  · exact ⟨_, cap, rfl⟩
set_option maxRecDepth 100000 in
set_option maxHeartbeats 2000000 in
theorem take_f {B P room b l G M : Nat} {s : MS} {w : World} {H : Nat → Prop} (h : Mc B P room b l G M s w H) (f : Fr) (r : List Fr) (hU : s.U = f :: r) (o : Int) (h0 : 0 ≤ f.st) (h1 : f.st ≤ 1000) (h2 : f.got.length ≤ 1000) (h3 : r.length ≤ 1000) (hB : B ≤ w.heap.size) :
    Calls Tryz.prog 38 #[.pointer (some ⟨G, 0, none⟩), .int .i64 o] w fun e w' => e = .returned (.tuple #[]) ∧ Goz (Mc B P room b l G M ⟨s.L, s.K, take f o :: r, s.out⟩) w H w' := by
  obtain ⟨uv, us, gr, Hs, k1, k2, k3, k4, rfl⟩ := h
  rw [hU] at k3
  obtain ⟨us, hv, rfl, k5⟩ := us_top k3
  obtain ⟨bu, cap, rfl, c1, c2, hc, hf, nG, nh⟩ := k2.top
  have hm : us.length ≤ 1000 := by
    have := congrArg List.length k5
    simp at this
    omega
  have cst : w.cell? ⟨bu, us.length * 4 + 2, none⟩ = some (.int .i64 f.st) := hc 2 (by decide)
  have chv : w.cell? ⟨bu, us.length * 4 + 3, none⟩ = some hv := hc 3 (by decide)
  have K1 := Lib.hid (k2.count 2 (.int .i64 (f.st + 1)) (f' := ⟨f.id, f.j, f.st + 1, f.got⟩) rfl rfl)
  have cG := k2.c3
  have HH := Lib.hid (And.intro k1 (And.intro k4 k5))
  have HK2 := Lib.hid k2
  have HB0 := Lib.hid hB
  have hbs : bu < w.heap.size := World.block_lt_of_cell? w _ cst
  have HBU := Lib.hid hbs
  have HCB := Lib.hid (And.intro c1 c2)
  have f2 := hf (us.length * 4 + 2)
  have f3 := hf (us.length * 4 + 3)
  have HG2 := Lib.hid h2
  obtain ⟨id, j, st, got⟩ := f
  simp only at *
  have HNH := Lib.hid nh
  clear k1 k2 k3 k4 k5 hU hc nh hf hB h2 hbs c1 c2 h3
  generalize hmm : us.length = m at *
  have HMM := Lib.hid hmm
  clear hmm
  have e1 : IntKind.i64.wrap (((m + 1 : Nat) : Int) - 1) = (m : Int) := by
    rw [show ((m + 1 : Nat) : Int) - 1 = (m : Int) by omega]
    exact IntWalk.i64_in _ (by omega)
  have e2 : (0 : Int) ≤ (m : Int) := by omega
  have e3 : (m : Int) < ((m + 1 : Nat) : Int) := by omega
  have ne1 : ¬ bu = G := fun q => nG q.symm
  go_enter Tryz.func38, Tryz.ntmps38
  go_upto_region 0 with (fail)
  go_quiet (fail)
  have HW := Lib.hid (Below.drewN' (Below.refl w.heap.size w) nq)
  have hb1 : Below w.heap.size w (w.drewN nq) := HW.out
  have HKW := Lib.hid (HK2.out.moved (w' := w.drewN nq) fun _ _ => rfl)
  have HSW := Lib.hid (HH.out.1.bel hb1)
  have K1 := Lib.hid (show Mach B ((w.drewN nq).setCell ⟨bu, m * 4 + 2, none⟩ (.int .i64 (st + 1))) P b l G M (.slice (some ⟨bu, 0, none⟩) (m + 1) cap) (us ++ [(⟨id, j, st + 1, got⟩, hv)]) gr s.K s.out from K1.out.moved fun _ _ => rfl)
  have cst : (w.drewN nq).cell? ⟨bu, m * 4 + 2, none⟩ = some (.int .i64 st) := cst
  have chv : (w.drewN nq).cell? ⟨bu, m * 4 + 3, none⟩ = some hv := chv
  have f2 : (w.drewN nq).frozen? ⟨bu, m * 4 + 2, none⟩ = false := f2
  have f3 : (w.drewN nq).frozen? ⟨bu, m * 4 + 3, none⟩ = false := f3
  have HBW := Lib.hid (show B ≤ (w.drewN nq).heap.size from HB0.out)
  clear cG hb1 HK2 e1
  generalize w.drewN nq = W at *
  have HSZ := Lib.hid (show (W.setCell ⟨bu, m * 4 + 2, none⟩ (.int .i64 (st + 1))).heap.size = W.heap.size by simp)
  have HO := Lib.hid (show ∀ x, ¬ x = bu → (W.setCell ⟨bu, m * 4 + 2, none⟩ (.int .i64 (st + 1))).heap[x]? = W.heap[x]? from fun x hx => Go.RowKit.Below.heap_setCell _ _ _ _ hx)
  have HE := Lib.hid (show (W.setCell ⟨bu, m * 4 + 2, none⟩ (.int .i64 (st + 1))).os = W.os ∧ (W.setCell ⟨bu, m * 4 + 2, none⟩ (.int .i64 (st + 1))).tape = W.tape ∧ (W.setCell ⟨bu, m * 4 + 2, none⟩ (.int .i64 (st + 1))).output = W.output from ⟨rfl, rfl, rfl⟩)
  have chv1 : (W.setCell ⟨bu, m * 4 + 2, none⟩ (.int .i64 (st + 1))).cell? ⟨bu, m * 4 + 3, none⟩ = some hv := (World.cell?_setCell_other _ _ _ _ (by simp)).trans chv
  have f31 : (W.setCell ⟨bu, m * 4 + 2, none⟩ (.int .i64 (st + 1))).frozen? ⟨bu, m * 4 + 3, none⟩ = false := (World.frozen?_setCell _ _ _ _).trans f3
  have HCV := Lib.hid (And.intro chv1 f31)
  obtain ⟨i0, hi0, z0, z1, z2⟩ := info_of info_i
  have HI := Lib.hid (And.intro hi0 (And.intro z0 (And.intro z1 z2)))
  clear hi0 z0 z1 z2
  have hgt := K1.out.got (⟨id, j, st + 1, got⟩, hv) (by simp)
  have HGT := Lib.hid hgt
  clear hgt
  go_upto_region 2 with (fail)
  clear cst chv f2 f3 chv1 f31
  have chv : (W.setCell ⟨bu, m * 4 + 2, none⟩ (.int .i64 (st + 1))).cell? ⟨bu, m * 4 + 3, none⟩ = some hv := HCV.out.1
  have f3 : (W.setCell ⟨bu, m * 4 + 2, none⟩ (.int .i64 (st + 1))).frozen? ⟨bu, m * 4 + 3, none⟩ = false := HCV.out.2
  clear HCV
  generalize World.setCell _ _ _ = W1 at K1 HSZ HO HE HGT chv f3 ⊢
  have HCX := Lib.hid (And.intro chv f3)
  have HBX := Lib.hid (show bu < W1.heap.size from World.block_lt_of_cell? W1 _ chv)
  go_wp2_with (at_builtin; refine wpList_append_own_at _ rfl (.tmp 27) (.tmp 29) 45 rfl B 3 i0 (.int .i64 0) 1 8 Tryz.underlying45 HI.out.1 HI.out.2.1 HI.out.2.2.1 HI.out.2.2.2 rfl (by decide) hv got.length (ints got) rfl (HGT.out.alloc _) ⟨W1.heap.size, 0, none⟩ 1 1 [.int .i64 o] rfl rfl (cell_one_new _ _ _) (by intro u hu; simp at hu; subst hu; rfl) (by have := HG2.out; unfold maxLen; omega) (by have := HG2.out; omega) (by have := HBW.out; have := HSZ.out; simp; omega) ?_; intro h' w2 hown hgrow _ hat; obtain ⟨ao, cp, rfl⟩ := own_form hown; have HA := Lib.hid (And.intro hown (And.intro hgrow hat)); have c33 : w2.cell? ⟨bu, m * 4 + 3, none⟩ = some hv := (World.cell?_of_block (hgrow.block bu (by have := HBX.out; simp; omega) (fun e => HNH.out e.symm))).trans ((World.cell?_of_block (heap_alloc_old W1 _ HBX.out)).trans HCX.out.1); have f33 : w2.frozen? ⟨bu, m * 4 + 3, none⟩ = false := (World.frozen?_of_block (hgrow.block bu (by have := HBX.out; simp; omega) (fun e => HNH.out e.symm))).trans ((World.frozen?_of_block (heap_alloc_old W1 _ HBX.out)).trans HCX.out.2); clear hown hgrow hat)
  go_end0
  refine ⟨rfl, Goz.pre HW.out ?_⟩
  have hm := HMM.out
  subst hm
  obtain ⟨hown, hgrow, hat⟩ := HA.out
  have hg1 : W1.grownBy w2 hv.ownBlock := (World.grownBy_alloc W1 _ _).trans hgrow
  have hsz : (W1.alloc (.cells #[.int .i64 o] 3)).heap.size = W.heap.size + 1 := by simp [HSZ.out]
  have ho : OwnI w2 B (.slice ao (got.length + 1) cp) (got ++ [o]) := by
    have := hown
    rw [ints_app] at this
    unfold OwnI
    rw [List.length_append]
    exact this
  have KM := Mach.more K1.out hg1 ho (hat.imp (fun e => e) fun e => ⟨_, e, by simp⟩) (by simp)
  have hbu : ∀ x, x ∉ ownL G M (.slice (some ⟨bu, 0, none⟩) (us.length + 1) cap) (us ++ [((⟨id, j, st, got⟩ : Fr), hv)]) gr → ¬ x = bu := fun x hx e => hx (own_u (by rw [e]; rfl))
  have hbh : ∀ x, x ∉ ownL G M (.slice (some ⟨bu, 0, none⟩) (us.length + 1) cap) (us ++ [((⟨id, j, st, got⟩ : Fr), hv)]) gr → ¬ hv.ownBlock = some x := fun x hx e => hx (own_h (y := (⟨id, j, st, got⟩, hv)) (by simp) e)
  refine Mc.change (s' := ⟨s.L, s.K, take ⟨id, j, st, got⟩ o :: r, s.out⟩) HSW.out HH.out.2.1 KM rfl ?_ (hgrow.os.trans HE.out.1) (hgrow.tape.trans HE.out.2.1) (hgrow.output.trans HE.out.2.2) ?_ (fun x hx hn => ?_) (fun x hx => ?_)
  · show List.map Prod.fst (us ++ [_]) = (take ⟨id, j, st, got⟩ o :: r).reverse
    rw [List.map_append, HH.out.2.2, List.reverse_cons]
    rfl
  · have := hgrow.size
    simp at this ⊢
    have := HSZ.out
    omega
  · refine (Go.RowKit.Below.heap_setCell _ _ _ _ (hbu x hn)).trans ((hgrow.block x (by omega) (fun e => hbh x hn e.symm)).trans ((heap_alloc_old W1 _ (by have := HSZ.out; omega)).trans (HO.out x (hbu x hn))))
  · rcases own_in hx with e | e | e | ⟨y, hy, e⟩ | ⟨y, hy, e⟩
    · exact .inl (e ▸ own_G)
    · exact .inl (e ▸ own_M)
    · exact .inl (own_u e)
    · rcases List.mem_append.1 hy with hy | hy
      · exact .inl (own_h (List.mem_append_left _ hy) e)
      · rw [List.mem_singleton] at hy
        subst hy
        rcases hat with q | q
        · exact .inl (own_h (y := (⟨id, j, st, got⟩, hv)) (by simp) (q.symm.trans e))
        · refine .inr ?_
          have := q.symm.trans e
          injection this with this
          omega
    · rcases e with e | e
      · exact .inl (e ▸ (own_g hy).1)
      · exact .inl (e ▸ (own_g hy).2)
end Go.Proofs.YtlejohclijjhnaaGreatDoor.Fm
namespace Go.Proofs.YtlejohclijjhnaaGreatDoor.Fm
open Go.RowKit Ti Qd Go.Maps Go.WideMaps Ru

set_option maxRecDepth 100000 in
set_option maxHeartbeats 4000000 in
theorem growTiles_f {B P room b l G M : Nat} {s : MS} {w : World} {H : Nat → Prop} (h : Mc B P room b l G M s w H) (hm : mayR b l = true) (id : Int) (hl : Lv s.L 1 id) (j : Nat) (hj : j ≤ 2)
    (hr : (put s.L (leafQ (growP b l (2 ^ j) (tilG s.L (at' s.L id).k0 (at' s.L id).k1 (at' s.L id).k2 (at' s.L id).k3)))).length ≤ room) :
    Calls Tryz.prog 70 #[.pointer (some ⟨G, 0, none⟩), .int .i64 id, .int .i64 (j : Int)] w fun e w' => e = .returned (.tuple #[.int .i64 (nr s.L (leafQ (growP b l (2 ^ j) (tilG s.L (at' s.L id).k0 (at' s.L id).k1 (at' s.L id).k2 (at' s.L id).k3)))), .nilIface]) ∧ Goz (Mc B P room b l G M ⟨put s.L (leafQ (growP b l (2 ^ j) (tilG s.L (at' s.L id).k0 (at' s.L id).k1 (at' s.L id).k2 (at' s.L id).k3))), s.K, s.U, s.out⟩) w H w' := by
  have hT := mc_fpt B P room b l G M s
  have HS := Lib.hid (Bs.start h)
  obtain ⟨Hs0, hst0, _⟩ := h.store
  have hi := hst0.inv
  have HF := Lib.hid (fun i (_ : i < 4) => hi.kid hl i)
  have HK := Lib.hid (kids_ok hst0 0 id hl _ rfl)
  have hp := h.cells.1
  have HRM := Lib.hid hr
  generalize at' s.L id = q at *
  obtain ⟨t, ht⟩ : ∃ t, t = tilG s.L q.k0 q.k1 q.k2 q.k3 := ⟨_, rfl⟩
  rw [← ht] at HRM ⊢
  have HT : Hid (∀ i, i < 4 → Lv s.L 0 (kid q i) ∧ (at' s.L (kid q i)).til = t i) := Lib.hid fun i h4 => ⟨HF.out i h4, by
    rw [ht]
    rcases (show i = 0 ∨ i = 1 ∨ i = 2 ∨ i = 3 by omega) with rfl | rfl | rfl | rfl <;> rfl⟩
  have HQT := Lib.hid (show growP b l (2 ^ j) t = growB b l (2 ^ j) (q4 (t 0) (t 1) (t 2) (t 3)) from by
    rw [ht]
    rfl)
  have HM := Lib.hid (fun w => grow_fine b l hm (t 0) (t 1) (t 2) (t 3) (2 ^ j) (pow2_4 hj) w)
  rw [HQT.out] at HRM ⊢
  generalize growB b l (2 ^ j) (q4 (t 0) (t 1) (t 2) (t 3)) = X at HRM HM ⊢
  clear HQT ht h hr hm hi hst0 hl HF
  unfold Rv at HM
  obtain ⟨two, htwo⟩ : ∃ two : Int, two = ((2 ^ j : Nat) : Int) := ⟨_, rfl⟩
  rw [← htwo] at HM
  have HSH := Lib.hid (show IntKind.i64.wrap ((2 : Int) ^ (j : Nat)) = two from by
    rw [htwo]
    rcases (show j = 0 ∨ j = 1 ∨ j = 2 by omega) with rfl | rfl | rfl <;> rfl)
  have j0 : (0 : Int) ≤ (j : Int) := by omega
  have j1 : (j : Int) ≤ 2 := by omega
  clear htwo hj
  have HTT := Lib.hid hT
  clear hT
  go_enter Tryz.func70, Tryz.ntmps70
  go_wp2_with fail
  refine HK.out.mono ?_
  rintro e w1 ⟨rfl, hb⟩
  have HS1 := Lib.hid ((HS.out.below HTT.out hb).alloc HTT.out (box4 q) rfl)
  clear hb HS HK hp
  go_upto_region 2 with (fail)
  generalize hg8 : w1.heap.size = g8 at *
  clear hg8
  generalize World.alloc _ _ = W1 at HS1 ⊢
  obtain ⟨c0, c1, c2, c3⟩ := row4 HS1.out.b0
  have HS2 := Lib.hid (HS1.out.tail)
  clear HS1
  go_upto_region 5 with (fail)
  have HS3 : Hid (Bs (Mc B P room b l G M s) w H [(W1.heap.size, .cells (trow (cpF 0#64 t 0) 4) 167)] (W1.alloc zt4)) := Lib.hid (HS2.out.alloc HTT.out zt4 rfl)
  have lt8 : g8 < W1.heap.size := World.block_lt_of_cell? W1 _ c0
  have ca : ∀ i, (W1.alloc (.cells #[.int .u64 0, .int .u64 0, .int .u64 0, .int .u64 0] 167)).cell? ⟨g8, i, none⟩ = W1.cell? ⟨g8, i, none⟩ := fun i => World.cell?_of_block (heap_alloc_old W1 _ lt8)
  have c0 := (ca 0).trans c0
  have c1 := (ca 1).trans c1
  have c2 := (ca 2).trans c2
  have c3 := (ca 3).trans c3
  clear HS2 ca lt8
  generalize hg10 : W1.heap.size = g10 at *
  clear hg10
  have HS4 : Hid (Bs (Mc B P room b l G M s) w H [(g10, .cells (trow (cpF 0#64 t 0) 4) 167)] (W1.alloc (.cells #[.int .u64 0, .int .u64 0, .int .u64 0, .int .u64 0] 167))) := HS3
  clear HS3
  generalize World.alloc _ _ = W2 at HS4 c0 c1 c2 c3 ⊢
  go_wp2
  go_loopw [9, 27] (fun v i wr => ∃ k : Nat, k ≤ 4 ∧ v = .nilIface ∧ i = .int .i64 k ∧ Hid (Bs (Mc B P room b l G M s) w H [(g10, .cells (trow (cpF 0#64 t k) 4) 167)] wr)) (fun _ i _ => 4 - (intOf i).toNat)
  case atStart => exact ⟨0, by omega, rfl, rfl, HS4⟩
  case round =>
    clear HS4 c0 c1 c2 c3
    obtain ⟨k, hk, rfl, rfl, HR⟩ := hrel
    have k0 : (0 : Int) ≤ (k : Int) := by omega
    by_cases hlt : k < 4
    · have k1 : (k : Int) < 4 := by omega
      have hx : ∀ W, (Instr.index 93 (.agg #[.int .i64 q.k0, .int .i64 q.k1, .int .i64 q.k2, .int .i64 q.k3]) (.int .i64 (k : Int))).run Tryz.prog W = .ok (.int .i64 (kid q k)) W := idx4 (kid q) k hlt
      have hp := HR.out.cells.1
      obtain ⟨Hs, hst, _⟩ := HR.out.store
      have HC := Lib.hid (tile_ok hst (kid q k) (HT.out k hlt).1 (t k) (HT.out k hlt).2)
      have HLT := Lib.hid hlt
      clear hst
      generalize kid q k = fk at *
      go_wp2_with fail
      refine HC.out.mono ?_
      rintro e w1 ⟨rfl, hb⟩
      have HR1 := Lib.hid (HR.out.below HTT.out hb)
      have hc := tr_cell (HR1.out.b0) HLT.out
      obtain ⟨c1, c2⟩ := hc
      have HP := Lib.hid (cp_step (0#64) t k ▸ tr_set (HR1.out.b0) (t k))
      clear hb HR hx hp HC
      go_wp2
      go_roundw
      case rel => exact ⟨k + 1, by have := HLT.out; omega, rfl, by go_num, Lib.hid (HR1.out.set HTT.out HP.out)⟩
      case measure => have := HLT.out; simp [intOf]; omega
    · obtain rfl : k = 4 := by omega
      have HD := Lib.hid (HR.out.drew HTT.out)
      have hb4 : wr.drew.heap[g10]? = some (.cells #[.int .u64 (rg (t 0)), .int .u64 (rg (t 1)), .int .u64 (rg (t 2)), .int .u64 (rg (t 3))] 167 (0, 0)) := HD.out.b0
      have KD := Lib.hid (And.intro HD.out.cells.2.1 (And.intro HD.out.cells.2.2.1 (row4 hb4)))
      clear hb4 HR
      go_upto_region 12 with (fail)
      go_region_held3 (fun w' => w'.cell? ⟨G, 1, none⟩ = some (.int .u16 b) ∧ w'.cell? ⟨G, 2, none⟩ = some (.int .u16 l) ∧ w'.cell? ⟨g10, 0, none⟩ = some (.int .u64 (rg (t 0))) ∧ w'.cell? ⟨g10, 1, none⟩ = some (.int .u64 (rg (t 1))) ∧ w'.cell? ⟨g10, 2, none⟩ = some (.int .u64 (rg (t 2))) ∧ w'.cell? ⟨g10, 3, none⟩ = some (.int .u64 (rg (t 3)))) (first | with_reducible exact KD.out | with_reducible exact ks)
        (first
          | (go_at_call 77; rw [HSH.out]; (with_reducible refine (HM.out _).mono ?_); rintro e w3 ⟨rfl, hb⟩; have HS3 := Lib.hid (HD.out.below HTT.out hb); have hb4 : w3.heap[g10]? = some (.cells #[.int .u64 (rg (t 0)), .int .u64 (rg (t 1)), .int .u64 (rg (t 2)), .int .u64 (rg (t 3))] 167 (0, 0)) := HS3.out.b0; have ks := And.intro HS3.out.cells.2.1 (And.intro HS3.out.cells.2.2.1 (row4 hb4)); clear hb hb4))
      have hp := HS3.out.cells.1
      obtain ⟨Hs, hst, hgo⟩ := HS3.out.store
      have HL := Lib.hid (leaf_ok hst X HRM.out)
      have HGO := Lib.hid hgo
      clear hst hgo ks
      go_wp2_with fail
      refine HL.out.mono ?_
      rintro e w4 ⟨rfl, hg⟩
      have HS4 := Lib.hid (HGO.out _ _ hg)
      clear hg
      go_wp2
      go_ret2
      exact ⟨rfl, HS4.out.out⟩
set_option maxRecDepth 100000 in
set_option maxHeartbeats 2000000 in
/-- whole, of a square of four tiles -/
theorem whole_low {B P room b l G M : Nat} {s : MS} {w : World} {H : Nat → Prop} (h : Mc B P room b l G M s w H) (hm : mayR b l = true) (f : Fr) (hv : Value) (hl : Lv s.L 1 f.id) (j : Nat) (ej : f.j = (j : Int)) (hj : j ≤ 2) (hs : f.st = 0)
    (hr : (put s.L (endQ b l s.L f)).length ≤ room) :
    Calls Tryz.prog 55 #[.pointer (some ⟨G, 0, none⟩), fv f hv] w fun e w' => e = .returned (.tuple #[.int .i64 (nr s.L (endQ b l s.L f)), .nilIface]) ∧ Goz (Mc B P room b l G M ⟨put s.L (endQ b l s.L f), s.K, s.U, s.out⟩) w H w' := by
  have HS := Lib.hid ((Bs.start h).alloc (mc_fpt B P room b l G M s) (fo f hv) rfl)
  unfold endQ at *
  rw [if_pos hs] at hr ⊢
  rw [ej, Int.toNat_natCast] at hr ⊢
  obtain ⟨id, j', st, got⟩ := f
  simp only at *
  subst ej
  subst hs
  obtain ⟨H1, h1, _, h3⟩ := HS.out.call
  have HG := Lib.hid (growTiles_f h1 hm id hl j hj hr)
  have HN := Lib.hid h3
  generalize leafQ (growP b l (2 ^ j) (tilG s.L (at' s.L id).k0 (at' s.L id).k1 (at' s.L id).k2 (at' s.L id).k3)) = X at *
  obtain ⟨c0, c1, c2, c3⟩ := row4 HS.out.b0
  clear h h1 h3 hr hj HS hl hm
  go_enter Tryz.func55, Tryz.ntmps55
  go_upto_region 2 with (fail)
  generalize World.alloc _ _ = W at *
  go_wp2_with fail
  refine HG.out.mono ?_
  rintro e w1 ⟨rfl, hg⟩
  have HS1 := Lib.hid (HN.out _ _ hg)
  clear hg c0 c1 c2 c3
  go_wp2
  go_ret2
  exact ⟨rfl, HS1.out.out⟩
set_option maxRecDepth 100000 in
set_option maxHeartbeats 4000000 in
/-- whole, of what came of thirteen parts -/
theorem whole_13 {B P room b l G M : Nat} {s : MS} {w : World} {H : Nat → Prop} (h : Mc B P room b l G M s w H) (f : Fr) (hv : Value) (n : Nat) (hf : FOk b l s.L f (n + 1)) (h13 : f.got.length = 13) (hl : LiesI w hv f.got)
    (hr : (put s.L (endQ b l s.L f)).length ≤ room) :
    Calls Tryz.prog 55 #[.pointer (some ⟨G, 0, none⟩), fv f hv] w fun e w' => e = .returned (.tuple #[.int .i64 (nr s.L (endQ b l s.L f)), .nilIface]) ∧ Goz (Mc B P room b l G M ⟨put s.L (endQ b l s.L f), s.K, s.U, s.out⟩) w H w' := by
  have hT := mc_fpt B P room b l G M s
  have HS := Lib.hid ((Bs.start h).alloc hT (fo f hv) rfl)
  have hs : ¬ f.st = 0 := by rw [hf.st, h13]; decide
  have hsd : (f.st == 0) = false := by rw [beq_eq_false_iff_ne]; exact hs
  unfold endQ at *
  rw [if_neg hs] at hr ⊢
  have hg := hf.got n rfl _ _ _ (Wn.self hf.lv)
  have lv := fun i (hlt : 9 + i < f.got.length) => (show Lv s.L n (gv f.got (9 + i)) by rw [gv_at hlt]; exact (hg (9 + i) hlt).1)
  have hn36 := hf.n36
  have h4 : Four s.L (gv f.got 9) (gv f.got 10) (gv f.got 11) (gv f.got 12) (n + 3) := four_of (f := fun i => gv f.got (9 + i)) fun i h4 => lv i (by omega)
  have HLI := Lib.hid (hl.bel (alX w (fo f hv)))
  obtain ⟨id, j, st, got⟩ := f
  simp only at *
  clear hf hs hg lv
  generalize hx0 : gv got 9 = x0 at *
  generalize hx1 : gv got 10 = x1 at *
  generalize hx2 : gv got 11 = x2 at *
  generalize hx3 : gv got 12 = x3 at *
  have HX := Lib.hid (And.intro hx0 (And.intro hx1 (And.intro hx2 hx3)))
  have HN := Lib.hid (And.intro h4 (And.intro hr hn36))
  have HTT := Lib.hid hT
  have H13 := Lib.hid h13
  obtain ⟨c0, c1, c2, c3⟩ := row4 HS.out.b0
  clear h hl hx0 hx1 hx2 hx3 h4 hr hn36 hT h13
  go_enter Tryz.func55, Tryz.ntmps55
  go_upto_region 3 with (fail)
  generalize World.alloc _ _ = W at *
  have HD := Lib.hid (HS.out.drew HTT.out)
  clear HS c0 c1 c2 c3
  obtain ⟨bb, off, cap, rfl, l1, l2, l3⟩ := HLI.out.some (by have := H13.out; omega)
  have H13 := Lib.hid H13.out
  have e13 : got.length = 13 := H13.out
  rw [e13] at l1 l3 HD ⊢
  have hc9 : ∀ i, i < 4 → W.drew.cell? ⟨bb, off + 9 + i, none⟩ = some (.int .i64 (gv got (9 + i))) := fun i hi => by
    have := l3 (9 + i) (by omega)
    rw [show off + 9 + i = off + (9 + i) by omega]
    exact this
  have hF := four_2 bb (off + 9) 4 (cap - 9) (by omega) (by omega) (by omega) (fun i => gv got (9 + i)) W.drew hc9
  have hF : Calls Tryz.prog 53 #[.slice (some ⟨bb, off + 9, none⟩) 4 (cap - 9), .int .i64 2, .int .i64 0] W.drew fun e w' => e = .returned (.agg #[.int .i64 (gv got 9), .int .i64 (gv got 10), .int .i64 (gv got 11), .int .i64 (gv got 12)]) ∧ Below W.drew.heap.size W.drew w' := hF
  rw [HX.out.1, HX.out.2.1, HX.out.2.2.1, HX.out.2.2.2] at hF
  have HF := Lib.hid hF
  have KD := Lib.hid (And.intro HD.out.cells.1 (row4 HD.out.b0).2.2.2)
  have l4 : (9 : Int) ≤ (cap : Int) := by omega
  have l5 : ¬ cap = 9 := by omega
  clear hF hc9 l3 e13 hsd
  go_region_held3 (fun w' => w'.cell? ⟨G, 0, none⟩ = some (.pointer (some ⟨P, 0, none⟩)) ∧ w'.cell? ⟨w.heap.size, 3, none⟩ = some (.slice (some ⟨bb, off, none⟩) 13 cap)) (first | with_reducible exact KD.out | with_reducible exact ks | with_reducible exact kx)
    (first
      | (go_at_call 53; (with_reducible refine HF.out.mono ?_); rintro e w5 ⟨rfl, hb⟩; have HS5 := Lib.hid (HD.out.below HTT.out hb); obtain ⟨Hs5, hst5, hgo5⟩ := HS5.out.store; have HN5 := Lib.hid (node_ok hst5 x0 x1 x2 x3 (n + 3) HN.out.1 (by have := HN.out.2.2; omega) HN.out.2.1); have HGO := Lib.hid hgo5; have ks := And.intro HS5.out.cells.1 (row4 HS5.out.b0).2.2.2; clear hb hst5 hgo5)
      | (go_at_call 36; (with_reducible refine HN5.out.mono ?_); rintro e w6 ⟨rfl, hg⟩; have HS6 := Lib.hid (HGO.out _ _ hg); have kx := And.intro HS6.out.cells.1 (row4 HS6.out.b0).2.2.2; clear hg))
  go_wp2
  go_ret2
  exact ⟨rfl, HS6.out.out⟩
end Go.Proofs.YtlejohclijjhnaaGreatDoor.Fm

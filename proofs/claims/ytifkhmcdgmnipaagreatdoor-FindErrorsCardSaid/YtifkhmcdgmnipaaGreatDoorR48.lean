/-
  WHAT Cells, Box AND In TELL OF A SQUARE THAT CAN'T BE LOOKED AT, AND Cells OF TOO MANY CELLS. Condition: the store lies in memory, or there is none.
  A SQUARE OF ALL CELLS, as plain data: as many as there are, 2^62 at most. Conditions: those that each lemma names.
-/
import Derived.Test.YtifkhmcdgmnipaaGreatDoorR44
import Derived.Test.YtifkhmcdgmnipaaGreatDoorR05
namespace Go.Proofs.YtifkhmcdgmnipaaGreatDoor
open Go.RowKit Ti Qd Ce Cl Go.Maps Go.WideMaps

/-- a square that can't be looked at -/
def LkBad (pt : Option Addr) (id er : Int) (w : World) : Prop := Calls Tryz.prog 17 #[.pointer pt, .int .i64 id] w fun e w' => e = .returned (.tuple #[zv, .iface 54 (.int .i64 er)]) ∧ Below w.heap.size w w'
set_option maxRecDepth 100000 in
theorem cells_bad {pt : Option Addr} {id er : Int} {w : World} (h : LkBad pt id er w) :
    Calls Tryz.prog 6 #[.pointer pt, .int .i64 id] w fun e w' => e = .returned (.tuple #[.slice none 0 0, .iface 54 (.int .i64 er)]) ∧ Below w.heap.size w w' := by
  unfold LkBad zv at h
  have HL := Lib.hid h
  clear h
  go_enter Tryz.func6, Tryz.ntmps6
  go_wp2_with fail
  refine HL.out.mono ?_
  rintro e w1 ⟨rfl, hb⟩
  have HB := Lib.hid (hb.trans ((alX w1 fz).mono hb.size))
  clear hb HL
  unfold fz at HB
  go_wp2
  go_ret2
  exact ⟨rfl, HB.out⟩
set_option maxRecDepth 100000 in
theorem cells_over {B P : Nat} {L : List Sq} {room : Nat} {H : Nat → Prop} {w : World} (hs : St B w P L room H) (id : Int) (ho : Ok L id) (hc : 4096 < (at' L id).cnt) :
    Calls Tryz.prog 6 #[.pointer (some ⟨P, 0, none⟩), .int .i64 id] w fun e w' => e = .returned (.tuple #[.slice none 0 0, .iface 54 (.int .i64 6)]) ∧ Below w.heap.size w w' := by
  have HL := Lib.hid (look_ok hs id ho)
  clear hs ho
  unfold qv at *
  generalize at' L id = q at *
  obtain ⟨lev, cnt, til, k0, k1, k2, k3⟩ := q
  simp only at *
  go_enter Tryz.func6, Tryz.ntmps6
  go_wp2_with fail
  refine HL.out.mono ?_
  rintro e w1 ⟨rfl, hb⟩
  have HB1 := Lib.hid (hb.trans ((alX w1 (fq ⟨lev, cnt, til, k0, k1, k2, k3⟩)).mono hb.size))
  have HR1 := Lib.hid (heap_alloc_new w1 (fq ⟨lev, cnt, til, k0, k1, k2, k3⟩))
  clear hb HL
  unfold fq at HB1 HR1
  go_upto_region 3 with (fail)
  generalize World.alloc _ _ = W1 at HB1 HR1 ⊢
  obtain ⟨⟨c0, c1, _, _, _, _, _⟩, _⟩ := row7 HR1.out
  go_wp2
  go_ret2
  exact ⟨rfl, HB1.out⟩
set_option maxRecDepth 100000 in
set_option maxHeartbeats 2000000 in
theorem box_bad {pt : Option Addr} {id er : Int} {w : World} (h : ∀ W, Below w.heap.size w W → LkBad pt id er W) :
    Calls Tryz.prog 7 #[.pointer pt, .int .i64 id] w fun e w' => e = .returned (.tuple #[cv (0, 0), cv (0, 0), .bool false, .iface 54 (.int .i64 er)]) ∧ Below w.heap.size w w' := by
  have hb0 : Below w.heap.size w ((w.alloc za).alloc za) := (alX w _).trans ((alX _ _).mono (by simp))
  have h1 := h _ hb0
  unfold LkBad zv at h1
  have HL := Lib.hid h1
  have h5 := heap_alloc_new (w.alloc za) za
  rw [World.size_alloc] at h5
  have HR := Lib.hid (And.intro (row_keep (heap_alloc_new w za) (alX (w.alloc za) za) (Nat.le_refl _)) (And.intro h5 hb0))
  clear h h1 hb0 h5
  unfold cv at *
  go_enter Tryz.func7, Tryz.ntmps7
  go_wp2_with fail
  refine HL.out.mono ?_
  rintro e w1 ⟨rfl, hb⟩
  have hb2 := hb.trans ((alX w1 fz).mono hb.size)
  have HR2 := Lib.hid (And.intro (row_keep HR.out.1 hb2 (Nat.le_refl _)) (And.intro (row_keep HR.out.2.1 hb2 (Nat.le_refl _)) (bstep HR.out.2.2 (hb2.mono (Nat.le_refl _)))))
  clear hb hb2 HL HR
  unfold fz at HR2
  go_upto_region 3 with (fail)
  generalize World.alloc _ _ = W at HR2 ⊢
  obtain ⟨c0, c1, f0, f1⟩ := row_cl HR2.out.1
  obtain ⟨d0, d1, k0', k1'⟩ := row_cl HR2.out.2.1
  go_wp2
  refine post_cctt Tryz.results7 w.heap.size (w.heap.size + 1) 30 30 #[.int .i64 0, .int .i64 0] #[.int .i64 0, .int .i64 0] (0, 0) (0, 0) _ (.bool false) (.iface 54 (.int .i64 er)) Tryz.underlying30 rfl info_a2 info_a2 rfl rfl rfl rfl ?_ ?_ rfl ?_
  · exact ((Below.heap_setCell _ _ _ _ (show ¬ w.heap.size = w.heap.size + 1 by omega)).trans (Below.heap_setCell _ _ _ _ (show ¬ w.heap.size = w.heap.size + 1 by omega))).trans (row_set2 HR2.out.1 _ _)
  · exact row_set2 (((Below.heap_setCell _ _ _ _ (show ¬ w.heap.size + 1 = w.heap.size by omega)).trans (Below.heap_setCell _ _ _ _ (show ¬ w.heap.size + 1 = w.heap.size by omega))).trans HR2.out.2.1) _ _
  · exact ⟨rfl, (((HR2.out.2.2.setCell (p := ⟨w.heap.size, 0, none⟩) (Nat.le_refl _) _).setCell (p := ⟨w.heap.size, 1, none⟩) (Nat.le_refl _) _).setCell (p := ⟨w.heap.size + 1, 0, none⟩) (Nat.le_succ _) _).setCell (p := ⟨w.heap.size + 1, 1, none⟩) (Nat.le_succ _) _⟩
set_option maxRecDepth 100000 in
set_option maxHeartbeats 1000000 in
theorem count_bad {pt : Option Addr} {id er : Int} {w : World} {C M : Nat} (hr : w.heap[C]? = some (.cells #[.pointer pt, .map (some M)] 63)) (h : ∀ W, Below w.heap.size w W → LkBad pt id er W) (lo hi : Cel) :
    Calls Tryz.prog 24 #[.pointer (some ⟨C, 0, none⟩), pv (id, lo, hi)] w fun e w' => e = .returned (.tuple #[.int .i64 0, .iface 54 (.int .i64 er)]) ∧ Below w.heap.size w w' := by
  have h3 := heap_alloc_new w (pb id lo hi)
  unfold LkBad zv at h
  have HL := Lib.hid h
  have HW := Lib.hid (And.intro (alX w (pb id lo hi)) (And.intro (row_keep hr (alX w (pb id lo hi)) (Nat.le_refl _)) h3))
  clear h3 h hr
  unfold pv at *
  simp only at *
  go_enter Tryz.func24, Tryz.ntmps24
  go_upto_region 1 with (fail)
  generalize World.alloc _ _ = W at HW ⊢
  go_cut [6, 7] (fun v6 v7 wx => ∃ g6, v6 = .pointer (some ⟨g6, 0, none⟩) ∧ v7 = .iface 54 (.int .i64 er) ∧ Hid (Below w.heap.size w wx))
  case first =>
    have HB0 : Below W.heap.size W W.drew := (Below.refl _ _).drew
    have HB00 : Below W.heap.size W W := Below.refl _ _
    have HB01 : Below W.heap.size W (W.alloc fz) := alX _ _
    have HB02 : Below W.heap.size W (W.alloc fz).drew := HB01.drew
    have HB03 : Below W.heap.size W (W.drew.alloc fz) := bstep HB0 (alX _ _)
    have HSS := Lib.hid (fun (W' : World) (hb : Below W.heap.size W W') => And.intro (show W'.cell? ⟨C, 0, none⟩ = some (.pointer pt) from cell_of_row W' C 0 _ _ _ (row_keep HW.out.2.1 hb (Nat.le_refl _))) (show W'.cell? ⟨w.heap.size, 0, none⟩ = some (.int .i64 id) from cell_of_row W' w.heap.size 0 _ _ _ (row_keep HW.out.2.2 hb (Nat.le_refl _))))
    have HLT := Lib.hid (And.intro (lt_of_block HW.out.2.1) (lt_of_block HW.out.2.2))
    have HS2 := Lib.hid (fun (W' : World) (hb : Below W.heap.size W W') (g : Nat) (hg : W.heap.size ≤ g) (v0 v1 v2 v3 v4 v5 v6 : Value) => HSS.out (set7 W' g v0 v1 v2 v3 v4 v5 v6) (below_set7 hb hg v0 v1 v2 v3 v4 v5 v6))
    unfold set7 at HS2
    have HL1 := Lib.hid (fun (W' : World) (hb : Below W.heap.size W W') => HL.out W' (HW.out.1.trans (hb.mono HW.out.1.size)))
    go_region_held3 (fun w' => w'.cell? ⟨C, 0, none⟩ = some (.pointer pt) ∧ w'.cell? ⟨w.heap.size, 0, none⟩ = some (.int .i64 id)) (first | with_reducible exact HSS.out _ (by assumption) | with_reducible exact HS2.out _ (by assumption) _ (by first | exact Nat.le_refl _ | exact (show Below W.heap.size W _ by assumption).size) _ _ _ _ _ _ _ | with_reducible exact HSS.out _ (bstep (W0 := W) (by assumption) (alX _ _))) ((go_at_call 17; refine (HL1.out _ (by assumption)).mono ?_; rintro e w4 ⟨rfl, hb⟩; have hb1 := bstep (W0 := W) (by assumption) hb; have hb1a := bstep (W0 := W) hb1 (alX w4 fz); have hb1d := hb1a.drew; (first | (have hzr := fkeep hb; obtain ⟨⟨z0, z1, z2, z3, z4, z5, z6⟩, y0, y1, y2, y3, y4, y5, y6⟩ := row7 hzr) | (have hzr := fkeepd hb; obtain ⟨⟨z0, z1, z2, z3, z4, z5, z6⟩, y0, y1, y2, y3, y4, y5, y6⟩ := row7 hzr) | skip); clear hb))
    all_goals go_wp2
    all_goals go_meet
    · exact ⟨_, rfl, rfl, Lib.hid (HW.out.1.trans ((bstep (W0 := W) hb1 (alX w4 fz)).mono HW.out.1.size))⟩
    · have hb7 := below_set7 hb1 (Nat.le_refl W.heap.size) (.int .i64 0) (.int .i64 0) (.int .u64 0) (.int .i64 0) (.int .i64 0) (.int .i64 0) (.int .i64 0)
      exact ⟨_, rfl, rfl, Lib.hid (HW.out.1.trans (hb7.mono HW.out.1.size))⟩
  case rest =>
    obtain ⟨g6, rfl, rfl, HS⟩ := hcut
    clear HW HL
    go_wp2
    go_ret2
    exact ⟨rfl, HS.out⟩
set_option maxRecDepth 100000 in
set_option maxHeartbeats 1000000 in
theorem in_bad {pt : Option Addr} {id er : Int} {w : World} (h : ∀ W, Below w.heap.size w W → LkBad pt id er W) (lo hi : Cel) :
    Calls Tryz.prog 8 #[.pointer pt, .int .i64 id, cv lo, cv hi] w fun e w' => e = .returned (.tuple #[.int .i64 0, .iface 54 (.int .i64 er)]) ∧ Below w.heap.size w w' := by
  have hb1 : Below w.heap.size w ((w.alloc (ca2 lo)).alloc (ca2 hi)) := bstep (alX w _) (alX _ _)
  have e1 : ((w.alloc (ca2 lo)).alloc (ca2 hi)).heap.size = w.heap.size + 1 + 1 := by simp
  obtain ⟨W1, hW1⟩ : ∃ W1, W1 = (w.alloc (ca2 lo)).alloc (ca2 hi) := ⟨_, rfl⟩
  rw [← hW1] at hb1 e1
  have e2 : (W1.alloc (.map #[] 0)).heap.size = w.heap.size + 1 + 1 + 1 := by rw [World.size_alloc, e1]
  have hC := heap_alloc_new (W1.alloc (.map #[] 0)) (.cells #[.pointer pt, .map (some W1.heap.size)] 63)
  rw [e2, e1] at hC
  have hbM : Below w.heap.size w ((W1.alloc (.map #[] 0)).alloc (.cells #[.pointer pt, .map (some W1.heap.size)] 63)) := bstep (bstep hb1 (alX _ _)) (alX _ _)
  rw [e1] at hbM
  have HCT := Lib.hid (count_bad (lo := lo) (hi := hi) hC (fun W hb => h W (hbM.trans (hb.mono hbM.size))))
  have HB := Lib.hid hbM
  have hmm := @run_makeMap Tryz.prog
  subst hW1
  clear hb1 e1 e2 hC h hbM
  unfold pv cv at *
  simp only at HCT
  obtain ⟨lx, ly⟩ := lo
  obtain ⟨hx, hy⟩ := hi
  go_enter Tryz.func8, Tryz.ntmps8
  go_wp2_with fail
  refine HCT.out.mono ?_
  rintro e w2 ⟨rfl, hg⟩
  have HX := Lib.hid (HB.out.trans (hg.mono HB.out.size))
  clear hg HCT
  go_wp2
  go_ret2
  exact ⟨rfl, HX.out⟩
end Go.Proofs.YtifkhmcdgmnipaaGreatDoor
namespace Go.Proofs.YtifkhmcdgmnipaaGreatDoor.Qd
open Ti

def full : T6 := 18446744073709551615#64
def ful (L : List Sq) : Nat → List Sq × Int
  | 0 => (put L (leafQ full), nr L (leafQ full))
  | n + 1 => (put (ful L n).1 (joinQ (ful L n).1 (ful L n).2 (ful L n).2 (ful L n).2 (ful L n).2), nr (ful L n).1 (joinQ (ful L n).1 (ful L n).2 (ful L n).2 (ful L n).2 (ful L n).2))
def cN : Nat → Int
  | 0 => 64
  | n + 1 => cnt4 (cN n) (cN n) (cN n) (cN n)
def wantN (m : Nat) : Int := if m < 31 then 2 ^ (2 * m) else 4611686018427387904
theorem cN_is : ∀ n < 38, cN n = wantN (3 + n) := by decide +kernel
structure FulOk (L : List Sq) (n : Nat) (r : List Sq × Int) : Prop where
  ext : L <+: r.1
  len : r.1.length ≤ L.length + (n + 1)
  inv : Inv r.1
  lv : Lv r.1 n r.2
  cnt : (at' r.1 r.2).cnt = cN n
theorem Lv.four {L : List Sq} {n : Nat} {id : Int} (h : Lv L n id) : Four L id id id id (n + 3) := ⟨h.1, h.1, h.1, h.1, h.2, h.2, h.2, h.2⟩
theorem ful_ok {L : List Sq} (hi : Inv L) : ∀ n, n ≤ 37 → FulOk L n (ful L n)
  | 0, _ => by
    refine ⟨put_ext _ _, (put_len _ _).2, hi.leaf _, ⟨put_ok _ _, ?_⟩, ?_⟩
    · show (at' (put L _) (nr L _)).lev = _
      rw [put_at]
      rfl
    · show (at' (put L _) (nr L _)).cnt = _
      rw [put_at]
      decide +kernel
  | n + 1, hn => by
    have ih := ful_ok hi n (by omega)
    show FulOk L (n + 1) (put (ful L n).1 _, nr _ _)
    generalize ful L n = r at ih ⊢
    have hat := put_at r.1 (joinQ r.1 r.2 r.2 r.2 r.2)
    have hext := put_ext r.1 (joinQ r.1 r.2 r.2 r.2 r.2)
    refine ⟨ih.ext.trans hext, ?_, ih.inv.join ih.lv.four (by omega) (by omega), ⟨put_ok _ _, ?_⟩, ?_⟩
    · have := (put_len r.1 (joinQ r.1 r.2 r.2 r.2 r.2)).2
      have := ih.len
      show (put r.1 _).length ≤ _
      omega
    · show (at' (put r.1 _) (nr r.1 _)).lev = _
      rw [hat]
      show (at' r.1 r.2).lev + 1 = _
      rw [ih.lv.2]
      omega
    · show (at' (put r.1 _) (nr r.1 _)).cnt = _
      rw [hat]
      show cnt4 _ _ _ _ = cnt4 _ _ _ _
      rw [ih.cnt]
theorem ful_ext (L : List Sq) : ∀ k m, (ful L k).1 <+: (ful L (k + m)).1
  | _, 0 => List.prefix_rfl
  | k, m + 1 => (ful_ext L k m).trans (put_ext _ _)
theorem cnt4_small {a b c d : Nat} (ha : a ≤ 64) (hb : b ≤ 64) (hc : c ≤ 64) (hd : d ≤ 64) : cnt4 a b c d = ((a + b + c + d : Nat) : Int) := by
  unfold cnt4 sat
  omega
end Go.Proofs.YtifkhmcdgmnipaaGreatDoor.Qd

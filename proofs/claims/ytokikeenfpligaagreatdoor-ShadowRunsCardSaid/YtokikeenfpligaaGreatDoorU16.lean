/-
  THE REFERENCE's Write. Conditions: the lists, and the page's records, lie in memory.
  THE REFERENCE's Write, where a page may be. Conditions: the lists, and the page's records, lie in memory.
  THE REFERENCE's Write, where it is done. Conditions: the lists, and the page's records, lie in memory.
-/
import Derived.Test.YtokikeenfpligaaGreatDoorU15
namespace Go.Proofs.YtokikeenfpligaaGreatDoor
open Go.RowKit

def lateAt (L : List Ent) (k : Int) : Bool := ((L[(plc (nums5 L) k).toNat]?).map Ent.late).getD false
def wrR (r : Rf) (k : Int) (may : Bool) : Int := if k < 0 ∨ 15006 ≤ k then 4 else if may = false then 1 else if (k ∈ nums5 r.nw ∧ lateAt r.nw k = true) ∨ 1 ≤ freeR r then 0 else 5
def WriteR (w : World) (r : Rf) (k : Int) (x : Ent) (c : Int) (e : Ending) (w' : World) : Prop := ∃ r' : Rf, e = .returned (.tuple #[r'.val, .int .i64 c]) ∧ RfAt w' r' ∧ Below w.heap.size w w' ∧ r'.su = r.su ∧ r'.size = r.size ∧ r'.ep = r.ep ∧ (c ≠ 0 → r'.nw = r.nw) ∧ (c = 0 → r'.nw = ins (wo r.nw k) x) ∧ (∀ b o, r'.sa = some ⟨b, o, none⟩ → r.sa = some ⟨b, o, none⟩) ∧ (∀ b o, r'.na = some ⟨b, o, none⟩ → (c ≠ 0 ∧ r.na = some ⟨b, o, none⟩) ∨ w.heap.size ≤ b)
theorem box_back {n : Nat} {w w3 : World} {h : Nat} {T : TypeId} {a0 a1 a2 a3 z0 z1 z2 z3 : Value} (hb : Below n w w3) (hh : n ≤ h) (hZ : w3.heap[h]? = some (.cells #[z0, z1, z2, z3] T (0, 0))) :
    ((((w3.setCell ⟨h, 0, none⟩ a0).setCell ⟨h, 1, none⟩ a1).setCell ⟨h, 2, none⟩ a2).setCell ⟨h, 3, none⟩ a3).heap[h]? = some (.cells #[a0, a1, a2, a3] T (0, 0)) ∧ Below n w ((((w3.setCell ⟨h, 0, none⟩ a0).setCell ⟨h, 1, none⟩ a1).setCell ⟨h, 2, none⟩ a2).setCell ⟨h, 3, none⟩ a3) :=
  ⟨row_set4 hZ _ _ _ _, below_set4 hb hh _ _ _ _⟩
theorem write_same {w w' : World} {r : Rf} {k c : Int} {x : Ent} (h : RfAt w r) (hb : Below w.heap.size w w') (hc : c ≠ 0) : WriteR w r k x c (.returned (.tuple #[r.val, .int .i64 c])) w' := ⟨r, rfl, h.below hb, hb, rfl, rfl, rfl, fun _ => rfl, fun q => absurd q hc, fun _ _ q => q, fun _ _ q => .inl ⟨hc, q⟩⟩
/-- the three boxes that Write makes -/
abbrev bxS (r : Rf) : Obj := .cells #[.slice r.sa r.su.length r.sc, .slice r.na r.nw.length r.nc, .int .i64 r.size, .int .i64 r.ep] 36
abbrev bxZ : Obj := .cells #[.slice none 0 0, .slice none 0 0, .int .i64 0, .int .i64 0] 36
structure Bx3 (w w3 : World) (r : Rf) (ki nu ep si : Int) (a : Option Addr) (q c : Nat) : Prop where
  s : w3.heap[w.heap.size]? = some (bxS r)
  p : w3.heap[w.heap.size + 1]? = some (Sm.inPg ki nu ep si a q c)
  z : w3.heap[w.heap.size + 2]? = some bxZ
  b : Below w.heap.size w w3
  l : w.heap.size + 3 ≤ w3.heap.size
theorem bx3_new (w : World) (r : Rf) (ki nu ep si : Int) (a : Option Addr) (q c : Nat) : Bx3 w (((w.alloc (bxS r)).alloc (Sm.inPg ki nu ep si a q c)).alloc bxZ) r ki nu ep si a q c := by
  refine ⟨?_, ?_, ?_, (((Below.refl _ _).alloc (Nat.le_refl _) _).alloc (by simp) _).alloc (by simp; omega) _, by simp⟩
  · exact (Go.heap_alloc_old _ _ (by simp; omega)).trans ((Go.heap_alloc_old _ _ (by simp)).trans (heap_alloc_new w _))
  · exact (Go.heap_alloc_old _ _ (by simp)).trans (heap_alloc2_new w _ _)
  · have h := heap_alloc_new ((w.alloc (bxS r)).alloc (Sm.inPg ki nu ep si a q c)) bxZ
    rw [World.size_alloc, World.size_alloc] at h
    exact h
theorem Bx3.below {w w3 w' : World} {r : Rf} {ki nu ep si : Int} {a : Option Addr} {q c : Nat} (h : Bx3 w w3 r ki nu ep si a q c) (hb : Below w3.heap.size w3 w') : Bx3 w w' r ki nu ep si a q c := by
  have := h.l
  exact ⟨(hb.block _ (by omega)).trans h.s, (hb.block _ (by omega)).trans h.p, (hb.block _ (by omega)).trans h.z, h.b.trans (hb.mono h.b.size), Nat.le_trans h.l hb.size⟩
set_option maxRecDepth 100000 in
set_option maxHeartbeats 1000000 in
theorem write_ref4 (r : Rf) (k ki nu ep si : Int) (a : Option Addr) (q c : Nat) (x : Ent) (w : World) (h : RfAt w r) (hk : k < 0 ∨ 15006 ≤ k) :
    Calls Tryz.prog 40 #[r.val, .int .i64 k, .agg #[.int .u8 ki, .int .u32 nu, .int .u64 ep, .int .i64 si, .slice a q c]] w (WriteR w r k x 4) := by
  have HFIN := Lib.hid (fun (w' : World) (hb : Below w.heap.size w w') => write_same (k := k) (c := 4) (x := x) h hb (by decide))
  unfold Rf.val
  by_cases h0 : k < 0
  · clear hk h
    go_enter Tryz.func40, Tryz.ntmps40
    go_wp2
    refine bodyPost_ret (v := .tuple #[r.val, .int .i64 4]) (by simp [results, Tryz.results40, go_sem, Rf.val]) rfl (HFIN.out _ ((((Below.refl _ _).alloc (Nat.le_refl _) _).alloc (by simp) _).alloc (by simp; omega) _))
  · have h1 : 15006 ≤ k := by omega
    clear hk h
    go_enter Tryz.func40, Tryz.ntmps40
    go_wp2
    refine bodyPost_ret (v := .tuple #[r.val, .int .i64 4]) (by simp [results, Tryz.results40, go_sem, Rf.val]) rfl (HFIN.out _ ((((Below.refl _ _).alloc (Nat.le_refl _) _).alloc (by simp) _).alloc (by simp; omega) _))
set_option maxRecDepth 100000 in
set_option maxHeartbeats 1000000 in
theorem write_ref1 (r : Rf) (k ki nu ep si : Int) (a : Option Addr) (q c : Nat) (rs : List (List Int)) (x : Ent) (w : World) (h : RfAt w r) (h0 : ¬ k < 0) (h1 : ¬ 15006 ≤ k) (hq : rs.length = q) (hq2 : q ≤ 9223372036854775807) (hs : si ≤ 9223372036854775807) (hr : Sm.Recs w a rs) (hm : (Sm.Pg.mkPg ki nu ep si rs).may = false) :
    Calls Tryz.prog 40 #[r.val, .int .i64 k, .agg #[.int .u8 ki, .int .u32 nu, .int .u64 ep, .int .i64 si, .slice a q c]] w (WriteR w r k x 1) := by
  have HFIN := Lib.hid (fun (w' : World) (hb : Below w.heap.size w w') => write_same (k := k) (c := 1) (x := x) h hb (by decide))
  have HBX := Lib.hid (bx3_new w r ki nu ep si a q c)
  have hmy := Sm.may_any ki nu ep si a q c rs (((w.alloc (bxS r)).alloc (Sm.inPg ki nu ep si a q c)).alloc bxZ) hq hq2 hs (hr.below HBX.out.b)
  rw [hm] at hmy
  have HMY := Lib.hid hmy
  unfold Rf.val
  clear hq hr hm hmy h
  go_enter Tryz.func40, Tryz.ntmps40
  go_upto_region 4 with (go_at_call 80; refine HMY.out.mono ?_; rintro e w3 ⟨rfl, hb3⟩; have HB3 := Lib.hid (HBX.out.below hb3); clear hb3)
  obtain ⟨⟨x0, x1, x2, x3⟩, y0, y1, y2, y3⟩ := row4_cells HB3.out.s
  obtain ⟨⟨z0, z1, z2, z3⟩, t0, t1, t2, t3⟩ := row4_cells HB3.out.z
  go_wp2
  obtain ⟨hrow, hbw⟩ := box_back (a0 := .slice r.sa r.su.length r.sc) (a1 := .slice r.na r.nw.length r.nc) (a2 := .int .i64 r.size) (a3 := .int .i64 r.ep) HB3.out.b (show w.heap.size ≤ w.heap.size + 2 by omega) HB3.out.z
  refine Sm.post_row_tmp Tryz.results40 (w.heap.size + 2) 36 #[.slice r.sa r.su.length r.sc, .slice r.na r.nw.length r.nc, .int .i64 r.size, .int .i64 r.ep] (0, 0) _ (.int .i64 1) Tryz.underlying36 rfl info_rs ?_ ?_ hrow ?_ ?_
  · rfl
  · rfl
  · rfl
  exact HFIN.out _ hbw
end Go.Proofs.YtokikeenfpligaaGreatDoor
namespace Go.Proofs.YtokikeenfpligaaGreatDoor
open Go.RowKit

/-- what comes of the test of room: found and late, or by the free sectors -/
inductive Way (r : Rf) (k : Int) : Prop where
  | no (h : k ∉ nums5 r.nw)
  | late (h : k ∈ nums5 r.nw) (l : lateAt r.nw k = true)
  | old (h : k ∈ nums5 r.nw) (l : lateAt r.nw k = false)
theorem way (r : Rf) (k : Int) : Way r k := by
  by_cases h : k ∈ nums5 r.nw
  · cases l : lateAt r.nw k
    · exact .old h l
    · exact .late h l
  · exact .no h
theorem plc_at {L : List Ent} {k : Int} (h : k ∈ nums5 L) : ∃ i : Nat, i < L.length ∧ plc (nums5 L) k = (i : Int) ∧ ∀ (hi : i < L.length), lateAt L k = L[i].late := by
  have hm : (nums5 L).idxOf k < (nums5 L).length := List.idxOf_lt_length_of_mem h
  have hl : (nums5 L).length = L.length := by unfold nums5; rw [List.length_map]
  have hp : plc (nums5 L) k = ((nums5 L).idxOf k : Int) := by unfold plc; rw [if_pos h]
  refine ⟨(nums5 L).idxOf k, by omega, hp, fun hi => ?_⟩
  unfold lateAt
  rw [hp, Int.toNat_natCast, List.getElem?_eq_getElem hi]
  rfl
set_option maxRecDepth 100000 in
set_option maxHeartbeats 1000000 in
theorem write_ref5 (r : Rf) (k ki nu ep si : Int) (a : Option Addr) (q c : Nat) (rs : List (List Int)) (x : Ent) (w : World) (h : RfAt w r) (ok : RfOk r) (h0 : ¬ k < 0) (h1 : ¬ 15006 ≤ k) (hq : rs.length = q) (hq2 : q ≤ 9223372036854775807) (hs : si ≤ 9223372036854775807) (hr : Sm.Recs w a rs) (hm : (Sm.Pg.mkPg ki nu ep si rs).may = true) (hnl : ¬ (k ∈ nums5 r.nw ∧ lateAt r.nw k = true)) (hfr : freeR r < 1) :
    Calls Tryz.prog 40 #[r.val, .int .i64 k, .agg #[.int .u8 ki, .int .u32 nu, .int .u64 ep, .int .i64 si, .slice a q c]] w (WriteR w r k x 5) := by
  have HFIN := Lib.hid (fun (w' : World) (hb : Below w.heap.size w w') => write_same (k := k) (c := 5) (x := x) h hb (by decide))
  have HBX := Lib.hid (bx3_new w r ki nu ep si a q c)
  have hmy := Sm.may_any ki nu ep si a q c rs (((w.alloc (bxS r)).alloc (Sm.inPg ki nu ep si a q c)).alloc bxZ) hq hq2 hs (hr.below HBX.out.b)
  rw [hm] at hmy
  have HMY := Lib.hid hmy
  have HRA := Lib.hid h
  have HOK := Lib.hid ok
  have l2 := ok.l2
  have HFD := Lib.hid (fun (w2 : World) (h2 : RfAt w2 r) => find_ref r.na r.nw.length r.nc r.nw k w2 h2.n rfl (by omega))
  have HFE := Lib.hid (fun (w2 : World) (h2 : RfAt w2 r) => free_ref r w2 h2 ok)
  generalize freeR r = F at hfr HFE
  unfold Rf.val at HFE ⊢
  have hend : ∀ (i : Int) (_ : i < 0 ∨ ∃ (j : Nat) (hj : j < r.nw.length), i = (j : Int) ∧ r.nw[j].late = false), (∀ w2, RfAt w2 r → Calls Tryz.prog 46 #[.slice r.na r.nw.length r.nc, .int .i64 k] w2 fun e w' => e = .returned (.int .i64 i) ∧ w2 = w') → Calls Tryz.prog 40 #[.agg #[.slice r.sa r.su.length r.sc, .slice r.na r.nw.length r.nc, .int .i64 r.size, .int .i64 r.ep], .int .i64 k, .agg #[.int .u8 ki, .int .u32 nu, .int .u64 ep, .int .i64 si, .slice a q c]] w (WriteR w r k x 5) := by
    intro i hi hfd
    have HFD2 := Lib.hid hfd
    clear HFD hfd hnl hq hr hm hmy h ok
    rcases hi with hi | ⟨j, hj, rfl, hlt⟩
    · go_enter Tryz.func40, Tryz.ntmps40
      go_upto_region 5 with (go_at_call 80; refine HMY.out.mono ?_; rintro e w3 ⟨rfl, hb3⟩; have HB3 := Lib.hid (HBX.out.below hb3); clear hb3)
      have HR3 := Lib.hid (HRA.out.below HB3.out.b)
      obtain ⟨⟨x0, x1, x2, x3⟩, y0, y1, y2, y3⟩ := row4_cells HB3.out.s
      go_upto_region 7 with (first | (go_at_call 46; refine (HFD2.out _ HR3.out).mono ?_; rintro e w' ⟨rfl, rfl⟩) | (go_at_call 41; refine (HFE.out _ HR3.out).mono ?_; rintro e w4 ⟨rfl, hb4⟩; have HB4 := Lib.hid (HB3.out.below hb4); clear hb4))
      clear x0 x1 x2 x3
      obtain ⟨⟨x0, x1, x2, x3⟩, _⟩ := row4_cells HB4.out.s
      obtain ⟨⟨z0, z1, z2, z3⟩, t0, t1, t2, t3⟩ := row4_cells HB4.out.z
      go_wp2
      obtain ⟨hrow, hbw⟩ := box_back (a0 := .slice r.sa r.su.length r.sc) (a1 := .slice r.na r.nw.length r.nc) (a2 := .int .i64 r.size) (a3 := .int .i64 r.ep) HB4.out.b (show w.heap.size ≤ w.heap.size + 2 by omega) HB4.out.z
      refine Sm.post_row_tmp Tryz.results40 (w.heap.size + 2) 36 #[.slice r.sa r.su.length r.sc, .slice r.na r.nw.length r.nc, .int .i64 r.size, .int .i64 r.ep] (0, 0) _ (.int .i64 5) Tryz.underlying36 rfl info_rs ?_ ?_ hrow ?_ ?_
      · rfl
      · rfl
      · rfl
      exact HFIN.out _ hbw
    · have j0 : (0 : Int) ≤ (j : Int) := by omega
      have j1 : (j : Int) < (r.nw.length : Int) := by omega
      obtain ⟨b, off, hna, _⟩ := HRA.out.n j hj
      have HNA := Lib.hid hna
      have hmy2 := HMY.out
      have hbx2 := HBX.out
      unfold bxS at hmy2 hbx2
      rw [hna] at HFD2 HFE hmy2 hbx2 ⊢
      have HMY' := Lib.hid hmy2
      have HBX' := Lib.hid hbx2
      clear hna hmy2 hbx2
      go_enter Tryz.func40, Tryz.ntmps40
      go_upto_region 5 with (go_at_call 80; refine HMY'.out.mono ?_; rintro e w3 ⟨rfl, hb3⟩; have HB3 := Lib.hid (HBX'.out.below hb3); clear hb3)
      have HR3 := Lib.hid (HRA.out.below HB3.out.b)
      obtain ⟨⟨x0, x1, x2, x3⟩, y0, y1, y2, y3⟩ := row4_cells HB3.out.s
      have c6 : w3.cell? ⟨b, off + j * 7 + 6, none⟩ = some (.bool false) := by
        obtain ⟨b', off', hna', hcs⟩ := HR3.out.n j hj
        rw [HNA.out] at hna'
        obtain ⟨rfl, rfl⟩ : b = b' ∧ off = off' := by simpa using hna'
        rw [← hlt]; exact hcs 6 _ rfl
      rw [HNA.out] at x1
      clear hlt
      go_upto_region 7 with (first | (go_at_call 46; refine (HFD2.out _ HR3.out).mono ?_; rintro e w' ⟨rfl, rfl⟩) | (go_at_call 41; refine (HFE.out _ HR3.out).mono ?_; rintro e w4 ⟨rfl, hb4⟩; have HB4 := Lib.hid (HB3.out.below hb4); clear hb4))
      clear x0 x1 x2 x3 c6
      obtain ⟨⟨x0, x1, x2, x3⟩, _⟩ := row4_cells HB4.out.s
      obtain ⟨⟨z0, z1, z2, z3⟩, t0, t1, t2, t3⟩ := row4_cells HB4.out.z
      go_wp2
      obtain ⟨hrow, hbw⟩ := box_back (a0 := .slice r.sa r.su.length r.sc) (a1 := .slice r.na r.nw.length r.nc) (a2 := .int .i64 r.size) (a3 := .int .i64 r.ep) HB4.out.b (show w.heap.size ≤ w.heap.size + 2 by omega) HB4.out.z
      refine Sm.post_row_tmp Tryz.results40 (w.heap.size + 2) 36 #[.slice r.sa r.su.length r.sc, .slice r.na r.nw.length r.nc, .int .i64 r.size, .int .i64 r.ep] (0, 0) _ (.int .i64 5) Tryz.underlying36 rfl info_rs ?_ ?_ hrow ?_ ?_
      · rfl
      · rfl
      · rfl
      exact HFIN.out _ hbw
  cases way r k with
  | no hno => exact hend (plc (nums5 r.nw) k) (.inl (plc_neg.2 hno)) HFD.out
  | late hin hl => exact absurd ⟨hin, hl⟩ hnl
  | old hin hl =>
    obtain ⟨i, hi, hp, hla⟩ := plc_at hin
    exact hend (plc (nums5 r.nw) k) (.inr ⟨i, hi, hp, by rw [← hla hi]; exact hl⟩) HFD.out
end Go.Proofs.YtokikeenfpligaaGreatDoor
namespace Go.Proofs.YtokikeenfpligaaGreatDoor
open Go.RowKit

def wEnt (r : Rf) (k ki si : Int) (a : Option Addr) (q c : Nat) : Ent := ⟨k, ki, k, r.ep + 1, si, a, q, c, true⟩
theorem Bx3.pg {w wt : World} {r : Rf} {ki nu ep si : Int} {a : Option Addr} {q c : Nat} (h : Bx3 w wt r ki nu ep si a q c) (k e : Int) : Bx3 w (((wt.setCell ⟨w.heap.size + 1, 1, none⟩ (.int .u32 k)).setCell ⟨w.heap.size + 1, 2, none⟩ (.int .u64 e)).drew) r ki k e si a q c := by
  have ho : ∀ b, b ≠ w.heap.size + 1 → (((wt.setCell ⟨w.heap.size + 1, 1, none⟩ (.int .u32 k)).setCell ⟨w.heap.size + 1, 2, none⟩ (.int .u64 e)).drew).heap[b]? = wt.heap[b]? := fun b hb => (Below.heap_setCell _ _ _ _ hb).trans (Below.heap_setCell _ _ _ _ hb)
  have h1 := heap_setCell_same wt (w.heap.size + 1) 1 _ _ (.int .u32 k) h.p
  have h2 := heap_setCell_same _ (w.heap.size + 1) 2 _ _ (.int .u64 e) h1
  refine ⟨(ho _ (by omega)).trans h.s, ?_, (ho _ (by omega)).trans h.z, ((h.b.setCell (show w.heap.size ≤ w.heap.size + 1 by omega) _).setCell (show w.heap.size ≤ w.heap.size + 1 by omega) _).drew, ?_⟩
  · show ((wt.setCell ⟨w.heap.size + 1, 1, none⟩ (.int .u32 k)).setCell ⟨w.heap.size + 1, 2, none⟩ (.int .u64 e)).heap[w.heap.size + 1]? = _
    rw [h2]
    rfl
  · show w.heap.size + 3 ≤ ((wt.setCell ⟨w.heap.size + 1, 1, none⟩ (.int .u32 k)).setCell ⟨w.heap.size + 1, 2, none⟩ (.int .u64 e)).heap.size
    rw [World.size_setCell, World.size_setCell]
    exact h.l
set_option maxRecDepth 100000 in
set_option maxHeartbeats 4000000 in
theorem write_ref0 (r : Rf) (k ki nu ep si : Int) (a : Option Addr) (q c : Nat) (rs : List (List Int)) (w : World) (h : RfAt w r) (ok : RfOk r) (h0 : ¬ k < 0) (h1 : ¬ 15006 ≤ k) (hq : rs.length = q) (hq2 : q ≤ 9223372036854775807) (hs : si ≤ 9223372036854775807) (hr : Sm.Recs w a rs) (hm : (Sm.Pg.mkPg ki nu ep si rs).may = true) (i : Int)
    (hi : (i < 0 ∧ ¬ freeR r < 1) ∨ ∃ (j : Nat) (hj : j < r.nw.length), i = (j : Int) ∧ (r.nw[j].late = true ∨ (r.nw[j].late = false ∧ ¬ freeR r < 1))) (hfd : ∀ w2, RfAt w2 r → Calls Tryz.prog 46 #[.slice r.na r.nw.length r.nc, .int .i64 k] w2 fun e w' => e = .returned (.int .i64 i) ∧ w2 = w') :
    Calls Tryz.prog 40 #[r.val, .int .i64 k, .agg #[.int .u8 ki, .int .u32 nu, .int .u64 ep, .int .i64 si, .slice a q c]] w (WriteR w r k (wEnt r k ki si a q c) 0) := by
  have HBX := Lib.hid (bx3_new w r ki nu ep si a q c)
  have hmy := Sm.may_any ki nu ep si a q c rs (((w.alloc (bxS r)).alloc (Sm.inPg ki nu ep si a q c)).alloc bxZ) hq hq2 hs (hr.below HBX.out.b)
  rw [hm] at hmy
  have HMY := Lib.hid hmy
  have HRA := Lib.hid h
  have l2 := ok.l2
  have hep0 := ok.e0
  have hep1 := ok.e1
  have HFE := Lib.hid (fun (w2 : World) (h2 : RfAt w2 r) => free_ref r w2 h2 ok)
  generalize freeR r = F at hi HFE
  unfold Rf.val at HFE ⊢
  have HFD2 := Lib.hid hfd
  clear hfd hq hr hm hmy h ok
  rcases hi with ⟨hi, hF⟩ | ⟨j, hj, rfl, hlt⟩
  case' inl =>
    go_enter Tryz.func40, Tryz.ntmps40
    go_upto_region 5 with (go_at_call 80; refine HMY.out.mono ?_; rintro e w3 ⟨rfl, hb3⟩; have HB3 := Lib.hid (HBX.out.below hb3); clear hb3)
    have HR3 := Lib.hid (HRA.out.below HB3.out.b)
    obtain ⟨⟨x0, x1, x2, x3⟩, y0, y1, y2, y3⟩ := row4_cells HB3.out.s
    go_upto_region 8 with (first | (go_at_call 46; refine (HFD2.out _ HR3.out).mono ?_; rintro e w' ⟨rfl, rfl⟩) | (go_at_call 41; refine (HFE.out _ HR3.out).mono ?_; rintro e wt ⟨rfl, hb4⟩; have HB4 := Lib.hid (HB3.out.below hb4); clear hb4))
    clear x0 x1 x2 x3 y0 y1 y2 y3 HB3 HR3 hi
  case' inr =>
    have j0 : (0 : Int) ≤ (j : Int) := by omega
    have j1 : (j : Int) < (r.nw.length : Int) := by omega
    obtain ⟨b, off, hna, _⟩ := HRA.out.n j hj
    have HNA := Lib.hid hna
    have hmy2 := HMY.out
    have hbx2 := HBX.out
    unfold bxS at hmy2 hbx2
    rw [hna] at HFD2 HFE hmy2 hbx2 ⊢
    have HMY' := Lib.hid hmy2
    have HBX' := Lib.hid hbx2
    clear hna hmy2 hbx2
    go_enter Tryz.func40, Tryz.ntmps40
    go_upto_region 5 with (go_at_call 80; refine HMY'.out.mono ?_; rintro e w3 ⟨rfl, hb3⟩; have HB3 := Lib.hid (HBX'.out.below hb3); clear hb3)
    have HR3 := Lib.hid (HRA.out.below HB3.out.b)
    obtain ⟨⟨x0, x1, x2, x3⟩, y0, y1, y2, y3⟩ := row4_cells HB3.out.s
    have c6 : w3.cell? ⟨b, off + j * 7 + 6, none⟩ = some (.bool r.nw[j].late) := by
      obtain ⟨b', off', hna', hcs⟩ := HR3.out.n j hj
      rw [HNA.out] at hna'
      obtain ⟨rfl, rfl⟩ : b = b' ∧ off = off' := by simpa using hna'
      exact hcs 6 _ rfl
    rw [HNA.out] at x1
    rcases hlt with hl | ⟨hl, hF⟩
    case' inl =>
      rw [hl] at c6
      clear hl
      go_upto_region 8 with (go_at_call 46; refine (HFD2.out _ HR3.out).mono ?_; rintro e w' ⟨rfl, rfl⟩)
      have HB4 := HB3
      rw [← HNA.out]
      clear x0 x1 x2 x3 y0 y1 y2 y3 HB3 HR3 c6 HMY' HBX'
      generalize w3 = wt at HB4 ⊢
    case' inr =>
      rw [hl] at c6
      clear hl
      go_upto_region 8 with (first | (go_at_call 46; refine (HFD2.out _ HR3.out).mono ?_; rintro e w' ⟨rfl, rfl⟩) | (go_at_call 41; refine (HFE.out _ HR3.out).mono ?_; rintro e wt ⟨rfl, hb4⟩; have HB4 := Lib.hid (HB3.out.below hb4); clear hb4))
      rw [← HNA.out]
      clear x0 x1 x2 x3 y0 y1 y2 y3 HB3 HR3 c6 HMY' HBX'
  all_goals clear HFD2 HFE HMY HBX
  all_goals obtain ⟨⟨x0, x1, x2, x3⟩, y0, y1, y2, y3⟩ := row4_cells HB4.out.s
  all_goals obtain ⟨⟨p0, p1, p2, p3, p4⟩, q0, q1, q2, q3, q4⟩ := Sm.row_cells HB4.out.p
  all_goals have hw1 : wrap64 (r.ep + 1) = r.ep + 1 := IntWalk.wrap64_in _ ⟨by omega, by omega⟩
  all_goals have hw2 : IntKind.u64.wrap (r.ep + 1) = r.ep + 1 := by rw [IntKind.wrap_u64]; omega
  all_goals go_region
  all_goals have HB5 := Lib.hid (HB4.out.pg k (r.ep + 1))
  all_goals clear x0 x1 x2 x3 y0 y1 y2 y3 p0 p1 p2 p3 p4 q0 q1 q2 q3 q4 hw1 hw2 HB4
  all_goals generalize World.drew _ = w5 at HB5 ⊢
  all_goals obtain ⟨⟨x0, x1, x2, x3⟩, y0, y1, y2, y3⟩ := row4_cells HB5.out.s
  all_goals obtain ⟨⟨p0, p1, p2, p3, p4⟩, _⟩ := Sm.row_cells HB5.out.p
  all_goals have HWR := Lib.hid (with_ref r.na r.nw.length r.nc r.nw (wEnt r k ki si a q c) w5 (HRA.out.below HB5.out.b).n rfl (by omega))
  all_goals go_wp2_with fail
  all_goals refine HWR.out.mono ?_
  all_goals rintro e w6 ⟨v, rfl, hown, hb6⟩
  all_goals have HOW := Lib.hid hown
  all_goals have HB6 := Lib.hid (HB5.out.below hb6)
  all_goals have HLW := Lib.hid (show w.heap.size + 3 ≤ w5.heap.size from HB5.out.l)
  all_goals obtain ⟨ao, cap, rfl, hen, _, _, _, hlo⟩ := own_ents HOW.out
  all_goals have HEN := Lib.hid hen
  all_goals have HLO := Lib.hid hlo
  all_goals clear hown hb6 hen hlo x0 x1 x2 x3 y0 y1 y2 y3 p0 p1 p2 p3 p4 HWR HB5
  all_goals obtain ⟨⟨x0, x1, x2, x3⟩, y0, y1, y2, y3⟩ := row4_cells HB6.out.s
  all_goals obtain ⟨⟨z0, z1, z2, z3⟩, t0, t1, t2, t3⟩ := row4_cells HB6.out.z
  all_goals have hn12 : w.heap.size + 2 ≠ w.heap.size := by omega
  all_goals go_wp2
  all_goals obtain ⟨hrow, hbw, hbl⟩ := two_boxes (a0 := .slice r.sa r.su.length r.sc) (a1 := .slice ao (ins (wo r.nw k) (wEnt r k ki si a q c)).length cap) (a2 := .int .i64 r.size) (a3 := .int .i64 r.ep) HB6.out.b (Nat.le_refl _) (show w.heap.size ≤ w.heap.size + 2 by omega) HB6.out.z (by omega) (.slice ao (ins (wo r.nw k) (wEnt r k ki si a q c)).length cap)
  all_goals refine Sm.post_row_tmp Tryz.results40 (w.heap.size + 2) 36 #[.slice r.sa r.su.length r.sc, .slice ao (ins (wo r.nw k) (wEnt r k ki si a q c)).length cap, .int .i64 r.size, .int .i64 r.ep] (0, 0) _ (.int .i64 0) Tryz.underlying36 rfl info_rs (by rfl) (by rfl) hrow (by rfl) ?_
  all_goals exact ⟨{ r with nw := ins (wo r.nw k) (wEnt r k ki si a q c), na := ao, nc := cap }, rfl, ⟨HRA.out.s.below hbw, HEN.out.same fun b o e => hbl b (by have := (HLO.out b o e).1; have := HLW.out; omega) (by have := (HLO.out b o e).1; have := HLW.out; omega)⟩, hbw, rfl, rfl, rfl, fun q => absurd rfl q, fun _ => rfl, fun _ _ q => q, fun b o e => .inr (by have := (HLO.out b o e).1; have := HLW.out; omega)⟩
end Go.Proofs.YtokikeenfpligaaGreatDoor

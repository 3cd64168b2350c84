/-
  THE REFERENCE's Free. Conditions: the lists lie in memory.
  THE REFERENCE's Abort, Drop and Read. Conditions: the lists lie in memory.
  THE WALK of the document's own May. Conditions: the records lie in memory.
-/
import Derived.Test.YtokikeenfpligaaGreatDoorU14
namespace Go.Proofs.YtokikeenfpligaaGreatDoor
open Go.RowKit

/-- the document's shadow -/
structure Rf where
  su : List Ent
  nw : List Ent
  sa : Option Addr
  sc : Nat
  na : Option Addr
  nc : Nat
  size : Int
  ep : Int
def Rf.val (r : Rf) : Value := .agg #[.slice r.sa r.su.length r.sc, .slice r.na r.nw.length r.nc, .int .i64 r.size, .int .i64 r.ep]
structure RfOk (r : Rf) : Prop where
  l1 : r.su.length ≤ 200
  l2 : r.nw.length ≤ 200
  b1 : ∀ x ∈ r.su, 0 ≤ x.n ∧ x.n < 15006
  b2 : ∀ x ∈ r.nw, 0 ≤ x.n ∧ x.n < 15006
  s0 : 0 ≤ r.size
  s1 : r.size ≤ 16384
  e0 : 0 ≤ r.ep
  e1 : r.ep ≤ 1000000
structure RfAt (w : World) (r : Rf) : Prop where
  s : Ents w r.sa r.su
  n : Ents w r.na r.nw
theorem RfAt.below {w w' : World} {r : Rf} (h : RfAt w r) (hb : Below w.heap.size w w') : RfAt w' r := ⟨h.s.below hb, h.n.below hb⟩
/-- how many of the first k are late -/
def lateN (L : List Ent) (k : Nat) : Nat := ((L.take k).filter fun x => x.late).length
theorem lateN_le (L : List Ent) (k : Nat) : lateN L k ≤ k := Nat.le_trans (List.length_filter_le _ _) (List.length_take_le _ _)
theorem lateN_next {L : List Ent} {k : Nat} (h : k < L.length) : lateN L (k + 1) = lateN L k + (if L[k].late = true then 1 else 0) := by
  unfold lateN
  rw [List.take_succ_eq_append_getElem h, List.filter_append, List.length_append]
  congr 1
  cases hl : L[k].late
  · simp [hl]
  · simp [hl]
def freeR (r : Rf) : Int := r.size - 2 - (r.su.length : Int) - tblsE r.su - (lateN r.nw r.nw.length : Int)
theorem tblsE_bd {L : List Ent} (h : ∀ x ∈ L, 0 ≤ x.n ∧ x.n < 15006) : 0 ≤ tblsE L ∧ tblsE L ≤ 122 := by
  unfold tblsE
  cases hl : L.getLast? with
  | none => simp
  | some x =>
    have := h x (List.mem_of_getLast? hl)
    simp only
    omega
/-- a box of the document's shadow -/
structure BoxR (w : World) (g : Nat) (r : Rf) : Prop where
  f0 : w.cell? ⟨g, 0, none⟩ = some (.slice r.sa r.su.length r.sc)
  f1 : w.cell? ⟨g, 1, none⟩ = some (.slice r.na r.nw.length r.nc)
  f2 : w.cell? ⟨g, 2, none⟩ = some (.int .i64 r.size)
  f3 : w.cell? ⟨g, 3, none⟩ = some (.int .i64 r.ep)
theorem boxR_new (w : World) (r : Rf) : BoxR (w.alloc (.cells #[.slice r.sa r.su.length r.sc, .slice r.na r.nw.length r.nc, .int .i64 r.size, .int .i64 r.ep] 36)) w.heap.size r :=
  ⟨cell_of_row _ _ 0 _ _ _ (heap_alloc_new w _), cell_of_row _ _ 1 _ _ _ (heap_alloc_new w _), cell_of_row _ _ 2 _ _ _ (heap_alloc_new w _), cell_of_row _ _ 3 _ _ _ (heap_alloc_new w _)⟩
theorem BoxR.same {w w' : World} {g : Nat} {r : Rf} (h : BoxR w g r) (hb : w'.heap[g]? = w.heap[g]?) : BoxR w' g r :=
  ⟨(World.cell?_of_block hb).trans h.f0, (World.cell?_of_block hb).trans h.f1, (World.cell?_of_block hb).trans h.f2, (World.cell?_of_block hb).trans h.f3⟩
theorem BoxR.lt {w : World} {g : Nat} {r : Rf} (h : BoxR w g r) : g < w.heap.size := World.block_lt_of_cell? w _ h.f0
set_option maxRecDepth 100000 in
set_option maxHeartbeats 2000000 in
theorem free_ref (r : Rf) (w : World) (h : RfAt w r) (ok : RfOk r) :
    Calls Tryz.prog 41 #[r.val] w fun e w' => e = .returned (.int .i64 (freeR r)) ∧ Below w.heap.size w w' := by
  have hb := Sm.alX w (.cells #[.slice r.sa r.su.length r.sc, .slice r.na r.nw.length r.nc, .int .i64 r.size, .int .i64 r.ep] 36)
  have HAT := Lib.hid (h.below hb)
  have HB := Lib.hid hb
  have HX := Lib.hid (boxR_new w r)
  have HOK := Lib.hid ok
  have s0 := ok.s0
  have s1 := ok.s1
  have l1 := ok.l1
  have l2 := ok.l2
  have ht := tblsE_bd ok.b1
  have t0 := ht.1
  have t1 := ht.2
  have HFR := Lib.hid (show freeR r = r.size - 2 - (r.su.length : Int) - tblsE r.su - (lateN r.nw r.nw.length : Int) from rfl)
  unfold Rf.val
  clear h ok hb ht
  go_enter Tryz.func41, Tryz.ntmps41
  go_upto_region 1 with (fail)
  generalize hw1 : w.alloc _ = w1 at HAT HB HX ⊢
  have f0 := HX.out.f0
  have f1 := HX.out.f1
  have f2 := HX.out.f2
  obtain ⟨n1, hn1⟩ : ∃ n, n = r.su.length := ⟨_, rfl⟩
  obtain ⟨n2, hn2⟩ : ∃ n, n = r.nw.length := ⟨_, rfl⟩
  have HN1 := Lib.hid hn1.symm
  have HN2 := Lib.hid hn2.symm
  rw [← hn1] at f0 HFR l1 ⊢
  rw [← hn2] at f1 HFR l2 ⊢
  have HTB := Lib.hid (show ∀ q, Calls Tryz.prog 63 #[.slice r.sa n1 r.sc] (w1.drewN q) fun e w' => e = .returned (.int .i64 (tblsE r.su)) ∧ w' = w1.drewN q from fun q => (tables_ref r.sa n1 r.sc r.su (w1.drewN q) (HAT.out.s.same (fun _ _ _ => rfl)) HN1.out (by omega) HOK.out.b1).mono fun _ _ ⟨a, b⟩ => ⟨a, b.symm⟩)
  generalize tblsE r.su = T at HTB t0 t1 HFR
  generalize r.size = z at f2 s0 s1 HFR ⊢
  have hs1 : IntKind.i64.wrap (z - 2) = z - 2 := IntWalk.i64_in _ ⟨by omega, by omega⟩
  have hs2 : IntKind.i64.wrap (z - 2 - (n1 : Int)) = z - 2 - (n1 : Int) := IntWalk.i64_in _ ⟨by omega, by omega⟩
  have hs3 : IntKind.i64.wrap (z - 2 - (n1 : Int) - T) = z - 2 - (n1 : Int) - T := IntWalk.i64_in _ ⟨by omega, by omega⟩
  clear hw1 hn1 hn2
  go_quiet ((go_at_call 63; exact Calls.quiet_of_same (HTB.out _)))
  clear hs1 hs2 hs3 f0 f2 HTB
  have HBQ := Lib.hid (show Below w.heap.size w (w1.drewN nq) from below_dn HB.out nq)
  go_wp2_with fail
  go_loop [3, 4] (fun v i => ∃ k : Nat, k ≤ n2 ∧ i = .int .i64 k ∧ v = .int .i64 (z - 2 - (n1 : Int) - T - (lateN r.nw k : Int))) (fun _ i => n2 - (intOf i).toNat)
  case atStart => exact ⟨0, by omega, rfl, by rw [show lateN r.nw 0 = 0 from rfl]; simp⟩
  case round =>
    obtain ⟨k, hk, rfl, rfl⟩ := hrel
    have hle := lateN_le r.nw k
    have k0 : (0 : Int) ≤ (k : Int) := by omega
    by_cases hlt : k < n2
    · have hkl : k < r.nw.length := by rw [HN2.out]; exact hlt
      obtain ⟨b, off, hna, hr⟩ := HAT.out.n k hkl
      have c6 : w1.cell? ⟨b, off + k * 7 + 6, none⟩ = some (.bool r.nw[k].late) := hr 6 _ rfl
      have HNX := Lib.hid (lateN_next hkl)
      rw [hna] at f1
      have k1 : (k : Int) < (n2 : Int) := by omega
      clear hr hna
      generalize r.nw[k].late = b' at c6 HNX
      have q0 : (0 : Int) ≤ (lateN r.nw k : Int) := by omega
      generalize hq : lateN r.nw k = Q at hle q0 HNX ⊢
      clear hq
      cases b' with
      | true =>
        go_wp2
        go_round
        case rel => exact ⟨k + 1, by omega, by go_num, by have := HNX.out; rw [this]; simp; omega⟩
        case measure => simp [intOf]; omega
      | false =>
        go_wp2
        go_round
        case rel => exact ⟨k + 1, by omega, by go_num, by have := HNX.out; rw [this]; simp⟩
        case measure => simp [intOf]; omega
    · obtain rfl : k = n2 := by omega
      go_wp2
      go_ret
      rw [HFR.out]
      exact ⟨rfl, HBQ.out⟩
end Go.Proofs.YtokikeenfpligaaGreatDoor
namespace Go.Proofs.YtokikeenfpligaaGreatDoor
open Go.RowKit

set_option maxRecDepth 100000 in
theorem abort_ref (r : Rf) (w : World) :
    Calls Tryz.prog 18 #[r.val] w fun e w' => e = .returned ({ r with nw := r.su, na := r.sa, nc := r.sc } : Rf).val ∧ Below w.heap.size w w' := by
  unfold Rf.val
  go_enter Tryz.func18, Tryz.ntmps18
  go_wp2
  refine bodyPost_ret (v := .agg #[.slice r.sa r.su.length r.sc, .slice r.sa r.su.length r.sc, .int .i64 r.size, .int .i64 r.ep]) (by simp [results, Tryz.results18, go_sem]) rfl ⟨rfl, ?_⟩
  exact ((Below.refl _ _).alloc (Nat.le_refl _) _).alloc (by simp) _
theorem row4_cells {w : World} {g : Nat} {v0 v1 v2 v3 : Value} {t : TypeId} (h : w.heap[g]? = some (.cells #[v0, v1, v2, v3] t (0, 0))) :
    (w.cell? ⟨g, 0, none⟩ = some v0 ∧ w.cell? ⟨g, 1, none⟩ = some v1 ∧ w.cell? ⟨g, 2, none⟩ = some v2 ∧ w.cell? ⟨g, 3, none⟩ = some v3) ∧ w.frozen? ⟨g, 0, none⟩ = false ∧ w.frozen? ⟨g, 1, none⟩ = false ∧ w.frozen? ⟨g, 2, none⟩ = false ∧ w.frozen? ⟨g, 3, none⟩ = false := by
  refine ⟨⟨?_, ?_, ?_, ?_⟩, frozen_of_row w g 0 _ _ h, frozen_of_row w g 1 _ _ h, frozen_of_row w g 2 _ _ h, frozen_of_row w g 3 _ _ h⟩ <;> (rw [cell_of_row w g _ _ _ _ h]; rfl)
theorem row_set4 {w : World} {g : Nat} {a0 a1 a2 a3 : Value} {t : TypeId} (h : w.heap[g]? = some (.cells #[a0, a1, a2, a3] t (0, 0))) (v0 v1 v2 v3 : Value) :
    ((((w.setCell ⟨g, 0, none⟩ v0).setCell ⟨g, 1, none⟩ v1).setCell ⟨g, 2, none⟩ v2).setCell ⟨g, 3, none⟩ v3).heap[g]? = some (.cells #[v0, v1, v2, v3] t (0, 0)) := by
  have h0 := heap_setCell_same w g 0 _ _ v0 h
  have h1 := heap_setCell_same _ g 1 _ _ v1 h0
  have h2 := heap_setCell_same _ g 2 _ _ v2 h1
  have h3 := heap_setCell_same _ g 3 _ _ v3 h2
  rw [h3]
  rfl
theorem heap_set4 (w : World) (g k : Nat) (v0 v1 v2 v3 : Value) (hk : k ≠ g) : ((((w.setCell ⟨g, 0, none⟩ v0).setCell ⟨g, 1, none⟩ v1).setCell ⟨g, 2, none⟩ v2).setCell ⟨g, 3, none⟩ v3).heap[k]? = w.heap[k]? := by
  rw [heap_setCell_other _ _ k _ hk, heap_setCell_other _ _ k _ hk, heap_setCell_other _ _ k _ hk, heap_setCell_other _ _ k _ hk]
theorem below_set4 {n : Nat} {w w1 : World} {g : Nat} (h : Below n w w1) (hg : n ≤ g) (v0 v1 v2 v3 : Value) : Below n w ((((w1.setCell ⟨g, 0, none⟩ v0).setCell ⟨g, 1, none⟩ v1).setCell ⟨g, 2, none⟩ v2).setCell ⟨g, 3, none⟩ v3) := (((h.setCell hg v0).setCell hg v1).setCell hg v2).setCell hg v3
theorem two_boxes {n : Nat} {w w3 : World} {g h : Nat} {T : TypeId} {a0 a1 a2 a3 z0 z1 z2 z3 : Value} (hb : Below n w w3) (hg : n ≤ g) (hh : n ≤ h) (hZ : w3.heap[h]? = some (.cells #[z0, z1, z2, z3] T (0, 0))) (hne : h ≠ g) (v : Value) :
    (((((w3.setCell ⟨g, 1, none⟩ v).setCell ⟨h, 0, none⟩ a0).setCell ⟨h, 1, none⟩ a1).setCell ⟨h, 2, none⟩ a2).setCell ⟨h, 3, none⟩ a3).heap[h]? = some (.cells #[a0, a1, a2, a3] T (0, 0)) ∧
    Below n w (((((w3.setCell ⟨g, 1, none⟩ v).setCell ⟨h, 0, none⟩ a0).setCell ⟨h, 1, none⟩ a1).setCell ⟨h, 2, none⟩ a2).setCell ⟨h, 3, none⟩ a3) ∧
    ∀ b, b ≠ g → b ≠ h → (((((w3.setCell ⟨g, 1, none⟩ v).setCell ⟨h, 0, none⟩ a0).setCell ⟨h, 1, none⟩ a1).setCell ⟨h, 2, none⟩ a2).setCell ⟨h, 3, none⟩ a3).heap[b]? = w3.heap[b]? := by
  have h1 : (w3.setCell ⟨g, 1, none⟩ v).heap[h]? = some (.cells #[z0, z1, z2, z3] T (0, 0)) := (Below.heap_setCell _ _ _ _ (fun e => hne e)).trans hZ
  exact ⟨row_set4 h1 _ _ _ _, below_set4 (hb.setCell hg v) hh _ _ _ _, fun b b1 b2 => (heap_set4 _ _ _ _ _ _ _ b2).trans (Below.heap_setCell _ _ _ _ (fun e => b1 e))⟩
set_option maxRecDepth 100000 in
theorem info_rs : (Tryz.prog.info? 36).map (·.size) = some 4 := by kernel_rfl
def drR (r : Rf) (k : Int) : Int := if k < 0 ∨ 15006 ≤ k then 4 else if k ∈ nums5 r.nw then 0 else 8
theorem plc_neg {xs : List Int} {x : Int} : plc xs x < 0 ↔ x ∉ xs := by
  unfold plc
  by_cases h : x ∈ xs
  · rw [if_pos h]; simp [h]
  · rw [if_neg h]; simp [h]
def DropR (w : World) (r : Rf) (k c : Int) (e : Ending) (w' : World) : Prop := ∃ r' : Rf, e = .returned (.tuple #[r'.val, .int .i64 c]) ∧ RfAt w' r' ∧ Below w.heap.size w w' ∧ r'.su = r.su ∧ r'.size = r.size ∧ r'.ep = r.ep ∧ (c ≠ 0 → r'.nw = r.nw) ∧ (c = 0 → r'.nw = wo r.nw k) ∧ (∀ b o, r'.sa = some ⟨b, o, none⟩ → r.sa = some ⟨b, o, none⟩) ∧ (∀ b o, r'.na = some ⟨b, o, none⟩ → r.na = some ⟨b, o, none⟩ ∨ w.heap.size ≤ b)
set_option maxRecDepth 100000 in
set_option maxHeartbeats 1000000 in
theorem drop_ref (r : Rf) (k : Int) (w : World) (h : RfAt w r) (ok : RfOk r) :
    Calls Tryz.prog 39 #[r.val, .int .i64 k] w (DropR w r k (drR r k)) := by
  have hb := Sm.alX w (.cells #[.slice r.sa r.su.length r.sc, .slice r.na r.nw.length r.nc, .int .i64 r.size, .int .i64 r.ep] 36)
  have HAT := Lib.hid (h.below hb)
  have HB := Lib.hid hb
  have HX := Lib.hid (boxR_new w r)
  have HOK := Lib.hid ok
  have HR0 := Lib.hid h
  clear ok hb h
  unfold Rf.val
  by_cases hk : k < 0 ∨ 15006 ≤ k
  · have HC := Lib.hid (show drR r k = 4 by unfold drR; rw [if_pos hk])
    rw [HC.out]
    have hfin : ∀ w', Below w.heap.size w w' → DropR w r k 4 (.returned (.tuple #[r.val, .int .i64 4])) w' := fun w' hb => ⟨r, rfl, HR0.out.below hb, hb, rfl, rfl, rfl, fun _ => rfl, fun q => absurd q (by decide), fun _ _ q => q, fun _ _ q => .inl q⟩
    have HFIN := Lib.hid hfin
    clear hfin HC
    by_cases h0 : k < 0
    · clear hk
      go_enter Tryz.func39, Tryz.ntmps39
      go_wp2
      refine bodyPost_ret (v := .tuple #[r.val, .int .i64 4]) (by simp [results, Tryz.results39, go_sem, Rf.val]) rfl (HFIN.out _ (((Below.refl _ _).alloc (Nat.le_refl _) _).alloc (by simp) _))
    · have h1 : 15006 ≤ k := by omega
      clear hk
      go_enter Tryz.func39, Tryz.ntmps39
      go_wp2
      refine bodyPost_ret (v := .tuple #[r.val, .int .i64 4]) (by simp [results, Tryz.results39, go_sem, Rf.val]) rfl (HFIN.out _ (((Below.refl _ _).alloc (Nat.le_refl _) _).alloc (by simp) _))
  · have h0 : ¬ k < 0 := by omega
    have h1 : ¬ 15006 ≤ k := by omega
    have f1 := HX.out.f1
    have hl2 := HOK.out.l2
    have HFD := Lib.hid (fun (w2 : World) (h2 : RfAt w2 r) => find_ref r.na r.nw.length r.nc r.nw k w2 h2.n rfl (by omega))
    have hb2 := HB.out.alloc HB.out.size (.cells #[.slice none 0 0, .slice none 0 0, .int .i64 0, .int .i64 0] 36)
    by_cases hm : k ∈ nums5 r.nw
    · have HC := Lib.hid (show drR r k = 0 by unfold drR; rw [if_neg hk, if_pos hm])
      rw [HC.out]
      have hp : ¬ plc (nums5 r.nw) k < 0 := fun q => plc_neg.1 q hm
      generalize plc (nums5 r.nw) k = P at HFD hp
      clear hk hm
      go_enter Tryz.func39, Tryz.ntmps39
      go_wp2_with (go_at_call 46; refine (HFD.out _ (HR0.out.below hb2)).mono ?_; rintro e w' ⟨rfl, rfl⟩)
      refine (without_ref r.na r.nw.length r.nc r.nw k _ (HR0.out.below hb2).n rfl (by omega)).mono ?_
      rintro e w3 ⟨v, rfl, hown, hb3⟩
      have hA := heap_alloc_new w (.cells #[.slice r.sa r.su.length r.sc, .slice r.na r.nw.length r.nc, .int .i64 r.size, .int .i64 r.ep] 36)
      have hZ := heap_alloc2_new w (.cells #[.slice r.sa r.su.length r.sc, .slice r.na r.nw.length r.nc, .int .i64 r.size, .int .i64 r.ep] 36) (.cells #[.slice none 0 0, .slice none 0 0, .int .i64 0, .int .i64 0] 36)
      have HA3 := Lib.hid ((hb3.block w.heap.size (by simp; omega)).trans ((Go.heap_alloc_old _ _ (by simp)).trans hA))
      have HZ3 := Lib.hid ((hb3.block (w.heap.size + 1) (by simp)).trans hZ)
      have HOW := Lib.hid hown
      have HB3 := Lib.hid (hb2.trans (hb3.mono hb2.size))
      have HRS := Lib.hid ((HR0.out.below hb2).below hb3)
      have HSZ := Lib.hid (show w.heap.size + 1 < w3.heap.size from Nat.lt_of_lt_of_le (by simp) hb3.size)
      have HOB := Lib.hid (show w.heap.size + 2 ≤ ((w.alloc (.cells #[.slice r.sa r.su.length r.sc, .slice r.na r.nw.length r.nc, .int .i64 r.size, .int .i64 r.ep] 36)).alloc (.cells #[.slice none 0 0, .slice none 0 0, .int .i64 0, .int .i64 0] 36)).heap.size by simp)
      obtain ⟨ao, cap, rfl, hen, _, _, hln, hlo⟩ := own_ents HOW.out
      have HEN := Lib.hid hen
      have HLO := Lib.hid hlo
      obtain ⟨⟨x0, x1, x2, x3⟩, y0, y1, y2, y3⟩ := row4_cells HA3.out
      obtain ⟨⟨z0, z1, z2, z3⟩, t0, t1, t2, t3⟩ := row4_cells HZ3.out
      clear hA hZ hown hb2 hb3 f1 hen hlo hln HAT HX HB HFD
      go_wp2
      obtain ⟨hrow, hbw, hbl⟩ := two_boxes (a0 := .slice r.sa r.su.length r.sc) (a1 := .slice ao (wo r.nw k).length cap) (a2 := .int .i64 r.size) (a3 := .int .i64 r.ep) HB3.out (Nat.le_refl _) (show w.heap.size ≤ w.heap.size + 1 by omega) HZ3.out (by omega) (.slice ao (wo r.nw k).length cap)
      refine Sm.post_row_tmp Tryz.results39 (w.heap.size + 1) 36 #[.slice r.sa r.su.length r.sc, .slice ao (wo r.nw k).length cap, .int .i64 r.size, .int .i64 r.ep] (0, 0) _ (.int .i64 0) Tryz.underlying36 rfl info_rs ?_ ?_ hrow ?_ ?_
      · rfl
      · rfl
      · rfl
      exact ⟨{ r with nw := wo r.nw k, na := ao, nc := cap }, rfl, ⟨HR0.out.s.below hbw, HEN.out.same fun b o e => hbl b (by have := (HLO.out b o e).1; have := HOB.out; omega) (by have := (HLO.out b o e).1; have := HOB.out; omega)⟩, hbw, rfl, rfl, rfl, fun q => absurd rfl q, fun _ => rfl, fun _ _ q => q, fun b o e => .inr (by have := (HLO.out b o e).1; have := HOB.out; omega)⟩
    · have HC := Lib.hid (show drR r k = 8 by unfold drR; rw [if_neg hk, if_neg hm])
      rw [HC.out]
      have hfin : ∀ w', Below w.heap.size w w' → DropR w r k 8 (.returned (.tuple #[r.val, .int .i64 8])) w' := fun w' hb => ⟨r, rfl, HR0.out.below hb, hb, rfl, rfl, rfl, fun _ => rfl, fun q => absurd q (by decide), fun _ _ q => q, fun _ _ q => .inl q⟩
      have HFIN := Lib.hid hfin
      have hp : plc (nums5 r.nw) k < 0 := plc_neg.2 hm
      generalize plc (nums5 r.nw) k = P at HFD hp
      clear hk hm hfin HC
      go_enter Tryz.func39, Tryz.ntmps39
      go_wp2_with (go_at_call 46; refine (HFD.out _ (HR0.out.below hb2)).mono ?_; rintro e w' ⟨rfl, rfl⟩)
      refine bodyPost_ret (v := .tuple #[r.val, .int .i64 8]) (by simp [results, Tryz.results39, go_sem, Rf.val]) rfl (HFIN.out _ (((Below.refl _ _).alloc (Nat.le_refl _) _).alloc (by simp) _))
end Go.Proofs.YtokikeenfpligaaGreatDoor
namespace Go.Proofs.YtokikeenfpligaaGreatDoor.Sm
open Go.RowKit Crc

abbrev inPg (ki nu ep si : Int) (a : Option Addr) (n c : Nat) : Obj := .cells #[.int .u8 ki, .int .u32 nu, .int .u64 ep, .int .i64 si, .slice a n c] 43
set_option maxRecDepth 100000 in
theorem refroom_any (s : Int) (w : World) (hs : s ≤ 9223372036854775807) :
    Calls Tryz.prog 106 #[.int .i64 s] w fun e w' => e = .returned (.int .i64 (room s)) ∧ w = w' := by
  by_cases h : s < 1
  · rw [room_small h]
    go_enter Tryz.func106, Tryz.ntmps106
    go_wp2
    go_ret
    exact ⟨rfl, rfl⟩
  · by_cases h2 : 492 < s
    · rw [room_out h2]
      have h1 : 1 ≤ s := by omega
      go_enter Tryz.func106, Tryz.ntmps106
      go_wp2
      go_ret
      exact ⟨rfl, rfl⟩
    · rw [room_big (by omega)]
      have h1 : 1 ≤ s := by omega
      have h3 : s ≤ 492 := by omega
      have e0 : 0 ≤ 492 / s := Int.ediv_nonneg (by omega) (by omega)
      go_enter Tryz.func106, Tryz.ntmps106
      go_wp2
      all_goals go_ret
      all_goals exact ⟨ret_int (by omega), rfl⟩
set_option maxRecDepth 100000 in
theorem quiet_room (s : Int) (w : World) (k : Nat) (hs : s ≤ 9223372036854775807) :
    Calls Tryz.prog 106 #[.int .i64 s] (w.drewN k) fun e w'' => e = .returned (.int .i64 (room s)) ∧ ∃ m, w'' = w.drewN m :=
  Calls.quiet_of_same ((refroom_any s (w.drewN k) hs).mono fun _ _ ⟨h, e⟩ => ⟨h, e.symm⟩)
set_option maxRecDepth 100000 in
set_option maxHeartbeats 1000000 in
theorem may_any (ki nu ep si : Int) (a : Option Addr) (n c : Nat) (rs : List (List Int)) (w : World) (hn : rs.length = n) (hm : n ≤ 9223372036854775807) (hs : si ≤ 9223372036854775807) (hr : Recs w a rs) :
    Calls Tryz.prog 80 #[.agg #[.int .u8 ki, .int .u32 nu, .int .u64 ep, .int .i64 si, .slice a n c]] w fun e w' => e = .returned (.bool (Pg.mkPg ki nu ep si rs).may) ∧ Below w.heap.size w w' := by
  rw [may_eq ki nu ep si rs n hn]
  have hb := alX w (inPg ki nu ep si a n c)
  have HR := Lib.hid (hr.below hb)
  have HB := Lib.hid hb
  have HN := Lib.hid hn
  have hq := fun (W : World) (k : Nat) => quiet_room si W k hs
  have rb := room_bd si
  clear hr hb hn
  by_cases h0 : room si = 0
  · have h0' : (room si == 0) = true := by rw [h0]; rfl
    have hf : fitsB si n = false := fits_no0 (by omega)
    rw [hf]
    clear h0 hf
    go_enter Tryz.func80, Tryz.ntmps80
    go_wp2
    go_quiet ((go_at_call 106; exact hq _ _))
    go_wp2
    go_ret
    exact ⟨rfl, below_dn HB.out _⟩
  · have h0' : (room si == 0) = false := by rw [beq_eq_false_iff_ne]; exact h0
    by_cases h1 : room si < (n : Int)
    · have hf : fitsB si n = false := by rw [fits_yes (by omega)]; exact decide_eq_false (by omega)
      rw [hf]
      clear h0 hf
      go_enter Tryz.func80, Tryz.ntmps80
      go_wp2
      go_quiet ((go_at_call 106; exact hq _ _))
      go_wp2
      go_ret
      exact ⟨rfl, below_dn HB.out _⟩
    · have hf : fitsB si n = true := by rw [fits_yes (by omega)]; exact decide_eq_true (by omega)
      rw [hf]
      have hd : decide (room si < (n : Int)) = false := decide_eq_false h1
      clear h0 hf
      go_enter Tryz.func80, Tryz.ntmps80
      go_wp2
      go_quiet ((go_at_call 106; exact hq _ _))
      go_wp2
      have HK3 := Lib.hid (show ((w.alloc (inPg ki nu ep si a n c)).drewN nq).cell? ⟨w.heap.size, 3, none⟩ = some (.int .i64 si) by simp)
      have HK4 := Lib.hid (show ((w.alloc (inPg ki nu ep si a n c)).drewN nq).cell? ⟨w.heap.size, 4, none⟩ = some (.slice a n c) by simp)
      have HRD : Hid (Recs ((w.alloc (inPg ki nu ep si a n c)).drewN nq) a rs) := HR
      have HBD := Lib.hid (below_dn HB.out nq)
      change Code.wp _ _ _ _ ((w.alloc (inPg ki nu ep si a n c)).drewN nq)
      generalize (w.alloc (inPg ki nu ep si a n c)).drewN nq = W2 at HK3 HK4 HRD HBD ⊢
      clear HR HB hq hd h0' h1 rb
      go_loopw [3] (fun i wr => ∃ k m : Nat, k ≤ n ∧ i = .int .i64 k ∧ Hid ((rs.take k).any (badB si) = false) ∧ Hid (wr = W2.drewN m)) (fun i _ => n - (intOf i).toNat)
      case atStart => exact ⟨0, 0, by omega, rfl, Lib.hid (by simp), Lib.hid rfl⟩
      case round =>
        obtain ⟨k, m, hk, rfl, HA, hwr⟩ := hrel
        have hwr' := hwr.out
        clear hwr
        subst hwr'
        have k3 := HK3.out
        have k4 := HK4.out
        by_cases hlt : k < n
        · have hkl : k < rs.length := by rw [HN.out]; exact hlt
          obtain ⟨b, off, ra, rc, rfl, hcell, _⟩ := HRD.out k hkl
          have hbb : badB si rs[k] = ((rs[k].length : Int) != si) := rfl
          have HBB := Lib.hid hbb
          clear hbb
          have hki : (k : Int) < (n : Int) := by omega
          generalize hL : rs[k].length = L at hcell HBB
          clear hL
          cases hne : ((L : Int) != si)
          · have HNE := Lib.hid hne
            go_wp2
            go_quiet (fail)
            go_wp2
            go_roundw
            case rel => exact ⟨k + 1, m + nq, by omega, by go_num, Lib.hid (any_take _ _ _ hkl HA.out (by rw [HBB.out, HNE.out])), Lib.hid rfl⟩
            case measure => simp [intOf]; omega
          · have HNE := Lib.hid hne
            go_wp2
            go_quiet (fail)
            go_wp2
            go_ret
            exact ⟨ret_bool (by rw [any_at (badB si) rs k hkl (by rw [HBB.out, HNE.out])]; rfl), below_dn (below_dn HBD.out _) _⟩
        · obtain rfl : k = n := by omega
          go_wp2
          go_ret
          exact ⟨ret_bool (by have := HA.out; rw [List.take_of_length_le (by rw [HN.out]; exact Nat.le_refl _)] at this; rw [this]; rfl), below_dn HBD.out _⟩
end Go.Proofs.YtokikeenfpligaaGreatDoor.Sm

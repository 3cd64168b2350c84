/-
  THE REFERENCE's Commit. Conditions: the lists lie in memory.
  A DISK IN MEMORY: its struct, its sectors that are sure, the pointers to those that are pending, the list of what is pending. No program in it but the types' numbers.
-/
import Derived.StillTailTactics
import Derived.Test.YtokikeenfpligaaGreatDoorProg
import Derived.WalkKit
import Derived.Deep.MidRow
import Derived.Lib.Hide
import Derived.Test.YtokikeenfpligaaGreatDoorU16
namespace Go.Proofs.YtokikeenfpligaaGreatDoor
open Go.RowKit

def cl (L : List Ent) : List Ent := L.map fun x => { x with late := false }
def CommitR (w : World) (r : Rf) (c : Int) (e : Ending) (w' : World) : Prop := ∃ r' : Rf, e = .returned (.tuple #[r'.val, .int .i64 c]) ∧ RfAt w' r' ∧ Below w.heap.size w w' ∧ r'.size = r.size ∧ (c ≠ 0 → r'.nw = r.nw ∧ r'.su = r.su ∧ r'.ep = r.ep) ∧ (c = 0 → r'.nw = cl r.nw ∧ r'.su = cl r.nw ∧ r'.ep = r.ep + 1) ∧ (∀ b o, r'.sa = some ⟨b, o, none⟩ → (c ≠ 0 ∧ r.sa = some ⟨b, o, none⟩) ∨ w.heap.size ≤ b) ∧ (∀ b o, r'.na = some ⟨b, o, none⟩ → (c ≠ 0 ∧ r.na = some ⟨b, o, none⟩) ∨ w.heap.size ≤ b)
/-- the two boxes that Commit makes -/
structure Bx2 (w w3 : World) (r : Rf) : Prop where
  s : w3.heap[w.heap.size]? = some (bxS r)
  z : w3.heap[w.heap.size + 1]? = some bxZ
  b : Below w.heap.size w w3
  l : w.heap.size + 2 ≤ w3.heap.size
theorem bx2_new (w : World) (r : Rf) : Bx2 w ((w.alloc (bxS r)).alloc bxZ) r :=
  ⟨(Go.heap_alloc_old _ _ (by simp)).trans (heap_alloc_new w _), heap_alloc2_new w _ _, ((Below.refl _ _).alloc (Nat.le_refl _) _).alloc (by simp) _, by simp⟩
theorem Bx2.below {w w3 w' : World} {r : Rf} (h : Bx2 w w3 r) (hb : Below w3.heap.size w3 w') : Bx2 w w' r := by
  have := h.l
  exact ⟨(hb.block _ (by omega)).trans h.s, (hb.block _ (by omega)).trans h.z, h.b.trans (hb.mono h.b.size), Nat.le_trans h.l hb.size⟩
def Cells4 (w : World) (g : Nat) (r : Rf) : Prop := w.cell? ⟨g, 0, none⟩ = some (.slice r.sa r.su.length r.sc) ∧ w.cell? ⟨g, 1, none⟩ = some (.slice r.na r.nw.length r.nc) ∧ w.cell? ⟨g, 2, none⟩ = some (.int .i64 r.size) ∧ w.cell? ⟨g, 3, none⟩ = some (.int .i64 r.ep)
theorem Bx2.cells {w w3 : World} {r : Rf} (h : Bx2 w w3 r) : Cells4 w3 w.heap.size r := (row4_cells h.s).1
set_option maxRecDepth 100000 in
set_option maxHeartbeats 4000000 in
theorem commit_ref5 (r : Rf) (w : World) (h : RfAt w r) (ok : RfOk r) (hgt : freeR r < tblsE r.nw) :
    Calls Tryz.prog 26 #[r.val] w (CommitR w r 5) := by
  have HBX := Lib.hid (bx2_new w r)
  have HRA := Lib.hid h
  have HFE := Lib.hid (fun (w2 : World) (h2 : RfAt w2 r) => free_ref r w2 h2 ok)
  have HTB := Lib.hid (fun (w2 : World) (h2 : RfAt w2 r) => tables_ref r.na r.nw.length r.nc r.nw w2 h2.n rfl (by have := ok.l2; omega) ok.b2)
  generalize freeR r = F at hgt HFE
  generalize tblsE r.nw = T at hgt HTB
  unfold Rf.val at HFE ⊢
  clear h ok
  go_enter Tryz.func26, Tryz.ntmps26
  go_upto_region 1 with (fail)
  have HB2 := Lib.hid HBX.out
  generalize (w.alloc _).alloc _ = w2 at HB2 ⊢
  have KA := Lib.hid HB2.out.cells
  have KD := Lib.hid (show Cells4 w2.drew w.heap.size r from HB2.out.cells)
  have HR0 := Lib.hid (HRA.out.below HB2.out.b)
  have HRD := Lib.hid (show RfAt w2.drew r from HRA.out.below (HB2.out.b.drew))
  unfold Cells4 at KA KD
  go_region_held3 (fun w' => w'.cell? ⟨w.heap.size, 0, none⟩ = some (.slice r.sa r.su.length r.sc) ∧ w'.cell? ⟨w.heap.size, 1, none⟩ = some (.slice r.na r.nw.length r.nc) ∧ w'.cell? ⟨w.heap.size, 2, none⟩ = some (.int .i64 r.size) ∧ w'.cell? ⟨w.heap.size, 3, none⟩ = some (.int .i64 r.ep)) (first | with_reducible exact KD.out | with_reducible exact KA.out | with_reducible exact KF.out) (first | (go_at_call 63; refine (HTB.out _ (by first | with_reducible exact HRD.out | with_reducible exact HR0.out | with_reducible exact HRF.out)).mono ?_; rintro e w' ⟨rfl, rfl⟩) | (go_at_call 41; refine (HFE.out _ (by first | with_reducible exact HRD.out | with_reducible exact HR0.out)).mono ?_; rintro e wF ⟨rfl, hbF⟩; have HBF := Lib.hid (show Bx2 w wF r from (by first | exact HB2.out.below hbF | exact HB2.out.below ((show Below w2.heap.size w2 w2.drew from (Below.refl _ _).drew).trans hbF))); have KF := Lib.hid HBF.out.cells; have HRF := Lib.hid (HRA.out.below HBF.out.b); unfold Cells4 at KF))
  all_goals obtain ⟨⟨x0, x1, x2, x3⟩, y0, y1, y2, y3⟩ := row4_cells HBF.out.s
  all_goals obtain ⟨⟨z0, z1, z2, z3⟩, t0, t1, t2, t3⟩ := row4_cells HBF.out.z
  all_goals go_wp2
  all_goals obtain ⟨hrow, hbw⟩ := box_back (a0 := .slice r.sa r.su.length r.sc) (a1 := .slice r.na r.nw.length r.nc) (a2 := .int .i64 r.size) (a3 := .int .i64 r.ep) HBF.out.b (show w.heap.size ≤ w.heap.size + 1 by omega) HBF.out.z
  all_goals refine Sm.post_row_tmp Tryz.results26 (w.heap.size + 1) 36 #[.slice r.sa r.su.length r.sc, .slice r.na r.nw.length r.nc, .int .i64 r.size, .int .i64 r.ep] (0, 0) _ (.int .i64 5) Tryz.underlying36 rfl info_rs (by rfl) (by rfl) hrow (by rfl) ?_
  all_goals exact ⟨r, rfl, HRA.out.below hbw, hbw, rfl, fun _ => ⟨rfl, rfl, rfl⟩, fun q => absurd q (by decide), fun _ _ q => .inl ⟨by decide, q⟩, fun _ _ q => .inl ⟨by decide, q⟩⟩
/-- an entry that is read where the box tells its list -/
def EltAt (w : World) (g : Nat) (b o n c : Nat) (off : Nat) (y : Ent) : Prop := w.cell? ⟨g, 1, none⟩ = some (.slice (some ⟨b, off, none⟩) n c) ∧ w.cell? ⟨b, o, none⟩ = some (.int .i64 y.n) ∧ w.cell? ⟨b, o + 1, none⟩ = some (.int .u8 y.ki) ∧ w.cell? ⟨b, o + 1 + 1, none⟩ = some (.int .u32 y.nu) ∧ w.cell? ⟨b, o + 1 + 2, none⟩ = some (.int .u64 y.ep) ∧ w.cell? ⟨b, o + 1 + 3, none⟩ = some (.int .i64 y.si) ∧ w.cell? ⟨b, o + 1 + 4, none⟩ = some (.slice y.a y.q y.c)
theorem EltAt.below {w w' : World} {g b o n c off : Nat} {y : Ent} (h : EltAt w g b o n c off y) (hb : Below w.heap.size w w') : EltAt w' g b o n c off y := by
  obtain ⟨h0, h1, h2, h3, h4, h5, h6⟩ := h
  have l0 : g < w.heap.size := World.block_lt_of_cell? w _ h0
  have l1 : b < w.heap.size := World.block_lt_of_cell? w _ h1
  exact ⟨(World.cell?_of_block (hb.block _ l0)).trans h0, (World.cell?_of_block (hb.block _ l1)).trans h1, (World.cell?_of_block (hb.block _ l1)).trans h2, (World.cell?_of_block (hb.block _ l1)).trans h3, (World.cell?_of_block (hb.block _ l1)).trans h4, (World.cell?_of_block (hb.block _ l1)).trans h5, (World.cell?_of_block (hb.block _ l1)).trans h6⟩
theorem cl_len (L : List Ent) : (cl L).length = L.length := by unfold cl; rw [List.length_map]
theorem cl_take {L : List Ent} {k : Nat} (h : k < L.length) : cl (L.take (k + 1)) = cl (L.take k) ++ [{ L[k] with late := false }] := by
  unfold cl
  rw [List.take_succ_eq_append_getElem h, List.map_append]
  rfl
set_option maxRecDepth 100000 in
set_option maxHeartbeats 4000000 in
theorem commit_ref0 (r : Rf) (w : World) (h : RfAt w r) (ok : RfOk r) (hgt : ¬ freeR r < tblsE r.nw) :
    Calls Tryz.prog 26 #[r.val] w (CommitR w r 0) := by
  have HBX := Lib.hid (bx2_new w r)
  have HRA := Lib.hid h
  have HFE := Lib.hid (fun (w2 : World) (h2 : RfAt w2 r) => free_ref r w2 h2 ok)
  have HTB := Lib.hid (fun (w2 : World) (h2 : RfAt w2 r) => tables_ref r.na r.nw.length r.nc r.nw w2 h2.n rfl (by have := ok.l2; omega) ok.b2)
  have l2 := ok.l2
  have hep0 := ok.e0
  have hep1 := ok.e1
  obtain ⟨i0, hi, hz0, hz1, hz2⟩ := info_parts info_ent
  have HI := Lib.hid hi
  have HI0 := Lib.hid hz0
  have HI1 := Lib.hid hz1
  have HI2 := Lib.hid hz2
  generalize freeR r = F at hgt HFE
  generalize tblsE r.nw = T at hgt HTB
  unfold Rf.val at HFE ⊢
  clear h ok hi hz0 hz1 hz2
  go_enter Tryz.func26, Tryz.ntmps26
  go_upto_region 1 with (fail)
  have HB2 := Lib.hid HBX.out
  generalize (w.alloc _).alloc _ = w2 at HB2 ⊢
  have KA := Lib.hid HB2.out.cells
  have KD := Lib.hid (show Cells4 w2.drew w.heap.size r from HB2.out.cells)
  have HR0 := Lib.hid (HRA.out.below HB2.out.b)
  have HRD := Lib.hid (show RfAt w2.drew r from HRA.out.below (HB2.out.b.drew))
  unfold Cells4 at KA KD
  go_region_held3 (fun w' => w'.cell? ⟨w.heap.size, 0, none⟩ = some (.slice r.sa r.su.length r.sc) ∧ w'.cell? ⟨w.heap.size, 1, none⟩ = some (.slice r.na r.nw.length r.nc) ∧ w'.cell? ⟨w.heap.size, 2, none⟩ = some (.int .i64 r.size) ∧ w'.cell? ⟨w.heap.size, 3, none⟩ = some (.int .i64 r.ep)) (first | with_reducible exact KD.out | with_reducible exact KA.out | with_reducible exact KF.out) (first | (go_at_call 63; refine (HTB.out _ (by first | with_reducible exact HRD.out | with_reducible exact HR0.out | with_reducible exact HRF.out)).mono ?_; rintro e w' ⟨rfl, rfl⟩) | (go_at_call 41; refine (HFE.out _ (by first | with_reducible exact HRD.out | with_reducible exact HR0.out)).mono ?_; rintro e wF ⟨rfl, hbF⟩; have HBF := Lib.hid (show Bx2 w wF r from (by first | exact HB2.out.below hbF | exact HB2.out.below ((show Below w2.heap.size w2 w2.drew from (Below.refl _ _).drew).trans hbF))); have KF := Lib.hid HBF.out.cells; have HRF := Lib.hid (HRA.out.below HBF.out.b); unfold Cells4 at KF))
  clear KA KD KF HR0 HRD HRF HB2 HBX HFE HTB
  go_wp2_with fail
  go_loopw [4, 5] (fun v i wr => ∃ k : Nat, k ≤ r.nw.length ∧ i = .int .i64 k ∧ Hid (OwnE wr wF.heap.size v k (cl (r.nw.take k))) ∧ Hid (Below wF.heap.size wF wr)) (fun _ i _ => r.nw.length - (intOf i).toNat)
  case atStart => exact ⟨0, by omega, rfl, Lib.hid (World.ownsRow_nil _ _ _ _), Lib.hid (Below.refl _ _)⟩
  case round =>
    obtain ⟨k, hk, rfl, HO, HB⟩ := hrel
    have HBR := Lib.hid (HBF.out.below HB.out)
    have k0 : (0 : Int) ≤ (k : Int) := by omega
    by_cases hlt : k < r.nw.length
    · obtain ⟨b, off, hna, hr⟩ := (HRA.out.below HBF.out.b).n k hlt
      obtain ⟨⟨x0, x1, x2, x3⟩, _⟩ := row4_cells HBF.out.s
      rw [hna] at x1
      have HTK := Lib.hid (cl_take hlt)
      have k1 : (k : Int) < (r.nw.length : Int) := by omega
      have KW := Lib.hid (show EltAt wF w.heap.size b (off + k * 7) r.nw.length r.nc off r.nw[k] from ⟨x1, hr 0 _ rfl, hr 1 _ rfl, hr 2 _ rfl, hr 3 _ rfl, hr 4 _ rfl, hr 5 _ rfl⟩)
      clear hr hna x0 x1 x2 x3 HBR
      generalize r.nw[k] = y at KW HTK
      have hrr := KW.out.below HB.out
      unfold EltAt at hrr
      obtain ⟨x1, c0, c1, c2, c3, c4, c5⟩ := hrr
      go_upto_region 7 with (fail)
      have KA := Lib.hid (show EltAt wr w.heap.size b (off + k * 7) r.nw.length r.nc off y from KW.out.below HB.out)
      have KD := Lib.hid (show EltAt wr.drew w.heap.size b (off + k * 7) r.nw.length r.nc off y from KW.out.below HB.out.drew)
      have KG := Lib.hid (show EltAt (wr.alloc (.cells #[.int .i64 y.n, .int .u8 y.ki, .int .u32 y.nu, .int .u64 y.ep, .int .i64 y.si, .slice y.a y.q y.c, .bool false] 96)) w.heap.size b (off + k * 7) r.nw.length r.nc off y from KW.out.below (HB.out.alloc HB.out.size _))
      have KJ := Lib.hid (show EltAt ((wr.alloc (.cells #[.int .i64 y.n, .int .u8 y.ki, .int .u32 y.nu, .int .u64 y.ep, .int .i64 y.si, .slice y.a y.q y.c, .bool false] 96)).drew) w.heap.size b (off + k * 7) r.nw.length r.nc off y from KW.out.below (HB.out.alloc HB.out.size _).drew)
      have KL := Lib.hid (show EltAt (wr.drew.alloc (.cells #[.int .i64 y.n, .int .u8 y.ki, .int .u32 y.nu, .int .u64 y.ep, .int .i64 y.si, .slice y.a y.q y.c, .bool false] 96)) w.heap.size b (off + k * 7) r.nw.length r.nc off y from KW.out.below (HB.out.drew.alloc HB.out.drew.size _))
      unfold EltAt at KA KD KG KJ KL
      clear x1 c0 c1 c2 c3 c4 c5
      go_region_held3 (fun w' => w'.cell? ⟨w.heap.size, 1, none⟩ = some (.slice (some ⟨b, off, none⟩) r.nw.length r.nc) ∧ w'.cell? ⟨b, off + k * 7, none⟩ = some (.int .i64 y.n) ∧ w'.cell? ⟨b, off + k * 7 + 1, none⟩ = some (.int .u8 y.ki) ∧ w'.cell? ⟨b, off + k * 7 + 1 + 1, none⟩ = some (.int .u32 y.nu) ∧ w'.cell? ⟨b, off + k * 7 + 1 + 2, none⟩ = some (.int .u64 y.ep) ∧ w'.cell? ⟨b, off + k * 7 + 1 + 3, none⟩ = some (.int .i64 y.si) ∧ w'.cell? ⟨b, off + k * 7 + 1 + 4, none⟩ = some (.slice y.a y.q y.c)) (first | with_reducible exact KD.out | with_reducible exact KA.out | with_reducible exact KG.out | with_reducible exact KJ.out | with_reducible exact KL.out | with_reducible exact KE.out) ((refine step_appE rfl (.tmp 20) (.tmp 34) rfl wF.heap.size k _ (cl (r.nw.take k)) rfl ((show OwnE wr.drew wF.heap.size _ k (cl (r.nw.take k)) from HO.out).alloc _) (some ⟨wr.heap.size, 0, none⟩) 1 1 [{ y with late := false }] rfl rfl (fun q => by cases q) (cells7' wr.drew { y with late := false }) (by omega) (by have := HB.out.size; simp; omega) ?_; intro vA wA hoA hgA; have hbA := (HB.out.drew.alloc HB.out.drew.size (.cells #[.int .i64 y.n, .int .u8 y.ki, .int .u32 y.nu, .int .u64 y.ep, .int .i64 y.si, .slice y.a y.q y.c, .bool false] 96)).grown hgA (by have := HB.out.size; simp; omega) (fun k hk => (HO.out.lt k hk).1); have KE := Lib.hid (KW.out.below hbA); unfold EltAt at KE))
      clear KA KD KG KJ KL
      have HOA := Lib.hid (show OwnE wA wF.heap.size vA (k + 1) (cl (r.nw.take (k + 1))) by rw [HTK.out]; exact hoA)
      have HBA := Lib.hid hbA
      clear hoA hgA hbA KE HO HB KW HTK
      go_wp2
      go_roundw
      case rel => exact ⟨k + 1, by omega, by go_num, HOA, HBA⟩
      case measure => simp [intOf]; omega
    · have hkl : k = r.nw.length := by omega
      have HO1 := HO.out
      rw [hkl, List.take_length] at HO1
      have HO2 := Lib.hid HO1
      clear HO1
      obtain ⟨ao, cap, rfl, hen, _, _, hll, hlo⟩ := own_ents HO2.out
      have HEN := Lib.hid hen
      have HLO := Lib.hid hlo
      have HLL := Lib.hid hll
      have HLF := Lib.hid (show w.heap.size + 2 ≤ wF.heap.size from HBF.out.l)
      obtain ⟨⟨x0, x1, x2, x3⟩, y0, y1, y2, y3⟩ := row4_cells HBR.out.s
      obtain ⟨⟨z0, z1, z2, z3⟩, t0, t1, t2, t3⟩ := row4_cells HBR.out.z
      have hw1 : wrap64 (r.ep + 1) = r.ep + 1 := IntWalk.wrap64_in _ ⟨by omega, by omega⟩
      have hnn : ¬ (k : Int) < (r.nw.length : Int) := by omega
      clear hen hlo hll HO HO2
      go_wp2
      obtain ⟨hrow, hbw⟩ := box_back (a0 := .slice ao r.nw.length cap) (a1 := .slice ao r.nw.length cap) (a2 := .int .i64 r.size) (a3 := .int .i64 (r.ep + 1)) HBR.out.b (show w.heap.size ≤ w.heap.size + 1 by omega) HBR.out.z
      have HSA := Lib.hid (fun b (hb : b ≠ w.heap.size + 1) => heap_set4 wr (w.heap.size + 1) b (.slice ao r.nw.length cap) (.slice ao r.nw.length cap) (.int .i64 r.size) (.int .i64 (r.ep + 1)) hb)
      refine Sm.post_row_tmp Tryz.results26 (w.heap.size + 1) 36 #[.slice ao r.nw.length cap, .slice ao r.nw.length cap, .int .i64 r.size, .int .i64 (r.ep + 1)] (0, 0) _ (.int .i64 0) Tryz.underlying36 rfl info_rs (by rfl) (by rfl) hrow (by rfl) ?_
      have HEE := HEN.out.same (fun b o e => HSA.out b (by have := (HLO.out b o e).1; have := HLF.out; omega))
      exact ⟨⟨cl r.nw, cl r.nw, ao, cap, ao, cap, r.size, r.ep + 1⟩, by show _ = Ending.returned (.tuple #[.agg #[.slice ao (cl r.nw).length cap, .slice ao (cl r.nw).length cap, _, _], _]); rw [HLL.out], ⟨HEE, HEE⟩, hbw, rfl, fun q => absurd rfl q, fun _ => ⟨rfl, rfl, rfl⟩, fun b o e => .inr (by have := (HLO.out b o e).1; have := HLF.out; omega), fun b o e => .inr (by have := (HLO.out b o e).1; have := HLF.out; omega)⟩
end Go.Proofs.YtokikeenfpligaaGreatDoor
namespace Go.Proofs.YtokikeenfpligaaGreatDoor
open Go.RowKit

structure St where
  n : Nat
  D : Nat
  S : Nat
  L : Nat
  sure : Nat → Nat → Int
  now : Nat → Nat → Int
  late : Nat → Option Nat
  pv : Value
  pend : List Nat
  writes : Int
  left : Int

def St.has (s : St) (b : Nat) : Prop := b = s.D ∨ b = s.S ∨ b = s.L ∨ s.pv.ownBlock = some b ∨ ∃ i, s.late i = some b

structure St.Ok (B : Nat) (s : St) : Prop where
  n1 : s.n ≤ 16384
  bD : B ≤ s.D
  bS : B ≤ s.S
  bL : B ≤ s.L
  DS : s.D ≠ s.S
  DL : s.D ≠ s.L
  SL : s.S ≠ s.L
  lt : ∀ i b, s.late i = some b → B ≤ b ∧ b ≠ s.D ∧ b ≠ s.S ∧ b ≠ s.L ∧ s.pv.ownBlock ≠ some b
  inj : ∀ i j b, s.late i = some b → s.late j = some b → i = j
  pD : s.pv.ownBlock ≠ some s.D
  pS : s.pv.ownBlock ≠ some s.S
  pL : s.pv.ownBlock ≠ some s.L
  nd : s.pend.Nodup
  mem : ∀ i, i ∈ s.pend ↔ s.late i ≠ none
  lim : ∀ i, s.late i ≠ none → i < s.n
  l0 : -9223372036854775808 ≤ s.left
  l1 : s.left ≤ 9223372036854775807
  us : ∀ i j, 0 ≤ s.sure i j ∧ s.sure i j < 256
  un : ∀ i j, 0 ≤ s.now i j ∧ s.now i j < 256

def ptr (b : Option Nat) : Value := .pointer (b.map fun b => ⟨b, 0, none⟩)
def nats (l : List Nat) : List Value := l.map fun (i : Nat) => Value.int .i64 (i : Int)

structure DiskAt (B : Nat) (w : World) (s : St) : Prop where
  ok : s.Ok B
  d0 : w.cell? ⟨s.D, 0, none⟩ = some (.slice (some ⟨s.S, 0, none⟩) s.n s.n)
  d1 : w.cell? ⟨s.D, 1, none⟩ = some (.slice (some ⟨s.L, 0, none⟩) s.n s.n)
  d2 : w.cell? ⟨s.D, 2, none⟩ = some s.pv
  d3 : w.cell? ⟨s.D, 3, none⟩ = some (.int .i64 s.writes)
  d4 : w.cell? ⟨s.D, 4, none⟩ = some (.int .i64 s.left)
  dS : s.S < w.heap.size
  dL : s.L < w.heap.size
  fD : ∀ i, w.frozen? ⟨s.D, i, none⟩ = false
  cS : ∀ i j, i < s.n → j < 512 → w.cell? ⟨s.S, i * 512 + j, none⟩ = some (.int .u8 (s.sure i j))
  fS : ∀ i, w.frozen? ⟨s.S, i, none⟩ = false
  cL : ∀ i, i < s.n → w.cell? ⟨s.L, i, none⟩ = some (ptr (s.late i))
  fL : ∀ i, w.frozen? ⟨s.L, i, none⟩ = false
  p : w.ownsRow B 3 1 s.pv s.pend.length (nats s.pend)
  cT : ∀ i b, s.late i = some b → ∀ j, j < 512 → w.cell? ⟨b, j, none⟩ = some (.int .u8 (s.now i j))
  fT : ∀ i b, s.late i = some b → ∀ j, w.frozen? ⟨b, j, none⟩ = false

theorem DiskAt.lt {B : Nat} {w : World} {s : St} (h : DiskAt B w s) : ∀ b, s.has b → B ≤ b ∧ b < w.heap.size := by
  intro b hb
  rcases hb with rfl | rfl | rfl | hp | ⟨i, hi⟩
  · exact ⟨h.ok.bD, World.block_lt_of_cell? w _ h.d0⟩
  · exact ⟨h.ok.bS, h.dS⟩
  · exact ⟨h.ok.bL, h.dL⟩
  · exact h.p.lt b hp
  · exact ⟨(h.ok.lt i b hi).1, World.block_lt_of_cell? w _ (h.cT i b hi 0 (by omega))⟩

/-- every block of the disk is as it was -/
theorem DiskAt.same {B : Nat} {w w' : World} {s : St} (h : DiskAt B w s) (hs : w.heap.size ≤ w'.heap.size) (hb : ∀ k, s.has k → w'.heap[k]? = w.heap[k]?) : DiskAt B w' s := by
  have hc : ∀ k o, s.has k → w'.cell? ⟨k, o, none⟩ = w.cell? ⟨k, o, none⟩ := fun k o hk => World.cell?_of_block (hb k hk)
  have hf : ∀ k o, s.has k → w'.frozen? ⟨k, o, none⟩ = w.frozen? ⟨k, o, none⟩ := fun k o hk => World.frozen?_of_block (hb k hk)
  have D : s.has s.D := .inl rfl
  have S : s.has s.S := .inr (.inl rfl)
  have L : s.has s.L := .inr (.inr (.inl rfl))
  have T : ∀ i b, s.late i = some b → s.has b := fun i b hi => .inr (.inr (.inr (.inr ⟨i, hi⟩)))
  refine ⟨h.ok, ?_, ?_, ?_, ?_, ?_, Nat.lt_of_lt_of_le h.dS hs, Nat.lt_of_lt_of_le h.dL hs, ?_, ?_, ?_, ?_, ?_, ?_, ?_, ?_⟩
  · rw [hc _ _ D]; exact h.d0
  · rw [hc _ _ D]; exact h.d1
  · rw [hc _ _ D]; exact h.d2
  · rw [hc _ _ D]; exact h.d3
  · rw [hc _ _ D]; exact h.d4
  · intro i; rw [hf _ _ D]; exact h.fD i
  · intro i j hi hj; rw [hc _ _ S]; exact h.cS i j hi hj
  · intro i; rw [hf _ _ S]; exact h.fS i
  · intro i hi; rw [hc _ _ L]; exact h.cL i hi
  · intro i; rw [hf _ _ L]; exact h.fL i
  · refine ⟨h.p.1, ?_⟩
    rcases h.p.2 with hn | ⟨g, cap, cur, hv, hg, hh, r⟩
    · exact .inl hn
    · exact .inr ⟨g, cap, cur, hv, hg, by rw [hb g (.inr (.inr (.inr (.inl (by rw [hv]; rfl)))))]; exact hh, r⟩
  · intro i b hi j hj; rw [hc _ _ (T i b hi)]; exact h.cT i b hi j hj
  · intro i b hi j; rw [hf _ _ (T i b hi)]; exact h.fT i b hi j

theorem DiskAt.below {B : Nat} {w w' : World} {s : St} (h : DiskAt B w s) (hb : Below w.heap.size w w') : DiskAt B w' s :=
  h.same hb.size fun k hk => hb.block k (h.lt k hk).2

/-- from a world and a disk to another world and disk: what is no block of the disk's is as it was -/
structure Step (w : World) (s : St) (w' : World) (s' : St) : Prop where
  os : w'.os = w.os
  tape : w'.tape = w.tape
  output : w'.output = w.output
  size : w.heap.size ≤ w'.heap.size
  block : ∀ k, k < w.heap.size → ¬ s.has k → w'.heap[k]? = w.heap[k]?
  own : ∀ k, s'.has k → s.has k ∨ w.heap.size ≤ k

theorem Step.of_below {w w' : World} {s : St} (h : Below w.heap.size w w') : Step w s w' s := ⟨h.os, h.tape, h.output, h.size, fun k hk _ => h.block k hk, fun _ h => .inl h⟩
theorem Step.refl (w : World) (s : St) : Step w s w s := .of_below (Below.refl _ _)
theorem Step.trans {a b c : World} {r s t : St} (h : Step a r b s) (k : Step b s c t) : Step a r c t :=
  ⟨k.os.trans h.os, k.tape.trans h.tape, k.output.trans h.output, Nat.le_trans h.size k.size, fun i hi hn => (k.block i (Nat.lt_of_lt_of_le hi h.size) (fun hs => by rcases h.own i hs with e | e; exact hn e; omega)).trans (h.block i hi hn),
    fun i hi => by
      rcases k.own i hi with e | e
      · exact h.own i e
      · exact .inr (Nat.le_trans h.size e)⟩
theorem Step.below {B : Nat} {w w' : World} {s s' : St} (h : Step w s w' s') (hd : DiskAt B w s) : Below B w w' :=
  ⟨h.os, h.tape, h.output, h.size, fun k hk => h.block k (Nat.lt_of_lt_of_le hk (Nat.le_of_lt (Nat.lt_of_le_of_lt hd.ok.bS hd.dS))) (fun hs => by have := (hd.lt k hs).1; omega)⟩
/-- one block of the disk's is written -/
theorem Step.write {w w' : World} {s s' : St} (b : Nat) (hb : s.has b) (os : w'.os = w.os) (tape : w'.tape = w.tape) (output : w'.output = w.output) (size : w.heap.size ≤ w'.heap.size) (h : ∀ k, k < w.heap.size → k ≠ b → w'.heap[k]? = w.heap[k]?) (own : ∀ k, s'.has k → s.has k ∨ w.heap.size ≤ k) : Step w s w' s' :=
  ⟨os, tape, output, size, fun k hk hn => h k hk (fun e => hn (e ▸ hb)), own⟩
end Go.Proofs.YtokikeenfpligaaGreatDoor

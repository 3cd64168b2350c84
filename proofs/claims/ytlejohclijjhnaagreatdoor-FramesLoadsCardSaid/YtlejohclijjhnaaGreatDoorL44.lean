/-
  FOUR NUMBERS IN AN ARRAY, as equal or not. No condition.
  WALKS of canBe and follows, of frames that can be. Conditions: the store lies in memory; the frame can be; the next one follows it.
  WALK of follows, of a frame that is the next part of the one beneath. Conditions: the store lies in memory; it is so.
-/
import Derived.Test.YtlejohclijjhnaaGreatDoorProg
import Derived.RowKit
import Derived.Laws.StructEq
import Derived.Test.YtlejohclijjhnaaGreatDoorL43
namespace Go.Proofs.YtlejohclijjhnaaGreatDoor
open Go.RowKit

set_option maxRecDepth 100000 in
theorem eq4_int (d : Nat) (w : World) (a0 a1 a2 a3 b0 b1 b2 b3 : Int) :
    (Op.equalIn (d + 1 + 1) 93 (.agg #[.int .i64 a0, .int .i64 a1, .int .i64 a2, .int .i64 a3]) (.agg #[.int .i64 b0, .int .i64 b1, .int .i64 b2, .int .i64 b3])).run Tryz.prog w = .ok (a0 == b0 && (a1 == b1 && (a2 == b2 && a3 == b3))) w := by
  have hs : (sizeOf 3).run Tryz.prog w = .ok 1 w := by kernel_rfl
  have ha : (isAgg 3).run Tryz.prog w = .ok false w := by kernel_rfl
  have hp : ∀ (xs : Array Value) (i : Nat) (v : Value), xs[i]? = some v → (part 3 xs i).run Tryz.prog w = .ok v w := by
    intro xs i v h
    unfold part
    rw [Sem.run_bind, ha]
    simp [h]
  have he : ∀ a b : Int, (Op.equalIn (d + 1) 3 (.int .i64 a) (.int .i64 b)).run Tryz.prog w = .ok (a == b) w := fun a b => run_equalIn_int w d 3 .i64 .i64 a b Tryz.underlying3
  unfold Op.equalIn
  simp only [Sem.run_bind, run_underlying Tryz.underlying93, Result.andThen_ok, hs]
  have r4 : List.range' 0 4 1 = [0, 1, 2, 3] := rfl
  simp only [Std.Legacy.Range.forIn_eq_forIn_range', Std.Legacy.Range.size, Nat.sub_zero, Nat.add_sub_cancel, Nat.div_one, r4, List.forIn_cons, List.forIn_nil, Sem.run_bind, Nat.mul_one]
  have A0 := hp #[.int .i64 a0, .int .i64 a1, .int .i64 a2, .int .i64 a3] 0 (.int .i64 a0) rfl
  have A1 := hp #[.int .i64 a0, .int .i64 a1, .int .i64 a2, .int .i64 a3] 1 (.int .i64 a1) rfl
  have A2 := hp #[.int .i64 a0, .int .i64 a1, .int .i64 a2, .int .i64 a3] 2 (.int .i64 a2) rfl
  have A3 := hp #[.int .i64 a0, .int .i64 a1, .int .i64 a2, .int .i64 a3] 3 (.int .i64 a3) rfl
  have B0 := hp #[.int .i64 b0, .int .i64 b1, .int .i64 b2, .int .i64 b3] 0 (.int .i64 b0) rfl
  have B1 := hp #[.int .i64 b0, .int .i64 b1, .int .i64 b2, .int .i64 b3] 1 (.int .i64 b1) rfl
  have B2 := hp #[.int .i64 b0, .int .i64 b1, .int .i64 b2, .int .i64 b3] 2 (.int .i64 b2) rfl
  have B3 := hp #[.int .i64 b0, .int .i64 b1, .int .i64 b2, .int .i64 b3] 3 (.int .i64 b3) rfl
  simp only [A0, B0, Result.andThen_ok, he]
  cases h0 : (a0 == b0)
  · simp
  simp only [Bool.not_true, Bool.false_eq_true, if_false, Sem.run_pure, Result.andThen_ok, Sem.run_bind, A1, B1, he]
  cases h1 : (a1 == b1)
  · simp
  simp only [Bool.not_true, Bool.false_eq_true, if_false, Sem.run_pure, Result.andThen_ok, Sem.run_bind, A2, B2, he]
  cases h2 : (a2 == b2)
  · simp
  simp only [Bool.not_true, Bool.false_eq_true, if_false, Sem.run_pure, Result.andThen_ok, Sem.run_bind, A3, B3, he]
  cases h3 : (a3 == b3)
  · simp
  · simp
set_option maxRecDepth 100000 in
theorem neq4_same (a b c d : Int) (w : World) : (binOp .neq 93 (.agg #[.int .i64 a, .int .i64 b, .int .i64 c, .int .i64 d]) (.agg #[.int .i64 a, .int .i64 b, .int .i64 c, .int .i64 d])).run Tryz.prog w = .ok (.bool false) w := by
  have h := eq4_int 9998 w a b c d a b c d
  rw [run_neq_struct, show (10000 : Nat) = 9998 + 1 + 1 from rfl, h]
  simp
end Go.Proofs.YtlejohclijjhnaaGreatDoor
namespace Go.Proofs.YtlejohclijjhnaaGreatDoor.Fm
open Go.RowKit Ti Qd Go.Maps Go.WideMaps Ru

set_option maxRecDepth 100000 in
set_option maxHeartbeats 4000000 in
theorem canBe_f {B : Nat} {w : World} {P b l : Nat} {L : List Sq} {room : Nat} {Hs : Nat → Prop} {G : Nat} (hst : St B w P L room Hs) (hc : w.cell? ⟨G, 0, none⟩ = some (.pointer (some ⟨P, 0, none⟩))) (f : Fr) (h : Value) (n : Nat) (hf : FOk b l L f n) (hl : LiesI w h f.got) :
    Calls Tryz.prog 45 #[.pointer (some ⟨G, 0, none⟩), fv f h] w fun e w' => e = .returned (.bool true) ∧ Below w.heap.size w w' := by
  have HS : Hid (Bw w [(w.heap.size, fo f h)] (w.alloc (fo f h))) := Lib.hid ((bw_start w).alloc t0_fpt (fo f h) rfl)
  have HST := Lib.hid hst
  have HC := Lib.hid hc
  have HO := Lib.hid hf.lv.1
  obtain ⟨ah, ch, rfl, l1, l2, l3⟩ := hl
  obtain ⟨lev, hlev⟩ : ∃ lev, lev = (n : Int) + 4 := ⟨_, rfl⟩
  have HLE := Lib.hid (show (at' L f.id).lev = lev by rw [hf.lev, hlev])
  have h36 := hf.n36
  have HG := Lib.hid (fun w => goesOn_f lev f.j (by omega) (by omega) w)
  have hgo : goB lev f.j = true := decide_eq_true (by have := hf.j0; have := hf.j1; omega)
  rw [hgo] at HG
  have hst' := hf.st
  have hlen := hf.len
  have hlow := hf.low
  have HLV := Lib.hid (show ∀ i, i < f.got.length → Ok L (gv f.got i) ∧ (at' L (gv f.got i)).lev = lev - 2 from fun i hi => by
    rw [gv_at hi]
    match n, hf, hlev with
    | 0, hf, _ => have := hf.low rfl; rw [this] at hi; exact absurd hi (Nat.not_lt_zero _)
    | m + 1, hf, hlev =>
      have := (hf.got m rfl _ _ _ (Wn.self hf.lv) i hi).1
      exact ⟨this.1, by have := this.2; omega⟩)
  have HLI := Lib.hid (show ∀ i, i < f.got.length → ∃ bb off, ah = some ⟨bb, off, none⟩ ∧ w.cell? ⟨bb, off + i, none⟩ = some (.int .i64 (gv f.got i)) from fun i hi => by rw [gv_at hi]; exact l3 i hi)
  clear l3
  obtain ⟨id, j, st, got⟩ := f
  simp only at *
  subst hst'
  generalize hgl : got.length = k at *
  have hpa : ¬ parts lev < (k : Int) := by
    unfold parts
    split
    · have : got = [] := hlow (by omega)
      rw [this] at hgl
      simp at hgl
      omega
    · omega
  have HPA := Lib.hid (fun w => partsOf_f lev w)
  generalize parts lev = pl at *
  have hkk : (k : Int) ≤ 13 := by omega
  have hl0 : (4 : Int) ≤ lev := by omega
  have hl1 : lev ≤ 40 := by omega
  clear hst hc hf hlev h36 hgo hlow hgl hlen
  go_enter Tryz.func45, Tryz.ntmps45
  go_upto_region 1 with (fail)
  generalize World.alloc _ _ = W at HS ⊢
  have HD := Lib.hid (HS.out.drew t0_fpt)
  have KD := Lib.hid (And.intro (cell_bel HC.out HD.out.bel) (row4 HD.out.b0).1)
  have HLV0 := Lib.hid (level_is (HST.out.bel HD.out.bel) id HO.out lev HLE.out)
  go_region_held3 (fun w' => w'.cell? ⟨G, 0, none⟩ = some (.pointer (some ⟨P, 0, none⟩)) ∧ w'.cell? ⟨w.heap.size, 0, none⟩ = some (.int .i64 id)) (first | with_reducible exact KD.out | with_reducible exact ks)
    (first
      | (go_at_call 21; with_reducible refine HLV0.out.mono ?_; rintro e w1 ⟨rfl, hb⟩; have HS1 := Lib.hid (HD.out.below t0_fpt hb); have ks := And.intro (cell_bel KD.out.1 hb) (cell_bel KD.out.2 hb); clear hb))
  clear ks KD HLV0 HD HS
  go_upto_region 2 with (fail)
  obtain ⟨a0, a1, a2, a3⟩ := row4 HS1.out.b0
  go_quiet (first | (go_at_call 22; exact Calls.quiet_of_same ((HG.out _).mono fun _ _ ⟨h, e⟩ => ⟨h, e.symm⟩)) | (go_at_call 52; exact Calls.quiet_of_same ((HPA.out _).mono fun _ _ ⟨h, e⟩ => ⟨h, e.symm⟩)))
  have HS2 := Lib.hid (HS1.out.below t0_fpt (Below.drewN' (Below.refl _ _) nq))
  clear HS1 a0 a1 a2 a3
  generalize w1.drewN nq = W1 at HS2 ⊢
  obtain ⟨a0, a1, a2, a3⟩ := row4 HS2.out.b0
  go_wp2
  clear a0 a1 a2 a3
  go_loopw [48] (fun v wr => ∃ i : Nat, i ≤ k ∧ v = .int .i64 (i : Int) ∧ Hid (Bw w [(w.heap.size, fo ⟨id, j, k, got⟩ (.slice ah k ch))] wr)) (fun v _ => k - (intOf v).toNat)
  case atStart => exact ⟨0, Nat.zero_le _, rfl, HS2⟩
  case round =>
    clear HS2
    obtain ⟨i, hi, rfl, HR⟩ := hrel
    by_cases hlt : i < k
    · have hi64 : (i : Int) ≤ 13 := by omega
      obtain ⟨bb, off, rfl, hcell⟩ := HLI.out i hlt
      obtain ⟨ho, hv⟩ := HLV.out i hlt
      have hcw := cell_bel hcell HR.out.bel
      have hp := cell_bel HC.out HR.out.bel
      have HL1 := Lib.hid (level_is (HST.out.bel HR.out.bel) (gv got i) ho (lev - 2) hv)
      generalize gv got i = gi at *
      have hki : (i : Int) < (k : Int) := by omega
      clear hcell ho hv
      go_wp2_with fail
      refine HL1.out.mono ?_
      rintro e w2 ⟨rfl, hb⟩
      have HR2 := Lib.hid (HR.out.below t0_fpt hb)
      clear hb HR HL1
      go_wp2
      go_roundw
      case rel => exact ⟨i + 1, by omega, by go_num, HR2⟩
      case measure => simp [intOf]; omega
    · obtain rfl : i = k := by omega
      go_wp2
      go_ret
      exact ⟨rfl, HR.out.bel⟩
end Go.Proofs.YtlejohclijjhnaaGreatDoor.Fm
namespace Go.Proofs.YtlejohclijjhnaaGreatDoor.Fm
open Go.RowKit Ti Qd Go.Maps Go.WideMaps Ru

abbrev box4' (a b c d : Int) : Obj := .cells #[.int .i64 a, .int .i64 b, .int .i64 c, .int .i64 d] 93
theorem box_after {W w' : World} {o : Obj} (hb : Below (W.alloc o).drew.heap.size (W.alloc o).drew w') : w'.heap[W.heap.size]? = some o :=
  (hb.block _ (by show W.heap.size < (W.alloc o).heap.size; simp)).trans (heap_alloc_new W o)
theorem run_eq4 (a0 a1 a2 a3 : Int) (w : World) : (binOp .eql 93 (.agg #[.int .i64 a0, .int .i64 a1, .int .i64 a2, .int .i64 a3]) (.agg #[.int .i64 a0, .int .i64 a1, .int .i64 a2, .int .i64 a3])).run Tryz.prog w = .ok (.bool true) w := by
  have h := eq4_int 9998 w a0 a1 a2 a3 a0 a1 a2 a3
  rw [run_eql_struct, show (10000 : Nat) = 9998 + 1 + 1 from rfl, h]
  simp
set_option maxRecDepth 100000 in
set_option maxHeartbeats 4000000 in
theorem follows_f {B : Nat} {w : World} {P b l : Nat} {L : List Sq} {room : Nat} {Hs : Nat → Prop} {G : Nat} (hst : St B w P L room Hs) (hc : w.cell? ⟨G, 0, none⟩ = some (.pointer (some ⟨P, 0, none⟩))) (f g : Fr) (hb hg : Value) (n m : Nat) (hf : FOk b l L f n) (hl : LiesI w hb f.got) (hlg : LiesI w hg g.got) (hfo : Fol L f g) (hk : Lv L (m + 1) g.id) :
    Calls Tryz.prog 46 #[.pointer (some ⟨G, 0, none⟩), fv f hb, fv g hg] w fun e w' => e = .returned (.bool true) ∧ Below w.heap.size w w' := by
  have HS : Hid (Bw w [(w.heap.size + 1, fo g hg), (w.heap.size, fo f hb)] ((w.alloc (fo f hb)).alloc (fo g hg))) := Lib.hid (((bw_start w).alloc t0_fpt (fo f hb) rfl).alloc t0_fpt (fo g hg) (n := w.heap.size + 1) (by simp))
  have HST := Lib.hid hst
  have HC := Lib.hid hc
  have hl2 := hl
  obtain ⟨ah, ch, rfl, hz1⟩ := hl2
  obtain ⟨ag, cg, rfl, hz2⟩ := hlg
  obtain ⟨x, ⟨hx, hxk⟩, hs, hj⟩ := hfo
  obtain ⟨x0, hx0⟩ : ∃ y, y = x.f 0 := ⟨_, rfl⟩
  obtain ⟨x1, hx1⟩ : ∃ y, y = x.f 1 := ⟨_, rfl⟩
  obtain ⟨x2, hx2⟩ : ∃ y, y = x.f 2 := ⟨_, rfl⟩
  obtain ⟨x3, hx3⟩ : ∃ y, y = x.f 3 := ⟨_, rfl⟩
  have k0 : (at' L g.id).k0 = x0 := by rw [hx0]; exact hxk 0 (by decide)
  have k1 : (at' L g.id).k1 = x1 := by rw [hx1]; exact hxk 1 (by decide)
  have k2 : (at' L g.id).k2 = x2 := by rw [hx2]; exact hxk 2 (by decide)
  have k3 : (at' L g.id).k3 = x3 := by rw [hx3]; exact hxk 3 (by decide)
  have HNX := Lib.hid (fun (W : World) (hW : Below w.heap.size w W) => show Calls Tryz.prog 34 #[.pointer (some ⟨G, 0, none⟩), fv f (.slice ah f.got.length ch)] W fun e w' => e = .returned (.tuple #[pv x0 x1 x2 x3 x.j false, .bool true, .nilIface]) ∧ Below W.heap.size W w' from by
    have := next_yes (hst.bel hW) (cell_bel hc hW) f (.slice ah f.got.length ch) n hf (hl.bel hW) x hx
    rw [hx0, hx1, hx2, hx3, ← hs]
    exact this)
  have HKI := Lib.hid (fun (W : World) (hW : Below w.heap.size w W) => show Calls Tryz.prog 64 #[.pointer (some ⟨P, 0, none⟩), .int .i64 g.id] W fun e w' => e = .returned (.tuple #[.agg #[.int .i64 x0, .int .i64 x1, .int .i64 x2, .int .i64 x3], .nilIface]) ∧ Below W.heap.size W w' from by
    have := kids_ok (hst.bel hW) m g.id hk _ rfl
    rw [k0, k1, k2, k3] at this
    exact this)
  have he4 := fun w => run_eq4 x0 x1 x2 x3 w
  clear hz1 hz2 hst hc hf hl hx hxk hs hk hx0 hx1 hx2 hx3 k0 k1 k2 k3
  obtain ⟨gid, gj, gst, ggot⟩ := g
  obtain ⟨fid, fj, fst', fgot⟩ := f
  simp only at *
  subst hj
  generalize x.j = xj at *
  generalize ggot.length = gl at *
  generalize fgot.length = fl at *
  go_enter Tryz.func46, Tryz.ntmps46
  go_upto_region 1 with (fail)
  generalize World.alloc _ _ = W at HS ⊢
  obtain ⟨a0, a1, a2, a3⟩ := row4 HS.out.b1
  have HC1 := Lib.hid (HNX.out W HS.out.bel)
  go_wp2_with fail
  refine HC1.out.mono ?_
  rintro e w2 ⟨rfl, hb⟩
  have HS2 := Lib.hid ((HS.out.below t0_fpt hb).alloc t0_fpt (po x0 x1 x2 x3 xj false) rfl)
  clear hb a0 a1 a2 a3 HC1 HS HNX
  go_upto_region 2 with (fail)
  generalize hg4 : w2.heap.size = g4 at *
  clear hg4
  generalize World.alloc _ _ = W2 at HS2 ⊢
  obtain ⟨⟨b0, b1, b2, b3, b4, b5⟩, _, _, _, _, _, _⟩ := row6 HS2.out.b0
  obtain ⟨a0, a1, a2, a3⟩ := row4 HS2.out.b1
  go_upto_region 4 with (fail)
  clear a0 a1 a2 a3 b0 b1 b2 b3 b4 b5
  have HB2 := Lib.hid HS2.out.bel
  have c0 := cell_bel HC.out HS2.out.bel
  have d0 := (row4 HS2.out.b1).1
  have n1 := World.new_ne W2 _ c0
  have n2 := World.new_ne W2 _ d0
  have KA := Lib.hid (And.intro c0 d0)
  have KD := Lib.hid (show W2.drew.cell? ⟨G, 0, none⟩ = some (.pointer (some ⟨P, 0, none⟩)) ∧ W2.drew.cell? ⟨w.heap.size + 1, 0, none⟩ = some (.int .i64 gid) from ⟨c0, d0⟩)
  have KE := Lib.hid (show (W2.alloc (.cells #[.int .i64 0, .int .i64 0, .int .i64 0, .int .i64 0] 93)).drew.cell? ⟨G, 0, none⟩ = some (.pointer (some ⟨P, 0, none⟩)) ∧ (W2.alloc (.cells #[.int .i64 0, .int .i64 0, .int .i64 0, .int .i64 0] 93)).drew.cell? ⟨w.heap.size + 1, 0, none⟩ = some (.int .i64 gid) from ⟨cell_al _ c0, cell_al _ d0⟩)
  have HBD := Lib.hid (show Below w.heap.size w W2.drew from HB2.out.drew)
  have HBE := Lib.hid (show Below w.heap.size w (W2.alloc (.cells #[.int .i64 0, .int .i64 0, .int .i64 0, .int .i64 0] 93)).drew from (HB2.out.trans ((alX W2 _).mono HB2.out.size)).drew)
  go_region_held3 (fun w' => w'.cell? ⟨G, 0, none⟩ = some (.pointer (some ⟨P, 0, none⟩)) ∧ w'.cell? ⟨w.heap.size + 1, 0, none⟩ = some (.int .i64 gid)) (first | with_reducible exact KA.out | with_reducible exact KD.out | with_reducible exact KE.out | with_reducible exact ks | go_keep)
    (first
      | (go_at_call 64; refine (HKI.out _ (by first | with_reducible exact HBD.out | with_reducible exact HBE.out)).mono ?_; rintro e w3 ⟨rfl, hb⟩; have ks := And.intro (cell_bel (by first | with_reducible exact KD.out.1 | with_reducible exact KE.out.1) hb) (cell_bel (by first | with_reducible exact KD.out.2 | with_reducible exact KE.out.2) hb); (first | (have z := box_after hb; obtain ⟨z0, z1, z2, z3⟩ := row4 z; have y0 := frozen_of_row _ _ 0 _ _ z; have y1 := frozen_of_row _ _ 1 _ _ z; have y2 := frozen_of_row _ _ 2 _ _ z; have y3 := frozen_of_row _ _ 3 _ _ z) | skip); have m1 := World.new_ne w3 _ ks.1; have m2 := World.new_ne w3 _ ks.2))
  · have HS3 := Lib.hid (((HS2.out.drew t0_fpt).below t0_fpt hb).alloc t0_fpt (box4' x0 x1 x2 x3) rfl)
    rename_i hHeld
    clear hHeld ks hb m1 m2 n1 n2 c0 d0 KA KD KE HBD HBE HB2 HS2 HKI
    generalize hg5 : w3.heap.size = g5 at *
    clear hg5
    unfold box4' at HS3
    generalize World.alloc w3 _ = W3 at HS3 ⊢
    obtain ⟨a0, a1, a2, a3⟩ := row4 HS3.out.b0
    obtain ⟨⟨b0, b1, b2, b3, b4, b5⟩, _, _, _, _, _, _⟩ := row6 HS3.out.b1
    go_upto_region 5 with (fail)
    go_wp2
    go_ret
    exact ⟨rfl, HS3.out.bel⟩
  · have q := ((HS2.out.alloc t0_fpt (box4' 0 0 0 0) rfl).drew t0_fpt).below t0_fpt hb
    have HS3 := Lib.hid (q.put t0_fpt (g := W2.heap.size) (o' := box4' x0 x1 x2 x3) (w' := set4 w3 W2.heap.size (.int .i64 x0) (.int .i64 x1) (.int .i64 x2) (.int .i64 x3)) (fun y hy => by
      unfold set4
      rw [Go.RowKit.Below.heap_setCell _ _ _ _ hy, Go.RowKit.Below.heap_setCell _ _ _ _ hy, Go.RowKit.Below.heap_setCell _ _ _ _ hy, Go.RowKit.Below.heap_setCell _ _ _ _ hy]) (row_set4 q.b0 _ _ _ _) rfl rfl rfl (by unfold set4; simp))
    rename_i hHeld
    clear hHeld ks hb m1 m2 n1 n2 c0 d0 KA KD KE HBD HBE HB2 HS2 HKI z z0 z1 z2 z3 y0 y1 y2 y3 q
    generalize hg5 : W2.heap.size = g5 at *
    clear hg5
    unfold set4 at HS3
    generalize World.setCell (World.setCell (World.setCell (World.setCell w3 _ _) _ _) _ _) _ _ = W3 at HS3 ⊢
    obtain ⟨a0, a1, a2, a3⟩ := row4 HS3.out.b0
    obtain ⟨⟨b0, b1, b2, b3, b4, b5⟩, _, _, _, _, _, _⟩ := row6 HS3.out.b1
    go_upto_region 5 with (fail)
    go_wp2
    go_ret
    exact ⟨rfl, HS3.out.bel⟩
end Go.Proofs.YtlejohclijjhnaaGreatDoor.Fm

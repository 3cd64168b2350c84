/-
  THE STATEMENT's same: all that both tell is the same. Conditions: both lie in memory, and are the same.
-/
import Derived.Test.YtfhnnfheonkneaaDoorRn
namespace Go.Proofs.YtfhnnfheonkneaaDoor
open Go.RowKit Go.Maps

section
variable {W w0 w : World} {N p D : Nat} {X : Px} {H : Nat → Prop}
theorem loads_from (h : Pl W N w0 p D X H) (hb : Below w0.heap.size w0 w) : Calls Tryd.prog 29 #[.pointer (some ⟨p, 0, none⟩)] w fun e w' => e = .returned (.int .i64 X.loads) ∧ w = w' := by
  obtain ⟨μ, h1, rfl, rfl, rfl, rfl, h6⟩ := h.below hb
  exact loads_any μ w h1
theorem writes_from (h : Pl W N w0 p D X H) (hb : Below w0.heap.size w0 w) : Calls Tryd.prog 30 #[.pointer (some ⟨D, 0, none⟩)] w fun e w' => e = .returned (.int .i64 X.d.writes) ∧ w = w' := by
  obtain ⟨μ, h1, rfl, rfl, rfl, rfl, h6⟩ := h.below hb
  rw [h1.core.t.writes]
  exact writes_any μ.s w h1.core.d
theorem pend_from (h : Pl W N w0 p D X H) (hb : Below w0.heap.size w0 w) : Calls Tryd.prog 31 #[.pointer (some ⟨D, 0, none⟩)] w (IntsF w0 (X.d.pend.map fun (n : Nat) => (n : Int)) X.d.pend.length w) := by
  obtain ⟨μ, h1, rfl, rfl, rfl, rfl, h6⟩ := h.below hb
  have e : μ.X.d.pend = μ.s.pend := h1.core.t.pend
  exact (pending_any μ.s w h1.core.d).mono fun _ _ ⟨ao, cap, he, hi, _, hb2⟩ => ⟨ao, cap, by rw [e]; exact he, by rw [e]; exact hi, hb.trans (hb2.mono hb.size), hb2⟩
theorem dread_from (h : Pl W N w0 p D X H) (hb : Below w0.heap.size w0 w) (i : Nat) (hi : i < X.d.n) : Calls Tryd.prog 14 #[.pointer (some ⟨D, 0, none⟩), .int .i64 i] w fun e w' => ∃ g cap, e = .returned (.tuple #[.slice (some ⟨g, 0, none⟩) 512 cap, .nilIface]) ∧ Lies w' (some ⟨g, 0, none⟩) (nums (X.d.cur i)) ∧ Below w0.heap.size w0 w' := by
  obtain ⟨μ, h1, rfl, rfl, rfl, rfl, h6⟩ := h.below hb
  have hin : i < μ.s.n := by have := h1.core.t.n; omega
  exact (read_any μ.s i w h1.core.d hin).mono fun _ _ ⟨g, cap, he, hl, _, _, hb2⟩ => ⟨g, cap, he, by rw [cur_is h1 hin]; exact hl, hb.trans (hb2.mono hb.size)⟩
end
theorem low3 {w w' : World} {P : Nat} {a b c : Value} (hb : Below w.heap.size w w') (h : w.cell? ⟨P, 7, none⟩ = some a ∧ w.cell? ⟨P, 3, none⟩ = some b ∧ w.cell? ⟨P, 2, none⟩ = some c) : w'.cell? ⟨P, 7, none⟩ = some a ∧ w'.cell? ⟨P, 3, none⟩ = some b ∧ w'.cell? ⟨P, 2, none⟩ = some c := by
  have hc : ∀ j v, w.cell? ⟨P, j, none⟩ = some v → w'.cell? ⟨P, j, none⟩ = some v := fun j v hv => (hb.cell (p := ⟨P, j, none⟩) (World.block_lt_of_cell? w _ hv)).trans hv
  exact ⟨hc _ _ h.1, hc _ _ h.2.1, hc _ _ h.2.2⟩
structure SmS (w0 wr : World) (X : Px) (k : Nat) (f d : Value) : Prop where
  rf : wr.ownsRow w0.heap.size 3 1 f k (il (X.secs k))
  rd : wr.ownsRow w0.heap.size 3 1 d (X.dirt k).length (il (X.dirt k))
  ne : ∀ b, f.ownBlock = some b → d.ownBlock ≠ some b
  b : Below w0.heap.size w0 wr
theorem sm_push {w0 wr w2 : World} {X : Px} {k : Nat} {f d f2 : Value} (S : SmS w0 wr X k f d) (ho : w2.ownsRow w0.heap.size 3 1 f2 (k + 1) (il (X.secs k) ++ [.int .i64 (X.fr k).i])) (hg : (wr.alloc (.cells #[.int .i64 (X.fr k).i] 3)).grownBy w2 f.ownBlock) (hb : ∀ q, f2.ownBlock = some q → f.ownBlock = some q ∨ (wr.alloc (.cells #[.int .i64 (X.fr k).i] 3)).heap.size ≤ q) :
    w2.ownsRow w0.heap.size 3 1 f2 (k + 1) (il (X.secs (k + 1))) ∧ w2.ownsRow w0.heap.size 3 1 d (X.dirt k).length (il (X.dirt k)) ∧ (∀ b, f2.ownBlock = some b → d.ownBlock ≠ some b) ∧ Below w0.heap.size w0 w2 := by
  have hs := S.b.size
  refine ⟨by rw [← secs_next]; exact ho, (S.rd.alloc _).kept hg ?_, fun b hfb hdb => ?_, (S.b.alloc hs _).grown hg (by simp; omega) (fun j hj => ((S.rf.alloc (.cells #[.int .i64 (X.fr k).i] 3)).lt j hj).1)⟩
  · cases e : d.ownBlock with
    | none => exact .inl rfl
    | some q => exact .inr (fun e2 => S.ne q (e2.symm) e)
  · rcases hb b hfb with q | q
    · exact S.ne b q hdb
    · have := (S.rd.lt b hdb).2
      simp at q
      omega
theorem sm_push2 {w0 wr w2 : World} {X : Px} {k : Nat} {f d d2 : Value} (hf : wr.ownsRow w0.heap.size 3 1 f (k + 1) (il (X.secs (k + 1)))) (hd : wr.ownsRow w0.heap.size 3 1 d (X.dirt k).length (il (X.dirt k))) (ne : ∀ b, f.ownBlock = some b → d.ownBlock ≠ some b) (hbb : Below w0.heap.size w0 wr) (hdk : (X.fr k).d = true) (ho : w2.ownsRow w0.heap.size 3 1 d2 ((X.dirt k).length + 1) (il (X.dirt k) ++ [.int .i64 (k : Int)])) (hg : (wr.alloc (.cells #[.int .i64 (k : Int)] 3)).grownBy w2 d.ownBlock) (hb : ∀ q, d2.ownBlock = some q → d.ownBlock = some q ∨ (wr.alloc (.cells #[.int .i64 (k : Int)] 3)).heap.size ≤ q) : SmS w0 w2 X (k + 1) f d2 := by
  have hs := hbb.size
  have e := dirt_yes hdk
  have hl : (X.dirt (k + 1)).length = (X.dirt k).length + 1 := by have := congrArg List.length e; simpa [il] using this.symm
  refine ⟨(hf.alloc _).kept hg ?_, by rw [hl, ← e]; exact ho, fun b hfb hdb => ?_, (hbb.alloc hs _).grown hg (by simp; omega) (fun j hj => ((hd.alloc (.cells #[.int .i64 (k : Int)] 3)).lt j hj).1)⟩
  · cases e : f.ownBlock with
    | none => exact .inl rfl
    | some q => exact .inr (fun e2 => ne q e e2.symm)
  · rcases hb b hdb with q | q
    · exact ne b hfb q
    · have := (hf.lt b hfb).2
      simp at q
      omega
theorem one_int (w : World) (x : Int) : (w.alloc (.cells #[.int .i64 x] 3)).cell? ⟨w.heap.size, 0, none⟩ = some (.int .i64 x) := by
  rw [cell_of_row _ _ _ _ _ _ (heap_alloc_new w _)]; rfl
set_option maxRecDepth 100000 in
set_option maxHeartbeats 3000000 in
theorem same_any {W w : World} {N p D : Nat} {H : Nat → Prop} {l : List Nat} (ρ : Rp) (h : Bo W w N p D ρ.X ρ l H) :
    Calls Tryd.prog 10 #[.pointer (some ⟨D, 0, none⟩), .pointer (some ⟨p, 0, none⟩), .agg ρ.cs] w fun e w' => e = .returned (.bool true) ∧ Below w.heap.size w w' := by
  have E := enter1 h.ok
  have HP := Lib.hid E.1
  have HOK := Lib.hid E.2.ok
  have HB := Lib.hid E.2.below
  have HPL := Lib.hid (h.pl.below E.2.below)
  have k3 := h.ok.fits
  clear E h
  go_enter Tryd.func10, Tryd.ntmps10
  go_upto_region 1 with (fail)
  change Code.wp _ _ _ _ (w.alloc (.cells ρ.cs 38))
  generalize w.alloc (.cells ρ.cs 38) = w0 at HP HOK HB HPL ⊢
  go_wp2
  go_loopw [7, 8, 9] (fun f d x wr => ∃ k : Nat, k ≤ ρ.X.m ∧ x = .int .i64 (k : Int) ∧ Hid (SmS w0 wr ρ.X k f d)) (fun _ _ x _ => ρ.X.m - (intOf x).toNat)
  case atStart => exact ⟨0, by omega, rfl, Lib.hid ⟨World.ownsRow_nil _ _ _ _, World.ownsRow_nil _ _ _ _, fun b hb => (by cases hb), Below.refl _ _⟩⟩
  case round =>
    obtain ⟨k, hk, rfl, S⟩ := hrel
    have c5 := (HP.out.below S.out.b).c5
    by_cases hlt : k < ρ.X.m
    · have k0 : (0 : Int) ≤ (k : Int) := by omega
      have k1 : (k : Int) < (ρ.X.m : Int) := by omega
      have hr := (HOK.out.below S.out.b).row
      have g0 := hr.at0 hlt
      have HLT := Lib.hid hlt
      go_upto_region 6 with (first | (at_builtin; refine wpList_push rfl (.tmp 20) (.tmp 27) rfl w0.heap.size k u7 (il (ρ.X.secs k)) rfl (S.out.rf.alloc _) wr.heap.size 0 (ρ.X.fr k).i rfl (one_int _ _) (by omega) (by have := S.out.b.size; simp; omega) ?_; intro f2 w2 ho hg hbk; obtain ⟨s1, s2, s3, s4⟩ := sm_push S.out ho hg hbk; have HS1 := Lib.hid s1; have HS2 := Lib.hid s2; have HS3 := Lib.hid s3; have HS4 := Lib.hid s4; have d5 := (HP.out.below s4).c5; have g2 := (HOK.out.below s4).row.at2 HLT.out; clear ho hg hbk s1 s2 s3 s4))
      clear g0 hr c5
      cases hd : (ρ.X.fr k).d
      · rw [hd] at g2
        have HD := Lib.hid (dirt_no hd)
        clear hd
        go_wp2
        go_roundw
        case rel => exact ⟨k + 1, by omega, by go_num, Lib.hid ⟨HS1.out, by rw [HD.out]; exact HS2.out, HS3.out, HS4.out⟩⟩
        case measure => simp [intOf]; omega
      · rw [hd] at g2
        have HD := Lib.hid hd
        have hle := dirt_len ρ.X k
        clear hd
        go_wp2_with (first | (at_builtin; refine wpList_push rfl (.tmp 35) (.tmp 37) rfl w0.heap.size (ρ.X.dirt k).length u8 (il (ρ.X.dirt k)) rfl (HS2.out.alloc _) w2.heap.size 0 (k : Int) rfl (one_int _ _) (by omega) (by have := HS4.out.size; simp; omega) ?_; intro d2 w3 ho hg hbk; have S3 := Lib.hid (sm_push2 HS1.out HS2.out HS3.out HS4.out HD.out ho hg hbk); clear ho hg hbk))
        go_roundw
        case rel => exact ⟨k + 1, by omega, by go_num, S3⟩
        case measure => simp [intOf]; omega
    · obtain rfl : k = ρ.X.m := by omega
      obtain ⟨aF, cF, rfl, hiF, hcF, _⟩ := own_ints S.out.rf
      obtain ⟨aD, cD, rfl, hiD, hcD, _⟩ := own_ints S.out.rd
      have HIF := Lib.hid hiF
      have HID := Lib.hid hiD
      have HBR := Lib.hid S.out.b
      have HPW := Lib.hid (HPL.out.below S.out.b)
      have HOW := Lib.hid (HOK.out.below S.out.b)
      have HPP := Lib.hid (HP.out.below S.out.b)
      have HIP := Lib.hid HOW.out.r.p
      have tp : ρ.r.pend = ρ.X.d.pend := HOW.out.t.pend
      have c7 := HPP.out.c7
      have c3 := HPP.out.c3
      have c2 := HPP.out.c2
      rw [HOW.out.t.writes] at c3
      rw [tp] at c2 HIP
      have H3 := Lib.hid (show wr.cell? ⟨w.heap.size, 7, none⟩ = some (.int .i64 ρ.X.loads) ∧ wr.cell? ⟨w.heap.size, 3, none⟩ = some (.int .i64 ρ.X.d.writes) ∧ wr.cell? ⟨w.heap.size, 2, none⟩ = some (.slice ρ.r.pa ρ.X.d.pend.length ρ.r.pc) from ⟨c7, c3, c2⟩)
      have HL1 := Lib.hid (secs_len ρ.X ρ.X.m)
      have HL2 := Lib.hid (show (ρ.X.dirt ρ.X.m).length ≤ 9223372036854775807 by have := dirt_len ρ.X ρ.X.m; omega)
      have HL3 := Lib.hid (show (ρ.X.d.pend.map fun (n : Nat) => (n : Int)).length = ρ.X.d.pend.length by rw [List.length_map])
      have HL4 := Lib.hid (show ρ.X.d.pend.length ≤ 9223372036854775807 by have := HOW.out.r.len; rw [tp] at this; omega)
      have b0 : Below wr.heap.size wr wr.drew := (Below.refl _ _).drew
      clear S c7 c3 c2 tp hiF hiD
      obtain ⟨nd, hnd⟩ : ∃ nd, (ρ.X.dirt ρ.X.m).length = nd := ⟨_, rfl⟩
      have HND := Lib.hid hnd
      rw [hnd]
      have HL5 := Lib.hid (show nd ≤ 9223372036854775807 by have := HL2.out; omega)
      clear hnd
      go_upto_region 8 with (fail)
      clear c5
      go_region_held3 (fun w' => w'.cell? ⟨w.heap.size, 7, none⟩ = some (.int .i64 ρ.X.loads) ∧ w'.cell? ⟨w.heap.size, 3, none⟩ = some (.int .i64 ρ.X.d.writes) ∧ w'.cell? ⟨w.heap.size, 2, none⟩ = some (.slice ρ.r.pa ρ.X.d.pend.length ρ.r.pc)) (with_reducible exact low3 (by assumption) H3.out) (first | (go_at_call 16; refine (frames_from HPW.out (by assumption) (ρ.X.secs ρ.X.m) ρ.X.m rfl HL1.out).mono ?_; rintro e w6 ⟨a1, n1, rfl, hx1, hb6, hc6⟩) | (go_at_call 17; refine (dirty_from HPW.out (by assumption) (ρ.X.dirt ρ.X.m) nd rfl HND.out).mono ?_; rintro e w7 ⟨a2, n2, rfl, hx2, hb7, hc7⟩) | (go_at_call 29; refine (loads_from HPW.out (by assumption)).mono ?_; rintro e w8 ⟨rfl, rfl⟩) | (go_at_call 30; refine (writes_from HPW.out (by assumption)).mono ?_; rintro e w9 ⟨rfl, rfl⟩) | (go_at_call 31; refine (pend_from HPW.out (by assumption)).mono ?_; rintro e wa ⟨a3, n3, rfl, hx3, hba, hca⟩) | (go_at_call 15; (with_reducible refine (ints_w0 (w0 := wr) (by assumption) _ aF _ _ cF (ρ.X.secs ρ.X.m) (by assumption) (HIF.out.below (by assumption)) HL1.out (by omega)).mono ?_); rintro e wb ⟨rfl, hbb⟩) | (go_at_call 15; (with_reducible refine (ints_w0 (w0 := wr) (by assumption) _ aD _ _ cD (ρ.X.dirt ρ.X.m) (by assumption) (HID.out.below (by assumption)) HND.out HL5.out).mono ?_); rintro e wc ⟨rfl, hbc⟩) | (go_at_call 15; (with_reducible refine (ints_w0 (w0 := wr) (by assumption) _ ρ.r.pa _ _ ρ.r.pc (ρ.X.d.pend.map fun (n : Nat) => (n : Int)) (by assumption) (HIP.out.below (by assumption)) HL3.out HL4.out).mono ?_); rintro e wd ⟨rfl, hbd⟩))
      have HBD := Lib.hid hbd
      clear hb6 hc6 hb7 hc7 hba hca hbb hbc hx1 hx2 hx3 hbd b0
      go_wp2
      go_loopw [10] (fun x wq => ∃ i : Nat, i ≤ ρ.X.d.n ∧ x = .int .i64 (i : Int) ∧ Hid (Below wr.heap.size wr wq)) (fun x _ => ρ.X.d.n - (intOf x).toNat)
      case atStart => exact ⟨0, by omega, rfl, HBD⟩
      case round =>
        obtain ⟨i, hi, rfl, B⟩ := hrel
        have c0 := (HPP.out.below B.out).c0
        rw [HOW.out.t.n] at c0
        by_cases hlt2 : i < ρ.X.d.n
        · have i0 : (0 : Int) ≤ (i : Int) := by omega
          have i1 : (i : Int) < (ρ.X.d.n : Int) := by omega
          have n4 : (ρ.X.d.n : Int) ≤ 100 := by have := HOW.out.r.n1.2; rw [HOW.out.t.n] at this; omega
          have HI := Lib.hid hlt2
          go_upto_region 14 with (first | (go_at_call 14; refine (dread_from HPW.out B.out i HI.out).mono ?_; rintro e w5 ⟨g, cap, rfl, hl, hb5⟩; have HL5 := Lib.hid hl; have HB5 := Lib.hid hb5; clear hl hb5))
          clear c0
          have d0 := (HPP.out.below HB5.out).c0
          rw [HOW.out.t.n] at d0
          have t0 := ((HOW.out.below HB5.out).text HI.out).1
          have hcv : ∀ q, (convert 60 9 (.slice (some ⟨g, 0, none⟩) 512 cap)).run Tryd.prog (w5.drewN q) = .ok (.string (ρ.X.d.cur i)) (w5.drewN q) := fun q => conv_t (HL5.out.drewN q) ((HOW.out.below HB5.out).text HI.out).2
          go_quiet (fail)
          go_wp2
          go_roundw
          case rel => exact ⟨i + 1, by omega, by go_num, Lib.hid (HB5.out.trans ((below_drewN w5 _).mono HB5.out.size))⟩
          case measure => simp [intOf]; omega
        · obtain rfl : i = ρ.X.d.n := by omega
          go_wp2
          go_ret
          exact ⟨rfl, HB.out.trans ((HBR.out.trans (B.out.mono HBR.out.size)).mono HB.out.size)⟩
end Go.Proofs.YtfhnnfheonkneaaDoor

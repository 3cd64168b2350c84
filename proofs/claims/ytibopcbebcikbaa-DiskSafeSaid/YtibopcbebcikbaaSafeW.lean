/-
  THE WALK of DiskSafe: it is true of all lists of acts and all texts. Conditions: the lists could be read; the text's length is Go's.
-/
import Derived.Test.YtibopcbebcikbaaActs
import Derived.Deep.CutBlock
import Derived.Deep.DeepCutAuto
namespace Go.Proofs.Ytibopcbebcikbaa
open Go.RowKit

/-- int(uint(a) % m) -/
theorem red_bd (a m : Int) (hm : 0 < m) (hm2 : m ≤ 9223372036854775807) : 0 ≤ wrap64 ((IntKind.u64.wrap a).tmod m) ∧ wrap64 ((IntKind.u64.wrap a).tmod m) < m := by
  have h0 := wrap_u64_nonneg a
  rw [Int.tmod_eq_emod_of_nonneg h0]
  have h1 := Int.emod_nonneg (IntKind.u64.wrap a) (show m ≠ 0 by omega)
  have h2 := Int.emod_lt_of_pos (IntKind.u64.wrap a) hm
  rw [IntWalk.wrap64_in _ ⟨by omega, by omega⟩]
  exact ⟨h1, h2⟩
theorem red_nat (a m : Int) (hm : 0 < m) (hm2 : m ≤ 9223372036854775807) : ∃ k : Nat, wrap64 ((IntKind.u64.wrap a).tmod m) = k ∧ (k : Int) < m := by
  have := red_bd a m hm hm2
  exact ⟨(wrap64 ((IntKind.u64.wrap a).tmod m)).toNat, by omega, by omega⟩
/-- an act's fields, read in a later world -/
structure ActCells (w : World) (b o : Nat) (A : ActV) : Prop where
  c0 : w.cell? ⟨b, o, none⟩ = some (.int .i64 A.kind)
  c1 : w.cell? ⟨b, o + 1, none⟩ = some (.int .i64 A.i)
  c2 : w.cell? ⟨b, o + 2, none⟩ = some (.string A.b)
  c3 : w.cell? ⟨b, o + 3, none⟩ = some (.slice A.ka A.kn A.kc)
  c4 : w.cell? ⟨b, o + 4, none⟩ = some (.int .i64 A.torn)
  c5 : w.cell? ⟨b, o + 5, none⟩ = some (.int .i64 A.part)
theorem act_cells {W w : World} {b o : Nat} {A : ActV} (h : W.rangeAt b o A.cells) (hb : Below W.heap.size W w) : ActCells w b o A := by
  have g : ∀ j v, A.cells[j]? = some v → w.cell? ⟨b, o + j, none⟩ = some v := fun j v hv => (hb.cell (p := ⟨b, o + j, none⟩) (World.block_lt_of_cell? W _ (h j v hv))).trans (h j v hv)
  exact ⟨g 0 _ rfl, g 1 _ rfl, g 2 _ rfl, g 3 _ rfl, g 4 _ rfl, g 5 _ rfl⟩
structure Inv1 (i : Nat) (s : St) : Prop where
  n : s.n = 5
  left : s.left = -1
  w0 : 0 ≤ s.writes
  w1 : s.writes ≤ (i : Int)

theorem own_snoc {w : World} {B y : Nat} {v : Value} {ks : List Int} (h : w.ownsRow B 3 1 v (ks.length + 1) (il ks ++ [.int .i64 (y : Int)])) : w.ownsRow B 3 1 v (ks ++ [(y : Int)]).length (il (ks ++ [(y : Int)])) := by
  have e : il (ks ++ [(y : Int)]) = il ks ++ [.int .i64 (y : Int)] := by simp [il]
  rw [List.length_append, e]
  exact h
/-- what is kept so far: places below y, none of them j -/
structure KeepInv (y j : Nat) (ks : List Int) : Prop where
  all : ∀ k ∈ ks, 0 ≤ k ∧ k < (y : Int) ∧ k ≠ (j : Int)
  nd : ks.Nodup
  len : ks.length ≤ y
theorem KeepInv.skip {y j : Nat} {ks : List Int} (h : KeepInv y j ks) : KeepInv (y + 1) j ks :=
  ⟨fun k hk => ⟨(h.all k hk).1, by have := (h.all k hk).2.1; omega, (h.all k hk).2.2⟩, h.nd, by have := h.len; omega⟩
theorem KeepInv.put {y j : Nat} {ks : List Int} (h : KeepInv y j ks) (hy : y ≠ j) : KeepInv (y + 1) j (ks ++ [(y : Int)]) := by
  refine ⟨fun k hk => ?_, ?_, by rw [List.length_append]; have := h.len; simp; omega⟩
  · rw [List.mem_append, List.mem_singleton] at hk
    rcases hk with hk | rfl
    · exact h.skip.all k hk
    · exact ⟨by omega, by omega, by omega⟩
  · rw [List.nodup_append]
    exact ⟨h.nd, by simp, fun a ha b hb e => by
      obtain rfl : b = (y : Int) := by simpa using hb
      have := (h.all a ha).2.1
      omega⟩
theorem KeepInv.fit {m j : Nat} {ks : List Int} (h : KeepInv m j ks) (hj : j < m) : fitOk m ks j :=
  ⟨⟨fun k hk => ⟨(h.all k hk).1, (h.all k hk).2.1⟩, h.nd⟩, .inr ⟨by omega, by omega, fun e => (h.all _ e).2.2 rfl⟩⟩
/-- sector 4 is sure to be that text -/
structure Inv2 (i : Nat) (b : ByteArray) (s : St) : Prop where
  n : s.n = 5
  left : s.left = -1
  w0 : 0 ≤ s.writes
  w1 : s.writes ≤ (i : Int) + 40
  late : s.late 4 = none
  sure : ∀ j, j < 512 → s.sure 4 j = txt (sec b) j
theorem Inv2.cur {i : Nat} {b : ByteArray} {s : St} (h : Inv2 i b s) (j : Nat) (hj : j < 512) : s.cur 4 j = txt (sec b) j := by
  unfold St.cur
  rw [h.late]
  exact h.sure j hj
theorem Inv2.wrote {i q : Nat} {b : ByteArray} {s s' : St} {f : Nat → Int} (h : Inv2 i b s) (hw : Wrote s q f s') (hq : q < 4) : Inv2 (i + 1) b s' :=
  ⟨by rw [hw.n, h.n], by rw [hw.left, h.left]; rfl, by rw [hw.writes]; have := h.w0; omega, by rw [hw.writes]; have := h.w1; omega, by rw [hw.lateo 4 (by omega)]; exact h.late, fun j hj => by rw [hw.sure]; exact h.sure j hj⟩
theorem Inv2.flush {i : Nat} {b : ByteArray} {s : St} {B : Nat} (h : Inv2 i b s) (o : s.Ok B) : Inv2 (i + 1) b s.flush :=
  ⟨h.n, h.left, h.w0, by show s.writes ≤ _; have := h.w1; omega, rfl, fun j hj => by rw [flush_sure o 4 j hj]; exact h.cur j hj⟩
theorem Inv2.crash {i : Nat} {b : ByteArray} {s : St} {B : Nat} (h : Inv2 i b s) (o : s.Ok B) (ks : List Int) (t : Int) (q : Nat) (hf : fitOk s.pend.length ks t) : Inv2 (i + 1) b (s.crash ks t q) := by
  have h4 : 4 ∉ s.pend := fun e => (o.mem 4).1 e h.late
  have hg : ∀ k : Int, 0 ≤ k → k < s.pend.length → s.pend.getD k.toNat 0 ≠ 4 := by
    intro k k0 k1 e
    have hk : k.toNat < s.pend.length := by omega
    have e2 : s.pend.getD k.toNat 0 = s.pend[k.toNat] := by simp [hk]
    rw [e2] at e
    exact h4 (e ▸ List.getElem_mem hk)
  have hs : ∀ j, ((s.kept ks).torn t q).sure 4 j = s.sure 4 j := by
    intro j
    have e1 : (s.kept ks).sure 4 j = s.sure 4 j := by
      show (if 4 ∈ ks.map (fun k => s.pend.getD k.toNat 0) ∧ j < 512 then s.now 4 j else s.sure 4 j) = _
      rw [if_neg]
      rintro ⟨hm, _⟩
      obtain ⟨k, hk, e⟩ := List.mem_map.1 hm
      exact hg k (hf.1.1 k hk).1 (hf.1.1 k hk).2 e
    unfold St.torn
    by_cases c : t = -1
    · rw [if_pos c]; exact e1
    · rw [if_neg c]
      have hr := hf.2.resolve_left c
      exact (if_neg (fun e => hg t hr.1 hr.2.1 e.symm)).trans e1
  have hD : ∀ x : St, (x.torn t q).n = x.n ∧ (x.torn t q).writes = x.writes := by
    intro x
    unfold St.torn
    by_cases c : t = -1
    · rw [if_pos c]; exact ⟨rfl, rfl⟩
    · rw [if_neg c]; exact ⟨rfl, rfl⟩
  exact ⟨(hD _).1.trans h.n, rfl, by show 0 ≤ ((s.kept ks).torn t q).writes; rw [(hD _).2]; exact h.w0, by show ((s.kept ks).torn t q).writes ≤ _; rw [(hD _).2]; show s.writes ≤ _; have := h.w1; omega, rfl, fun j hj => (hs j).trans (h.sure j hj)⟩
set_option maxRecDepth 100000 in
set_option maxHeartbeats 4000000 in
theorem safe_walk (a1 : Option Addr) (n1 c1 : Nat) (l1 : Nat → ActV) (a2 : Option Addr) (n2 c2 : Nat) (l2 : Nat → ActV) (b : ByteArray) (W : World) (h1 : IsActs W a1 n1 l1) (h2 : IsActs W a2 n2 l2) (wb : b.size ≤ maxLen) :
    Calls Try.prog 3 #[.slice a1 n1 c1, .slice a2 n2 c2, .string b] W fun e w' => e = .returned (.bool true) ∧ Below W.heap.size W w' := by
  unfold maxLen at wb
  by_cases hbig : 512 < b.size
  · clear h1 h2
    go_enter Try.func3, Try.ntmps3
    go_wp2_with (go_at_call 5; refine (sure_any _).mono ?_; rintro e wk ⟨rfl, hb2⟩)
    go_ret
    exact ⟨rfl, hb2⟩
  have cB := conv_512 (sec b) (sec_size (by omega))
  have n1m := h1.1
  have n2m := h2.1
  have H1 := Lib.hid h1.2
  have H2 := Lib.hid h2.2
  clear h1 h2
  go_enter Try.func3, Try.ntmps3
  go_upto_block 0 with (first | (go_at_call 6; refine (new_at 5 5 _ rfl (by omega) (by omega)).mono ?_; rintro e wa ⟨p, s0, rfl, ha, hn⟩; have HA := Lib.hid ha; have HN := Lib.hid hn; clear ha hn))
  go_cut [] (fun wx => ∃ s, At W wx p s ∧ Inv1 30 s)
  case first =>
    go_wp2
    go_loopw [9] (fun x wr => ∃ (i : Nat) (s : St), i ≤ n1 ∧ i ≤ 30 ∧ x = .int .i64 i ∧ At W wr p s ∧ Inv1 i s) (fun x _ => 30 - (intOf x).toNat)
    case atStart => exact ⟨0, s0, by omega, by omega, rfl, HA.out, ⟨HN.out.n, HN.out.left, by rw [HN.out.writes]; omega, by rw [HN.out.writes]; omega⟩⟩
    case round =>
      obtain ⟨i, s, hi, hi2, rfl, ha, hinv⟩ := hrel
      have HS := Lib.hid ha
      have HV := Lib.hid hinv
      clear ha hinv
      by_cases hlt : i < n1 ∧ i < 30
      · obtain ⟨q1, q2⟩ := hlt
        obtain ⟨bb, o, rfl, hr, hok⟩ := H1.out i q1
        have q1' : (i : Int) < (n1 : Int) := by omega
        have q2' : (i : Int) < 30 := by omega
        have i0 : (0 : Int) ≤ (i : Int) := by omega
        have AC := act_cells hr HS.out.b
        obtain ⟨g0, g1, g2, g3, g4, g5⟩ := AC
        obtain ⟨kd, hk1, hk2⟩ := red_nat (l1 i).kind 7 (by omega) (by omega)
        obtain ⟨ki, hj1, hj2⟩ := red_nat (l1 i).i 5 (by omega) (by omega)
        have HJ1 := Lib.hid (show IntKind.i64.wrap ((IntKind.u64.wrap (l1 i).i).tmod 5) = ki by rw [IntWalk.i64_left]; exact hj1)
        have HJ2 := Lib.hid (show ki < 5 by omega)
        have HOK := Lib.hid hok
        have HSB := Lib.hid hok.b
        clear hr hok
        generalize l1 i = A at *
        by_cases hw : kd < 3 ∧ A.b.size ≤ 512
        · obtain ⟨hw1, hw2⟩ := hw
          have hw1' : (kd : Int) < 3 := by omega
          have hw2' : (A.b.size : Int) ≤ 512 := by omega
          have cA := conv_512 (sec A.b) (sec_size hw2)
          have X1 := actObj_cell wr A 1 _ rfl
          have X2 := actObj_cell wr A 2 _ rfl
          have NF := Lib.hid (new_free HS.out)
          have AX := HS.out.below (alX wr (actObj A))
          unfold actObj at X1 X2 AX
          go_wp2
          generalize wr.alloc (.cells #[.int .i64 A.kind, .int .i64 A.i, .string A.b, .slice A.ka A.kn A.kc, .int .i64 A.torn, .int .i64 A.part] 31) = wX at X1 X2 AX ⊢
          have N0 : Now W p wX s wX.drew s := (Now.first AX).drew
          clear AX g0 g1 g2 g3 g4 g5
          go_region_with (first | (go_at_call 8; refine (sector_now (by assumption) _ HSB.out).mono ?_; rintro e w5 ⟨rfl, n5⟩; have y1 := n5.cell X1 NF.out; have y2 := (n5.below (bw_below w5 (sec A.b))).cell X1 NF.out) | (go_at_call 7; refine (write_now n5 ki _ _ _ (sec_size hw2) (by first | with_reducible rfl | exact HJ1.out) (by rw [HV.out.n]; exact HJ2.out) (by rw [HV.out.left]; decide) HV.out.w0 (by have := HV.out.w1; omega)).mono ?_; rintro e w6 ⟨rfl, s1, n6, k6⟩))
          all_goals have HN6 := Lib.hid n6.a
          all_goals have HV6 : Hid (Inv1 (i + 1) s1) := Lib.hid ⟨by rw [k6.n, HV.out.n], by rw [k6.left, HV.out.left]; rfl, by rw [k6.writes]; have := HV.out.w0; omega, by rw [k6.writes]; have := HV.out.w1; omega⟩
          all_goals clear n6 k6 n5 N0 X1 X2
          all_goals go_wp2
          all_goals go_roundw
          all_goals first | exact ⟨i + 1, s1, by omega, by omega, by go_num, HN6.out, HV6.out⟩ | (simp [intOf]; omega)
        · have HS2 := Lib.hid (HS.out.below (alX wr (actObj A)))
          have HV2 : Hid (Inv1 (i + 1) s) := Lib.hid ⟨HV.out.n, HV.out.left, HV.out.w0, by have := HV.out.w1; omega⟩
          by_cases hw1 : kd < 3
          · have hw1' : (kd : Int) < 3 := by omega
            have hw2' : ¬ (A.b.size : Int) ≤ 512 := by omega
            go_wp2
            go_roundw
            case rel => exact ⟨i + 1, s, by omega, by omega, by go_num, HS2.out, HV2.out⟩
            case measure => simp [intOf]; omega
          · have hw1' : ¬ (kd : Int) < 3 := by omega
            go_wp2
            go_roundw
            case rel => exact ⟨i + 1, s, by omega, by omega, by go_num, HS2.out, HV2.out⟩
            case measure => simp [intOf]; omega
      · by_cases q1 : i < n1
        · have q1' : (i : Int) < (n1 : Int) := by omega
          have q2' : ¬ (i : Int) < 30 := by omega
          go_wp2
          go_meet
          case rel => exact ⟨s, HS.out, ⟨HV.out.n, HV.out.left, HV.out.w0, by have := HV.out.w1; omega⟩⟩
        · have q1' : ¬ (i : Int) < (n1 : Int) := by omega
          go_wp2
          go_meet
          case rel => exact ⟨s, HS.out, ⟨HV.out.n, HV.out.left, HV.out.w0, by have := HV.out.w1; omega⟩⟩
  case rest =>
    obtain ⟨s1, ha, hv⟩ := hcut
    have HB := Lib.hid ha
    have HV := Lib.hid hv
    clear ha hv HA HN H1
    go_upto_region 14 with (first | (go_at_call 8; refine (sector_at s1 _ _ HB.out (by omega)).mono ?_; rintro e wc ⟨rfl, hb, _⟩; have HC := Lib.hid hb; clear hb HB) | (go_at_call 7; refine (write_at s1 4 _ _ _ _ (sec_size (by omega)) HC.out rfl (by rw [HV.out.n]; omega) (by rw [HV.out.left]; decide) HV.out.w0 (by have := HV.out.w1; omega)).mono ?_; rintro e wd ⟨rfl, s2, h1, k1, _⟩; have HD := Lib.hid h1; have K1 := Lib.hid k1; clear h1 k1 HC) | (go_at_call 9; refine (flush_at s2 _ HD.out).mono ?_; rintro e we ⟨rfl, h1, _⟩; have HE := Lib.hid h1; clear h1))
    have HV3 : Hid (Inv2 0 b s2.flush) := Lib.hid ⟨by show s2.n = 5; rw [K1.out.n, HV.out.n], by show s2.left = -1; rw [K1.out.left, HV.out.left]; rfl, by show 0 ≤ s2.writes; rw [K1.out.writes]; have := HV.out.w0; omega, by show s2.writes ≤ _; rw [K1.out.writes]; have := HV.out.w1; omega, rfl, fun j hj => by rw [flush_sure HD.out.d.ok 4 j hj, K1.out.cur, if_pos rfl]⟩
    clear HD K1 HV
    go_upto_block 2 with (fail)
    go_cut [] (fun wx => ∃ s, At W wx p s)
    case rest =>
      obtain ⟨s3, ha⟩ := hcut
      have HZ := Lib.hid ha
      clear ha
      go_wp2_with (go_at_call 5; refine (sure_any _).mono ?_; rintro e wk ⟨rfl, hb2⟩)
      go_ret
      exact ⟨rfl, (HZ.out.below hb2).b⟩
    case first =>
      go_wp2
      go_loopw [11] (fun x wr => ∃ (i : Nat) (s : St), i ≤ n2 ∧ i ≤ 30 ∧ x = .int .i64 i ∧ At W wr p s ∧ Inv2 i b s) (fun x _ => 30 - (intOf x).toNat)
      case atStart => exact ⟨0, _, by omega, by omega, rfl, HE.out, HV3.out⟩
      case round =>
        obtain ⟨i, s, hi, hi2, rfl, ha, hinv⟩ := hrel
        have HS := Lib.hid ha
        have HV := Lib.hid hinv
        clear ha hinv HV3 HE
        by_cases hlt : i < n2 ∧ i < 30
        · obtain ⟨q1, q2⟩ := hlt
          obtain ⟨bb, o, rfl, hr, hok⟩ := H2.out i q1
          have q1' : (i : Int) < (n2 : Int) := by omega
          have q2' : (i : Int) < 30 := by omega
          have i0 : (0 : Int) ≤ (i : Int) := by omega
          obtain ⟨g0, g1, g2, g3, g4, g5⟩ := act_cells hr HS.out.b
          have HSB := Lib.hid hok.b
          have HOK := Lib.hid hok
          clear hr hok
          generalize l2 i = A at *
          have X0 := actObj_cell wr A 0 _ rfl
          have X1 := actObj_cell wr A 1 _ rfl
          have X2 := actObj_cell wr A 2 _ rfl
          have X4 := actObj_cell wr A 4 _ rfl
          have X5 := actObj_cell wr A 5 _ rfl
          have NF := Lib.hid (new_free HS.out)
          have AX := HS.out.below (alX wr (actObj A))
          unfold actObj at X0 X1 X2 X4 X5 AX
          go_upto_region 18 with (fail)
          generalize wr.alloc (.cells #[.int .i64 A.kind, .int .i64 A.i, .string A.b, .slice A.ka A.kn A.kc, .int .i64 A.torn, .int .i64 A.part] 31) = wX at X0 X1 X2 X4 X5 AX ⊢
          clear g0 g1 g2 g3 g4 g5
          have hwX := World.block_lt_of_cell? wX _ X0
          change wr.heap.size < wX.heap.size at hwX
          generalize wr.heap.size = ab at X0 X1 X2 X4 X5 NF hwX ⊢
          have HAX := Lib.hid AX
          clear AX
          obtain ⟨kd, hk1, hk2⟩ := red_nat A.kind 7 (by omega) (by omega)
          have HP5 := Lib.hid (show s.pend.length ≤ 5 by have := pend_le HAX.out.d.ok; rw [HV.out.n] at this; exact this)
          go_upto_block 4 with (go_at_call 10; refine (pend_at s _ HAX.out).mono ?_; rintro e w1 ⟨ao, cap, rfl, _, h1, hb⟩; have HY := Lib.hid h1; have y0 := (hb.cell (p := ⟨ab, 0, none⟩) hwX).trans X0; have y1 := (hb.cell (p := ⟨ab, 1, none⟩) hwX).trans X1; have y2 := (hb.cell (p := ⟨ab, 2, none⟩) hwX).trans X2; have y4 := (hb.cell (p := ⟨ab, 4, none⟩) hwX).trans X4; have y5 := (hb.cell (p := ⟨ab, 5, none⟩) hwX).trans X5; have hw1 : ab < w1.heap.size := Nat.lt_of_lt_of_le hwX hb.size; clear h1 hb)
          clear X0 X1 X2 X4 X5 HAX hwX
          go_cut [13, 14] (fun _ _ wx => ∃ s', At W wx p s' ∧ Inv2 (i + 1) b s')
          case rest =>
            obtain ⟨s', ha, hv⟩ := hcut
            have HR := Lib.hid ha
            have HW := Lib.hid hv
            clear ha hv y0 y1 y2 y4 y5 HY HS HV hk1 hk2
            go_wp2_with (go_at_call 12; refine (read_at s' 4 _ _ HR.out rfl (by rw [HW.out.n]; omega)).mono ?_; rintro e w2 ⟨g, cap2, rfl, hl, _, hng, h1, _⟩; have LA := Lib.hid hl; have HP := Lib.hid h1; have HNG := Lib.hid hng; clear h1 hl hng)
            have N0 : Now W p w2 s' w2.drew s' := (Now.first HP.out).drew
            go_region_held3 (fun w' => (convert 34 9 (.slice (some ⟨g, 0, none⟩) 512 cap2)).run Try.prog w' = .ok (.string (sec b)) w') (exact conv_row (Now.lies (by assumption) LA.out HNG.out) (sec_size (by omega)) HW.out.cur) ((go_at_call 8; refine (sector_now (by assumption) _ (by omega)).mono ?_; rintro e w3 ⟨rfl, n3⟩))
            have HN3 := Lib.hid n3.a
            clear n3 N0
            go_wp2
            go_roundw
            case rel => exact ⟨i + 1, s', by omega, by omega, by go_num, HN3.out, HW.out⟩
            case measure => simp [intOf]; omega
          case first =>
            have HK1 := Lib.hid hk1
            by_cases hA : kd = 4 ∧ 0 < s.pend.length
            · obtain ⟨hA1, hA2⟩ := hA
              have hk4 : wrap64 ((IntKind.u64.wrap A.kind).tmod 7) = 4 := by rw [hk1, hA1]; rfl
              rw [hk4]
              clear hk1 hk4 HK1
              generalize hM : s.pend.length = m at hA2 HP5 ⊢
              have HMM := Lib.hid hM
              clear hM
              have hm0 : (0 : Int) < (m : Int) := by omega
              have hm5 : (m : Int) ≤ 5 := by have := HP5.out; omega
              obtain ⟨j, hj1, hj2⟩ := red_nat A.torn m hm0 (by omega)
              obtain ⟨q, hq1, hq2⟩ := red_nat A.part 513 (by omega) (by omega)
              have hmw : IntKind.u64.wrap (m : Int) = (m : Int) := by rw [IntKind.wrap_u64]; omega
              have hmz : ((m : Int) == 0) = false := by rw [beq_eq_false_iff_ne]; omega
              have j0 : (0 : Int) ≤ (j : Int) := by omega
              have hjm : j < m := by omega
              have hq3 : q ≤ 512 := by omega
              have HQ1 := Lib.hid hq1
              go_upto_block 5 with (fail)
              rw [hj1]
              clear hj1
              go_wp2
              go_loopw [16, 17] (fun v x wz => ∃ (y : Nat) (ks : List Int), y ≤ m ∧ x = .int .i64 y ∧ wz.ownsRow w1.heap.size 3 1 v ks.length (il ks) ∧ Below w1.heap.size w1 wz ∧ KeepInv y j ks) (fun _ x _ => m - (intOf x).toNat)
              case atStart => exact ⟨0, [], by omega, rfl, World.ownsRow_nil _ _ _ _, Below.refl _ _, ⟨by simp, by simp, by simp⟩⟩
              case round =>
                obtain ⟨y, ks, hy, rfl, hown, hbl, hki⟩ := hrel
                have HO := Lib.hid hown
                have HBL := Lib.hid hbl
                have HKI := Lib.hid hki
                have z5 := (hbl.cell (p := ⟨ab, 5, none⟩) hw1).trans y5
                clear hown hbl hki
                by_cases hlt : y < m
                · have hlt' : (y : Int) < (m : Int) := by omega
                  have y0' : (0 : Int) ≤ (y : Int) := by omega
                  by_cases hyj : y = j
                  · have HN := Lib.hid (HKI.out.skip)
                    subst hyj
                    go_wp2
                    go_roundw
                    case rel => exact ⟨y + 1, ks, by omega, by go_num, HO.out, HBL.out, HN.out⟩
                    case measure => simp [intOf]; omega
                  · have e1 : ((y : Int) == (j : Int)) = false := by rw [beq_eq_false_iff_ne]; omega
                    have e2 : ((y : Int) != (j : Int)) = true := by simp; omega
                    go_wp2_with (at_builtin; refine wpList_push rfl (.tmp 135) (.tmp 137) rfl w1.heap.size ks.length _ (il ks) rfl (HO.out.alloc _) wr.heap.size 0 y rfl (by rw [cell_of_row _ _ _ _ _ _ (heap_alloc_new wr _)]; rfl) (by have := HKI.out.len; omega) (by have := HBL.out.size; simp; omega) ?_; intro v2 w2 hown2 hg2 hv2)
                    · have HO2 := Lib.hid (own_snoc hown2)
                      have HB2 : Hid (Below w1.heap.size w1 w2) := Lib.hid ((HBL.out.alloc HBL.out.size _).grown hg2 (by have := HBL.out.size; simp; omega) (fun q hq => (HO.out.lt q hq).1))
                      have HN := Lib.hid (HKI.out.put hyj)
                      clear hown2 hg2 hv2
                      go_wp2
                      go_roundw
                      case rel => exact ⟨y + 1, ks ++ [(y : Int)], by omega, by go_num, HO2.out, HB2.out, HN.out⟩
                      case measure => simp [intOf]; omega
                    · have HN := Lib.hid (HKI.out.skip)
                      go_roundw
                      case rel => exact ⟨y + 1, ks, by omega, by go_num, HO.out, HBL.out, HN.out⟩
                      case measure => simp [intOf]; omega
                · obtain rfl : y = m := by omega
                  obtain ⟨ao, cap, hv, hint, _, hlen⟩ := own_ints HO.out
                  subst hv
                  have HFR : Hid (∀ b off, ao = some ⟨b, off, none⟩ → ¬ s.has b) := Lib.hid (fun b off e hs => by
                    have e1 := (HO.out.lt b (by rw [e]; rfl)).1
                    have e2 := (HY.out.d.lt b hs).2
                    omega)
                  have HIN := Lib.hid hint
                  have HFT := Lib.hid (HKI.out.fit hjm)
                  have HY2 := Lib.hid (HY.out.below HBL.out)
                  have hks : ks.length ≤ 5 := by have := HKI.out.len; omega
                  clear hint hlen HO
                  go_wp2_with (first | (go_at_call 11; refine (crash_ok s ao ks.length cap ks j _ q _ HY2.out HIN.out rfl (by omega) HFR.out (by first | with_reducible rfl | exact HQ1.out) hq3 (by rw [HMM.out]; exact HFT.out)).mono ?_; rintro e w3 ⟨rfl, h1, _⟩; have HZ := Lib.hid h1; clear h1 HY2) | (go_at_call 10; refine (pend_at (s.crash ks j q) _ HZ.out).mono ?_; rintro e w4 ⟨ao4, cap4, rfl, _, h1, _⟩; rw [show (s.crash ks j q).pend.length = 0 from rfl]; have HF := Lib.hid h1; clear h1))
                  go_meet
                  case rel => exact ⟨s.crash ks j q, HF.out, HV.out.crash HY.out.d.ok ks j q (by rw [HMM.out]; exact HFT.out)⟩
            · by_cases hB : kd = 3
              · have hk4 : wrap64 ((IntKind.u64.wrap A.kind).tmod 7) = 3 := by rw [hk1, hB]; rfl
                rw [hk4]
                clear hk1 hk4 HK1 hA
                go_wp2_with (first | (go_at_call 9; refine (flush_at s _ HY.out).mono ?_; rintro e w3 ⟨rfl, h1, _⟩; have HZ := Lib.hid h1; clear h1) | (go_at_call 10; refine (pend_at s.flush _ HZ.out).mono ?_; rintro e w4 ⟨ao4, cap4, rfl, _, h1, _⟩; rw [show s.flush.pend.length = 0 from rfl]; have HF := Lib.hid h1; clear h1))
                go_meet
                case rel => exact ⟨s.flush, HF.out, HV.out.flush HY.out.d.ok⟩
              · have hC : ((kd : Int) == 4) = false ∧ ((kd : Int) == 3) = false ∨ kd = 4 ∧ s.pend.length = 0 := by
                  by_cases h4 : kd = 4
                  · exact .inr ⟨h4, by omega⟩
                  · exact .inl ⟨by rw [beq_eq_false_iff_ne]; omega, by rw [beq_eq_false_iff_ne]; omega⟩
                have HN1 : Hid (Inv2 (i + 1) b s) := Lib.hid ⟨HV.out.n, HV.out.left, HV.out.w0, by have := HV.out.w1; omega, HV.out.late, HV.out.sure⟩
                rw [hk1]
                clear hk1 HK1 hA hB
                obtain ⟨ki, hj1, hj2⟩ := red_nat A.i 4 (by omega) (by omega)
                have HJ1 := Lib.hid (show IntKind.i64.wrap ((IntKind.u64.wrap A.i).tmod 4) = ki by rw [IntWalk.i64_left]; exact hj1)
                have HJ2 := Lib.hid (show ki < 4 by omega)
                by_cases hw2 : A.b.size ≤ 512
                · have hw2' : (A.b.size : Int) ≤ 512 := by omega
                  have cA := conv_512 (sec A.b) (sec_size hw2)
                  rcases hC with ⟨hc1, hc2⟩ | ⟨hc1, hc2⟩
                  · go_wp2
                    have N0 : Now W p w1 s w1.drew s := (Now.first HY.out).drew
                    go_region_with (first | (go_at_call 8; refine (sector_now (by assumption) _ HSB.out).mono ?_; rintro e w5 ⟨rfl, n5⟩; have v1 := n5.cell y1 NF.out; have v2 := (n5.below (bw_below w5 (sec A.b))).cell y1 NF.out) | (go_at_call 7; refine (write_now n5 ki _ _ _ (sec_size hw2) (by first | with_reducible rfl | exact HJ1.out) (by rw [HV.out.n]; have := HJ2.out; omega) (by rw [HV.out.left]; decide) HV.out.w0 (by have := HV.out.w1; omega)).mono ?_; rintro e w6 ⟨rfl, s1, n6, k6⟩))
                    all_goals have HN6 := Lib.hid n6.a
                    all_goals have HV6 := Lib.hid (HV.out.wrote k6 HJ2.out)
                    all_goals clear n6 k6 n5 N0
                    all_goals go_wp2
                    all_goals go_meet
                    all_goals exact ⟨s1, HN6.out, HV6.out⟩
                  · rw [hc1, hc2]
                    clear hc1 hc2
                    go_wp2
                    have N0 : Now W p w1 s w1.drew s := (Now.first HY.out).drew
                    go_region_with (first | (go_at_call 8; refine (sector_now (by assumption) _ HSB.out).mono ?_; rintro e w5 ⟨rfl, n5⟩; have v1 := n5.cell y1 NF.out; have v2 := (n5.below (bw_below w5 (sec A.b))).cell y1 NF.out) | (go_at_call 7; refine (write_now n5 ki _ _ _ (sec_size hw2) (by first | with_reducible rfl | exact HJ1.out) (by rw [HV.out.n]; have := HJ2.out; omega) (by rw [HV.out.left]; decide) HV.out.w0 (by have := HV.out.w1; omega)).mono ?_; rintro e w6 ⟨rfl, s1, n6, k6⟩))
                    all_goals have HN6 := Lib.hid n6.a
                    all_goals have HV6 := Lib.hid (HV.out.wrote k6 HJ2.out)
                    all_goals clear n6 k6 n5 N0
                    all_goals go_wp2
                    all_goals go_meet
                    all_goals exact ⟨s1, HN6.out, HV6.out⟩
                · have hw2' : ¬ (A.b.size : Int) ≤ 512 := by omega
                  rcases hC with ⟨hc1, hc2⟩ | ⟨hc1, hc2⟩
                  · go_wp2
                    go_meet
                    case rel => exact ⟨s, HY.out, HN1.out⟩
                  · rw [hc1, hc2]
                    clear hc1 hc2
                    go_wp2
                    go_meet
                    case rel => exact ⟨s, HY.out, HN1.out⟩
        · have hend : ¬ ((i : Int) < (n2 : Int) ∧ (i : Int) < 30) := by omega
          by_cases q1 : i < n2
          · have q1' : (i : Int) < (n2 : Int) := by omega
            have q2' : ¬ (i : Int) < 30 := by omega
            clear hend
            go_wp2
            go_meet
            case rel => exact ⟨s, HS.out⟩
          · have q1' : ¬ (i : Int) < (n2 : Int) := by omega
            clear hend
            go_wp2
            go_meet
            case rel => exact ⟨s, HS.out⟩
end Go.Proofs.Ytibopcbebcikbaa

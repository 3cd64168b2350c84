/-
  THE WALK of GrowGlides. Conditions: what came in could be read.
-/
import Derived.Test.YtgimphkamjojpaaS50
import Derived.Test.YtgimphkamjojpaaS55
namespace Go.Proofs.Ytgimphkamjojpaa
open Go.RowKit Ti Qd Go.Maps Go.WideMaps Ru

theorem get_int {B : Nat} {P : Nat} {L : List Sq} {room : Nat} {H : Nat → Prop} (n : Nat) (id : Int) (x y : Nat) (xi yi : Int) (ex : xi = x) (ey : yi = y) (w : World) (h : St B w P L room H) (hl : Lv L n id) (hn : n ≤ 37) (hx : x < 2 ^ (n + 3)) (hy : y < 2 ^ (n + 3)) (hc : cel L n id x y = true) :
    Calls Try.prog 18 #[.pointer (some ⟨P, 0, none⟩), .int .i64 id, .int .i64 xi, .int .i64 yi] w fun e w' => e = .returned (.tuple #[.bool true, .nilIface]) ∧ Below w.heap.size w w' := by
  subst ex ey
  rw [← hc]
  exact get_is n id x y w h hl hn hx hy
/-- the cells of a glider, as the statement writes them -/
def tenC : Array Value := #[.int .i64 1, .int .i64 0, .int .i64 2, .int .i64 1, .int .i64 0, .int .i64 2, .int .i64 1, .int .i64 2, .int .i64 2, .int .i64 2]
theorem ten_cells {w : World} {g : Nat} {T : TypeId} (h : w.heap[g]? = some (.cells tenC T (0, 0))) (i : Nat) (hi : i < 5) : w.cell? ⟨g, 2 * i, none⟩ = some (.int .i64 (cx i)) ∧ w.cell? ⟨g, 2 * i + 1, none⟩ = some (.int .i64 (cy i)) := by
  rcases (show i = 0 ∨ i = 1 ∨ i = 2 ∨ i = 3 ∨ i = 4 by omega) with rfl | rfl | rfl | rfl | rfl <;> constructor <;> (rw [cell_of_row w g _ _ _ _ h]; rfl)
set_option maxRecDepth 100000 in
set_option maxHeartbeats 16000000 in
theorem glides_walk (k j : Int) (W : World) (_w0 : (Lit.int .i64 k).wf = true) (_w1 : (Lit.int .i64 j).wf = true) :
    Calls Try.prog 5 #[.int .i64 k, .int .i64 j] W fun e w' => e = .returned (.bool true) ∧ Below W.heap.size W w' := by
  obtain ⟨a, ha, ea⟩ := red_nat k 10 (by decide) (by decide)
  obtain ⟨M, hM⟩ : ∃ M, M = 3 + a := ⟨_, rfl⟩
  obtain ⟨lv, hlv⟩ : ∃ lv : Int, lv = (M : Int) + 4 := ⟨_, rfl⟩
  obtain ⟨b, hb, eb⟩ := red_nat j M (by omega) (by omega)
  obtain ⟨p, hp⟩ : ∃ p, p = 2 + b := ⟨_, rfl⟩
  have HE1 := Lib.hid (show wrap64 (7 + wrap64 ((IntKind.u64.wrap k).tmod 10)) = lv from by
    have e2 : wrap64 ((IntKind.u64.wrap k).tmod 10) = (a : Int) := ea
    rw [e2, hlv]
    unfold wrap64
    omega)
  have HE2 := Lib.hid (show wrap64 (2 + wrap64 ((IntKind.u64.wrap j).tmod (M : Int))) = (p : Int) from by
    rw [eb, hp]
    unfold wrap64
    omega)
  have HLV := Lib.hid (And.intro hlv (show 3 ≤ M ∧ M ≤ 12 ∧ 2 ≤ p ∧ p ≤ M + 1 by omega))
  have lv0 : (7 : Int) ≤ lv := by omega
  have lv1 : lv ≤ 16 := by omega
  clear ha ea hM hlv hb eb hp _w0 _w1
  go_enter Try.func5, Try.ntmps5
  go_upto_region 2 with (fail)
  rw [HE1.out]
  go_upto_region 3 with (fail)
  rw [show wrap64 (2 + wrap64 ((IntKind.u64.wrap j).tmod (lv - 4))) = (p : Int) from by rw [show lv - 4 = (M : Int) by have := HLV.out.1; omega]; exact HE2.out]
  have HN := Lib.hid (new_lit 8000 8000 rfl W (by decide) (by decide))
  go_wp2_with fail
  refine HN.out.mono ?_
  rintro e w1 ⟨P, H, rfl, hs, hb⟩
  have HB1 := Lib.hid hb
  have HG := Lib.hid (show Calls Try.prog 9 #[.pointer (some ⟨P, 0, none⟩), .agg #[.int .u16 8, .int .u16 12]] w1 (GMade W.heap.size w1 P 8 12 8000 [] H) from gnew_ok hs hb.size 8 12 (by decide))
  have HS1 := Lib.hid (fun x hx => (hs.lt x hx).1)
  clear hs hb HN
  go_wp2_with fail
  refine HG.out.mono ?_
  rintro e w2 ⟨G, Mp, H', rfl, hgr, hst⟩
  have HH := Lib.hid (show (∀ x, H' x → W.heap.size ≤ x) ∧ Below W.heap.size W w2 ∧ W.heap.size ≤ w2.heap.size from ⟨fun x hx => (hgr.lt x hx).1, HB1.out.trans (hst.below HS1.out HB1.out.size), Nat.le_trans HB1.out.size hst.size⟩)
  have HS := Lib.hid (Gs.start hgr)
  clear hgr hst HG HS1 HB1
  obtain ⟨D, hD⟩ : ∃ D, D = 2 ^ (M + 2) := ⟨_, rfl⟩
  obtain ⟨F, hF⟩ : ∃ F, F = 2 ^ (p - 2) := ⟨_, rfl⟩
  have hD16 : 32 ≤ D := by
    have : 2 ^ 5 ≤ 2 ^ (M + 2) := Nat.pow_le_pow_right (by decide) (by have := HLV.out.2; omega)
    omega
  have hDl : D ≤ 2 ^ 14 := by
    rw [hD]
    exact Nat.pow_le_pow_right (by decide) (by have := HLV.out.2; omega)
  have hFl : F ≤ 2 ^ 14 := by
    rw [hF]
    exact Nat.pow_le_pow_right (by decide) (by have := HLV.out.2; omega)
  have hD2 : 2 ^ (M + 1 + 3) = 4 * D := by rw [hD, show M + 1 + 3 = (M + 2) + 2 by omega, Nat.pow_add]; omega
  have HSH := Lib.hid (show wrap64 (2 ^ (lv - 2).toNat) = (D : Int) from by
    rw [show (lv - 2).toNat = M + 2 by have := HLV.out.1; omega, hD]
    have : ((2 ^ (M + 2) : Nat) : Int) = (2 : Int) ^ (M + 2) := by push_cast; rfl
    rw [← this, ← hD]
    exact wrap_small (by omega))
  have HSF := Lib.hid (show wrap64 ((2 : Int) ^ (p - 2)) = (F : Int) from by
    rw [hF]
    have : ((2 ^ (p - 2) : Nat) : Int) = (2 : Int) ^ (p - 2) := by push_cast; rfl
    rw [← this, ← hF]
    exact wrap_small (by omega))
  have HD := Lib.hid (And.intro hD (And.intro hD16 (And.intro hDl (And.intro hD2 (And.intro hF hFl)))))
  obtain ⟨E, hE⟩ : ∃ E : List Sq × Int, E = emp [] (M + 1) := ⟨_, rfl⟩
  have he := Qd.emp_ok inv_nil (M + 1) (by have := HLV.out.2; omega)
  have hw := emp_wn inv_nil (n := M + 1) (by have := HLV.out.2; omega)
  rw [← hE] at he hw
  have hY0 : GlI (M + 1) (D + 4) 0 E.1 E.2 := ⟨he.inv, hw, by have := he.len; simp only [List.length_nil] at this; omega⟩
  have HY0 := Lib.hid hY0
  obtain ⟨Hs, hst, hno, hgo⟩ := HS.out.store2
  have hC := empty_ok hst (M + 1) lv (by have := HLV.out.1; omega) (by have := HLV.out.2; omega) (by rw [← hE]; have := hY0.len; have := HLV.out.2; omega)
  rw [← hE] at hC
  have HC := Lib.hid hC
  have HX := Lib.hid hgo
  clear hD hD16 hDl hD2 hF hFl he hw hY0 hst hno hgo hC hE HE1 HE2
  go_wp2_with fail
  refine HC.out.mono ?_
  rintro e w3 ⟨rfl, hg⟩
  have HS3 := Lib.hid (HX.out _ _ hg)
  clear hg HC HX HS
  go_upto_region 9 with (fail)
  rw [HSH.out]
  have d1 : (32 : Int) ≤ (D : Int) := by have := HD.out.2.1; omega
  have d2 : (D : Int) ≤ 16384 := by have := HD.out.2.2.1; omega
  go_upto_region 10 with (fail)
  obtain ⟨gB, hgB⟩ : ∃ g, g = w3.heap.size := ⟨_, rfl⟩
  have HS4 := Lib.hid (show Gs W.heap.size w2 H' G P Mp 8 12 8000 (E.1, fun _ _ => none) [(gB, .cells tenC 48)] (w3.alloc (.cells tenC 48)) from by rw [hgB]; exact HS3.out.alloc _)
  rw [← hgB]
  have hwd : ∀ w', w' = w3.alloc (.cells tenC 48) → w' = w3.alloc (.cells #[.int .i64 1, .int .i64 0, .int .i64 2, .int .i64 1, .int .i64 0, .int .i64 2, .int .i64 1, .int .i64 2, .int .i64 2, .int .i64 2] 48) := fun _ h => h
  obtain ⟨w4, hw4⟩ : ∃ w4, w4 = w3.alloc (.cells tenC 48) := ⟨_, rfl⟩
  rw [← hw4] at HS4
  rw [← hwd w4 hw4]
  clear hwd hw4 hgB HS3 HSH
  go_wp2
  go_loopw [11, 12, 15] (fun a c i wr => ∃ (kk : Nat) (L : List Sq) (id : Int), kk ≤ 5 ∧ a = .int .i64 id ∧ c = .nilIface ∧ i = .int .i64 kk ∧ Hid (GlI (M + 1) (D + 4) kk L id) ∧ Hid (Gs W.heap.size w2 H' G P Mp 8 12 8000 (L, fun _ _ => none) [(gB, .cells tenC 48)] wr)) (fun _ _ i _ => 5 - (intOf i).toNat)
  case atStart => exact ⟨0, E.1, E.2, by omega, rfl, rfl, rfl, HY0, HS4⟩
  case round =>
    clear HS4 HY0
    obtain ⟨kk, L, id, hk, rfl, rfl, rfl, HY, HS⟩ := hrel
    rcases (show kk = 0 ∨ kk = 1 ∨ kk = 2 ∨ kk = 3 ∨ kk = 4 ∨ kk = 5 by omega) with rfl | rfl | rfl | rfl | rfl | rfl
    · rw [show ((0 : Nat) : Int) = 0 by decide]
      have hy := HY.out.next (by have := HLV.out.2; omega) (by rw [HD.out.2.2.2.1]; have := HD.out.2.1; omega) (by decide)
      have hle := hy.len
      have HDr := Lib.hid HS.out.drew
      obtain ⟨Hs, hst, hno, hgo⟩ := HDr.out.store2
      have hC := set_int (M + 1) L Hs id (D + 4 + 1) (D + 4 + 0) (IntKind.i64.wrap (IntKind.i64.wrap ((D : Int) + 4) + 1)) (IntKind.i64.wrap (IntKind.i64.wrap ((D : Int) + 4))) (by rw [IntWalk.i64_in ((D : Int) + 4) (by omega), IntWalk.i64_in _ (by omega)]; omega) (by rw [IntWalk.i64_in ((D : Int) + 4) (by omega), IntWalk.i64_in _ (by omega)]; omega) wr.drew hst HY.out.win.1 (by have := HLV.out.2; omega) (by rw [HD.out.2.2.2.1]; have := HD.out.2.1; omega) (by rw [HD.out.2.2.2.1]; have := HD.out.2.1; omega) (Nat.le_trans hle (by have := HLV.out.2; omega))
      obtain ⟨R, hR⟩ : ∃ R, R = setQ L (M + 1) id (D + 4 + 1) (D + 4 + 0) true := ⟨_, rfl⟩
      have HYN := Lib.hid (show GlI (M + 1) (D + 4) (0 + 1) R.1 R.2 from by rw [hR]; exact hy)
      rw [← hR] at hC
      have HC := Lib.hid hC
      have HX := Lib.hid hgo
      have kd : wr.drew.cell? ⟨gB, 0, none⟩ = some (.int .i64 1) ∧ wr.drew.cell? ⟨gB, 1, none⟩ = some (.int .i64 0) := ten_cells HDr.out.b0 0 (by decide)
      have KD := Lib.hid kd
      clear hk hy hle hst hno hgo hC hR HY HS kd
      go_upto_region 13 with (fail)
      go_region_held3 (fun w' => w'.cell? ⟨gB, 0, none⟩ = some (.int .i64 1) ∧ w'.cell? ⟨gB, 1, none⟩ = some (.int .i64 0)) (first | with_reducible exact KD.out | with_reducible exact ks)
        ((go_at_call 17; (with_reducible refine HC.out.mono ?_); rintro e w5 ⟨rfl, hg⟩; have HS5 := Lib.hid (HX.out _ _ hg); have ks : w5.cell? ⟨gB, 0, none⟩ = some (.int .i64 1) ∧ w5.cell? ⟨gB, 1, none⟩ = some (.int .i64 0) := ten_cells HS5.out.b0 0 (by decide); clear hg))
      go_wp2
      go_roundw
      case rel => exact ⟨0 + 1, R.1, R.2, by omega, rfl, rfl, by first | rfl | go_num, HYN, HS5⟩
      case measure => simp [intOf]
    · rw [show ((1 : Nat) : Int) = 1 by decide]
      have hy := HY.out.next (by have := HLV.out.2; omega) (by rw [HD.out.2.2.2.1]; have := HD.out.2.1; omega) (by decide)
      have hle := hy.len
      have HDr := Lib.hid HS.out.drew
      obtain ⟨Hs, hst, hno, hgo⟩ := HDr.out.store2
      have hC := set_int (M + 1) L Hs id (D + 4 + 2) (D + 4 + 1) (IntKind.i64.wrap (IntKind.i64.wrap ((D : Int) + 4) + 2)) (IntKind.i64.wrap (IntKind.i64.wrap ((D : Int) + 4) + 1)) (by rw [IntWalk.i64_in ((D : Int) + 4) (by omega), IntWalk.i64_in _ (by omega)]; omega) (by rw [IntWalk.i64_in ((D : Int) + 4) (by omega), IntWalk.i64_in _ (by omega)]; omega) wr.drew hst HY.out.win.1 (by have := HLV.out.2; omega) (by rw [HD.out.2.2.2.1]; have := HD.out.2.1; omega) (by rw [HD.out.2.2.2.1]; have := HD.out.2.1; omega) (Nat.le_trans hle (by have := HLV.out.2; omega))
      obtain ⟨R, hR⟩ : ∃ R, R = setQ L (M + 1) id (D + 4 + 2) (D + 4 + 1) true := ⟨_, rfl⟩
      have HYN := Lib.hid (show GlI (M + 1) (D + 4) (1 + 1) R.1 R.2 from by rw [hR]; exact hy)
      rw [← hR] at hC
      have HC := Lib.hid hC
      have HX := Lib.hid hgo
      have kd : wr.drew.cell? ⟨gB, 2, none⟩ = some (.int .i64 2) ∧ wr.drew.cell? ⟨gB, 3, none⟩ = some (.int .i64 1) := ten_cells HDr.out.b0 1 (by decide)
      have KD := Lib.hid kd
      clear hk hy hle hst hno hgo hC hR HY HS kd
      go_upto_region 13 with (fail)
      go_region_held3 (fun w' => w'.cell? ⟨gB, 2, none⟩ = some (.int .i64 2) ∧ w'.cell? ⟨gB, 3, none⟩ = some (.int .i64 1)) (first | with_reducible exact KD.out | with_reducible exact ks)
        ((go_at_call 17; (with_reducible refine HC.out.mono ?_); rintro e w5 ⟨rfl, hg⟩; have HS5 := Lib.hid (HX.out _ _ hg); have ks : w5.cell? ⟨gB, 2, none⟩ = some (.int .i64 2) ∧ w5.cell? ⟨gB, 3, none⟩ = some (.int .i64 1) := ten_cells HS5.out.b0 1 (by decide); clear hg))
      go_wp2
      go_roundw
      case rel => exact ⟨1 + 1, R.1, R.2, by omega, rfl, rfl, by first | rfl | go_num, HYN, HS5⟩
      case measure => simp [intOf]
    · rw [show ((2 : Nat) : Int) = 2 by decide]
      have hy := HY.out.next (by have := HLV.out.2; omega) (by rw [HD.out.2.2.2.1]; have := HD.out.2.1; omega) (by decide)
      have hle := hy.len
      have HDr := Lib.hid HS.out.drew
      obtain ⟨Hs, hst, hno, hgo⟩ := HDr.out.store2
      have hC := set_int (M + 1) L Hs id (D + 4 + 0) (D + 4 + 2) (IntKind.i64.wrap (IntKind.i64.wrap ((D : Int) + 4))) (IntKind.i64.wrap (IntKind.i64.wrap ((D : Int) + 4) + 2)) (by rw [IntWalk.i64_in ((D : Int) + 4) (by omega), IntWalk.i64_in _ (by omega)]; omega) (by rw [IntWalk.i64_in ((D : Int) + 4) (by omega), IntWalk.i64_in _ (by omega)]; omega) wr.drew hst HY.out.win.1 (by have := HLV.out.2; omega) (by rw [HD.out.2.2.2.1]; have := HD.out.2.1; omega) (by rw [HD.out.2.2.2.1]; have := HD.out.2.1; omega) (Nat.le_trans hle (by have := HLV.out.2; omega))
      obtain ⟨R, hR⟩ : ∃ R, R = setQ L (M + 1) id (D + 4 + 0) (D + 4 + 2) true := ⟨_, rfl⟩
      have HYN := Lib.hid (show GlI (M + 1) (D + 4) (2 + 1) R.1 R.2 from by rw [hR]; exact hy)
      rw [← hR] at hC
      have HC := Lib.hid hC
      have HX := Lib.hid hgo
      have kd : wr.drew.cell? ⟨gB, 4, none⟩ = some (.int .i64 0) ∧ wr.drew.cell? ⟨gB, 5, none⟩ = some (.int .i64 2) := ten_cells HDr.out.b0 2 (by decide)
      have KD := Lib.hid kd
      clear hk hy hle hst hno hgo hC hR HY HS kd
      go_upto_region 13 with (fail)
      go_region_held3 (fun w' => w'.cell? ⟨gB, 4, none⟩ = some (.int .i64 0) ∧ w'.cell? ⟨gB, 5, none⟩ = some (.int .i64 2)) (first | with_reducible exact KD.out | with_reducible exact ks)
        ((go_at_call 17; (with_reducible refine HC.out.mono ?_); rintro e w5 ⟨rfl, hg⟩; have HS5 := Lib.hid (HX.out _ _ hg); have ks : w5.cell? ⟨gB, 4, none⟩ = some (.int .i64 0) ∧ w5.cell? ⟨gB, 5, none⟩ = some (.int .i64 2) := ten_cells HS5.out.b0 2 (by decide); clear hg))
      go_wp2
      go_roundw
      case rel => exact ⟨2 + 1, R.1, R.2, by omega, rfl, rfl, by first | rfl | go_num, HYN, HS5⟩
      case measure => simp [intOf]
    · rw [show ((3 : Nat) : Int) = 3 by decide]
      have hy := HY.out.next (by have := HLV.out.2; omega) (by rw [HD.out.2.2.2.1]; have := HD.out.2.1; omega) (by decide)
      have hle := hy.len
      have HDr := Lib.hid HS.out.drew
      obtain ⟨Hs, hst, hno, hgo⟩ := HDr.out.store2
      have hC := set_int (M + 1) L Hs id (D + 4 + 1) (D + 4 + 2) (IntKind.i64.wrap (IntKind.i64.wrap ((D : Int) + 4) + 1)) (IntKind.i64.wrap (IntKind.i64.wrap ((D : Int) + 4) + 2)) (by rw [IntWalk.i64_in ((D : Int) + 4) (by omega), IntWalk.i64_in _ (by omega)]; omega) (by rw [IntWalk.i64_in ((D : Int) + 4) (by omega), IntWalk.i64_in _ (by omega)]; omega) wr.drew hst HY.out.win.1 (by have := HLV.out.2; omega) (by rw [HD.out.2.2.2.1]; have := HD.out.2.1; omega) (by rw [HD.out.2.2.2.1]; have := HD.out.2.1; omega) (Nat.le_trans hle (by have := HLV.out.2; omega))
      obtain ⟨R, hR⟩ : ∃ R, R = setQ L (M + 1) id (D + 4 + 1) (D + 4 + 2) true := ⟨_, rfl⟩
      have HYN := Lib.hid (show GlI (M + 1) (D + 4) (3 + 1) R.1 R.2 from by rw [hR]; exact hy)
      rw [← hR] at hC
      have HC := Lib.hid hC
      have HX := Lib.hid hgo
      have kd : wr.drew.cell? ⟨gB, 6, none⟩ = some (.int .i64 1) ∧ wr.drew.cell? ⟨gB, 7, none⟩ = some (.int .i64 2) := ten_cells HDr.out.b0 3 (by decide)
      have KD := Lib.hid kd
      clear hk hy hle hst hno hgo hC hR HY HS kd
      go_upto_region 13 with (fail)
      go_region_held3 (fun w' => w'.cell? ⟨gB, 6, none⟩ = some (.int .i64 1) ∧ w'.cell? ⟨gB, 7, none⟩ = some (.int .i64 2)) (first | with_reducible exact KD.out | with_reducible exact ks)
        ((go_at_call 17; (with_reducible refine HC.out.mono ?_); rintro e w5 ⟨rfl, hg⟩; have HS5 := Lib.hid (HX.out _ _ hg); have ks : w5.cell? ⟨gB, 6, none⟩ = some (.int .i64 1) ∧ w5.cell? ⟨gB, 7, none⟩ = some (.int .i64 2) := ten_cells HS5.out.b0 3 (by decide); clear hg))
      go_wp2
      go_roundw
      case rel => exact ⟨3 + 1, R.1, R.2, by omega, rfl, rfl, by first | rfl | go_num, HYN, HS5⟩
      case measure => simp [intOf]
    · rw [show ((4 : Nat) : Int) = 4 by decide]
      have hy := HY.out.next (by have := HLV.out.2; omega) (by rw [HD.out.2.2.2.1]; have := HD.out.2.1; omega) (by decide)
      have hle := hy.len
      have HDr := Lib.hid HS.out.drew
      obtain ⟨Hs, hst, hno, hgo⟩ := HDr.out.store2
      have hC := set_int (M + 1) L Hs id (D + 4 + 2) (D + 4 + 2) (IntKind.i64.wrap (IntKind.i64.wrap ((D : Int) + 4) + 2)) (IntKind.i64.wrap (IntKind.i64.wrap ((D : Int) + 4) + 2)) (by rw [IntWalk.i64_in ((D : Int) + 4) (by omega), IntWalk.i64_in _ (by omega)]; omega) (by rw [IntWalk.i64_in ((D : Int) + 4) (by omega), IntWalk.i64_in _ (by omega)]; omega) wr.drew hst HY.out.win.1 (by have := HLV.out.2; omega) (by rw [HD.out.2.2.2.1]; have := HD.out.2.1; omega) (by rw [HD.out.2.2.2.1]; have := HD.out.2.1; omega) (Nat.le_trans hle (by have := HLV.out.2; omega))
      obtain ⟨R, hR⟩ : ∃ R, R = setQ L (M + 1) id (D + 4 + 2) (D + 4 + 2) true := ⟨_, rfl⟩
      have HYN := Lib.hid (show GlI (M + 1) (D + 4) (4 + 1) R.1 R.2 from by rw [hR]; exact hy)
      rw [← hR] at hC
      have HC := Lib.hid hC
      have HX := Lib.hid hgo
      have kd : wr.drew.cell? ⟨gB, 8, none⟩ = some (.int .i64 2) ∧ wr.drew.cell? ⟨gB, 9, none⟩ = some (.int .i64 2) := ten_cells HDr.out.b0 4 (by decide)
      have KD := Lib.hid kd
      clear hk hy hle hst hno hgo hC hR HY HS kd
      go_upto_region 13 with (fail)
      go_region_held3 (fun w' => w'.cell? ⟨gB, 8, none⟩ = some (.int .i64 2) ∧ w'.cell? ⟨gB, 9, none⟩ = some (.int .i64 2)) (first | with_reducible exact KD.out | with_reducible exact ks)
        ((go_at_call 17; (with_reducible refine HC.out.mono ?_); rintro e w5 ⟨rfl, hg⟩; have HS5 := Lib.hid (HX.out _ _ hg); have ks : w5.cell? ⟨gB, 8, none⟩ = some (.int .i64 2) ∧ w5.cell? ⟨gB, 9, none⟩ = some (.int .i64 2) := ten_cells HS5.out.b0 4 (by decide); clear hg))
      go_wp2
      go_roundw
      case rel => exact ⟨4 + 1, R.1, R.2, by omega, rfl, rfl, by first | rfl | go_num, HYN, HS5⟩
      case measure => simp [intOf]
    · rw [show ((5 : Nat) : Int) = 5 by decide]
      obtain ⟨A, hA⟩ : ∃ A, A = growQ 8 12 M (L, fun _ _ => none) id p := ⟨_, rfl⟩
      have hL : L.length ≤ 100 := by
        have h1 := HY.out.len
        have h2 := HLV.out.2
        omega
      obtain ⟨lA, iA, vA, nA, cA⟩ := glides (M := M) (p := p) (s := D + 4) (by have := HLV.out.2; omega) HLV.out.2.2.2.1 HLV.out.2.2.2.2 (by rw [HD.out.1]) HY.out hL A hA
      have lA3 : A.1.1.length ≤ 8000 := by have := HLV.out.2; omega
      obtain ⟨H1, h1, h2⟩ := HS.out.call
      have HC := Lib.hid (show Calls Try.prog 15 #[.pointer (some ⟨G, 0, none⟩), .int .i64 id, .int .i64 p] wr fun e w' => e = .returned (.tuple #[.int .i64 A.2, .nilIface]) ∧ Gt W.heap.size wr G P Mp 8 12 8000 H1 A.1 w' from by
        rw [hA] at lA3 ⊢
        exact growP_ok (by decide) h1 (gok_new 8 12 HY.out.inv) M (by have := HLV.out.2; omega) id HY.out.win.1 p (by have := HLV.out.2; omega) lA3)
      have HX := Lib.hid h2
      have HA := Lib.hid (And.intro vA (And.intro nA cA))
      clear hk hA hL lA iA vA nA cA lA3 h1 h2 HY
      have p0 : (2 : Int) ≤ (p : Int) := by have := HLV.out.2.2.2.1; omega
      have p1 : (p : Int) ≤ 13 := by have := HLV.out.2; omega
      go_upto_region 16 with (fail)
      go_wp2_with fail
      refine HC.out.mono ?_
      rintro e w5 ⟨rfl, hg⟩
      have HS5 := Lib.hid (HX.out _ _ hg)
      clear hg HC HX HS
      obtain ⟨Hs1, hst1, _⟩ := HS5.out.store
      have HC := Lib.hid (count_is hst1 A.2 HA.out.1.1 5 HA.out.2.1)
      clear hst1
      go_wp2_with fail
      refine HC.out.mono ?_
      rintro e w6 ⟨rfl, hb⟩
      have HS6 := Lib.hid (HS5.out.below hb)
      clear hb HC HS5
      go_upto_region 19 with (fail)
      rw [HSF.out]
      have f2 : (F : Int) ≤ 16384 := by have := HD.out.2.2.2.2.2; omega
      clear HSF
      go_upto_region 21 with (fail)
      go_wp2
      go_loopw [21] (fun a wr => ∃ kk : Nat, kk ≤ 5 ∧ a = .int .i64 kk ∧ Hid (Gs W.heap.size w2 H' G P Mp 8 12 8000 A.1 [(gB, .cells tenC 48)] wr)) (fun a _ => 5 - (intOf a).toNat)
      case atStart => exact ⟨0, by omega, rfl, HS6⟩
      case round =>
        clear HS6
        obtain ⟨kk, hk, rfl, HS⟩ := hrel
        rcases (show kk = 0 ∨ kk = 1 ∨ kk = 2 ∨ kk = 3 ∨ kk = 4 ∨ kk = 5 by omega) with rfl | rfl | rfl | rfl | rfl | rfl
        · rw [show ((0 : Nat) : Int) = 0 by decide]
          have HDr := Lib.hid HS.out.drew
          obtain ⟨Hs, hst, hgo⟩ := HDr.out.store
          have hb : F ≤ 2 ^ M ∧ 2 ^ (M + 3) = 8 * 2 ^ M ∧ 1 ≤ 2 ^ M := by
            rw [HD.out.2.2.2.2.1]
            exact ⟨Nat.pow_le_pow_right (by decide) (by have := HLV.out.2; omega), by rw [Nat.pow_add]; omega, Nat.two_pow_pos M⟩
          have hC := get_int M A.2 (4 + F + 1) (4 + F + 0) (IntKind.i64.wrap (IntKind.i64.wrap (4 + (F : Int)) + 1)) (IntKind.i64.wrap (IntKind.i64.wrap (4 + (F : Int)))) (by rw [IntWalk.i64_in (4 + (F : Int)) (by omega), IntWalk.i64_in _ (by omega)]; omega) (by rw [IntWalk.i64_in (4 + (F : Int)) (by omega), IntWalk.i64_in _ (by omega)]; omega) wr.drew hst HA.out.1 (by have := HLV.out.2; omega) (by omega) (by omega) (by have h := HA.out.2.2 0 (by decide); rw [← HD.out.2.2.2.2.1] at h; exact h)
          have HC := Lib.hid hC
          have kd : wr.drew.cell? ⟨gB, 0, none⟩ = some (.int .i64 1) ∧ wr.drew.cell? ⟨gB, 1, none⟩ = some (.int .i64 0) := ten_cells HDr.out.b0 0 (by decide)
          have KD := Lib.hid kd
          clear hk hst hgo hb hC HS kd
          go_upto_region 24 with (fail)
          go_region_held3 (fun w' => w'.cell? ⟨gB, 0, none⟩ = some (.int .i64 1) ∧ w'.cell? ⟨gB, 1, none⟩ = some (.int .i64 0)) (first | with_reducible exact KD.out | with_reducible exact ks)
            ((go_at_call 18; (with_reducible refine HC.out.mono ?_); rintro e w7 ⟨rfl, hb⟩; have HS7 := Lib.hid (HDr.out.below hb); have ks : w7.cell? ⟨gB, 0, none⟩ = some (.int .i64 1) ∧ w7.cell? ⟨gB, 1, none⟩ = some (.int .i64 0) := ten_cells HS7.out.b0 0 (by decide); clear hb))
          go_wp2
          go_roundw
          case rel => exact ⟨0 + 1, by omega, by first | rfl | go_num, HS7⟩
          case measure => simp [intOf]
        · rw [show ((1 : Nat) : Int) = 1 by decide]
          have HDr := Lib.hid HS.out.drew
          obtain ⟨Hs, hst, hgo⟩ := HDr.out.store
          have hb : F ≤ 2 ^ M ∧ 2 ^ (M + 3) = 8 * 2 ^ M ∧ 1 ≤ 2 ^ M := by
            rw [HD.out.2.2.2.2.1]
            exact ⟨Nat.pow_le_pow_right (by decide) (by have := HLV.out.2; omega), by rw [Nat.pow_add]; omega, Nat.two_pow_pos M⟩
          have hC := get_int M A.2 (4 + F + 2) (4 + F + 1) (IntKind.i64.wrap (IntKind.i64.wrap (4 + (F : Int)) + 2)) (IntKind.i64.wrap (IntKind.i64.wrap (4 + (F : Int)) + 1)) (by rw [IntWalk.i64_in (4 + (F : Int)) (by omega), IntWalk.i64_in _ (by omega)]; omega) (by rw [IntWalk.i64_in (4 + (F : Int)) (by omega), IntWalk.i64_in _ (by omega)]; omega) wr.drew hst HA.out.1 (by have := HLV.out.2; omega) (by omega) (by omega) (by have h := HA.out.2.2 1 (by decide); rw [← HD.out.2.2.2.2.1] at h; exact h)
          have HC := Lib.hid hC
          have kd : wr.drew.cell? ⟨gB, 2, none⟩ = some (.int .i64 2) ∧ wr.drew.cell? ⟨gB, 3, none⟩ = some (.int .i64 1) := ten_cells HDr.out.b0 1 (by decide)
          have KD := Lib.hid kd
          clear hk hst hgo hb hC HS kd
          go_upto_region 24 with (fail)
          go_region_held3 (fun w' => w'.cell? ⟨gB, 2, none⟩ = some (.int .i64 2) ∧ w'.cell? ⟨gB, 3, none⟩ = some (.int .i64 1)) (first | with_reducible exact KD.out | with_reducible exact ks)
            ((go_at_call 18; (with_reducible refine HC.out.mono ?_); rintro e w7 ⟨rfl, hb⟩; have HS7 := Lib.hid (HDr.out.below hb); have ks : w7.cell? ⟨gB, 2, none⟩ = some (.int .i64 2) ∧ w7.cell? ⟨gB, 3, none⟩ = some (.int .i64 1) := ten_cells HS7.out.b0 1 (by decide); clear hb))
          go_wp2
          go_roundw
          case rel => exact ⟨1 + 1, by omega, by first | rfl | go_num, HS7⟩
          case measure => simp [intOf]
        · rw [show ((2 : Nat) : Int) = 2 by decide]
          have HDr := Lib.hid HS.out.drew
          obtain ⟨Hs, hst, hgo⟩ := HDr.out.store
          have hb : F ≤ 2 ^ M ∧ 2 ^ (M + 3) = 8 * 2 ^ M ∧ 1 ≤ 2 ^ M := by
            rw [HD.out.2.2.2.2.1]
            exact ⟨Nat.pow_le_pow_right (by decide) (by have := HLV.out.2; omega), by rw [Nat.pow_add]; omega, Nat.two_pow_pos M⟩
          have hC := get_int M A.2 (4 + F + 0) (4 + F + 2) (IntKind.i64.wrap (IntKind.i64.wrap (4 + (F : Int)))) (IntKind.i64.wrap (IntKind.i64.wrap (4 + (F : Int)) + 2)) (by rw [IntWalk.i64_in (4 + (F : Int)) (by omega), IntWalk.i64_in _ (by omega)]; omega) (by rw [IntWalk.i64_in (4 + (F : Int)) (by omega), IntWalk.i64_in _ (by omega)]; omega) wr.drew hst HA.out.1 (by have := HLV.out.2; omega) (by omega) (by omega) (by have h := HA.out.2.2 2 (by decide); rw [← HD.out.2.2.2.2.1] at h; exact h)
          have HC := Lib.hid hC
          have kd : wr.drew.cell? ⟨gB, 4, none⟩ = some (.int .i64 0) ∧ wr.drew.cell? ⟨gB, 5, none⟩ = some (.int .i64 2) := ten_cells HDr.out.b0 2 (by decide)
          have KD := Lib.hid kd
          clear hk hst hgo hb hC HS kd
          go_upto_region 24 with (fail)
          go_region_held3 (fun w' => w'.cell? ⟨gB, 4, none⟩ = some (.int .i64 0) ∧ w'.cell? ⟨gB, 5, none⟩ = some (.int .i64 2)) (first | with_reducible exact KD.out | with_reducible exact ks)
            ((go_at_call 18; (with_reducible refine HC.out.mono ?_); rintro e w7 ⟨rfl, hb⟩; have HS7 := Lib.hid (HDr.out.below hb); have ks : w7.cell? ⟨gB, 4, none⟩ = some (.int .i64 0) ∧ w7.cell? ⟨gB, 5, none⟩ = some (.int .i64 2) := ten_cells HS7.out.b0 2 (by decide); clear hb))
          go_wp2
          go_roundw
          case rel => exact ⟨2 + 1, by omega, by first | rfl | go_num, HS7⟩
          case measure => simp [intOf]
        · rw [show ((3 : Nat) : Int) = 3 by decide]
          have HDr := Lib.hid HS.out.drew
          obtain ⟨Hs, hst, hgo⟩ := HDr.out.store
          have hb : F ≤ 2 ^ M ∧ 2 ^ (M + 3) = 8 * 2 ^ M ∧ 1 ≤ 2 ^ M := by
            rw [HD.out.2.2.2.2.1]
            exact ⟨Nat.pow_le_pow_right (by decide) (by have := HLV.out.2; omega), by rw [Nat.pow_add]; omega, Nat.two_pow_pos M⟩
          have hC := get_int M A.2 (4 + F + 1) (4 + F + 2) (IntKind.i64.wrap (IntKind.i64.wrap (4 + (F : Int)) + 1)) (IntKind.i64.wrap (IntKind.i64.wrap (4 + (F : Int)) + 2)) (by rw [IntWalk.i64_in (4 + (F : Int)) (by omega), IntWalk.i64_in _ (by omega)]; omega) (by rw [IntWalk.i64_in (4 + (F : Int)) (by omega), IntWalk.i64_in _ (by omega)]; omega) wr.drew hst HA.out.1 (by have := HLV.out.2; omega) (by omega) (by omega) (by have h := HA.out.2.2 3 (by decide); rw [← HD.out.2.2.2.2.1] at h; exact h)
          have HC := Lib.hid hC
          have kd : wr.drew.cell? ⟨gB, 6, none⟩ = some (.int .i64 1) ∧ wr.drew.cell? ⟨gB, 7, none⟩ = some (.int .i64 2) := ten_cells HDr.out.b0 3 (by decide)
          have KD := Lib.hid kd
          clear hk hst hgo hb hC HS kd
          go_upto_region 24 with (fail)
          go_region_held3 (fun w' => w'.cell? ⟨gB, 6, none⟩ = some (.int .i64 1) ∧ w'.cell? ⟨gB, 7, none⟩ = some (.int .i64 2)) (first | with_reducible exact KD.out | with_reducible exact ks)
            ((go_at_call 18; (with_reducible refine HC.out.mono ?_); rintro e w7 ⟨rfl, hb⟩; have HS7 := Lib.hid (HDr.out.below hb); have ks : w7.cell? ⟨gB, 6, none⟩ = some (.int .i64 1) ∧ w7.cell? ⟨gB, 7, none⟩ = some (.int .i64 2) := ten_cells HS7.out.b0 3 (by decide); clear hb))
          go_wp2
          go_roundw
          case rel => exact ⟨3 + 1, by omega, by first | rfl | go_num, HS7⟩
          case measure => simp [intOf]
        · rw [show ((4 : Nat) : Int) = 4 by decide]
          have HDr := Lib.hid HS.out.drew
          obtain ⟨Hs, hst, hgo⟩ := HDr.out.store
          have hb : F ≤ 2 ^ M ∧ 2 ^ (M + 3) = 8 * 2 ^ M ∧ 1 ≤ 2 ^ M := by
            rw [HD.out.2.2.2.2.1]
            exact ⟨Nat.pow_le_pow_right (by decide) (by have := HLV.out.2; omega), by rw [Nat.pow_add]; omega, Nat.two_pow_pos M⟩
          have hC := get_int M A.2 (4 + F + 2) (4 + F + 2) (IntKind.i64.wrap (IntKind.i64.wrap (4 + (F : Int)) + 2)) (IntKind.i64.wrap (IntKind.i64.wrap (4 + (F : Int)) + 2)) (by rw [IntWalk.i64_in (4 + (F : Int)) (by omega), IntWalk.i64_in _ (by omega)]; omega) (by rw [IntWalk.i64_in (4 + (F : Int)) (by omega), IntWalk.i64_in _ (by omega)]; omega) wr.drew hst HA.out.1 (by have := HLV.out.2; omega) (by omega) (by omega) (by have h := HA.out.2.2 4 (by decide); rw [← HD.out.2.2.2.2.1] at h; exact h)
          have HC := Lib.hid hC
          have kd : wr.drew.cell? ⟨gB, 8, none⟩ = some (.int .i64 2) ∧ wr.drew.cell? ⟨gB, 9, none⟩ = some (.int .i64 2) := ten_cells HDr.out.b0 4 (by decide)
          have KD := Lib.hid kd
          clear hk hst hgo hb hC HS kd
          go_upto_region 24 with (fail)
          go_region_held3 (fun w' => w'.cell? ⟨gB, 8, none⟩ = some (.int .i64 2) ∧ w'.cell? ⟨gB, 9, none⟩ = some (.int .i64 2)) (first | with_reducible exact KD.out | with_reducible exact ks)
            ((go_at_call 18; (with_reducible refine HC.out.mono ?_); rintro e w7 ⟨rfl, hb⟩; have HS7 := Lib.hid (HDr.out.below hb); have ks : w7.cell? ⟨gB, 8, none⟩ = some (.int .i64 2) ∧ w7.cell? ⟨gB, 9, none⟩ = some (.int .i64 2) := ten_cells HS7.out.b0 4 (by decide); clear hb))
          go_wp2
          go_roundw
          case rel => exact ⟨4 + 1, by omega, by first | rfl | go_num, HS7⟩
          case measure => simp [intOf]
        · rw [show ((5 : Nat) : Int) = 5 by decide]
          have HB := Lib.hid (HH.out.2.1.trans ((HS.out.bel HH.out.1 HH.out.2.2).mono (Nat.le_refl _)))
          clear hk HS
          go_wp2_with (go_at_call 7; refine (sure_any _).mono ?_; rintro e w8 ⟨rfl, hb⟩; have HB2 := Lib.hid (HB.out.trans (hb.mono HB.out.size)); clear hb)
          go_ret
          exact ⟨rfl, HB2.out⟩
end Go.Proofs.Ytgimphkamjojpaa

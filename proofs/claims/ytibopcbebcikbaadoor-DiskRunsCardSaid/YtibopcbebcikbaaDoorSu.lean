/-
  WHAT MUST COME WHATEVER THE INPUT IS: the statements' own fixed example holds. No conditions.
-/
import Derived.Test.YtibopcbebcikbaaDoorAt
import Derived.Deep.RegionHeld3
namespace Go.Proofs.YtibopcbebcikbaaDoor
open Go.RowKit

set_option maxRecDepth 100000 in
theorem conv_row {w : World} {a : Option Addr} {c : Nat} {f : Nat → Int} {t : ByteArray} (h : Lies w a (rowOf f)) (ht : t.size = 512) (hf : ∀ j, j < 512 → f j = txt t j) :
    (convert 40 9 (.slice a 512 c)).run Tryd.prog w = .ok (.string t) w := by
  rw [conv_any h (rowOf_len f), row_txt ht hf]
set_option maxRecDepth 100000 in
theorem sector_from {w0 : World} (t : ByteArray) (w : World) (hb : Below w0.heap.size w0 w) (ht : t.size ≤ 9223372036854775807) : Calls Tryd.prog 22 #[.string t] w fun e w' => e = .returned (.string (sec t)) ∧ Below w0.heap.size w0 w' :=
  (sector_any t w ht).mono fun _ _ ⟨he, hb2⟩ => ⟨he, hb.trans (hb2.mono hb.size)⟩
theorem txt_nil (j : Nat) (hj : j < 512) : txt (sec ⟨#[]⟩) j = 0 := by
  have e : sec ⟨#[]⟩ = strOfNums (List.replicate 512 0) := by
    unfold sec
    rw [if_neg (by decide)]
    show ByteArray.empty ++ _ = _
    rw [ByteArray.empty_append]
    rfl
  unfold txt
  rw [e, nums_str (fun i h => by rw [List.getElem_replicate]; exact ⟨Int.le_refl _, by decide⟩)]
  rw [List.getD_eq_getElem?_getD, List.getElem?_replicate, if_pos hj]
  rfl
def tA : ByteArray := ⟨#[97]⟩
def tB : ByteArray := ⟨#[98]⟩
theorem size_tA : (sec ⟨#[97]⟩).size = 512 := sec_size (by decide)
theorem size_tB : (sec ⟨#[98]⟩).size = 512 := sec_size (by decide)
theorem size_t0 : (sec ⟨#[]⟩).size = 512 := sec_size (by decide)

set_option maxHeartbeats 2000000 in
set_option maxRecDepth 100000 in
theorem sure_any (W : World) : Calls Tryd.prog 9 #[] W fun e w' => e = .returned (.bool true) ∧ Below W.heap.size W w' := by
  have cA := conv_512 (sec ⟨#[97]⟩) size_tA
  have cB := conv_512 (sec ⟨#[98]⟩) size_tB
  go_enter Tryd.func9, Tryd.ntmps9
  go_wp2_with (first | (go_at_call 7; refine (new_at 2 2 _ rfl (by omega) (by omega)).mono ?_; rintro e wa ⟨p, s0, rfl, ha, hn⟩; have HA := Lib.hid ha; have HN := Lib.hid hn; clear ha hn) | (go_at_call 22; refine (sector_at s0 _ _ HA.out (by decide)).mono ?_; rintro e wb ⟨rfl, hb, _⟩; have HB := Lib.hid hb; clear hb HA) | (go_at_call 14; refine (write_at s0 0 _ _ _ _ size_tA HB.out rfl (by rw [HN.out.n]; omega) (by rw [HN.out.left]; omega) (by rw [HN.out.writes]; omega) (by rw [HN.out.writes]; omega)).mono ?_; rintro e wc ⟨rfl, s1, h1, k1, _⟩; have HC := Lib.hid h1; have K1 := Lib.hid k1; clear h1 k1 HB) | (go_at_call 15; refine (flush_at s1 _ HC.out).mono ?_; rintro e wd ⟨rfl, h1, _⟩; have HD := Lib.hid h1; clear h1) | (go_at_call 22; refine (sector_at s1.flush _ _ HD.out (by decide)).mono ?_; rintro e we ⟨rfl, hb, _⟩; have HE := Lib.hid hb; clear hb HD) | (go_at_call 14; refine (write_at s1.flush 1 _ _ _ _ size_tB HE.out rfl (by show 1 < s1.n; rw [K1.out.n, HN.out.n]; omega) (by show s1.left ≠ 0; rw [K1.out.left, HN.out.left]; decide) (by show 0 ≤ s1.writes; rw [K1.out.writes, HN.out.writes]; omega) (by show s1.writes < _; rw [K1.out.writes, HN.out.writes]; omega)).mono ?_; rintro e wf ⟨rfl, s3, h1, k1, _⟩; have HF := Lib.hid h1; have K3 := Lib.hid k1; clear h1 k1 HE) | (go_at_call 16; refine (crash_nil s3 _ HF.out).mono ?_; rintro e wg ⟨rfl, h1, _⟩; have HG := Lib.hid h1; clear h1 HF) | (go_at_call 12; refine (read_at s3.lose 0 _ _ HG.out rfl (by show 0 < s3.n; rw [K3.out.n]; show 0 < s1.n; rw [K1.out.n, HN.out.n]; omega)).mono ?_; rintro e wh ⟨ao, cap, rfl, hl, _, _, h1, _⟩; have LA := Lib.hid hl; have HH := Lib.hid h1; clear h1 hl HG) | (go_at_call 12; refine (read_at s3.lose 1 _ _ HH.out rfl (by show 1 < s3.n; rw [K3.out.n]; show 1 < s1.n; rw [K1.out.n, HN.out.n]; omega)).mono ?_; rintro e w0 ⟨bo, cap2, rfl, hl, _, _, h1, hb⟩; have LB := Lib.hid hl; have LA2 := Lib.hid (LA.out.below hb); have HI := Lib.hid h1; clear h1 hl hb HH LA))
  have HW := Lib.hid (show s3.lose.writes = 2 by show s3.writes = 2; rw [K3.out.writes]; show s1.writes + 1 = 2; rw [K1.out.writes, HN.out.writes]; rfl)
  have EA := Lib.hid (show ∀ j, j < 512 → s3.lose.cur 0 j = txt (sec ⟨#[97]⟩) j from fun j hj => by
    rw [crash_nil_cur, K3.out.sure, flush_sure HC.out.d.ok 0 j hj, K1.out.cur, if_pos rfl])
  have EB := Lib.hid (show ∀ j, j < 512 → s3.lose.cur 1 j = txt (sec ⟨#[]⟩) j from fun j hj => by
    rw [crash_nil_cur, K3.out.sure, flush_sure HC.out.d.ok 1 j hj, K1.out.cur, if_neg (by decide), txt_nil j hj]
    unfold St.cur
    rw [HN.out.late]
    exact HN.out.sure 1 j)
  have hb0 : Below w0.heap.size w0 w0.drew := (Below.refl _ _).drew
  go_region_held3 (fun w' => (convert 40 9 (.slice (some ⟨ao, 0, none⟩) 512 cap)).run Tryd.prog w' = .ok (.string (sec ⟨#[97]⟩)) w' ∧ (convert 40 9 (.slice (some ⟨bo, 0, none⟩) 512 cap2)).run Tryd.prog w' = .ok (.string (sec ⟨#[]⟩)) w') (exact ⟨conv_row (LA2.out.below (by assumption)) size_tA EA.out, conv_row (LB.out.below (by assumption)) size_t0 EB.out⟩) (first | (go_at_call 22; refine (sector_from _ _ (by assumption) (by decide)).mono ?_; rintro e w5 ⟨rfl, hb5⟩) | (go_at_call 20; refine (writes_at _ _ (HI.out.below (by assumption))).mono ?_; rintro e w5 ⟨rfl, rfl⟩; rw [HW.out]))
  all_goals go_wp2
  all_goals go_ret
  all_goals exact ⟨rfl, HI.out.b.trans ((by assumption : Below w0.heap.size w0 _).mono HI.out.le)⟩
set_option maxRecDepth 100000 in
theorem sure_now {W : World} {p : Nat} {w0 w : World} {r s : St} (h : Now W p w0 r w s) : Calls Tryd.prog 9 #[] w fun e w' => e = .returned (.bool true) ∧ Now W p w0 r w' s :=
  (sure_any w).mono fun _ _ ⟨he, hb⟩ => ⟨he, h.below hb⟩
end Go.Proofs.YtibopcbebcikbaaDoor

/-
  AN ACT, done to both; that both are the same, sector by sector. Conditions: the disk and the document's lists lie in memory, and are the same.
-/
import Derived.Test.YtibopcbebcikbaaDoorRt
namespace Go.Proofs.YtibopcbebcikbaaDoor
open Go.RowKit

theorem act_any {W : World} {p : Nat} (hl : Laid W) (s : St) (r : Ref) (A : ActV) (w : World) (h : Both W w p s r) (k0 : 0 ≤ s.writes) (k1 : s.writes < 1000) (hp : s.pend.length ≤ 99) (hb : A.b.size ≤ 1000) (hA : ActOk w A) (hkb : 0 < A.kn → ∀ b off, A.ka = some ⟨b, off, none⟩ → ¬ s.has b) :
    Calls Tryd.prog 10 #[.pointer (some ⟨p, 0, none⟩), r.val, actVal A] w (ActOut W w p s r) := by
  obtain ⟨k, e, hk⟩ := red_nat A.kind 7 (by omega) (by omega)
  by_cases e3 : k = 3
  · subst e3; exact act_flush s r A w h k0 e
  by_cases e4 : k = 4
  · subst e4; exact act_crash hl s r A w h k0 hA hkb e
  by_cases e5 : k = 5
  · subst e5; exact act_rot hl s r A w h k0 e
  by_cases e6 : k = 6
  · subst e6; exact act_limit s r A w h k0 hA e
  exact act_write hl s r A w k h k0 k1 hp hb e (by omega)

/-! that both are the same -/
theorem size_from {W w0 w : World} {p : Nat} {s : St} {r : Ref} (h : Both W w0 p s r) (hb : Below w0.heap.size w0 w) : Calls Tryd.prog 19 #[.pointer (some ⟨p, 0, none⟩)] w fun e w' => e = .returned (.int .i64 (r.n : Int)) ∧ w = w' :=
  (size_at s w (h.a.below hb)).mono fun _ _ ⟨he, hw⟩ => ⟨by rw [he, h.same.n], hw⟩
theorem writes_from {W w0 w : World} {p : Nat} {s : St} {r : Ref} (h : Both W w0 p s r) (hb : Below w0.heap.size w0 w) : Calls Tryd.prog 20 #[.pointer (some ⟨p, 0, none⟩)] w fun e w' => e = .returned (.int .i64 r.writes) ∧ w = w' :=
  (writes_at s w (h.a.below hb)).mono fun _ _ ⟨he, hw⟩ => ⟨by rw [he, h.same.writes], hw⟩
def PendAt (w0 : World) (r : Ref) (e : Ending) (w' : World) : Prop := ∃ ao cap, e = .returned (.slice ao r.pend.length cap) ∧ Ints w' ao (r.pend.map fun (i : Nat) => (i : Int)) ∧ Below w0.heap.size w0 w'
theorem pend_from {W w0 w : World} {p : Nat} {s : St} {r : Ref} (h : Both W w0 p s r) (hb : Below w0.heap.size w0 w) : Calls Tryd.prog 21 #[.pointer (some ⟨p, 0, none⟩)] w (PendAt w0 r) :=
  (pending_at s w (h.a.below hb)).mono fun _ _ ⟨ao, cap, he, hi, _, hb2⟩ => ⟨ao, cap, by rw [he, h.same.pend], by rw [h.same.pend]; exact hi, hb.trans (hb2.mono hb.size)⟩
theorem ints_from {w0 w : World} {r : Ref} (h : RefOk w0 r) (hb : Below w0.heap.size w0 w) (ao : Option Addr) (cap : Nat) (hi : Ints w ao (r.pend.map fun (i : Nat) => (i : Int))) : Calls Tryd.prog 23 #[.slice ao r.pend.length cap, .slice r.pa r.pend.length r.pc] w fun e w' => e = .returned (.bool true) ∧ Below w0.heap.size w0 w' :=
  (ints_any ao r.pa r.pend.length cap r.pc _ w hi (h.p.below hb) (List.length_map _) (by have := h.len; omega)).mono fun _ _ ⟨he, hb2⟩ => ⟨he, hb.trans (hb2.mono hb.size)⟩
def ReadFrom (w0 : World) (r : Ref) (i : Nat) (e : Ending) (w' : World) : Prop := ∃ g cap, e = .returned (.tuple #[.slice (some ⟨g, 0, none⟩) 512 cap, .nilIface]) ∧ (∀ nq, (convert 40 9 (.slice (some ⟨g, 0, none⟩) 512 cap)).run Tryd.prog (w'.drewN nq) = .ok (.string (strOfNums (rowOf (r.N i)))) (w'.drewN nq)) ∧ Below w0.heap.size w0 w'
theorem read_from {W w0 w : World} {p : Nat} {s : St} {r : Ref} (h : Both W w0 p s r) (hb : Below w0.heap.size w0 w) (i : Nat) (hi : i < r.n) : Calls Tryd.prog 12 #[.pointer (some ⟨p, 0, none⟩), .int .i64 i] w (ReadFrom w0 r i) :=
  (read_at s i i w (h.a.below hb) rfl (by rw [← h.same.n]; exact hi)).mono fun _ w' ⟨g, cap, he, hl, _, _, _, hb2⟩ => ⟨g, cap, he, fun nq => by
    have hl2 : Lies (w'.drewN nq) (some ⟨g, 0, none⟩) (rowOf (s.cur i)) := hl
    have e := conv_any (n := 512) (c := cap) hl2 (rowOf_len _)
    rw [e, rowOf_congr (fun j hj => h.same.N i j hj)], hb.trans (hb2.mono hb.size)⟩
set_option maxRecDepth 100000 in
set_option maxHeartbeats 1000000 in
theorem same_any {W : World} {p : Nat} (s : St) (r : Ref) (w : World) (h : Both W w p s r) :
    Calls Tryd.prog 11 #[.pointer (some ⟨p, 0, none⟩), r.val] w fun e w' => e = .returned (.bool true) ∧ Below w.heap.size w w' := by
  have HH := Lib.hid h
  have h5 : (r.n : Int) ≤ 100 := by have := h.ok.n1.2; omega
  have h4 : (r.pend.length : Int) ≤ 100 := by have := h.ok.len; omega
  have e1 : ((r.n : Int) != (r.n : Int)) = false := by simp
  have e2 : (r.writes != r.writes) = false := by simp
  clear h
  unfold Ref.val
  go_enter Tryd.func11, Tryd.ntmps11
  go_upto_region 1 with (fail)
  have HC := refObj_cells w r
  have HB := Lib.hid (alX w (refObj r))
  change Code.wp _ _ _ _ (w.alloc (refObj r))
  have HS := Lib.hid (show (w.alloc (refObj r)).heap.size = w.heap.size + 1 by simp)
  generalize w.alloc (refObj r) = w0 at HC HB HS ⊢
  have HB2 := Lib.hid (show Both W w0 p s r from ⟨HH.out.a.below HB.out, HH.out.ok.below HB.out, HH.out.far, HH.out.same⟩)
  obtain ⟨x0, x1, x2, x3, x4⟩ := HC
  have hX : w.heap.size < w0.heap.size := by have := HS.out; omega
  have b0 : Below w0.heap.size w0 w0.drew := (Below.refl _ _).drew
  go_region_held (fun w' => w'.cell? ⟨w.heap.size, 0, none⟩ = some (.slice (some ⟨r.nb, 0, none⟩) r.n r.nc) ∧ w'.cell? ⟨w.heap.size, 2, none⟩ = some (.slice r.pa r.pend.length r.pc) ∧ w'.cell? ⟨w.heap.size, 3, none⟩ = some (.int .i64 r.writes)) (with_reducible exact ⟨(Below.cell (p := ⟨w.heap.size, 0, none⟩) (by assumption) hX).trans x0, (Below.cell (p := ⟨w.heap.size, 2, none⟩) (by assumption) hX).trans x2, (Below.cell (p := ⟨w.heap.size, 3, none⟩) (by assumption) hX).trans x3⟩) (first | (go_at_call 19; refine (size_from HB2.out (by assumption)).mono ?_; rintro e w1 ⟨rfl, rfl⟩) | (go_at_call 20; refine (writes_from HB2.out (by assumption)).mono ?_; rintro e w1 ⟨rfl, rfl⟩) | (go_at_call 21; refine (pend_from HB2.out (by assumption)).mono ?_; rintro e w2 ⟨ao, cap, rfl, hi, b2⟩; have HI := Lib.hid hi; clear hi) | (go_at_call 23; refine (ints_from HB2.out.ok (by assumption) _ _ HI.out).mono ?_; rintro e w3 ⟨rfl, b3⟩))
  have B3 := Lib.hid b3
  clear b3 b2 b0 e1 e2
  go_wp2
  go_loopw [5] (fun x wr => ∃ k : Nat, k ≤ r.n ∧ x = .int .i64 k ∧ Hid (Below w0.heap.size w0 wr)) (fun x _ => r.n - (intOf x).toNat)
  case atStart => exact ⟨0, by omega, rfl, B3⟩
  case round =>
    obtain ⟨k, hk, rfl, BW⟩ := hrel
    have hc : ∀ b j v, w0.cell? ⟨b, j, none⟩ = some v → _ := fun b j v hv => (BW.out.cell (p := ⟨b, j, none⟩) (World.block_lt_of_cell? w0 _ hv)).trans hv
    have c0 := hc _ _ _ x0
    have HCC := Lib.hid hc
    clear hc
    by_cases hlt : k < r.n
    · have i0 : (0 : Int) ≤ (k : Int) := by omega
      have i1 : (k : Int) < (r.n : Int) := by omega
      obtain ⟨bN, oN, haN, cN⟩ := HB2.out.ok.N k (by rw [txs_len]; exact hlt)
      obtain ⟨rfl, rfl⟩ : r.nb = bN ∧ 0 = oN := by simpa using haN
      rw [Nat.zero_add, txs_get] at cN
      have HCN := Lib.hid cN
      clear cN haN
      go_wp2_with (go_at_call 12; refine (read_from HB2.out BW.out k hlt).mono ?_; rintro e w4 ⟨g, cap, rfl, hcv, b4⟩; have HCV := Lib.hid hcv; have B4 := Lib.hid b4; have d0 := (b4.cell (p := ⟨w.heap.size, 0, none⟩) hX).trans x0; have dN := (b4.cell (p := ⟨r.nb, k, none⟩) (World.block_lt_of_cell? w0 _ HCN.out)).trans HCN.out; clear hcv b4)
      obtain ⟨t, et⟩ : ∃ t, t = strOfNums (rowOf (r.N k)) := ⟨_, rfl⟩
      rw [← et] at dN
      have hcv2 := HCV.out
      rw [← et] at hcv2
      clear et
      go_quiet (fail)
      go_wp2
      go_roundw
      case rel => exact ⟨k + 1, by omega, by go_num, Lib.hid (below_drewN B4.out _)⟩
      case measure => simp [intOf]; omega
    · obtain rfl : k = r.n := by omega
      go_wp2
      go_ret
      exact ⟨rfl, HB.out.trans (BW.out.mono HB.out.size)⟩
end Go.Proofs.YtibopcbebcikbaaDoor

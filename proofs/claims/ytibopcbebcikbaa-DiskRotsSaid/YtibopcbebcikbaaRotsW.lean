/-
  THE WALK of DiskRots: it is true of all texts and all numbers. Conditions: the texts' lengths and the number are Go's.
-/
import Derived.Test.YtibopcbebcikbaaSu
namespace Go.Proofs.Ytibopcbebcikbaa
open Go.RowKit

/-- a byte of a text -/
theorem idx_at (t : ByteArray) (k : Nat) (hk : k < t.size) (W : World) : (Instr.index 9 (.string t) (.int .i64 (k : Int))).run Try.prog W = .ok (.int .u8 (txt t k)) W := by
  rw [run_index_string (P := Try.prog) (w := W) 9 t .i64 (k : Int) Try.underlying9]
  have e : k < t.data.size := hk
  have h0 : (0 : Int) ≤ (k : Int) := by omega
  have h1 : (k : Int) < (t.size : Int) := by omega
  unfold txt nums
  simp [h0, h1, List.getD_eq_getElem?_getD]
  rw [Array.getElem?_eq_getElem e]
  rfl
/-- int(uint(a) % m) -/
theorem red_bd (a m : Int) (hm : 0 < m) (hm2 : m ≤ 9223372036854775807) : 0 ≤ wrap64 ((IntKind.u64.wrap a).tmod m) ∧ wrap64 ((IntKind.u64.wrap a).tmod m) < m := by
  have h0 := wrap_u64_nonneg a
  rw [Int.tmod_eq_emod_of_nonneg h0]
  have h1 := Int.emod_nonneg (IntKind.u64.wrap a) (show m ≠ 0 by omega)
  have h2 := Int.emod_lt_of_pos (IntKind.u64.wrap a) hm
  rw [IntWalk.wrap64_in _ ⟨by omega, by omega⟩]
  exact ⟨h1, h2⟩
set_option maxRecDepth 100000 in
set_option maxHeartbeats 2000000 in
theorem rots_walk (a b : ByteArray) (z : Int) (W : World) (wa : a.size ≤ maxLen) (wb : b.size ≤ maxLen) (_wz : (Lit.int .i64 z).wf = true) :
    Calls Try.prog 4 #[.string a, .string b, .int .i64 z] W fun e w' => e = .returned (.bool true) ∧ Below W.heap.size W w' := by
  unfold maxLen at wa wb
  by_cases hbig : 512 < a.size
  · go_enter Try.func4, Try.ntmps4
    go_wp2_with (go_at_call 5; refine (sure_any _).mono ?_; rintro e wk ⟨rfl, hb2⟩)
    go_ret
    exact ⟨rfl, hb2⟩
  by_cases hbig2 : 512 < b.size
  · go_enter Try.func4, Try.ntmps4
    go_wp2_with (go_at_call 5; refine (sure_any _).mono ?_; rintro e wk ⟨rfl, hb2⟩)
    go_ret
    exact ⟨rfl, hb2⟩
  have cA := conv_512 (sec a) (sec_size (by omega))
  have cB := conv_512 (sec b) (sec_size (by omega))
  go_enter Try.func4, Try.ntmps4
  go_wp2_with fail
  have hk := red_bd z 512 (by omega) (by omega)
  obtain ⟨k, hk2⟩ : ∃ k : Nat, wrap64 ((IntKind.u64.wrap z).tmod 512) = k := ⟨(wrap64 ((IntKind.u64.wrap z).tmod 512)).toNat, by omega⟩
  rw [hk2]
  rw [hk2] at hk
  have hk3 : k < 512 := by omega
  have y0 : 0 ≤ (IntKind.u64.wrap ((IntKind.u64.wrap z).tdiv 512) % 256 + 1) % 256 := by omega
  have y1 : (IntKind.u64.wrap ((IntKind.u64.wrap z).tdiv 512) % 256 + 1) % 256 < 256 := by omega
  clear hk2
  generalize (IntKind.u64.wrap ((IntKind.u64.wrap z).tdiv 512) % 256 + 1) % 256 = y at y0 y1 ⊢
  have k0 : (0 : Int) ≤ (k : Int) := hk.1
  have k1 : (k : Int) < 512 := hk.2
  clear hk
  go_wp2_with (first | (go_at_call 6; refine (new_at 1 1 _ rfl (by omega) (by omega)).mono ?_; rintro e wa ⟨p, s0, rfl, ha, hn⟩; have HA := Lib.hid ha; have HN := Lib.hid hn; clear ha hn) | (go_at_call 8; refine (sector_at s0 _ _ HA.out (by omega)).mono ?_; rintro e wb ⟨rfl, hb, _⟩; have HB := Lib.hid hb; clear hb HA) | (go_at_call 7; refine (write_at s0 0 _ _ _ _ (sec_size (by omega)) HB.out rfl (by rw [HN.out.n]; omega) (by rw [HN.out.left]; omega) (by rw [HN.out.writes]; omega) (by rw [HN.out.writes]; omega)).mono ?_; rintro e wc ⟨rfl, s1, h1, k1, _⟩; have HC := Lib.hid h1; have K1 := Lib.hid k1; clear h1 k1 HB) | (go_at_call 9; refine (flush_at s1 _ HC.out).mono ?_; rintro e wd ⟨rfl, h1, _⟩; have HD := Lib.hid h1; clear h1) | (go_at_call 8; refine (sector_at s1.flush _ _ HD.out (by omega)).mono ?_; rintro e we ⟨rfl, hb, _⟩; have HE := Lib.hid hb; clear hb HD) | (go_at_call 7; refine (write_at s1.flush 0 _ _ _ _ (sec_size (by omega)) HE.out rfl (by show 0 < s1.n; rw [K1.out.n, HN.out.n]; omega) (by show s1.left ≠ 0; rw [K1.out.left, HN.out.left]; decide) (by show 0 ≤ s1.writes; rw [K1.out.writes, HN.out.writes]; omega) (by show s1.writes < _; rw [K1.out.writes, HN.out.writes]; omega)).mono ?_; rintro e wf ⟨rfl, s3, h1, k1, _⟩; have HF := Lib.hid h1; have US := Lib.hid (h1.d.ok.us 0); have K3 := Lib.hid k1; have HNN := Lib.hid (show s3.n = 1 by rw [K3.out.n]; show s1.n = 1; rw [K1.out.n, HN.out.n]); clear h1 k1 HE) | (go_at_call 13; refine (rot_at s3 0 k _ _ _ _ HF.out rfl rfl (by rw [HNN.out]; omega) hk3 y0 y1).mono ?_; rintro e wg ⟨rfl, h1, _⟩; have HG := Lib.hid h1; clear h1 HF) | (go_at_call 12; refine (read_at (s3.rot 0 k y) 0 _ _ HG.out rfl (by rw [(rot_keeps s3 0 k y).n, HNN.out]; omega)).mono ?_; rintro e w0 ⟨g, cap, rfl, hl, _, hng, h1, _⟩; have LA := Lib.hid hl; have HH := Lib.hid h1; have HNG := Lib.hid hng; clear h1 hl hng HG))
  have xA := idx_at (sec a) k (by rw [sec_size (by omega)]; exact hk3)
  have xB := idx_at (sec b) k (by rw [sec_size (by omega)]; exact hk3)
  have P1 := Lib.hid (show (s3.rot 0 k y).n = 1 by rw [(rot_keeps s3 0 k y).n, HNN.out])
  have P2 := Lib.hid (show ((s3.rot 0 k y).rot 0 k y).n = 1 by rw [(rot_keeps _ 0 k y).n, P1.out])
  have P3 := Lib.hid (show (((s3.rot 0 k y).rot 0 k y).rot 0 k y).n = 1 by rw [(rot_keeps _ 0 k y).n, P2.out])
  have E3 : ∀ j, s3.cur 0 j = txt (sec b) j := fun j => by rw [K3.out.cur, if_pos rfl]
  have F3 : ∀ j, j < 512 → s3.sure 0 j = txt (sec a) j := fun j hj => by rw [K3.out.sure, flush_sure HC.out.d.ok 0 j hj, K1.out.cur, if_pos rfl]
  have E3b : s3.cur 0 = txt (sec b) := funext E3
  have C1 : (s3.rot 0 k y).cur 0 k = bits .xor .u8 (txt (sec b) k) y := by rw [rot_cur, if_pos rfl, E3b]; unfold turn; rw [if_pos rfl]
  have C2 := Lib.hid (show ∀ j, j < 512 → ((s3.rot 0 k y).rot 0 k y).cur 0 j = txt (sec b) j from fun j _ => by
    have e : (s3.rot 0 k y).cur 0 = turn (txt (sec b)) k y := by funext q; rw [rot_cur, if_pos rfl, E3b]
    rw [rot_cur, if_pos rfl, e, turn_turn (txt_bd _) k y0 y1])
  have C3 : (((s3.rot 0 k y).rot 0 k y).rot 0 k y).lose.cur 0 k = bits .xor .u8 (txt (sec a) k) y := by
    have e1 : (s3.rot 0 k y).sure 0 = turn (s3.sure 0) k y := by funext q; rw [rot_sure, if_pos rfl]
    have e2 : ((s3.rot 0 k y).rot 0 k y).sure 0 = s3.sure 0 := by funext q; rw [rot_sure, if_pos rfl, e1, turn_turn US.out k y0 y1]
    rw [crash_nil_cur, rot_sure, if_pos rfl, e2]
    unfold turn
    rw [if_pos rfl, F3 k hk3]
  have CA : w0.cell? ⟨g, k, none⟩ = some (.int .u8 (bits .xor .u8 (txt (sec b) k) y)) := by
    have := LA.out.cell (k := k) (by rw [rowOf_len]; exact hk3)
    rw [Nat.zero_add, rowOf_getD _ _ hk3, C1] at this
    exact this
  have HC3 := Lib.hid C3
  have N0 : Now W p w0 (s3.rot 0 k y) w0.drew (s3.rot 0 k y) := (Now.first HH.out).drew
  clear E3 F3 E3b C1 C3
  go_region_held3 (fun w' => w'.cell? ⟨g, k, none⟩ = some (.int .u8 (bits .xor .u8 (txt (sec b) k) y))) (exact Now.cell (by assumption) CA HNG.out) (first | (go_at_call 8; refine (sector_now (by assumption) _ (by omega)).mono ?_; rintro e w5 ⟨rfl, n5⟩) | (go_at_call 13; refine (rot_now (by assumption) 0 k _ _ _ rfl rfl (by rw [P1.out]; omega) hk3 y0 y1).mono ?_; rintro e w6 ⟨rfl, n6⟩))
  go_wp2_with (go_at_call 12; refine (read_at ((s3.rot 0 k y).rot 0 k y) 0 _ _ n6.a rfl (by rw [P2.out]; omega)).mono ?_; rintro e w7 ⟨g2, cap2, rfl, hl, _, hng, h1, _⟩; have LB := Lib.hid hl; have H7 := Lib.hid h1; have HNG2 := Lib.hid hng; clear h1 hl hng)
  have N1 : Now W p w7 ((s3.rot 0 k y).rot 0 k y) w7.drew ((s3.rot 0 k y).rot 0 k y) := (Now.first H7.out).drew
  clear n6 N0 CA
  go_region_held3 (fun w' => (convert 34 9 (.slice (some ⟨g2, 0, none⟩) 512 cap2)).run Try.prog w' = .ok (.string (sec b)) w') (exact conv_row (Now.lies (by assumption) LB.out HNG2.out) (sec_size (by omega)) C2.out) (first | (go_at_call 8; refine (sector_now (by assumption) _ (by omega)).mono ?_; rintro e w8 ⟨rfl, n8⟩) | (go_at_call 13; refine (rot_now (by assumption) 0 k _ _ _ rfl rfl (by rw [P2.out]; omega) hk3 y0 y1).mono ?_; rintro e w9 ⟨rfl, n9⟩) | (go_at_call 11; refine (lose_now (by assumption)).mono ?_; rintro e w10 ⟨rfl, n10⟩))
  go_wp2_with (go_at_call 12; refine (read_at (((s3.rot 0 k y).rot 0 k y).rot 0 k y).lose 0 _ _ n10.a rfl (by show 0 < (((s3.rot 0 k y).rot 0 k y).rot 0 k y).lose.n; show 0 < ((((s3.rot 0 k y).rot 0 k y).rot 0 k y).kept []).n; show 0 < (((s3.rot 0 k y).rot 0 k y).rot 0 k y).n; rw [P3.out]; omega)).mono ?_; rintro e w11 ⟨g3, cap3, rfl, hl, _, hng, h1, _⟩; have LC := Lib.hid hl; have H11 := Lib.hid h1; have HNG3 := Lib.hid hng; clear h1 hl hng)
  have N2 : Now W p w11 (((s3.rot 0 k y).rot 0 k y).rot 0 k y).lose w11.drew (((s3.rot 0 k y).rot 0 k y).rot 0 k y).lose := (Now.first H11.out).drew
  have CC : w11.cell? ⟨g3, k, none⟩ = some (.int .u8 (bits .xor .u8 (txt (sec a) k) y)) := by
    have := LC.out.cell (k := k) (by rw [rowOf_len]; exact hk3)
    rw [Nat.zero_add, rowOf_getD _ _ hk3, HC3.out] at this
    exact this
  clear n9 n10 N1
  go_region_held3 (fun w' => w'.cell? ⟨g3, k, none⟩ = some (.int .u8 (bits .xor .u8 (txt (sec a) k) y))) (exact Now.cell (by assumption) CC HNG3.out) (first | (go_at_call 8; refine (sector_now (by assumption) _ (by omega)).mono ?_; rintro e w12 ⟨rfl, n12⟩) | (go_at_call 13; refine (rot_now (by assumption) 0 k _ _ _ rfl rfl (by show 0 < (((s3.rot 0 k y).rot 0 k y).rot 0 k y).n; rw [P3.out]; omega) hk3 y0 y1).mono ?_; rintro e w13 ⟨rfl, n13⟩) | (go_at_call 5; refine (sure_now (by assumption)).mono ?_; rintro e w14 ⟨rfl, n14⟩))
  go_wp2
  go_ret
  exact ⟨rfl, n14.a.b⟩
end Go.Proofs.Ytibopcbebcikbaa

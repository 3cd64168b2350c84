/-
  RLE: Parse.
-/
import Derived.Test.YtangbokcdgganaaGreatDoorLj
namespace Go.Proofs.YtangbokcdgganaaGreatDoor
open Go.RowKit Ru Ce
open Go.Lib (indexByte hasPrefix)

namespace Rl
/-- what Parse answers -/
def ParseR (w : World) (p : PR) (e : Ending) (w' : World) : Prop :=
  Below w.heap.size w w' ∧ ∃ v, e = .returned (.tuple #[Rv p.r.1 p.r.2, v, .int .i64 p.k, ev p.e]) ∧ OwnC 25 w' w.heap.size v p.cs.length p.cs
theorem own_up {T : TypeId} {w : World} {B B' n : Nat} {v : Value} {l : List Cel} (h : OwnC T w B v n l) (hB : B' ≤ B) : OwnC T w B' v n l := by
  refine ⟨h.1, ?_⟩
  rcases h.2 with h2 | ⟨g, cap, cur, rfl, h3, h4, h5⟩
  · exact .inl h2
  · exact .inr ⟨g, cap, cur, rfl, Nat.le_trans hB h3, h4, h5⟩
set_option maxRecDepth 100000 in
set_option maxHeartbeats 2000000 in
theorem parse_rle (s : ByteArray) (w : World) (hs : s.size ≤ 9223372036854775807) : Calls Tryz.prog 7 #[.string s] w (ParseR w (parseL (bl s))) := by
  obtain ⟨R, hR⟩ : ∃ R, parseL (bl s) = R := ⟨_, rfl⟩
  rw [hR]
  unfold parseL at hR
  rw [bl_size] at hR
  by_cases h0 : 65536 < s.size
  · rw [if_pos h0] at hR
    subst hR
    have h0' : (65536 : Int) < (s.size : Int) := by omega
    have HV := Lib.hid (res_of (w := w) (Below.refl _ _))
    obtain ⟨z0, z1, g0, g1, hz⟩ := HV.out.res
    go_enter Tryz.func7, Tryz.ntmps7
    go_wp2
    refine bodyPost_ret (v := .tuple #[Rv 0 0, .slice none 0 0, .int .i64 0, .iface 48 (.int .i64 2)]) (by simp [results, Tryz.results7, go_sem, Rv, z0, z1]) rfl ⟨HV.out.bl, _, rfl, World.ownsRow_nil _ _ _ _⟩
  · rw [if_neg h0] at hR
    have h0' : (s.size : Int) ≤ 65536 := by omega
    have HN := Lib.hid (fun W => notes_any s W (by omega))
    have hble := beh_le _ (bl s) (Nat.le_refl _)
    rw [bl_size] at hble
    obtain ⟨b, hb⟩ : ∃ b, behL (bl s) = b := ⟨_, rfl⟩
    rw [hb] at HN hR hble
    have hcut : s.extract b s.size = st ((bl s).drop b) := st_drop s b
    have HC := Lib.hid (fun W => cut_any (s.extract b s.size) 10 W (by rw [hcut, st_size, List.length_drop, bl_size]; omega))
    rw [hcut, bl_st] at HC
    rw [← hcut] at HC
    unfold cutV at HC
    have hll := cut_len ((bl s).drop b) 10
    rw [List.length_drop, bl_size] at hll
    unfold lineL at hR
    obtain ⟨l, l2, ok, hl⟩ : ∃ l l2 ok, cutL ((bl s).drop b) 10 = (l, l2, ok) := ⟨_, _, _, rfl⟩
    rw [hl] at HC hR hll
    have hll : l.length ≤ s.size - b := hll
    have HH := Lib.hid (fun W => readHead_any (st l) W (by rw [st_size]; omega))
    rw [bl_st] at HH
    have hsz : ((st l).size : Int) = (l.length : Int) := by rw [st_size]
    obtain ⟨⟨r1, r2⟩, e, he⟩ : ∃ r e, headL l = (r, e) := ⟨_, _, rfl⟩
    rw [he] at HH
    have he' : headL l = ((r1, r2), e) := he
    rw [he'] at hR
    change Hid (∀ W : World, Calls Tryz.prog 19 #[.string (s.extract b s.size), .string ⟨#[10]⟩] W fun e w' => e = .returned (.tuple #[.string (st l), .string (st l2), .bool ok]) ∧ Below W.heap.size W w') at HC
    change Hid (∀ W : World, Calls Tryz.prog 20 #[.string (st l)] W fun e' w' => e' = .returned (.tuple #[.agg #[.int .u16 r1, .int .u16 r2], ev e]) ∧ Below W.heap.size W w') at HH
    have hb0 : (0 : Int) ≤ (b : Int) := by omega
    have hb1 : (b : Int) ≤ (s.size : Int) := by omega
    by_cases he0 : e = 0
    · have hR' : bodyL (r1, r2) (runsL ((bl s).drop (b + l.length)) (b + l.length) 0 0 []) = R := by rw [if_pos he0] at hR; exact hR
      subst he0
      have hev : ev 0 = .nilIface := rfl
      rw [hev] at HH
      have HU := Lib.hid (fun W => readRuns_any s (b + l.length) W (by omega) (by omega))
      have hq0 : (0 : Int) ≤ (l.length : Int) := by omega
      have hq1 : (b : Int) + (l.length : Int) ≤ (s.size : Int) := by omega
      obtain ⟨o, ho⟩ : ∃ o, runsL ((bl s).drop (b + l.length)) (b + l.length) 0 0 [] = o := ⟨_, rfl⟩
      rw [ho] at HU hR'
      subst hR'
      push_cast at HU
      have HO := Lib.hid (fun k n (q : o = .err k n) => (runs_err _ _ _ _ _ _ k n (Nat.le_refl _) (ho.trans q)).1)
      clear hR ho he he' hl hcut hble hll hb hev h0 hs
      generalize st l = L at *
      generalize st l2 = L2 at *
      cases o with
      | ok cs =>
        go_enter Tryz.func7, Tryz.ntmps7
        go_wp2_with (first | (go_at_call 18; refine (HN.out _).mono ?_; rintro e1 w1 ⟨rfl, rfl⟩) | (go_at_call 19; refine (HC.out _).mono ?_; rintro e2 w2 ⟨rfl, hb2⟩; have HV2 := Lib.hid (res_of hb2); clear hb2) | (go_at_call 20; refine (HH.out _).mono ?_; rintro e3 w3 ⟨rfl, hb3⟩; have HV3 := Lib.hid ((HV2.out.below hb3).below (alX w3 (.cells #[.int .u16 r1, .int .u16 r2] 32))); have HN3 := Lib.hid (heap_alloc_new w3 (.cells #[.int .u16 r1, .int .u16 r2] 32)); obtain ⟨z0, z1, g0, g1, hz⟩ := HV3.out.res; clear hb3) | (go_at_call 21; refine (HU.out _).mono ?_; rintro e4 w4 ⟨hb4, v, rfl, hv4⟩; have HV4 := Lib.hid (HV3.out.below hb4); obtain ⟨y0, y1, j0, j1, jz⟩ := HV4.out.res; have hn := (hb4.block _ (by simp)).trans HN3.out; have c0 := cell_of_row _ _ 0 _ _ _ hn; have c1 := cell_of_row _ _ 1 _ _ _ hn; have HO4 := Lib.hid hv4; have HLE := Lib.hid (show w.heap.size < (w3.alloc (.cells #[.int .u16 r1, .int .u16 r2] 32)).heap.size from Nat.lt_of_lt_of_le (lt_of_block HV3.out.h0) (Nat.le_refl _)); clear hb4 hn hv4))
        have hx := HV4.out.outs (.int .u16 (r1 : Int)) (.int .u16 (r2 : Int))
        refine bodyPost_ret (v := .tuple #[Rv r1 r2, v, .int .i64 0, .nilIface]) (by simp [results, Tryz.results7, go_sem, Rv, hx.2.1, hx.2.2.1]) rfl ⟨hx.2.2.2, v, rfl, ?_⟩
        refine own_up (own_same HO4.out (fun b hb => ?_)) (Nat.le_of_lt HLE.out)
        have hlt := (own_lt HO4.out hb).1
        have hne : b ≠ w.heap.size := by have := HLE.out; omega
        exact (heap_setCell_other _ ⟨w.heap.size, 1, none⟩ b _ hne).trans (heap_setCell_other _ ⟨w.heap.size, 0, none⟩ b _ hne)
      | err k n =>
        have HE := Lib.hid (show ev n = .iface 48 (.int .i64 n) from if_neg (by have := HO.out k n rfl; omega))
        go_enter Tryz.func7, Tryz.ntmps7
        go_wp2_with (first | (go_at_call 18; refine (HN.out _).mono ?_; rintro e1 w1 ⟨rfl, rfl⟩) | (go_at_call 19; refine (HC.out _).mono ?_; rintro e2 w2 ⟨rfl, hb2⟩; have HV2 := Lib.hid (res_of hb2); clear hb2) | (go_at_call 20; refine (HH.out _).mono ?_; rintro e3 w3 ⟨rfl, hb3⟩; have HV3 := Lib.hid ((HV2.out.below hb3).below (alX w3 (.cells #[.int .u16 r1, .int .u16 r2] 32))); have HN3 := Lib.hid (heap_alloc_new w3 (.cells #[.int .u16 r1, .int .u16 r2] 32)); obtain ⟨z0, z1, g0, g1, hz⟩ := HV3.out.res; clear hb3) | (go_at_call 21; refine (HU.out _).mono ?_; rintro e4 w4 ⟨hb4, rfl⟩; have HV4 := Lib.hid (HV3.out.below hb4); obtain ⟨y0, y1, j0, j1, jz⟩ := HV4.out.res; clear hb4))
        have hx := HV4.out.outs (.int .u16 0) (.int .u16 0)
        refine bodyPost_ret (v := .tuple #[Rv 0 0, .slice none 0 0, .int .i64 k, .iface 48 (.int .i64 n)]) (by simp [results, Tryz.results7, go_sem, Rv, hx.2.1, hx.2.2.1]) rfl ⟨hx.2.2.2, _, by show _ = Ending.returned (.tuple #[_, _, _, ev n]); rw [HE.out]; rfl, World.ownsRow_nil _ _ _ _⟩
    · have hR' : R = ⟨(0, 0), [], b, e⟩ := by rw [if_neg he0] at hR; exact hR.symm
      have hev : ev e = .iface 48 (.int .i64 e) := if_neg he0
      have HE := Lib.hid hev
      rw [hev] at HH
      subst hR'
      clear hR he he' hl hcut hble hll hb hev h0 he0 hs
      generalize st l = L at *
      generalize st l2 = L2 at *
      go_enter Tryz.func7, Tryz.ntmps7
      go_wp2_with (first | (go_at_call 18; refine (HN.out _).mono ?_; rintro e1 w1 ⟨rfl, rfl⟩) | (go_at_call 19; refine (HC.out _).mono ?_; rintro e2 w2 ⟨rfl, hb2⟩; have HV2 := Lib.hid (res_of hb2); clear hb2) | (go_at_call 20; refine (HH.out _).mono ?_; rintro e3 w3 ⟨rfl, hb3⟩; have HV3 := Lib.hid ((HV2.out.below hb3).below (alX w3 (.cells #[.int .u16 r1, .int .u16 r2] 32))); have HN3 := Lib.hid (heap_alloc_new w3 (.cells #[.int .u16 r1, .int .u16 r2] 32)); obtain ⟨z0, z1, g0, g1, hz⟩ := HV3.out.res; clear hb3))
      have hx := HV3.out.outs (.int .u16 0) (.int .u16 0)
      refine bodyPost_ret (v := .tuple #[Rv 0 0, .slice none 0 0, .int .i64 b, .iface 48 (.int .i64 e)]) (by simp [results, Tryz.results7, go_sem, Rv, hx.2.1, hx.2.2.1]) rfl ⟨hx.2.2.2, _, by rw [HE.out], World.ownsRow_nil _ _ _ _⟩
end Rl
end Go.Proofs.YtangbokcdgganaaGreatDoor

/-
  THE WALK of the statement on any bytes' page, against the document's own. Conditions: what came in could be read; errors.errorType is as the program's text lays it.
-/
import Derived.Test.YtmfddecndadohaaDoorQd
import Derived.Test.YtmfddecndadohaaDoorSam
namespace Go.Proofs.YtmfddecndadohaaDoor
open Go.RowKit Crc

/-- a page handed back, with its error -/
def Gives (k0 k1 k2 k3 : Int) (m : Nat) (rs : List (List Int)) (ev : Value) (w : World) (e : Ending) (w' : World) : Prop :=
  ∃ ra cap, e = .returned (.tuple #[.agg #[.int .u8 k0, .int .u32 k1, .int .u64 k2, .int .i64 k3, .slice ra m cap], ev]) ∧ Recs w' ra rs ∧ Below w.heap.size w w'
theorem recs_none (w : World) : Recs w none [] := fun i hi => absurd hi (by simp)
set_option maxRecDepth 100000 in
set_option maxHeartbeats 4000000 in
theorem dec_both (k0 k1 k2 k3 : Int) (m : Nat) (rs : List (List Int)) (ev : Value) (k : Int) (a : Option Addr) (n c : Nat) (w : World) (hb : ¬ 2000 < n) (hm : rs.length = m) (hmm : m ≤ 9223372036854775807)
    (h1 : Calls Tryd.prog 19 #[.slice a n c] w (Gives k0 k1 k2 k3 m rs ev w))
    (h2 : ∀ w1, Below w.heap.size w w1 → Calls Tryd.prog 20 #[.slice a n c] w1 (Gives k0 k1 k2 k3 m rs (.int .i64 k) w1))
    (h3 : ∀ w1, Below w.heap.size w w1 → Calls Tryd.prog 16 #[ev] w1 fun e w' => e = .returned (.int .i64 k) ∧ Below w1.heap.size w1 w') :
    Calls Tryd.prog 4 #[.slice a n c] w fun e w' => e = .returned (.bool true) ∧ Below w.heap.size w w' := by
  have H1 := Lib.hid h1
  have H2 := Lib.hid h2
  have H3 := Lib.hid h3
  clear h1 h2 h3
  go_enter Tryd.func4, Tryd.ntmps4
  go_wp2_with (first | (go_at_call 19; refine H1.out.mono ?_; rintro e w1 ⟨ra1, cap1, rfl, hr1, hb1⟩; have HB1 := Lib.hid (hb1.alloc hb1.size (pgObj k0 k1 k2 k3 ra1 m cap1)); have HR1 := Lib.hid (hr1.below (alX w1 (pgObj k0 k1 k2 k3 ra1 m cap1))); have HE1 := Lib.hid (heap_alloc_new w1 (pgObj k0 k1 k2 k3 ra1 m cap1)); clear hb1 hr1) | (go_at_call 20; refine (H2.out _ HB1.out).mono ?_; rintro e w2 ⟨ra2, cap2, rfl, hr2, hb2⟩; have HB2 := Lib.hid ((HB1.out.trans (hb2.mono HB1.out.size)).alloc (HB1.out.trans (hb2.mono HB1.out.size)).size (inPg k0 k1 k2 k3 ra2 m cap2)); have HR2 := Lib.hid (hr2.below (alX w2 (inPg k0 k1 k2 k3 ra2 m cap2))); have HS2 := Lib.hid ((HR1.out.below hb2).below (alX w2 (inPg k0 k1 k2 k3 ra2 m cap2))); have z2 := row_cells (((alX w2 (inPg k0 k1 k2 k3 ra2 m cap2)).block w1.heap.size (lt_of_block ((hb2.block w1.heap.size (by simp)).trans HE1.out))).trans ((hb2.block w1.heap.size (by simp)).trans HE1.out)); have y2 := row_cells (heap_alloc_new w2 (inPg k0 k1 k2 k3 ra2 m cap2)); obtain ⟨⟨c0, c1, c2, c3, c4⟩, f0, f1, f2, f3, f4⟩ := z2; obtain ⟨⟨d0, d1, d2, d3, d4⟩, e0, e1, e2, e3, e4⟩ := y2; clear hb2 hr2) | (go_at_call 14; refine (same_any k0 k1 k2 k3 _ _ m _ _ rs _ hm hmm HS2.out HR2.out).mono ?_; rintro e w3 ⟨rfl, hb3⟩; have HB3 := Lib.hid (HB2.out.trans (hb3.mono HB2.out.size)); clear hb3) | (go_at_call 16; refine (H3.out _ HB3.out).mono ?_; rintro e w4 ⟨rfl, hb4⟩; have HB4 := Lib.hid (HB3.out.trans (hb4.mono HB3.out.size)); clear hb4) | (go_at_call 10; refine (sure_any _).mono ?_; rintro e w5 ⟨rfl, hb5⟩; have HB5 := Lib.hid (HB4.out.trans (hb5.mono HB4.out.size)); clear hb5))
  go_ret
  exact ⟨rfl, HB5.out⟩
set_option maxRecDepth 100000 in
theorem dec_big (a : Option Addr) (n c : Nat) (w : World) (hb : 2000 < n) :
    Calls Tryd.prog 4 #[.slice a n c] w fun e w' => e = .returned (.bool true) ∧ Below w.heap.size w w' := by
  go_enter Tryd.func4, Tryd.ntmps4
  go_wp2_with (go_at_call 10; refine (sure_any _).mono ?_; rintro e w5 ⟨rfl, hb5⟩; have HB5 := Lib.hid hb5; clear hb5)
  go_ret
  exact ⟨rfl, HB5.out⟩
set_option maxRecDepth 100000 in
theorem dec_none (k : Int) (a : Option Addr) (n c : Nat) (w : World) (hb : ¬ 2000 < n) (hl : Laid w)
    (h1 : Calls Tryd.prog 19 #[.slice a n c] w fun e w' => e = .returned (.tuple #[.agg #[.int .u8 0, .int .u32 0, .int .u64 0, .int .i64 0, .slice none 0 0], .iface 52 (.int .i64 k)]) ∧ Below w.heap.size w w')
    (h2 : ∀ w1, Below w.heap.size w w1 → Calls Tryd.prog 20 #[.slice a n c] w1 fun e w' => e = .returned (noPage k) ∧ Below w1.heap.size w1 w') :
    Calls Tryd.prog 4 #[.slice a n c] w fun e w' => e = .returned (.bool true) ∧ Below w.heap.size w w' :=
  dec_both 0 0 0 0 0 [] _ k a n c w hb rfl (by omega) (h1.mono fun e w' ⟨he, hb'⟩ => ⟨none, 0, he, recs_none w', hb'⟩) (fun w1 hw => (h2 w1 hw).mono fun e w' ⟨he, hb'⟩ => ⟨none, 0, he, recs_none w', hb'⟩) (fun w1 hw => num_err k w1 (hl.below hw))
set_option maxRecDepth 100000 in
theorem dec_walk (a0 : Option Addr) (len0 cap0 : Nat) (z0 : List Int) (w : World) (w0 : IsRow .u8 w a0 len0 cap0 z0) (hl : Laid w) :
    Calls Tryd.prog 4 #[.slice a0 len0 cap0] w fun e w' => e = .returned (.bool true) ∧ Below w.heap.size w w' := by
  obtain ⟨xs, hn, hx, hc, hcm⟩ := isrow_open w0
  by_cases hbig : 2000 < len0
  · exact dec_big a0 len0 cap0 w hbig
  by_cases h5 : len0 = 512
  · subst h5
    obtain ⟨b, off, rfl, _⟩ := hx 0 (by omega)
    cases hg : isGood xs
    · exact dec_none 7 _ 512 cap0 w hbig hl (decode_sum b off cap0 xs w hn hx hc hg) fun w1 hw => refdec_sum b off cap0 xs w1 hn (hx.below hw) hc hg
    · have sb := num_cutb hx.byte 13 2 (by omega)
      obtain ⟨s, hs⟩ := Int.eq_ofNat_of_zero_le sb.1
      obtain ⟨m, hm⟩ : ∃ m : Nat, xs[15]? = some (m : Int) := by
        have h15 : 15 < xs.length := by omega
        obtain ⟨m, hm⟩ := Int.eq_ofNat_of_zero_le (hx.byte 15 h15).1
        exact ⟨m, by rw [List.getElem?_eq_getElem h15, hm]⟩
      cases hf : formOk xs s m
      · exact dec_none 3 _ 512 cap0 w hbig hl (decode_form b off cap0 xs s m w hn hx hc hg hs hm hf) fun w1 hw => (refdec_good b off cap0 xs s m w1 hn (hx.below hw) hc hcm hg hs hm).mono fun e w' h => ⟨h.1 hf, h.2.2⟩
      · have hmm : m ≤ 9223372036854775807 := by
          have h15 : 15 < xs.length := by omega
          have h2 := (hx.byte 15 h15).2
          rw [List.getElem?_eq_getElem h15] at hm
          have h3 := Option.some.inj hm
          omega
        exact dec_both (pgOf xs s m).kind (pgOf xs s m).number (pgOf xs s m).epoch s m (pgOf xs s m).recs .nilIface 0 _ 512 cap0 w hbig (prts_len _ _ _) hmm
          ((decode_ok b off cap0 xs s m w hn hx hc hg hs hm hf).mono fun e w' ⟨ra, cap, he, ho, hb⟩ => ⟨ra, cap, he, own_rs ho, hb⟩)
          (fun w1 hw => (refdec_good b off cap0 xs s m w1 hn (hx.below hw) hc hcm hg hs hm).mono fun e w' h => by
            obtain ⟨va, vc, he, hr⟩ := h.2.1 hf
            exact ⟨va, vc, he, hr, h.2.2⟩)
          (fun w1 _ => num_nil w1)
  · exact dec_none 2 a0 len0 cap0 w hbig hl (decode_long a0 len0 cap0 w h5) fun w1 _ => refdec_long a0 len0 cap0 w1 h5
end Go.Proofs.YtmfddecndadohaaDoor

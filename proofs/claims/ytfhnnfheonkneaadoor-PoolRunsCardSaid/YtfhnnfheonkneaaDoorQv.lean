/-
  WHAT MUST COME WHATEVER THE INPUT IS: the statements' own fixed example holds. No conditions.
-/
import Derived.Deep.RegionHeld3
import Derived.Test.YtfhnnfheonkneaaDoorQu
namespace Go.Proofs.YtfhnnfheonkneaaDoor
open Go.RowKit Go.Maps

structure SureP (a b : ByteArray) (X1 X2 : Px) : Prop where
  e1 : writeP (Px.fresh (Dk.new 2) 1) 0 a = (X1, 0)
  e2 : writeP X1 1 b = (X2, 0)
  cur : X2.d.cur 0 = a
  n : X2.d.n = 2
  secs : X2.secs X2.m = [1]
  dirt : X2.dirt X2.m = [0]
theorem sure_pure (a b : ByteArray) (ha : a.size = 512) (hb : b.size = 512) (ga : goodT a = true) (gb : goodT b = true) : ∃ X1 X2, SureP a b X1 X2 := by
  have o0 : (Px.fresh (Dk.new 2) 1).Ok 0 := fresh_ok (by decide) (by decide) (by decide) (by decide) (by decide)
  have S0 := sem_fresh (d := Dk.new 2) (m := 1) rfl
  have f0 := Free.fresh (Dk.new 2) 1
  have a0 : (Px.fresh (Dk.new 2) 1).at 0 = none := rfl
  have w1 : writeP (Px.fresh (Dk.new 2) 1) 0 a = (((Px.fresh (Dk.new 2) 1).more.put 0 (Fr.new 0)).put 0 { Fr.new 0 with t := a, d := true, u := true }, 0) := by
    rw [writeP_ok (by decide) ha ga, findP_fresh a0 (by decide), if_pos rfl]
    rfl
  have o1 : (((Px.fresh (Dk.new 2) 1).more.put 0 (Fr.new 0)).put 0 { Fr.new 0 with t := a, d := true, u := true }).Ok 0 := (o0.fill (i := 0) (by decide) (by decide) a0).put (k := 0) (by decide) rfl (.inl ha) (Nat.le_refl _) (Nat.le_refl _)
  obtain ⟨_, S1⟩ := sem_write S0 o0 (q := 0) (by decide) ha ga (.inr (.inl (by decide)))
  have k1 := write_keep S0 f0 o0 (q := 0) (by decide) ha ga
  rw [show ((0 : Nat) : Int) = 0 from rfl, w1] at S1 k1
  generalize hX : (((Px.fresh (Dk.new 2) 1).more.put 0 (Fr.new 0)).put 0 { Fr.new 0 with t := a, d := true, u := true }) = X1 at w1 o1 S1 k1
  have c1 : X1.c = 1 := by rw [← hX]; rfl
  have m1 : X1.m = 1 := by rw [← hX]; rfl
  have n1 : X1.d.n = 2 := by rw [← hX]; rfl
  have fr1 : X1.fr 0 = ⟨0, a, true, true, 0⟩ := by rw [← hX]; rfl
  have a1 : X1.at 1 = none := by rw [← hX]; rfl
  have h0 := find_zero o1 (i := 1) (.inr (.inr (k1.free.held o1))) (by rw [S1.left]; decide)
  have F := find_found o1 a1 h0
  have w2 := writeP_ok (X := X1) (i := 1) (by rw [n1]; decide) hb gb
  rw [if_pos h0] at w2
  refine ⟨X1, _, w1, w2, ?_, F.n.trans n1, ?_, ?_⟩
  all_goals
    have hcm := F.cm
    rcases F.c with ⟨e, e2, _⟩ | ⟨e, _, _, e4⟩
    · exact absurd hcm (by rw [e, c1, m1]; decide)
  · have hk : (findP X1 1).2.1 = 0 := by have := F.lt; omega
    show (findP X1 1).1.d.cur 0 = a
    rw [e4, hk, fr1, if_pos rfl]
    rfl
  · have hk : (findP X1 1).2.1 = 0 := by have := F.lt; omega
    have hm : (findP X1 1).1.m = 1 := F.m.trans m1
    show Px.secs _ (findP X1 1).1.m = [1]
    have hf := F.fk
    rw [hm, hk] at *
    unfold Px.secs
    show [(((findP X1 1).1.put 0 _).fr 0).i] = [1]
    rw [put_same, hf]
    rfl
  · have hk : (findP X1 1).2.1 = 0 := by have := F.lt; omega
    have hm : (findP X1 1).1.m = 1 := F.m.trans m1
    show Px.dirt _ (findP X1 1).1.m = [0]
    rw [hm, hk]
    rfl
theorem pl_write_ok {W w w0 : World} {N p D : Nat} {X Y : Px} {H0 : Nat → Prop} (h : PlN W N w p D X w0 H0) (i : Int) (t : ByteArray) (c : Nat) (ht : t.size = 512) (hc : 512 ≤ c) (hN : N < 2305843009213693952) (he : writeP X i t = (Y, 0)) :
    Calls Tryd.prog 12 #[.pointer (some ⟨p, 0, none⟩), .int .i64 i, .slice (some ⟨w.heap.size, 0, none⟩) 512 c] (bw w t) fun e w' => e = .returned .nilIface ∧ PlN W (N + 1) w' p D Y w0 H0 :=
  (pl_write h i t c 512 ht hc hN).mono fun _ _ ⟨e1, h1⟩ => by
    rw [he, errv0] at e1
    rw [he] at h1
    exact ⟨e1, h1⟩
def IntsF (w0 : World) (xs : List Int) (n : Nat) (w : World) (e : Ending) (w' : World) : Prop :=
  ∃ ao cap, e = .returned (.slice ao n cap) ∧ Ints w' ao xs ∧ Below w0.heap.size w0 w' ∧ Below w.heap.size w w'
theorem frames_from {W w0 w : World} {N p D : Nat} {X : Px} {H : Nat → Prop} (h : Pl W N w0 p D X H) (hb : Below w0.heap.size w0 w) (xs : List Int) (n : Nat) (hx : X.secs X.m = xs) (hn : xs.length = n) :
    Calls Tryd.prog 16 #[.pointer (some ⟨p, 0, none⟩)] w (IntsF w0 xs n w) := by
  subst hx hn
  obtain ⟨μ, h1, rfl, rfl, rfl, rfl, h6⟩ := h.below hb
  exact (frames_any μ w h1).mono fun _ _ ⟨ao, cap, he, hx, _, hb2⟩ => ⟨ao, cap, he, hx, hb.trans (hb2.mono hb.size), hb2⟩
theorem dirty_from {W w0 w : World} {N p D : Nat} {X : Px} {H : Nat → Prop} (h : Pl W N w0 p D X H) (hb : Below w0.heap.size w0 w) (xs : List Int) (n : Nat) (hx : X.dirt X.m = xs) (hn : xs.length = n) :
    Calls Tryd.prog 17 #[.pointer (some ⟨p, 0, none⟩)] w (IntsF w0 xs n w) := by
  subst hx hn
  obtain ⟨μ, h1, rfl, rfl, rfl, rfl, h6⟩ := h.below hb
  exact (dirty_any μ w h1).mono fun _ _ ⟨ao, cap, he, hx, _, hb2⟩ => ⟨ao, cap, he, hx, hb.trans (hb2.mono hb.size), hb2⟩
theorem marked_w0 {w0 w : World} (hb : Below w0.heap.size w0 w) (s : ByteArray) (hs : s.size ≤ 9223372036854775807) :
    Calls Tryd.prog 13 #[.string s] w fun e w' => e = .returned (.string (mkT s)) ∧ Below w0.heap.size w0 w' :=
  (marked_any s w hs).mono fun _ _ ⟨he, hb2⟩ => ⟨he, hb.trans (hb2.mono hb.size)⟩
theorem ints_w0 {w0 w : World} (hb : Below w0.heap.size w0 w) (a b : Option Addr) (n c d : Nat) (xs : List Int) (ha : Ints w a xs) (hbb : Ints w b xs) (hn : xs.length = n) (hm : n ≤ 9223372036854775807) :
    Calls Tryd.prog 15 #[.slice a n c, .slice b n d] w fun e w' => e = .returned (.bool true) ∧ Below w0.heap.size w0 w' :=
  (ints_any a b n c d xs w ha hbb hn hm).mono fun _ _ ⟨he, hb2⟩ => ⟨he, hb.trans (hb2.mono hb.size)⟩
theorem ints_one (w : World) (x : Int) (t : TypeId) : Ints (w.alloc (.cells #[.int .i64 x] t)) (some ⟨w.heap.size, 0, none⟩) [x] := by
  intro i hi
  obtain rfl : i = 0 := by simp at hi; exact hi
  exact ⟨w.heap.size, 0, rfl, cell_of_row _ _ _ _ _ _ (heap_alloc_new _ _)⟩
theorem al0 {w0 w : World} (hb : Below w0.heap.size w0 w) (o : Obj) : Below w0.heap.size w0 (w.alloc o) := hb.alloc hb.size o
set_option maxRecDepth 100000 in
theorem conv_w0 {w0 w : World} {g cap : Nat} {t t' : ByteArray} (hl : Lies w0 (some ⟨g, 0, none⟩) (nums t)) (e : t = t') (hs : t'.size = 512) (hb : Below w0.heap.size w0 w) : (convert 60 9 (.slice (some ⟨g, 0, none⟩) 512 cap)).run Tryd.prog w = .ok (.string t') w := by
  subst e
  exact conv_t (hl.below hb) hs
theorem alB1 (w : World) (o : Obj) : Below w.heap.size w (w.alloc o) := (Below.refl _ _).alloc (Nat.le_refl _) _
set_option maxHeartbeats 2000000 in
set_option maxRecDepth 100000 in
theorem sure_any (W : World) : Calls Tryd.prog 8 #[] W fun e w' => e = .returned (.bool true) ∧ Below W.heap.size W w' := by
  obtain ⟨X1, X2, hS⟩ := sure_pure (mkT ⟨#[97]⟩) (mkT ⟨#[98]⟩) (mkT_size _) (mkT_size _) (mkT_good _) (mkT_good _)
  have HS := Lib.hid hS
  have cA := conv_b (mkT ⟨#[97]⟩) (mkT_size _)
  have cB := conv_b (mkT ⟨#[98]⟩) (mkT_size _)
  clear hS
  go_enter Tryd.func8, Tryd.ntmps8
  go_upto_region 6 with (first | (go_at_call 4; refine (disk_new (W := W) 2 _ (Below.refl _ _) (by omega) (by omega)).mono ?_; rintro e wa ⟨D, H, rfl, h, hxx⟩; have HD := Lib.hid h; clear h hxx) | (go_at_call 5; refine (newp_at 0 1 HD.out (by omega) (by omega) (by decide) (by decide)).mono ?_; rintro e wb ⟨p, H1, rfl, h⟩; have HP0 := Lib.hid h.first; clear h) | (go_at_call 13; refine (marked_from HP0.out ⟨#[97]⟩ (by decide)).mono ?_; rintro e wc ⟨rfl, h⟩; have HP1 := Lib.hid h; clear h HP0) | (go_at_call 12; refine (pl_write_ok HP1.out 0 _ _ (mkT_size _) (by have := bc_le wc (mkT ⟨#[97]⟩); rw [mkT_size] at this; exact this) (by omega) HS.out.e1).mono ?_; rintro e wd ⟨rfl, h⟩; have HP2 := Lib.hid h; clear h HP1) | (go_at_call 13; refine (marked_from HP2.out ⟨#[98]⟩ (by decide)).mono ?_; rintro e we ⟨rfl, h⟩; have HP3 := Lib.hid h; clear h HP2) | (go_at_call 12; refine (pl_write_ok HP3.out 1 _ _ (mkT_size _) (by have := bc_le we (mkT ⟨#[98]⟩); rw [mkT_size] at this; exact this) (by omega) HS.out.e2).mono ?_; rintro e wf ⟨rfl, h⟩; have HP4 := Lib.hid h; clear h HP3) | (go_at_call 14; refine (pd_read HP4.out 0 (by rw [HS.out.n]; decide)).mono ?_; rintro e w0 ⟨g, cap, rfl, hl, h⟩; have HL := Lib.hid hl; have HP5 := Lib.hid h; clear h hl HP4))
  obtain ⟨H5, hP5, _⟩ := HP5.out
  have HP6 := Lib.hid hP5
  have HW := Lib.hid hP5.b
  clear hP5 HP5
  have hb0 : Below w0.heap.size w0 w0.drew := (Below.refl _ _).drew
  have HC := Lib.hid HS.out.cur
  have HSE := Lib.hid HS.out.secs
  have HDI := Lib.hid HS.out.dirt
  go_region_held3 (fun w' => (convert 60 9 (.slice (some ⟨g, 0, none⟩) 512 cap)).run Tryd.prog w' = .ok (.string (mkT ⟨#[97]⟩)) w') (first | exact conv_w0 HL.out HC.out (mkT_size _) (by assumption) | exact conv_w0 HL.out HC.out (mkT_size _) (al0 (by assumption) _)) (first | (go_at_call 13; refine (marked_w0 (w0 := w0) (by first | assumption | exact al0 (by assumption) _) _ (by decide)).mono ?_; rintro e w5 ⟨rfl, hb5⟩) | (go_at_call 16; refine (frames_from HP6.out (by first | assumption | exact al0 (by assumption) _) [1] 1 HSE.out rfl).mono ?_; rintro e w6 ⟨ao, ac, rfl, hx, hb6, hc6⟩) | (go_at_call 17; refine (dirty_from HP6.out (by first | assumption | exact al0 (by assumption) _) [0] 1 HDI.out rfl).mono ?_; rintro e w7 ⟨ao, ac, rfl, hx, hb7, hc7⟩) | (go_at_call 15; refine (ints_w0 (w0 := w0) (by first | assumption | exact al0 (by assumption) _) _ _ 1 _ _ _ (by first | assumption | exact Ints.below (by assumption) (alB1 _ _)) (by first | exact ints_one _ _ _ | exact (ints_one _ _ _).below (by assumption)) rfl (by omega)).mono ?_; rintro e w8 ⟨rfl, hb8⟩))
  all_goals go_wp2
  all_goals go_ret
  all_goals exact ⟨rfl, HW.out.trans ((by assumption : Below w0.heap.size w0 _).mono HW.out.size)⟩
end Go.Proofs.YtfhnnfheonkneaaDoor

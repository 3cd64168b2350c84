/-
  THE WALK of the maker's grow: remembered, or not; of every level. Conditions: the grower lies in memory, and there is room.
-/
import Derived.Test.YtgimphkamjojpaaDoorE36
namespace Go.Proofs.YtgimphkamjojpaaDoor
open Go.RowKit Ti Qd Go.Maps Go.WideMaps Ru

theorem Gs.noted {B : Nat} {w0 w w' : World} {H0 : Nat → Prop} {G P M b l room : Nat} {s : GS} {bx : List (Nat × Obj)} {K' : Kn} (h : Gs B w0 H0 G P M b l room s bx w) (hk : KAt w' M K') (hg : w.grownBy w' (some M)) : Gs B w0 H0 G P M b l room (s.1, K') bx w' := by
  obtain ⟨⟨H, ⟨Hs, hs, rfl⟩, h2, h3⟩, h4, h5⟩ := h
  have ne : ∀ x, x < w.heap.size → ¬ x = M → w'.heap[x]? = w.heap[x]? := fun x hx hn => hg.block x hx fun e => hn (Option.some.inj e)
  have eG := ne G hs.ltG hs.GM
  refine ⟨⟨_, ⟨Hs, ⟨hs.st.moved fun x hx => ne x (hs.st.lt x hx).2 fun e => hs.nM (e ▸ hx), (World.cell?_of_block eG).trans hs.c0, (World.cell?_of_block eG).trans hs.c1, (World.cell?_of_block eG).trans hs.c2, (World.cell?_of_block eG).trans hs.c3, hk, hs.bG, hs.bM, hs.nG, hs.nM, hs.GM⟩, rfl⟩, h2.trans ⟨hg.os, hg.tape, hg.output, hg.size, fun k hk hn => ne k hk fun e => hn (.inl e), fun k hk => .inl hk⟩, fun x hx => ⟨(h3 x hx).1, (h3 x hx).2.1, (ne x.1 (lt_of_block (h3 x hx).2.2) fun e => (h3 x hx).2.1 (.inl e)).trans (h3 x hx).2.2⟩⟩, h4, h5⟩
theorem Gs.kn {B : Nat} {w0 w : World} {H0 : Nat → Prop} {G P M b l room : Nat} {s : GS} {bx : List (Nat × Obj)} (h : Gs B w0 H0 G P M b l room s bx w) : KAt w M s.2 := by
  obtain ⟨⟨H, ⟨Hs, hs, rfl⟩, _, _⟩, _⟩ := h
  exact hs.kn
theorem two_cells {w : World} {g : Nat} {v0 v1 : Value} {T : TypeId} (h : w.heap[g]? = some (.cells #[v0, v1] T (0, 0))) : w.cell? ⟨g, 0, none⟩ = some v0 ∧ w.cell? ⟨g, 1, none⟩ = some v1 := by
  constructor <;> (rw [cell_of_row w g _ _ _ _ h]; rfl)
set_option maxRecDepth 100000 in
set_option maxHeartbeats 4000000 in
theorem grow_hit {B : Nat} {w : World} {G P M b l : Nat} {s : GS} {room : Nat} {H : Nat → Prop} (h : Gr B w G P M b l s room H) (id j o : Int) (hi : I1 id) (hj : I1 j) (hk : s.2 id j = some o) :
    Calls Tryd.prog 26 #[.pointer (some ⟨G, 0, none⟩), .int .i64 id, .int .i64 j] w fun e w' => e = .returned (.tuple #[.int .i64 o, .nilIface]) ∧ Gt B w G P M b l room H s w' := by
  have HS : Hid (Gs B w H G P M b l room s [(w.heap.size, .cells #[.int .i64 id, .int .i64 j] 93)] (w.alloc (.cells #[.int .i64 id, .int .i64 j] 93))) := Lib.hid ((Gs.start h).alloc' _ rfl)
  have HI := Lib.hid (And.intro hi (And.intro hj hk))
  clear h hi hj hk
  go_enter Tryd.func26, Tryd.ntmps26
  go_upto_region 2 with (fail)
  generalize World.alloc _ _ = W at HS ⊢
  have c3 := HS.out.rul.2.2
  obtain ⟨b0, b1⟩ := two_cells HS.out.b0
  have l0 := ask_in HS.out.drew.kn HI.out.1 HI.out.2.1 HI.out.2.2
  unfold av at l0
  go_region
  go_wp2
  go_ret2
  exact ⟨rfl, HS.out.drew.gt⟩
set_option maxRecDepth 100000 in
set_option maxHeartbeats 4000000 in
theorem grow_miss {B : Nat} {w : World} {G P M b l : Nat} {s : GS} {room : Nat} {H : Nat → Prop} (h : Gr B w G P M b l s room H) (id : Int) (j : Nat) (hi : 1 ≤ id ∧ id ≤ 65536) (hj : j ≤ 40) (hk : s.2 id j = none) (R : GS × Int) (hR : I1 R.2)
    (hG : ∀ (wx : World) (Hx : Nat → Prop), Gr B wx G P M b l s room Hx → Calls Tryd.prog 40 #[.pointer (some ⟨G, 0, none⟩), .int .i64 id, .int .i64 (j : Int)] wx fun e w' => e = .returned (.tuple #[.int .i64 R.2, .nilIface]) ∧ Gt B wx G P M b l room Hx R.1 w') :
    Calls Tryd.prog 26 #[.pointer (some ⟨G, 0, none⟩), .int .i64 id, .int .i64 (j : Int)] w fun e w' => e = .returned (.tuple #[.int .i64 (noteG R id j).2, .nilIface]) ∧ Gt B w G P M b l room H (noteG R id j).1 w' := by
  have HS : Hid (Gs B w H G P M b l room s [(w.heap.size, .cells #[.int .i64 id, .int .i64 (j : Int)] 93)] (w.alloc (.cells #[.int .i64 id, .int .i64 (j : Int)] 93))) := Lib.hid ((Gs.start h).alloc' _ rfl)
  have HI := Lib.hid (And.intro (show I1 id by unfold I1; omega) (And.intro (show I1 (j : Int) by unfold I1; omega) hk))
  have HB := Lib.hid (And.intro hi (And.intro (show (0 : Int) ≤ (j : Int) ∧ (j : Int) ≤ 40 by omega) hR))
  have HG := Lib.hid hG
  clear h hi hj hk hG hR
  unfold noteG
  go_enter Tryd.func26, Tryd.ntmps26
  go_upto_region 2 with (fail)
  generalize World.alloc _ _ = W at HS ⊢
  have c3 := HS.out.rul.2.2
  obtain ⟨b0, b1⟩ := two_cells HS.out.b0
  obtain ⟨c, l0⟩ := ask_out HS.out.drew.kn HI.out.1 HI.out.2.1 HI.out.2.2
  unfold av at l0
  go_region
  clear c3 b0 b1 l0
  have HD := Lib.hid HS.out.drew
  clear HS
  obtain ⟨H1, h1, h2⟩ := HD.out.call
  have HC := Lib.hid (HG.out _ _ h1)
  have HX := Lib.hid h2
  clear h1 h2 HG
  go_wp2_with fail
  refine HC.out.mono ?_
  rintro e w1 ⟨rfl, hg⟩
  have HS1 := Lib.hid (HX.out _ _ hg)
  clear hg HX HC
  have c3 := HS1.out.rul.2.2
  obtain ⟨b0, b1⟩ := two_cells HS1.out.b0
  obtain ⟨w2, l0, k0, k1⟩ := ask_note HS1.out.drew.kn HB.out.1 HB.out.2.1 HB.out.2.2
  unfold av at l0
  have HE := Lib.hid (HS1.out.drew.noted k0 k1)
  clear k0 k1
  go_upto_region 8 with (fail)
  go_region
  go_wp2
  go_ret2
  exact ⟨rfl, HE.out.gt⟩
theorem ok_i1 {L : List Sq} (h : L.length ≤ 65536) {id : Int} (ho : Ok L id) : I1 id ∧ 1 ≤ id ∧ id ≤ 65536 := by
  unfold Ok at ho
  unfold I1
  omega
theorem gr_small {B : Nat} {w : World} {G P M b l : Nat} {s : GS} {room : Nat} {H : Nat → Prop} (h : Gr B w G P M b l s room H) : s.1.length ≤ 65536 ∧ room ≤ 65536 := by
  obtain ⟨Hs, hs, _⟩ := h
  refine ⟨hs.st.small, ?_⟩
  obtain ⟨M', sv, q, _⟩ := hs.st
  exact q.r6
/-- what comes of a square, whatever its level -/
theorem grow_any (B G P M b l room : Nat) (hm : mayR b l = true) : ∀ m, m ≤ 36 → GrowC B G P M b l room m
  | 0, _ => fun w s H id j h hk hl hj hr => by
    have hs := gr_small h
    have hi := ok_i1 hs.1 hl.1
    have go := grow_of b l 0 (by omega) s hk id j hj hl
    unfold growQ at hr go ⊢
    cases e : s.2 id j with
    | some o => exact grow_hit h id j o hi.1 (by unfold I1; omega) e
    | none =>
      rw [e] at hr go
      have ho := ok_i1 (Nat.le_trans hr hs.2) go.2.2.1
      exact grow_miss h id j hi.2 (by omega) e (tileG b l s id j) ho.1 fun wx Hx hx => grown_0 hm hx id hl j hj hr
  | m + 1, h36 => fun w s H id j h hk hl hj hr => by
    have hs := gr_small h
    have hi := ok_i1 hs.1 hl.1
    have hC := grow_any B G P M b l room hm m (by omega)
    have go := grow_of b l (m + 1) h36 s hk id j hj hl
    unfold growQ at hr go ⊢
    cases e : s.2 id j with
    | some o => exact grow_hit h id j o hi.1 (by unfold I1; omega) e
    | none =>
      rw [e] at hr go
      have ho := ok_i1 (Nat.le_trans hr hs.2) go.2.2.1
      refine grow_miss h id j hi.2 (by omega) e (grownG (growQ b l m) m s id j) ho.1 fun wx Hx hx => ?_
      by_cases hf : j = m + 3
      · exact grown_far m (by omega) hC hx hk id hl j hj hf hr
      · exact grown_near m (by omega) hC hx hk id hl j hj hf hr
end Go.Proofs.YtgimphkamjojpaaDoor

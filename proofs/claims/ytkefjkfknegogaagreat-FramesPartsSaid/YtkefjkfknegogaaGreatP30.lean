/-
  THE WALK of the maker's grow: remembered, or not; of every level. Conditions: the grower lies in memory, and there is room.
  THE WALKS of New, Center, Grow, Known. Conditions: a store, or a grower, lies in memory, and there is room.
-/
import Derived.Test.YtkefjkfknegogaaGreatP29
namespace Go.Proofs.YtkefjkfknegogaaGreat
open Go.RowKit Ti Qd Go.Maps Go.WideMaps Ru

theorem Gs.noted {B : Nat} {w0 w w' : World} {H0 : Nat → Prop} {G P M b l room : Nat} {s : GS} {bx : List (Nat × Obj)} {K' : Kn} (h : Gs B w0 H0 G P M b l room s bx w) (hk : KAt w' M K') (hg : w.grownBy w' (some M)) : Gs B w0 H0 G P M b l room (s.1, K') bx w' := by
  obtain ⟨⟨H, ⟨Hs, hs, rfl⟩, h2, h3⟩, h4, h5⟩ := h
  have ne : ∀ x, x < w.heap.size → ¬ x = M → w'.heap[x]? = w.heap[x]? := fun x hx hn => hg.block x hx fun e => hn (Option.some.inj e)
  have eG := ne G hs.ltG hs.GM
  refine ⟨⟨_, ⟨Hs, ⟨hs.st.moved fun x hx => ne x (hs.st.lt x hx).2 fun e => hs.nM (e ▸ hx), (World.cell?_of_block eG).trans hs.c0, (World.cell?_of_block eG).trans hs.c1, (World.cell?_of_block eG).trans hs.c2, (World.cell?_of_block eG).trans hs.c3, hk, hs.bG, hs.bM, hs.nG, hs.nM, hs.GM⟩, rfl⟩, h2.trans ⟨hg.os, hg.tape, hg.output, hg.size, fun k hk hn => ne k hk fun e => hn (.inl e), fun k hk => .inl hk⟩, fun x hx => ⟨(h3 x hx).1, (h3 x hx).2.1, (ne x.1 (lt_of_block (h3 x hx).2.2) fun e => (h3 x hx).2.1 (.inl e)).trans (h3 x hx).2.2⟩⟩, h4, h5⟩
theorem Gs.kn {B : Nat} {w0 w : World} {H0 : Nat → Prop} {G P M b l room : Nat} {s : GS} {bx : List (Nat × Obj)} (h : Gs B w0 H0 G P M b l room s bx w) : KAt w M s.2 := by
  obtain ⟨⟨H, ⟨Hs, hs, rfl⟩, _, _⟩, _⟩ := h
  exact hs.kn
theorem two_cells {w : World} {g : Nat} {v0 v1 : Value} {T : TypeId} (h : w.heap[g]? = some (.cells #[v0, v1] T (0, 0))) : w.cell? ⟨g, 0, none⟩ = some v0 ∧ w.cell? ⟨g, 1, none⟩ = some v1 := by
  constructor <;> (rw [cell_of_row w g _ _ _ _ h]; rfl)
set_option maxRecDepth 100000 in
set_option maxHeartbeats 4000000 in
theorem grow_hit {B : Nat} {w : World} {G P M b l : Nat} {s : GS} {room : Nat} {H : Nat → Prop} (h : Gr B w G P M b l s room H) (id j o : Int) (hi : I1 id) (hj : I1 j) (hk : s.2 id j = some o) :
    Calls Tryz.prog 28 #[.pointer (some ⟨G, 0, none⟩), .int .i64 id, .int .i64 j] w fun e w' => e = .returned (.tuple #[.int .i64 o, .nilIface]) ∧ Gt B w G P M b l room H s w' := by
  have HS : Hid (Gs B w H G P M b l room s [(w.heap.size, .cells #[.int .i64 id, .int .i64 j] 115)] (w.alloc (.cells #[.int .i64 id, .int .i64 j] 115))) := Lib.hid ((Gs.start h).alloc' _ rfl)
  have HI := Lib.hid (And.intro hi (And.intro hj hk))
  clear h hi hj hk
  go_enter Tryz.func28, Tryz.ntmps28
  go_upto_region 2 with (fail)
  generalize World.alloc _ _ = W at HS ⊢
  have c3 := HS.out.rul.2.2
  obtain ⟨b0, b1⟩ := two_cells HS.out.b0
  have l0 := ask_in HS.out.drew.kn HI.out.1 HI.out.2.1 HI.out.2.2
  unfold av at l0
  go_region
  go_wp2
  go_ret2
  exact ⟨rfl, HS.out.drew.gt⟩
set_option maxRecDepth 100000 in
set_option maxHeartbeats 4000000 in
theorem grow_miss {B : Nat} {w : World} {G P M b l : Nat} {s : GS} {room : Nat} {H : Nat → Prop} (h : Gr B w G P M b l s room H) (id : Int) (j : Nat) (hi : 1 ≤ id ∧ id ≤ 65536) (hj : j ≤ 40) (hk : s.2 id j = none) (R : GS × Int) (hR : I1 R.2)
    (hG : ∀ (wx : World) (Hx : Nat → Prop), Gr B wx G P M b l s room Hx → Calls Tryz.prog 43 #[.pointer (some ⟨G, 0, none⟩), .int .i64 id, .int .i64 (j : Int)] wx fun e w' => e = .returned (.tuple #[.int .i64 R.2, .nilIface]) ∧ Gt B wx G P M b l room Hx R.1 w') :
    Calls Tryz.prog 28 #[.pointer (some ⟨G, 0, none⟩), .int .i64 id, .int .i64 (j : Int)] w fun e w' => e = .returned (.tuple #[.int .i64 (noteG R id j).2, .nilIface]) ∧ Gt B w G P M b l room H (noteG R id j).1 w' := by
  have HS : Hid (Gs B w H G P M b l room s [(w.heap.size, .cells #[.int .i64 id, .int .i64 (j : Int)] 115)] (w.alloc (.cells #[.int .i64 id, .int .i64 (j : Int)] 115))) := Lib.hid ((Gs.start h).alloc' _ rfl)
  have HI := Lib.hid (And.intro (show I1 id by unfold I1; omega) (And.intro (show I1 (j : Int) by unfold I1; omega) hk))
  have HB := Lib.hid (And.intro hi (And.intro (show (0 : Int) ≤ (j : Int) ∧ (j : Int) ≤ 40 by omega) hR))
  have HG := Lib.hid hG
  clear h hi hj hk hG hR
  unfold noteG
  go_enter Tryz.func28, Tryz.ntmps28
  go_upto_region 2 with (fail)
  generalize World.alloc _ _ = W at HS ⊢
  have c3 := HS.out.rul.2.2
  obtain ⟨b0, b1⟩ := two_cells HS.out.b0
  obtain ⟨c, l0⟩ := ask_out HS.out.drew.kn HI.out.1 HI.out.2.1 HI.out.2.2
  unfold av at l0
  go_region
  clear c3 b0 b1 l0
  have HD := Lib.hid HS.out.drew
  clear HS
  obtain ⟨H1, h1, h2⟩ := HD.out.call
  have HC := Lib.hid (HG.out _ _ h1)
  have HX := Lib.hid h2
  clear h1 h2 HG
  go_wp2_with fail
  refine HC.out.mono ?_
  rintro e w1 ⟨rfl, hg⟩
  have HS1 := Lib.hid (HX.out _ _ hg)
  clear hg HX HC
  have c3 := HS1.out.rul.2.2
  obtain ⟨b0, b1⟩ := two_cells HS1.out.b0
  obtain ⟨w2, l0, k0, k1⟩ := ask_note HS1.out.drew.kn HB.out.1 HB.out.2.1 HB.out.2.2
  unfold av at l0
  have HE := Lib.hid (HS1.out.drew.noted k0 k1)
  clear k0 k1
  go_upto_region 8 with (fail)
  go_region
  go_wp2
  go_ret2
  exact ⟨rfl, HE.out.gt⟩
theorem ok_i1 {L : List Sq} (h : L.length ≤ 65536) {id : Int} (ho : Ok L id) : I1 id ∧ 1 ≤ id ∧ id ≤ 65536 := by
  unfold Ok at ho
  unfold I1
  omega
theorem gr_small {B : Nat} {w : World} {G P M b l : Nat} {s : GS} {room : Nat} {H : Nat → Prop} (h : Gr B w G P M b l s room H) : s.1.length ≤ 65536 ∧ room ≤ 65536 := by
  obtain ⟨Hs, hs, _⟩ := h
  refine ⟨hs.st.small, ?_⟩
  obtain ⟨M', sv, q, _⟩ := hs.st
  exact q.r6
/-- what comes of a square, whatever its level -/
theorem grow_any (B G P M b l room : Nat) (hm : mayR b l = true) : ∀ m, m ≤ 36 → GrowC B G P M b l room m
  | 0, _ => fun w s H id j h hk hl hj hr => by
    have hs := gr_small h
    have hi := ok_i1 hs.1 hl.1
    have go := grow_of b l 0 (by omega) s hk id j hj hl
    unfold growQ at hr go ⊢
    cases e : s.2 id j with
    | some o => exact grow_hit h id j o hi.1 (by unfold I1; omega) e
    | none =>
      rw [e] at hr go
      have ho := ok_i1 (Nat.le_trans hr hs.2) go.2.2.1
      exact grow_miss h id j hi.2 (by omega) e (tileG b l s id j) ho.1 fun wx Hx hx => grown_0 hm hx id hl j hj hr
  | m + 1, h36 => fun w s H id j h hk hl hj hr => by
    have hs := gr_small h
    have hi := ok_i1 hs.1 hl.1
    have hC := grow_any B G P M b l room hm m (by omega)
    have go := grow_of b l (m + 1) h36 s hk id j hj hl
    unfold growQ at hr go ⊢
    cases e : s.2 id j with
    | some o => exact grow_hit h id j o hi.1 (by unfold I1; omega) e
    | none =>
      rw [e] at hr go
      have ho := ok_i1 (Nat.le_trans hr hs.2) go.2.2.1
      refine grow_miss h id j hi.2 (by omega) e (grownG (growQ b l m) m s id j) ho.1 fun wx Hx hx => ?_
      by_cases hf : j = m + 3
      · exact grown_far m (by omega) hC hx hk id hl j hj hf hr
      · exact grown_near m (by omega) hC hx hk id hl j hj hf hr
end Go.Proofs.YtkefjkfknegogaaGreat
namespace Go.Proofs.YtkefjkfknegogaaGreat
open Go.RowKit Ti Qd Go.Maps Go.WideMaps Ru

/-- a grower was made -/
def GMade (B : Nat) (w : World) (P b l room : Nat) (L : List Sq) (Hs : Nat → Prop) (e : Ending) (w' : World) : Prop := ∃ G M H', e = .returned (.tuple #[.pointer (some ⟨G, 0, none⟩), .nilIface]) ∧ Gr B w' G P M b l (L, fun _ _ => none) room H' ∧ Stp w Hs w' H'
theorem four_cells {w : World} {g : Nat} {v0 v1 v2 v3 : Value} {T : TypeId} (h : w.heap[g]? = some (.cells #[v0, v1, v2, v3] T (0, 0))) : w.cell? ⟨g, 0, none⟩ = some v0 ∧ w.cell? ⟨g, 1, none⟩ = some v1 ∧ w.cell? ⟨g, 2, none⟩ = some v2 ∧ w.cell? ⟨g, 3, none⟩ = some v3 := row4 h
theorem gmade_of {B : Nat} {w w1 : World} {P b l room : Nat} {L : List Sq} {Hs : Nat → Prop} (h : St B w P L room Hs) (hB : B ≤ w.heap.size) (hb : Below w.heap.size w w1) :
    GMade B w P b l room L Hs (.returned (.tuple #[.pointer (some ⟨w1.heap.size + 1, 0, none⟩), .nilIface])) ((w1.alloc (.map #[] 0)).alloc (.cells #[.pointer (some ⟨P, 0, none⟩), .int .u16 b, .int .u16 l, .map (some w1.heap.size)] 88)) := by
  have h1 := alX w1 (.map #[] 0)
  have h2 := alX (w1.alloc (.map #[] 0)) (.cells #[.pointer (some ⟨P, 0, none⟩), .int .u16 b, .int .u16 l, .map (some w1.heap.size)] 88)
  have hc : ((w1.alloc (.map #[] 0)).alloc (.cells #[.pointer (some ⟨P, 0, none⟩), .int .u16 b, .int .u16 l, .map (some w1.heap.size)] 88)).heap[w1.heap.size + 1]? = some (.cells #[.pointer (some ⟨P, 0, none⟩), .int .u16 b, .int .u16 l, .map (some w1.heap.size)] 88 (0, 0)) := by
    have := heap_alloc_new (w1.alloc (.map #[] 0)) (.cells #[.pointer (some ⟨P, 0, none⟩), .int .u16 b, .int .u16 l, .map (some w1.heap.size)] 88)
    simpa using this
  have hbb := hb.trans ((h1.trans (h2.mono (by simp))).mono hb.size)
  obtain ⟨c0, c1, c2, c3⟩ := four_cells hc
  have hz := hb.size
  refine ⟨w1.heap.size + 1, w1.heap.size, fun x => x = w1.heap.size ∨ Hs x, rfl, ⟨Hs, ⟨h.below hbb (Nat.le_refl _), c0, c1, c2, c3, ⟨.map [], [], ((World.ownsMap_made (H := Unit) w1 Tryz.prog 115 (plainElem Tryz.prog 3)).alloc _), mpA_nil, List.nodup_nil, by simp, by simp⟩, by omega, by omega, fun e => ?_, fun e => ?_, by omega⟩, rfl⟩, ?_⟩
  · have := (h.lt _ e).2; omega
  · have := (h.lt _ e).2; omega
  · exact ⟨hbb.os, hbb.tape, hbb.output, hbb.size, fun k hk _ => hbb.block k hk, fun k hk => by
      rcases hk with rfl | hk
      · exact .inr hz
      · exact .inl hk⟩
set_option maxRecDepth 100000 in
set_option maxHeartbeats 1000000 in
theorem gnew_ok {B : Nat} {w : World} {P room : Nat} {L : List Sq} {Hs : Nat → Prop} (h : St B w P L room Hs) (hB : B ≤ w.heap.size) (b l : Nat) (hm : mayR b l = true) :
    Calls Tryz.prog 13 #[.pointer (some ⟨P, 0, none⟩), Rv b l] w (GMade B w P b l room L Hs) := by
  have HC := Lib.hid (fun w => check_ok b l hm w)
  have HM := Lib.hid (fun (w1 : World) (hb : Below w.heap.size w w1) => gmade_of (b := b) (l := l) h hB hb)
  clear h hB hm
  unfold Rv at HC ⊢
  have HB := Lib.hid (alX w (.cells #[.int .u16 b, .int .u16 l] 44))
  obtain ⟨c0, c1⟩ := two_cells (heap_alloc_new w (.cells #[.int .u16 b, .int .u16 l] 44))
  have HR := Lib.hid (heap_alloc_new w (.cells #[.int .u16 b, .int .u16 l] 44))
  have hmm := @run_makeMap Tryz.prog
  go_enter Tryz.func13, Tryz.ntmps13
  go_wp2_with fail
  refine (HC.out _).mono ?_
  rintro e w1 ⟨rfl, hb⟩
  have HB1 := Lib.hid (HB.out.trans (hb.mono HB.out.size))
  obtain ⟨c0, c1⟩ := two_cells ((hb.block _ (lt_of_block HR.out)).trans HR.out)
  clear hb
  go_wp2
  go_ret2
  exact HM.out _ HB1.out
set_option maxRecDepth 100000 in
set_option maxHeartbeats 4000000 in
theorem center_ok {B : Nat} {w : World} {G P M b l : Nat} {s : GS} {room : Nat} {H : Nat → Prop} (h : Gr B w G P M b l s room H) (n : Nat) (hn : n ≤ 36) (id : Int) (hl : Lv s.1 (n + 1) id)
    (hr : (midG s (kid (at' s.1 id) 0) (kid (at' s.1 id) 1) (kid (at' s.1 id) 2) (kid (at' s.1 id) 3)).1.1.length ≤ room) :
    Calls Tryz.prog 57 #[.pointer (some ⟨G, 0, none⟩), .int .i64 id] w fun e w' => e = .returned (.tuple #[.int .i64 (midG s (kid (at' s.1 id) 0) (kid (at' s.1 id) 1) (kid (at' s.1 id) 2) (kid (at' s.1 id) 3)).2, .nilIface]) ∧ Gt B w G P M b l room H (midG s (kid (at' s.1 id) 0) (kid (at' s.1 id) 1) (kid (at' s.1 id) 2) (kid (at' s.1 id) 3)).1 w' := by
  have HS := Lib.hid (Gs.start h)
  have hinv := HS.out.inv.1
  have hp := HS.out.ptr
  have HM := Lib.hid (fun (wx : World) (Hx : Nat → Prop) (hx : Gr B wx G P M b l s room Hx) => mid_any hx n hn (kid (at' s.1 id)) (fun i h4 => hinv.kid hl i) hr)
  obtain ⟨Hs, hst, _⟩ := HS.out.store
  have HK := Lib.hid (kids_ok hst n id hl _ rfl)
  clear h hn hl hr hinv hst
  go_enter Tryz.func57, Tryz.ntmps57
  go_wp2_with fail
  refine HK.out.mono ?_
  rintro e w2 ⟨rfl, hb⟩
  have HS2 := Lib.hid ((HS.out.below hb).alloc (.cells #[.int .i64 (at' s.1 id).k0, .int .i64 (at' s.1 id).k1, .int .i64 (at' s.1 id).k2, .int .i64 (at' s.1 id).k3] 96))
  clear hb hp HK HS
  go_upto_region 6 with (fail)
  obtain ⟨g6, hg6⟩ : ∃ g, g = w2.heap.size := ⟨_, rfl⟩
  rw [← hg6] at HS2 ⊢
  generalize World.alloc _ _ = W2 at HS2 ⊢
  clear hg6
  have HD := Lib.hid HS2.out.drew
  have KD := Lib.hid (row4 HD.out.b0)
  obtain ⟨H1, h1, h2⟩ := HD.out.call
  have HC := Lib.hid (HM.out _ _ h1)
  have HX := Lib.hid h2
  clear h1 h2 HM
  go_region_held3 (fun w' => w'.cell? ⟨g6, 0, none⟩ = some (.int .i64 (at' s.1 id).k0) ∧ w'.cell? ⟨g6, 1, none⟩ = some (.int .i64 (at' s.1 id).k1) ∧ w'.cell? ⟨g6, 2, none⟩ = some (.int .i64 (at' s.1 id).k2) ∧ w'.cell? ⟨g6, 3, none⟩ = some (.int .i64 (at' s.1 id).k3)) (first | with_reducible exact KD.out | with_reducible exact ks)
    ((go_at_call 60; refine HC.out.mono ?_; rintro e w4 ⟨rfl, hg⟩; have HS4 := Lib.hid (HX.out _ _ hg); have ks := row4 HS4.out.b0; clear hg))
  go_wp2
  go_ret2
  exact ⟨rfl, HS4.out.gt⟩
set_option maxRecDepth 100000 in
set_option maxHeartbeats 4000000 in
theorem growP_ok {B : Nat} {w : World} {G P M b l : Nat} {s : GS} {room : Nat} {H : Nat → Prop} (hm : mayR b l = true) (h : Gr B w G P M b l s room H) (hk : GOk b l s) (m : Nat) (h36 : m ≤ 36) (id : Int) (hl : Lv s.1 (m + 1) id) (j : Nat) (hj : j ≤ m + 2) (hr : (growQ b l m s id j).1.1.length ≤ room) :
    Calls Tryz.prog 14 #[.pointer (some ⟨G, 0, none⟩), .int .i64 id, .int .i64 (j : Int)] w fun e w' => e = .returned (.tuple #[.int .i64 (growQ b l m s id j).2, .nilIface]) ∧ Gt B w G P M b l room H (growQ b l m s id j).1 w' := by
  have HS := Lib.hid (Gs.start h)
  have hp := HS.out.ptr
  have HG := Lib.hid (fun (wx : World) (Hx : Nat → Prop) (hx : Gr B wx G P M b l s room Hx) => grow_any B G P M b l room hm m h36 wx s Hx id j hx hk hl hj hr)
  obtain ⟨Hs, hst, _⟩ := HS.out.store
  obtain ⟨lv, hlv⟩ : ∃ lv : Int, lv = ((m + 1 : Nat) : Int) + 3 := ⟨_, rfl⟩
  have HLV := Lib.hid (level_is hst id hl.1 lv (by rw [hlv]; exact hl.2))
  have lv0 : (0 : Int) ≤ lv := by omega
  have lv1 : lv ≤ 100 := by omega
  have e3 : (lv == 3) = false := by rw [beq_eq_false_iff_ne]; omega
  have j0 : decide ((j : Int) < 0) = false := decide_eq_false (by omega)
  have j1 : decide (lv - 2 < (j : Int)) = false := decide_eq_false (by omega)
  have j2 : ¬ lv - 2 < (j : Int) := by omega
  have j3 : ¬ (j : Int) < 0 := by omega
  clear h hk hl hr hst hlv hj hm h36
  go_enter Tryz.func14, Tryz.ntmps14
  go_wp2_with fail
  refine HLV.out.mono ?_
  rintro e w2 ⟨rfl, hb⟩
  have HS2 := Lib.hid (HS.out.below hb)
  clear hb hp HLV HS
  go_wp2_with fail
  refine (farthest_any lv lv0 lv1 _).mono ?_
  rintro e w3 ⟨rfl, rfl⟩
  obtain ⟨H1, h1, h2⟩ := HS2.out.call
  have HC := Lib.hid (HG.out _ _ h1)
  have HX := Lib.hid h2
  clear h1 h2 HG
  go_wp2_with fail
  refine HC.out.mono ?_
  rintro e w4 ⟨rfl, hg⟩
  have HS4 := Lib.hid (HX.out _ _ hg)
  clear hg
  go_wp2
  go_ret2
  exact ⟨rfl, HS4.out.gt⟩
end Go.Proofs.YtkefjkfknegogaaGreat

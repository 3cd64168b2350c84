/-
  THE WALK of the maker's grow: remembered, or not; of every level. Conditions: the grower lies in memory, and there is room.
  THE WALKS of New, Center, Grow, Known. Conditions: a store, or a grower, lies in memory, and there is room.
-/
import Derived.Test.YtkefjkfknegogabN30
namespace Go.Proofs.Ytkefjkfknegogab
open Go.RowKit Ti Qd Go.Maps Go.WideMaps Ru

theorem Gs.noted {B : Nat} {w0 w w' : World} {H0 : Nat → Prop} {G P M b l room : Nat} {s : GS} {bx : List (Nat × Obj)} {K' : Kn} (h : Gs B w0 H0 G P M b l room s bx w) (hk : KAt w' M K') (hg : w.grownBy w' (some M)) : Gs B w0 H0 G P M b l room (s.1, K') bx w' := by
  obtain ⟨⟨H, ⟨Hs, hs, rfl⟩, h2, h3⟩, h4, h5⟩ := h
  have ne : ∀ x, x < w.heap.size → ¬ x = M → w'.heap[x]? = w.heap[x]? := fun x hx hn => hg.block x hx fun e => hn (Option.some.inj e)
  have eG := ne G hs.ltG hs.GM
  refine ⟨⟨_, ⟨Hs, ⟨hs.st.moved fun x hx => ne x (hs.st.lt x hx).2 fun e => hs.nM (e ▸ hx), (World.cell?_of_block eG).trans hs.c0, (World.cell?_of_block eG).trans hs.c1, (World.cell?_of_block eG).trans hs.c2, (World.cell?_of_block eG).trans hs.c3, hk, hs.bG, hs.bM, hs.nG, hs.nM, hs.GM⟩, rfl⟩, h2.trans ⟨hg.os, hg.tape, hg.output, hg.size, fun k hk hn => ne k hk fun e => hn (.inl e), fun k hk => .inl hk⟩, fun x hx => ⟨(h3 x hx).1, (h3 x hx).2.1, (ne x.1 (lt_of_block (h3 x hx).2.2) fun e => (h3 x hx).2.1 (.inl e)).trans (h3 x hx).2.2⟩⟩, h4, h5⟩
theorem Gs.kn {B : Nat} {w0 w : World} {H0 : Nat → Prop} {G P M b l room : Nat} {s : GS} {bx : List (Nat × Obj)} (h : Gs B w0 H0 G P M b l room s bx w) : KAt w M s.2 := by
  obtain ⟨⟨H, ⟨Hs, hs, rfl⟩, _, _⟩, _⟩ := h
  exact hs.kn
theorem two_cells {w : World} {g : Nat} {v0 v1 : Value} {T : TypeId} (h : w.heap[g]? = some (.cells #[v0, v1] T (0, 0))) : w.cell? ⟨g, 0, none⟩ = some v0 ∧ w.cell? ⟨g, 1, none⟩ = some v1 := by
  constructor <;> (rw [cell_of_row w g _ _ _ _ h]; rfl)
theorem ok_i1 {L : List Sq} (h : L.length ≤ 65536) {id : Int} (ho : Ok L id) : I1 id ∧ 1 ≤ id ∧ id ≤ 65536 := by
  unfold Ok at ho
  unfold I1
  omega
theorem gr_small {B : Nat} {w : World} {G P M b l : Nat} {s : GS} {room : Nat} {H : Nat → Prop} (h : Gr B w G P M b l s room H) : s.1.length ≤ 65536 ∧ room ≤ 65536 := by
  obtain ⟨Hs, hs, _⟩ := h
  refine ⟨hs.st.small, ?_⟩
  obtain ⟨M', sv, q, _⟩ := hs.st
  exact q.r6
end Go.Proofs.Ytkefjkfknegogab
namespace Go.Proofs.Ytkefjkfknegogab
open Go.RowKit Ti Qd Go.Maps Go.WideMaps Ru

/-- a grower was made -/
def GMade (B : Nat) (w : World) (P b l room : Nat) (L : List Sq) (Hs : Nat → Prop) (e : Ending) (w' : World) : Prop := ∃ G M H', e = .returned (.tuple #[.pointer (some ⟨G, 0, none⟩), .nilIface]) ∧ Gr B w' G P M b l (L, fun _ _ => none) room H' ∧ Stp w Hs w' H'
theorem four_cells {w : World} {g : Nat} {v0 v1 v2 v3 : Value} {T : TypeId} (h : w.heap[g]? = some (.cells #[v0, v1, v2, v3] T (0, 0))) : w.cell? ⟨g, 0, none⟩ = some v0 ∧ w.cell? ⟨g, 1, none⟩ = some v1 ∧ w.cell? ⟨g, 2, none⟩ = some v2 ∧ w.cell? ⟨g, 3, none⟩ = some v3 := row4 h
theorem gmade_of {B : Nat} {w w1 : World} {P b l room : Nat} {L : List Sq} {Hs : Nat → Prop} (h : St B w P L room Hs) (hB : B ≤ w.heap.size) (hb : Below w.heap.size w w1) :
    GMade B w P b l room L Hs (.returned (.tuple #[.pointer (some ⟨w1.heap.size + 1, 0, none⟩), .nilIface])) ((w1.alloc (.map #[] 0)).alloc (.cells #[.pointer (some ⟨P, 0, none⟩), .int .u16 b, .int .u16 l, .map (some w1.heap.size)] 96)) := by
  have h1 := alX w1 (.map #[] 0)
  have h2 := alX (w1.alloc (.map #[] 0)) (.cells #[.pointer (some ⟨P, 0, none⟩), .int .u16 b, .int .u16 l, .map (some w1.heap.size)] 96)
  have hc : ((w1.alloc (.map #[] 0)).alloc (.cells #[.pointer (some ⟨P, 0, none⟩), .int .u16 b, .int .u16 l, .map (some w1.heap.size)] 96)).heap[w1.heap.size + 1]? = some (.cells #[.pointer (some ⟨P, 0, none⟩), .int .u16 b, .int .u16 l, .map (some w1.heap.size)] 96 (0, 0)) := by
    have := heap_alloc_new (w1.alloc (.map #[] 0)) (.cells #[.pointer (some ⟨P, 0, none⟩), .int .u16 b, .int .u16 l, .map (some w1.heap.size)] 96)
    simpa using this
  have hbb := hb.trans ((h1.trans (h2.mono (by simp))).mono hb.size)
  obtain ⟨c0, c1, c2, c3⟩ := four_cells hc
  have hz := hb.size
  refine ⟨w1.heap.size + 1, w1.heap.size, fun x => x = w1.heap.size ∨ Hs x, rfl, ⟨Hs, ⟨h.below hbb (Nat.le_refl _), c0, c1, c2, c3, ⟨.map [], [], ((World.ownsMap_made (H := Unit) w1 Try.prog 198 (plainElem Try.prog 3)).alloc _), mpA_nil, List.nodup_nil, by simp, by simp⟩, by omega, by omega, fun e => ?_, fun e => ?_, by omega⟩, rfl⟩, ?_⟩
  · have := (h.lt _ e).2; omega
  · have := (h.lt _ e).2; omega
  · exact ⟨hbb.os, hbb.tape, hbb.output, hbb.size, fun k hk _ => hbb.block k hk, fun k hk => by
      rcases hk with rfl | hk
      · exact .inr hz
      · exact .inl hk⟩
set_option maxRecDepth 100000 in
set_option maxHeartbeats 1000000 in
theorem gnew_ok {B : Nat} {w : World} {P room : Nat} {L : List Sq} {Hs : Nat → Prop} (h : St B w P L room Hs) (hB : B ≤ w.heap.size) (b l : Nat) (hm : mayR b l = true) :
    Calls Try.prog 16 #[.pointer (some ⟨P, 0, none⟩), Rv b l] w (GMade B w P b l room L Hs) := by
  have HC := Lib.hid (fun w => check_ok b l hm w)
  have HM := Lib.hid (fun (w1 : World) (hb : Below w.heap.size w w1) => gmade_of (b := b) (l := l) h hB hb)
  clear h hB hm
  unfold Rv at HC ⊢
  have HB := Lib.hid (alX w (.cells #[.int .u16 b, .int .u16 l] 39))
  obtain ⟨c0, c1⟩ := two_cells (heap_alloc_new w (.cells #[.int .u16 b, .int .u16 l] 39))
  have HR := Lib.hid (heap_alloc_new w (.cells #[.int .u16 b, .int .u16 l] 39))
  have hmm := @run_makeMap Try.prog
  go_enter Try.func16, Try.ntmps16
  go_wp2_with fail
  refine (HC.out _).mono ?_
  rintro e w1 ⟨rfl, hb⟩
  have HB1 := Lib.hid (HB.out.trans (hb.mono HB.out.size))
  obtain ⟨c0, c1⟩ := two_cells ((hb.block _ (lt_of_block HR.out)).trans HR.out)
  clear hb
  go_wp2
  go_ret2
  exact HM.out _ HB1.out
set_option maxRecDepth 100000 in
set_option maxHeartbeats 4000000 in
theorem center_ok {B : Nat} {w : World} {G P M b l : Nat} {s : GS} {room : Nat} {H : Nat → Prop} (h : Gr B w G P M b l s room H) (n : Nat) (hn : n ≤ 36) (id : Int) (hl : Lv s.1 (n + 1) id)
    (hr : (midG s (kid (at' s.1 id) 0) (kid (at' s.1 id) 1) (kid (at' s.1 id) 2) (kid (at' s.1 id) 3)).1.1.length ≤ room) :
    Calls Try.prog 49 #[.pointer (some ⟨G, 0, none⟩), .int .i64 id] w fun e w' => e = .returned (.tuple #[.int .i64 (midG s (kid (at' s.1 id) 0) (kid (at' s.1 id) 1) (kid (at' s.1 id) 2) (kid (at' s.1 id) 3)).2, .nilIface]) ∧ Gt B w G P M b l room H (midG s (kid (at' s.1 id) 0) (kid (at' s.1 id) 1) (kid (at' s.1 id) 2) (kid (at' s.1 id) 3)).1 w' := by
  have HS := Lib.hid (Gs.start h)
  have hinv := HS.out.inv.1
  have hp := HS.out.ptr
  have HM := Lib.hid (fun (wx : World) (Hx : Nat → Prop) (hx : Gr B wx G P M b l s room Hx) => mid_any hx n hn (kid (at' s.1 id)) (fun i h4 => hinv.kid hl i) hr)
  obtain ⟨Hs, hst, _⟩ := HS.out.store
  have HK := Lib.hid (kids_ok hst n id hl _ rfl)
  clear h hn hl hr hinv hst
  go_enter Try.func49, Try.ntmps49
  go_wp2_with fail
  refine HK.out.mono ?_
  rintro e w2 ⟨rfl, hb⟩
  have HS2 := Lib.hid ((HS.out.below hb).alloc (.cells #[.int .i64 (at' s.1 id).k0, .int .i64 (at' s.1 id).k1, .int .i64 (at' s.1 id).k2, .int .i64 (at' s.1 id).k3] 87))
  clear hb hp HK HS
  go_upto_region 6 with (fail)
  obtain ⟨g6, hg6⟩ : ∃ g, g = w2.heap.size := ⟨_, rfl⟩
  rw [← hg6] at HS2 ⊢
  generalize World.alloc _ _ = W2 at HS2 ⊢
  clear hg6
  have HD := Lib.hid HS2.out.drew
  have KD := Lib.hid (row4 HD.out.b0)
  obtain ⟨H1, h1, h2⟩ := HD.out.call
  have HC := Lib.hid (HM.out _ _ h1)
  have HX := Lib.hid h2
  clear h1 h2 HM
  go_region_held3 (fun w' => w'.cell? ⟨g6, 0, none⟩ = some (.int .i64 (at' s.1 id).k0) ∧ w'.cell? ⟨g6, 1, none⟩ = some (.int .i64 (at' s.1 id).k1) ∧ w'.cell? ⟨g6, 2, none⟩ = some (.int .i64 (at' s.1 id).k2) ∧ w'.cell? ⟨g6, 3, none⟩ = some (.int .i64 (at' s.1 id).k3)) (first | with_reducible exact KD.out | with_reducible exact ks)
    ((go_at_call 59; refine HC.out.mono ?_; rintro e w4 ⟨rfl, hg⟩; have HS4 := Lib.hid (HX.out _ _ hg); have ks := row4 HS4.out.b0; clear hg))
  go_wp2
  go_ret2
  exact ⟨rfl, HS4.out.gt⟩
end Go.Proofs.Ytkefjkfknegogab

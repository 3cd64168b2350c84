/-
  THE WALKS of New, Center, Grow, Known. Conditions: a store, or a grower, lies in memory, and there is room.
-/
import Derived.Test.YtgimphkamjojpaaDoorE37
namespace Go.Proofs.YtgimphkamjojpaaDoor
open Go.RowKit Ti Qd Go.Maps Go.WideMaps Ru

/-- a grower was made -/
def GMade (B : Nat) (w : World) (P b l room : Nat) (L : List Sq) (Hs : Nat → Prop) (e : Ending) (w' : World) : Prop := ∃ G M H', e = .returned (.tuple #[.pointer (some ⟨G, 0, none⟩), .nilIface]) ∧ Gr B w' G P M b l (L, fun _ _ => none) room H' ∧ Stp w Hs w' H'
theorem four_cells {w : World} {g : Nat} {v0 v1 v2 v3 : Value} {T : TypeId} (h : w.heap[g]? = some (.cells #[v0, v1, v2, v3] T (0, 0))) : w.cell? ⟨g, 0, none⟩ = some v0 ∧ w.cell? ⟨g, 1, none⟩ = some v1 ∧ w.cell? ⟨g, 2, none⟩ = some v2 ∧ w.cell? ⟨g, 3, none⟩ = some v3 := row4 h
theorem gmade_of {B : Nat} {w w1 : World} {P b l room : Nat} {L : List Sq} {Hs : Nat → Prop} (h : St B w P L room Hs) (hB : B ≤ w.heap.size) (hb : Below w.heap.size w w1) :
    GMade B w P b l room L Hs (.returned (.tuple #[.pointer (some ⟨w1.heap.size + 1, 0, none⟩), .nilIface])) ((w1.alloc (.map #[] 0)).alloc (.cells #[.pointer (some ⟨P, 0, none⟩), .int .u16 b, .int .u16 l, .map (some w1.heap.size)] 66)) := by
  have h1 := alX w1 (.map #[] 0)
  have h2 := alX (w1.alloc (.map #[] 0)) (.cells #[.pointer (some ⟨P, 0, none⟩), .int .u16 b, .int .u16 l, .map (some w1.heap.size)] 66)
  have hc : ((w1.alloc (.map #[] 0)).alloc (.cells #[.pointer (some ⟨P, 0, none⟩), .int .u16 b, .int .u16 l, .map (some w1.heap.size)] 66)).heap[w1.heap.size + 1]? = some (.cells #[.pointer (some ⟨P, 0, none⟩), .int .u16 b, .int .u16 l, .map (some w1.heap.size)] 66 (0, 0)) := by
    have := heap_alloc_new (w1.alloc (.map #[] 0)) (.cells #[.pointer (some ⟨P, 0, none⟩), .int .u16 b, .int .u16 l, .map (some w1.heap.size)] 66)
    simpa using this
  have hbb := hb.trans ((h1.trans (h2.mono (by simp))).mono hb.size)
  obtain ⟨c0, c1, c2, c3⟩ := four_cells hc
  have hz := hb.size
  refine ⟨w1.heap.size + 1, w1.heap.size, fun x => x = w1.heap.size ∨ Hs x, rfl, ⟨Hs, ⟨h.below hbb (Nat.le_refl _), c0, c1, c2, c3, ⟨.map [], [], ((World.ownsMap_made (H := Unit) w1 Tryd.prog 93 (plainElem Tryd.prog 3)).alloc _), mpA_nil, List.nodup_nil, by simp, by simp⟩, by omega, by omega, fun e => ?_, fun e => ?_, by omega⟩, rfl⟩, ?_⟩
  · have := (h.lt _ e).2; omega
  · have := (h.lt _ e).2; omega
  · exact ⟨hbb.os, hbb.tape, hbb.output, hbb.size, fun k hk _ => hbb.block k hk, fun k hk => by
      rcases hk with rfl | hk
      · exact .inr hz
      · exact .inl hk⟩
set_option maxRecDepth 100000 in
set_option maxHeartbeats 1000000 in
theorem gnew_ok {B : Nat} {w : World} {P room : Nat} {L : List Sq} {Hs : Nat → Prop} (h : St B w P L room Hs) (hB : B ≤ w.heap.size) (b l : Nat) (hm : mayR b l = true) :
    Calls Tryd.prog 8 #[.pointer (some ⟨P, 0, none⟩), Rv b l] w (GMade B w P b l room L Hs) := by
  have HC := Lib.hid (fun w => check_ok b l hm w)
  have HM := Lib.hid (fun (w1 : World) (hb : Below w.heap.size w w1) => gmade_of (b := b) (l := l) h hB hb)
  clear h hB hm
  unfold Rv at HC ⊢
  have HB := Lib.hid (alX w (.cells #[.int .u16 b, .int .u16 l] 39))
  obtain ⟨c0, c1⟩ := two_cells (heap_alloc_new w (.cells #[.int .u16 b, .int .u16 l] 39))
  have HR := Lib.hid (heap_alloc_new w (.cells #[.int .u16 b, .int .u16 l] 39))
  have hmm := @run_makeMap Tryd.prog
  go_enter Tryd.func8, Tryd.ntmps8
  go_wp2_with fail
  refine (HC.out _).mono ?_
  rintro e w1 ⟨rfl, hb⟩
  have HB1 := Lib.hid (HB.out.trans (hb.mono HB.out.size))
  obtain ⟨c0, c1⟩ := two_cells ((hb.block _ (lt_of_block HR.out)).trans HR.out)
  clear hb
  go_wp2
  go_ret2
  exact HM.out _ HB1.out
set_option maxRecDepth 100000 in
set_option maxHeartbeats 4000000 in
theorem center_ok {B : Nat} {w : World} {G P M b l : Nat} {s : GS} {room : Nat} {H : Nat → Prop} (h : Gr B w G P M b l s room H) (n : Nat) (hn : n ≤ 36) (id : Int) (hl : Lv s.1 (n + 1) id)
    (hr : (midG s (kid (at' s.1 id) 0) (kid (at' s.1 id) 1) (kid (at' s.1 id) 2) (kid (at' s.1 id) 3)).1.1.length ≤ room) :
    Calls Tryd.prog 13 #[.pointer (some ⟨G, 0, none⟩), .int .i64 id] w fun e w' => e = .returned (.tuple #[.int .i64 (midG s (kid (at' s.1 id) 0) (kid (at' s.1 id) 1) (kid (at' s.1 id) 2) (kid (at' s.1 id) 3)).2, .nilIface]) ∧ Gt B w G P M b l room H (midG s (kid (at' s.1 id) 0) (kid (at' s.1 id) 1) (kid (at' s.1 id) 2) (kid (at' s.1 id) 3)).1 w' := by
  have HS := Lib.hid (Gs.start h)
  have hinv := HS.out.inv.1
  have hp := HS.out.ptr
  have HM := Lib.hid (fun (wx : World) (Hx : Nat → Prop) (hx : Gr B wx G P M b l s room Hx) => mid_any hx n hn (kid (at' s.1 id)) (fun i h4 => hinv.kid hl i) hr)
  obtain ⟨Hs, hst, _⟩ := HS.out.store
  have HK := Lib.hid (kids_ok hst n id hl _ rfl)
  clear h hn hl hr hinv hst
  go_enter Tryd.func13, Tryd.ntmps13
  go_wp2_with fail
  refine HK.out.mono ?_
  rintro e w2 ⟨rfl, hb⟩
  have HS2 := Lib.hid ((HS.out.below hb).alloc (.cells #[.int .i64 (at' s.1 id).k0, .int .i64 (at' s.1 id).k1, .int .i64 (at' s.1 id).k2, .int .i64 (at' s.1 id).k3] 71))
  clear hb hp HK HS
  go_upto_region 6 with (fail)
  obtain ⟨g6, hg6⟩ : ∃ g, g = w2.heap.size := ⟨_, rfl⟩
  rw [← hg6] at HS2 ⊢
  generalize World.alloc _ _ = W2 at HS2 ⊢
  clear hg6
  have HD := Lib.hid HS2.out.drew
  have KD := Lib.hid (row4 HD.out.b0)
  obtain ⟨H1, h1, h2⟩ := HD.out.call
  have HC := Lib.hid (HM.out _ _ h1)
  have HX := Lib.hid h2
  clear h1 h2 HM
  go_region_held3 (fun w' => w'.cell? ⟨g6, 0, none⟩ = some (.int .i64 (at' s.1 id).k0) ∧ w'.cell? ⟨g6, 1, none⟩ = some (.int .i64 (at' s.1 id).k1) ∧ w'.cell? ⟨g6, 2, none⟩ = some (.int .i64 (at' s.1 id).k2) ∧ w'.cell? ⟨g6, 3, none⟩ = some (.int .i64 (at' s.1 id).k3)) (first | with_reducible exact KD.out | with_reducible exact ks)
    ((go_at_call 29; refine HC.out.mono ?_; rintro e w4 ⟨rfl, hg⟩; have HS4 := Lib.hid (HX.out _ _ hg); have ks := row4 HS4.out.b0; clear hg))
  go_wp2
  go_ret2
  exact ⟨rfl, HS4.out.gt⟩
set_option maxRecDepth 100000 in
set_option maxHeartbeats 4000000 in
theorem growP_ok {B : Nat} {w : World} {G P M b l : Nat} {s : GS} {room : Nat} {H : Nat → Prop} (hm : mayR b l = true) (h : Gr B w G P M b l s room H) (hk : GOk b l s) (m : Nat) (h36 : m ≤ 36) (id : Int) (hl : Lv s.1 (m + 1) id) (j : Nat) (hj : j ≤ m + 2) (hr : (growQ b l m s id j).1.1.length ≤ room) :
    Calls Tryd.prog 11 #[.pointer (some ⟨G, 0, none⟩), .int .i64 id, .int .i64 (j : Int)] w fun e w' => e = .returned (.tuple #[.int .i64 (growQ b l m s id j).2, .nilIface]) ∧ Gt B w G P M b l room H (growQ b l m s id j).1 w' := by
  have HS := Lib.hid (Gs.start h)
  have hp := HS.out.ptr
  have HG := Lib.hid (fun (wx : World) (Hx : Nat → Prop) (hx : Gr B wx G P M b l s room Hx) => grow_any B G P M b l room hm m h36 wx s Hx id j hx hk hl hj hr)
  obtain ⟨Hs, hst, _⟩ := HS.out.store
  obtain ⟨lv, hlv⟩ : ∃ lv : Int, lv = ((m + 1 : Nat) : Int) + 3 := ⟨_, rfl⟩
  have HLV := Lib.hid (level_is hst id hl.1 lv (by rw [hlv]; exact hl.2))
  have lv0 : (0 : Int) ≤ lv := by omega
  have lv1 : lv ≤ 100 := by omega
  have e3 : (lv == 3) = false := by rw [beq_eq_false_iff_ne]; omega
  have j0 : decide ((j : Int) < 0) = false := decide_eq_false (by omega)
  have j1 : decide (lv - 2 < (j : Int)) = false := decide_eq_false (by omega)
  have j2 : ¬ lv - 2 < (j : Int) := by omega
  have j3 : ¬ (j : Int) < 0 := by omega
  clear h hk hl hr hst hlv hj hm h36
  go_enter Tryd.func11, Tryd.ntmps11
  go_wp2_with fail
  refine HLV.out.mono ?_
  rintro e w2 ⟨rfl, hb⟩
  have HS2 := Lib.hid (HS.out.below hb)
  clear hb hp HLV HS
  go_wp2_with fail
  refine (farthest_any lv lv0 lv1 _).mono ?_
  rintro e w3 ⟨rfl, rfl⟩
  obtain ⟨H1, h1, h2⟩ := HS2.out.call
  have HC := Lib.hid (HG.out _ _ h1)
  have HX := Lib.hid h2
  clear h1 h2 HG
  go_wp2_with fail
  refine HC.out.mono ?_
  rintro e w4 ⟨rfl, hg⟩
  have HS4 := Lib.hid (HX.out _ _ hg)
  clear hg
  go_wp2
  go_ret2
  exact ⟨rfl, HS4.out.gt⟩
set_option maxRecDepth 100000 in
/-- something is remembered -/
theorem known_pos {B : Nat} {w : World} {G P M b l : Nat} {s : GS} {room : Nat} {H : Nat → Prop} (h : Gr B w G P M b l s room H) (id j o : Int) (hi : I1 id) (hj : I1 j) (hk : s.2 id j = some o) :
    Calls Tryd.prog 18 #[.pointer (some ⟨G, 0, none⟩)] w fun e w' => (∃ n : Nat, 0 < n ∧ e = .returned (.int .i64 (n : Int))) ∧ w = w' := by
  have HS := Lib.hid (Gs.start h)
  have c3 := HS.out.rul.2.2
  obtain ⟨D, ks, h1, hf, _⟩ := HS.out.kn
  have hlen := fun ty => h1.len Tryd.underlying62 ty
  have hh : Maps.has D (kyA id j) = true := (hf.has id j hi hj).2 (by rw [hk]; simp)
  have hpos : 0 < Maps.size D := by
    obtain ⟨es, rfl⟩ := h1.isMap
    have h2 : es.any (fun p => p.1.sameKey (kyA id j)) = true := hh
    cases es with
    | nil => simp at h2
    | cons a t => simp [Maps.size]
  have HN := Lib.hid hpos
  clear h hi hj hk h1 hf hh hpos
  generalize Maps.size D = n at *
  go_enter Tryd.func18, Tryd.ntmps18
  go_wp2
  go_ret
  exact ⟨⟨n, HN.out, rfl⟩, rfl⟩
end Go.Proofs.YtgimphkamjojpaaDoor

/-
  THE WALK of the statement on pages as bytes, against the document's own. Conditions: what came in could be read; errors.errorType is as the program's text lays it.
-/
import Derived.Test.YtmfddecndadohaaDoorSam
import Derived.Test.YtmfddecndadohaaDoorPartsW
import Derived.Test.YtmfddecndadohaaDoorQc
namespace Go.Proofs.YtmfddecndadohaaDoor
open Go.RowKit Crc

/-- two variables in memory -/
def Two (W : World) (X Y : Nat) (A B : Obj) : Prop := W.heap[X]? = some A ∧ W.heap[Y]? = some B
theorem Two.below {W W' : World} {X Y : Nat} {A B : Obj} (h : Two W X Y A B) (hb : Below W.heap.size W W') : Two W' X Y A B := ⟨(hb.block X (lt_of_block h.1)).trans h.1, (hb.block Y (lt_of_block h.2)).trans h.2⟩
theorem Two.cells {W : World} {X Y : Nat} {ki nu ep si : Int} {a : Option Addr} {n c : Nat} (h : Two W X Y (inPg ki nu ep si a n c) (pgObj ki nu ep si a n c)) :
    (W.cell? ⟨X, 0, none⟩ = some (.int .u8 ki) ∧ W.cell? ⟨X, 1, none⟩ = some (.int .u32 nu) ∧ W.cell? ⟨X, 2, none⟩ = some (.int .u64 ep) ∧ W.cell? ⟨X, 3, none⟩ = some (.int .i64 si) ∧ W.cell? ⟨X, 4, none⟩ = some (.slice a n c)) ∧
    (W.cell? ⟨Y, 0, none⟩ = some (.int .u8 ki) ∧ W.cell? ⟨Y, 1, none⟩ = some (.int .u32 nu) ∧ W.cell? ⟨Y, 2, none⟩ = some (.int .u64 ep) ∧ W.cell? ⟨Y, 3, none⟩ = some (.int .i64 si) ∧ W.cell? ⟨Y, 4, none⟩ = some (.slice a n c)) :=
  ⟨(row_cells h.1).1, (row_cells h.2).1⟩
theorem Two.flat {W : World} {X Y : Nat} {ki nu ep si : Int} {a : Option Addr} {n c : Nat} (h : Two W X Y (inPg ki nu ep si a n c) (pgObj ki nu ep si a n c)) :
    W.cell? ⟨X, 0, none⟩ = some (.int .u8 ki) ∧ W.cell? ⟨X, 1, none⟩ = some (.int .u32 nu) ∧ W.cell? ⟨X, 2, none⟩ = some (.int .u64 ep) ∧ W.cell? ⟨X, 3, none⟩ = some (.int .i64 si) ∧ W.cell? ⟨X, 4, none⟩ = some (.slice a n c) ∧
    W.cell? ⟨Y, 0, none⟩ = some (.int .u8 ki) ∧ W.cell? ⟨Y, 1, none⟩ = some (.int .u32 nu) ∧ W.cell? ⟨Y, 2, none⟩ = some (.int .u64 ep) ∧ W.cell? ⟨Y, 3, none⟩ = some (.int .i64 si) ∧ W.cell? ⟨Y, 4, none⟩ = some (.slice a n c) := by
  obtain ⟨⟨c0, c1, c2, c3, c4⟩, d0, d1, d2, d3, d4⟩ := h.cells
  exact ⟨c0, c1, c2, c3, c4, d0, d1, d2, d3, d4⟩
set_option maxRecDepth 100000 in
set_option maxHeartbeats 4000000 in
theorem enc_walk (ki nu ep si : Int) (a : Option Addr) (n c : Nat) (rs : List (List Int)) (sz : Int) (w : World) (hp : PageIn w ki nu ep si a n rs) (hsz : (Lit.int .i64 sz).wf = true) (hl : Laid w) :
    Calls Tryd.prog 3 #[.agg #[.int .u8 ki, .int .u32 nu, .int .u64 ep, .int .i64 si, .slice a n c], .int .i64 sz] w fun e w' => e = .returned (.bool true) ∧ Below w.heap.size w w' := by
  have hs2 := (bounds_i64 hsz).2
  have HP := Lib.hid hp
  have HL := Lib.hid hl
  have HB0 := Lib.hid (alX w (inPg ki nu ep si a n c))
  have HR0 := Lib.hid (hp.recs.below HB0.out)
  clear hp hl hsz
  go_enter Tryd.func3, Tryd.ntmps3
  go_upto_if 9 with (go_at_call 9; refine (huge_any ki nu ep si a n c rs _ HR0.out HP.out.len HP.out.max).mono ?_; rintro e w1 ⟨B, rfl, _, hb1⟩; have HB1 := Lib.hid hb1; clear hb1)
  cases B
  · have HZ := Lib.hid ((HB1.out.block w.heap.size (by simp)).trans (heap_alloc_new w (inPg ki nu ep si a n c)))
    have HBX := Lib.hid (HB0.out.trans (HB1.out.mono (by simp)))
    have c00 := (row_cells HZ.out).1
    obtain ⟨c0, c1, c2, c3, c4⟩ := c00
    have HB2 := Lib.hid (HBX.out.trans ((alX w1 (pgObj ki nu ep si a n c)).mono HBX.out.size))
    have HT2 := Lib.hid (show Two (w1.alloc (pgObj ki nu ep si a n c)) w.heap.size w1.heap.size (inPg ki nu ep si a n c) (pgObj ki nu ep si a n c) from ⟨((alX w1 (pgObj ki nu ep si a n c)).block _ (lt_of_block HZ.out)).trans HZ.out, heap_alloc_new _ _⟩)
    clear HB1
    cases hm : (Pg.mkPg ki nu ep si rs).may
    · have HMA := Lib.hid hm
      clear hm
      go_wp2_with (first | (go_at_call 11; (with_reducible refine (encode_not ki nu ep si a n c rs w _ HP.out HB2.out HMA.out).mono ?_); rintro e w3 ⟨rfl, hb3⟩; have HB3 := Lib.hid (HB2.out.trans (hb3.mono HB2.out.size)); have HT3 := Lib.hid (HT2.out.below hb3); obtain ⟨⟨c0, c1, c2, c3, c4⟩, d0, d1, d2, d3, d4⟩ := HT3.out.cells; clear hb3) | (go_at_call 12; refine (room_any _ _ hs2).mono ?_; rintro e w' ⟨rfl, rfl⟩) | (go_at_call 13; refine (refroom_any _ _ hs2).mono ?_; rintro e w' ⟨rfl, rfl⟩) | (go_at_call 14; refine (same_any ki nu ep si a a n c c rs _ HP.out.len HP.out.max (HP.out.recs.below HB3.out) (HP.out.recs.below HB3.out)).mono ?_; rintro e w4 ⟨rfl, hb4⟩; have HB4 := Lib.hid (HB3.out.trans (hb4.mono HB3.out.size)); have HT4 := Lib.hid (HT3.out.below hb4); obtain ⟨⟨c0, c1, c2, c3, c4⟩, d0, d1, d2, d3, d4⟩ := HT4.out.cells;  clear hb4) | (go_at_call 15; refine (may_any ki nu ep si a n c rs _ HP.out.len HP.out.max HP.out.s1 (HP.out.recs.below HB4.out)).mono ?_; rintro e w5 ⟨rfl, hb5⟩; have HB5 := Lib.hid (HB4.out.trans (hb5.mono HB4.out.size)); have HT5 := Lib.hid (HT4.out.below hb5); obtain ⟨⟨c0, c1, c2, c3, c4⟩, d0, d1, d2, d3, d4⟩ := HT5.out.cells; have hma := HMA.out;  clear hb5) | (go_at_call 16; (with_reducible refine (num_err 1 w5 (HL.out.below HB5.out)).mono ?_); rintro e w6 ⟨rfl, hb6⟩; have HB6 := Lib.hid (HB5.out.trans (hb6.mono HB5.out.size)); have HT6 := Lib.hid (HT5.out.below hb6); obtain ⟨⟨c0, c1, c2, c3, c4⟩, d0, d1, d2, d3, d4⟩ := HT6.out.cells; clear hb6) | (go_at_call 17; refine (check_bad ki nu ep si a n c rs _ HP.out.len HP.out.max HP.out.s1 (HP.out.recs.below HB6.out) HMA.out).mono ?_; rintro e w7 ⟨rfl, hb7⟩; have HB7 := Lib.hid (HB6.out.trans (hb7.mono HB6.out.size)); have HT7 := Lib.hid (HT6.out.below hb7); obtain ⟨⟨c0, c1, c2, c3, c4⟩, d0, d1, d2, d3, d4⟩ := HT7.out.cells; clear hb7) | (go_at_call 16; (with_reducible refine (num_err 1 w7 (HL.out.below HB7.out)).mono ?_); rintro e w8 ⟨rfl, hb8⟩; have HB8 := Lib.hid (HB7.out.trans (hb8.mono HB7.out.size)); clear hb8) | (go_at_call 10; refine (sure_any _).mono ?_; rintro e w9 ⟨rfl, hb9⟩; have HB9 := Lib.hid (HB8.out.trans (hb9.mono HB8.out.size)); clear hb9))
      go_ret
      exact ⟨rfl, HB9.out⟩
    · have HMA := Lib.hid hm
      clear hm
      go_upto_region 9 with (first | (go_at_call 11; (with_reducible refine (encode_in ki nu ep si a n c rs w _ HP.out HB2.out HMA.out).mono ?_); rintro e w3 ⟨g1, rfl, _, hx1, hb3⟩; have HB3 := Lib.hid (HB2.out.trans (hb3.mono HB2.out.size)); have HT3 := Lib.hid (HT2.out.below hb3); obtain ⟨⟨c0, c1, c2, c3, c4⟩, d0, d1, d2, d3, d4⟩ := HT3.out.cells; have HX3 := Lib.hid hx1; clear hb3 hx1) | (go_at_call 12; refine (room_any _ _ hs2).mono ?_; rintro e w' ⟨rfl, rfl⟩) | (go_at_call 13; refine (refroom_any _ _ hs2).mono ?_; rintro e w' ⟨rfl, rfl⟩) | (go_at_call 14; refine (same_any ki nu ep si a a n c c rs _ HP.out.len HP.out.max (HP.out.recs.below HB3.out) (HP.out.recs.below HB3.out)).mono ?_; rintro e w4 ⟨rfl, hb4⟩; have HB4 := Lib.hid (HB3.out.trans (hb4.mono HB3.out.size)); have HT4 := Lib.hid (HT3.out.below hb4); obtain ⟨⟨c0, c1, c2, c3, c4⟩, d0, d1, d2, d3, d4⟩ := HT4.out.cells; have HX4 := Lib.hid (HX3.out.below hb4); clear hb4) | (go_at_call 15; refine (may_any ki nu ep si a n c rs _ HP.out.len HP.out.max HP.out.s1 (HP.out.recs.below HB4.out)).mono ?_; rintro e w5 ⟨rfl, hb5⟩; have HB5 := Lib.hid (HB4.out.trans (hb5.mono HB4.out.size)); have HT5 := Lib.hid (HT4.out.below hb5); obtain ⟨⟨c0, c1, c2, c3, c4⟩, d0, d1, d2, d3, d4⟩ := HT5.out.cells; have hma := HMA.out; have HX5 := Lib.hid (HX4.out.below hb5); clear hb5))
      have HBD := Lib.hid (show Below w.heap.size w w5.drew from HB5.out.drew)
      have HTD := Lib.hid (show Two w5.drew w.heap.size w1.heap.size (inPg ki nu ep si a n c) (pgObj ki nu ep si a n c) from HT5.out)
      have HXD := Lib.hid (show Blk w5.drew g1 (Pg.mkPg ki nu ep si rs).bytes from HX5.out)
      have KD := Lib.hid HTD.out.flat
      have HRD := Lib.hid (show Recs w5.drew a rs from HP.out.recs.below HBD.out)
      clear c0 c1 c2 c3 c4 d0 d1 d2 d3 d4
      go_region_held (fun W => W.cell? ⟨w.heap.size, 0, none⟩ = some (.int .u8 ki) ∧ W.cell? ⟨w.heap.size, 1, none⟩ = some (.int .u32 nu) ∧ W.cell? ⟨w.heap.size, 2, none⟩ = some (.int .u64 ep) ∧ W.cell? ⟨w.heap.size, 3, none⟩ = some (.int .i64 si) ∧ W.cell? ⟨w.heap.size, 4, none⟩ = some (.slice a n c) ∧ W.cell? ⟨w1.heap.size, 0, none⟩ = some (.int .u8 ki) ∧ W.cell? ⟨w1.heap.size, 1, none⟩ = some (.int .u32 nu) ∧ W.cell? ⟨w1.heap.size, 2, none⟩ = some (.int .u64 ep) ∧ W.cell? ⟨w1.heap.size, 3, none⟩ = some (.int .i64 si) ∧ W.cell? ⟨w1.heap.size, 4, none⟩ = some (.slice a n c)) (first | with_reducible exact KD.out | with_reducible exact k6 | with_reducible exact k7 | with_reducible exact k8) (first | (go_at_call 17; refine (check_ok ki nu ep si a n c rs _ HP.out.len HP.out.max HP.out.s1 (by with_reducible exact HRD.out) HMA.out).mono ?_; rintro e w6 ⟨rfl, hb6⟩; have HB6 := Lib.hid (HBD.out.trans (hb6.mono HBD.out.size)); have HT6 := Lib.hid (HTD.out.below hb6); have HX6 := Lib.hid (HXD.out.below hb6); have HR6 := Lib.hid (HRD.out.below hb6); have k6 := HT6.out.flat; have cb6 := conv_blk HX6.out HMA.out HP.out.recs.byte; clear hb6) | (go_at_call 18; refine (refenc_any ki nu ep si a n c rs _ HP.out.len (by with_reducible exact HR6.out) HMA.out HP.out.fit).mono ?_; rintro e w7 ⟨ao7, cap7, rfl, hl7, hb7⟩; have HB7 := Lib.hid (HB6.out.trans (hb7.mono HB6.out.size)); have HT7 := Lib.hid (HT6.out.below hb7); have k7 := HT7.out.flat; have cb7 := conv_blk (HX6.out.below hb7) HMA.out HP.out.recs.byte; have ce7 := conv_any (c := cap7) hl7 (bytes_len HMA.out); clear hb7 hl7) | (go_at_call 10; refine (sure_any w7).mono ?_; rintro e w8 ⟨rfl, hb8⟩; have HB8 := Lib.hid (HB7.out.trans (hb8.mono HB7.out.size)); have HT8 := Lib.hid (HT7.out.below hb8); have k8 := HT8.out.flat; clear hb8))
      all_goals go_wp2
      all_goals go_ret
      all_goals exact ⟨rfl, HB8.out⟩
  · go_wp2_with (go_at_call 10; refine (sure_any _).mono ?_; rintro e w2 ⟨rfl, hb2⟩)
    go_ret
    exact ⟨rfl, (HB0.out.trans (HB1.out.mono (by simp))).trans (hb2.mono (HB0.out.trans (HB1.out.mono (by simp))).size)⟩
end Go.Proofs.YtmfddecndadohaaDoor

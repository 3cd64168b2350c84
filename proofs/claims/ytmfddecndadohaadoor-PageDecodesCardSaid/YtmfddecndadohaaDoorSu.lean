/-
  WHAT MUST COME WHATEVER THE INPUT IS: the statements' own fixed example holds. No conditions.
-/
import Derived.Test.YtmfddecndadohaaDoorPh
namespace Go.Proofs.YtmfddecndadohaaDoor
open Go.RowKit Crc

/-- a page that is read from the bytes of a page -/
theorem decode_page (p : Pg) (b c : Nat) (w : World) (hf : p.Fit) (h : p.may = true) (hb : Blk w b p.bytes) (hy : ∀ r ∈ p.recs, Byte r) (hc : 512 ≤ c) :
    Calls Tryd.prog 19 #[.slice (some ⟨b, 0, none⟩) 512 c] w (Read w p p.recs.length) := by
  obtain ⟨s, hs, _⟩ := may_nat h
  have hd := decode_ok b 0 c p.bytes s p.recs.length w (bytes_len h) (hb.lies (byte_bytes hy)) hc (bytes_good p) (by rw [bytes_size p h]; exact hs) (bytes_count p h) (bytes_form p s h hs)
  rwa [page_back p s hf h hs] at hd
def pg7 : Pg := .mkPg 7 0 0 24 [List.replicate 24 0]
theorem pg7_may : pg7.may = true := by decide
theorem pg7_fit : pg7.Fit := ⟨by decide, by decide, by decide, by decide, by decide, by decide⟩
set_option maxRecDepth 100000 in
theorem make24 (w : World) : (Instr.makeSlice 30 (.int .i64 24) (.int .i64 24)).run Tryd.prog w = .ok (.slice (some ⟨w.heap.size, 0, none⟩) 24 24) (w.alloc (.cells (Array.replicate 24 (.int .u8 0)) 5)) := by
  have h := run_make_row' (P := Tryd.prog) (w := w) 30 5 (.int .u8 0) 1 Tryd.underlying30 info_b rfl .i64 .i64 24 (by omega) (by omega)
  rw [made_eq] at h
  exact h
theorem recs7 (w : World) : Recs ((w.alloc (.cells (Array.replicate 24 (.int .u8 0)) 5)).alloc (.cells #[.slice (some ⟨w.heap.size, 0, none⟩) 24 24] 30)) (some ⟨w.heap.size + 1, 0, none⟩) pg7.recs := by
  intro i hi
  obtain rfl : i = 0 := by simpa [pg7] using hi
  refine ⟨w.heap.size + 1, 0, some ⟨w.heap.size, 0, none⟩, 24, rfl, ?_, ?_, (show 24 ≤ 24 by decide), by decide⟩
  · have h := heap_alloc2_new w (.cells (Array.replicate 24 (.int .u8 0)) 5) (.cells #[.slice (some ⟨w.heap.size, 0, none⟩) 24 24] 30)
    rw [cell_of_row _ _ _ _ _ _ h]
    rfl
  · exact ((blk_zeros w 24).lies (byte_zeros 24)).below (alX _ _)
set_option maxRecDepth 100000 in
theorem sure_enc (w : World) :
    Calls Tryd.prog 11 #[.agg #[.int .u8 7, .int .u32 0, .int .u64 0, .int .i64 24, .slice (some ⟨w.heap.size + 1, 0, none⟩) 1 1]] ((w.alloc (.cells (Array.replicate 24 (.int .u8 0)) 5)).alloc (.cells #[.slice (some ⟨w.heap.size, 0, none⟩) 24 24] 30)) fun e w' => ∃ g, e = .returned (.tuple #[.slice (some ⟨g, 0, none⟩) 512 512, .nilIface]) ∧ Blk w' g pg7.bytes ∧ Below w.heap.size w w' :=
  (encode_ok 7 0 0 24 _ 1 1 pg7.recs _ rfl (recs7 w) pg7_may (by decide) (by decide) (by decide) (by decide)).mono fun e w' ⟨g, he, _, hb, hbl⟩ => ⟨g, he, hb, (((Below.refl _ _).alloc (Nat.le_refl _) _).alloc (by simp) _).trans (hbl.mono (by simp; omega))⟩
set_option maxRecDepth 100000 in
theorem sure_dec (g : Nat) (w : World) (hb : Blk w g pg7.bytes) :
    Calls Tryd.prog 19 #[.slice (some ⟨g, 0, none⟩) 512 512] w fun e w' => ∃ ra cap, e = .returned (.tuple #[.agg #[.int .u8 7, .int .u32 0, .int .u64 0, .int .i64 24, .slice ra 1 cap], .nilIface]) ∧ Below w.heap.size w w' :=
  (decode_page pg7 g 512 w pg7_fit pg7_may hb (by intro r hr; rw [List.mem_singleton.1 hr]; exact byte_zeros 24) (by decide)).mono fun e w' ⟨ra, cap, he, _, hbl⟩ => ⟨ra, cap, he, hbl⟩
theorem room24 : room 24 = 20 := by decide
set_option maxRecDepth 100000 in
theorem sure_any (w : World) :
    Calls Tryd.prog 10 #[] w fun e w' => e = .returned (.bool true) ∧ Below w.heap.size w w' := by
  have hmk := make24
  have h24 := room24
  go_enter Tryd.func10, Tryd.ntmps10
  go_wp2_with (first | (go_at_call 11; refine (sure_enc w).mono ?_; rintro e w1 ⟨g, rfl, hg, hb1⟩; have HB1 := Lib.hid hb1; have HG := Lib.hid hg; clear hb1 hg) | (go_at_call 19; refine (sure_dec _ _ HG.out).mono ?_; rintro e w2 ⟨ra, cap, rfl, hb2⟩; have HB2 := Lib.hid (HB1.out.trans (hb2.mono HB1.out.size)); clear hb2) | (go_at_call 12; refine (room_any 24 _ (by omega)).mono ?_; rintro e w' ⟨rfl, rfl⟩))
  go_ret
  exact ⟨rfl, HB2.out.alloc HB2.out.size _⟩
end Go.Proofs.YtmfddecndadohaaDoor

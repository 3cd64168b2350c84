/-
  THE WALKS of page.Decode. Conditions: the bytes lie in memory.
-/
import Derived.Test.YtlfkkakohldgnaaGreatDoorN28
import Derived.Test.YtlfkkakohldgnaaGreatDoorN29
namespace Go.Proofs.YtlfkkakohldgnaaGreatDoor.Sm
open Go.RowKit Crc

/-- bytes from i on, m of them -/
def cutb (xs : List Int) (i m : Nat) : List Int := (xs.drop i).take m
theorem cutb_len {xs : List Int} {i m : Nat} (h : i + m ≤ xs.length) : (cutb xs i m).length = m := by unfold cutb; rw [List.length_take, List.length_drop]; omega
theorem Lies.cutb {w : World} {b off : Nat} {xs : List Int} (h : Lies w (some ⟨b, off, none⟩) xs) (i m : Nat) : Lies w (some ⟨b, off + i, none⟩) (cutb xs i m) := (h.drop i).take m
theorem Byte.cutb {xs : List Int} (h : Byte xs) (i m : Nat) : Byte (cutb xs i m) := by
  intro j hj
  have hj' : i + j < xs.length := by unfold Go.Proofs.YtlfkkakohldgnaaGreatDoor.Sm.cutb at hj; rw [List.length_take, List.length_drop] at hj; omega
  have e : (Go.Proofs.YtlfkkakohldgnaaGreatDoor.Sm.cutb xs i m)[j] = xs[i + j] := by simp only [Go.Proofs.YtlfkkakohldgnaaGreatDoor.Sm.cutb, List.getElem_take, List.getElem_drop]
  rw [e]
  exact h _ hj'
theorem num_cutb {xs : List Int} (h : Byte xs) (i m : Nat) (hl : i + m ≤ xs.length) : 0 ≤ num256 (cutb xs i m) ∧ num256 (cutb xs i m) < 256 ^ m := by
  have := num256_bd _ (h.cutb i m)
  rwa [cutb_len hl] at this
theorem lies_at {w : World} {b off k : Nat} {xs : List Int} {x : Int} (h : Lies w (some ⟨b, off, none⟩) xs) (hx : xs[k]? = some x) : w.cell? ⟨b, off + k, none⟩ = some (.int .u8 x) := by
  obtain ⟨hk, rfl⟩ := List.getElem?_eq_some_iff.1 hx
  obtain ⟨b', off', ha, h1, _⟩ := h k hk
  obtain ⟨rfl, rfl⟩ : b = b' ∧ off = off' := by simpa using ha
  exact h1
theorem row_cells {w : World} {g : Nat} {v0 v1 v2 v3 v4 : Value} {t : TypeId} (h : w.heap[g]? = some (.cells #[v0, v1, v2, v3, v4] t (0, 0))) :
    (w.cell? ⟨g, 0, none⟩ = some v0 ∧ w.cell? ⟨g, 1, none⟩ = some v1 ∧ w.cell? ⟨g, 2, none⟩ = some v2 ∧ w.cell? ⟨g, 3, none⟩ = some v3 ∧ w.cell? ⟨g, 4, none⟩ = some v4) ∧ w.frozen? ⟨g, 0, none⟩ = false ∧ w.frozen? ⟨g, 1, none⟩ = false ∧ w.frozen? ⟨g, 2, none⟩ = false ∧ w.frozen? ⟨g, 3, none⟩ = false ∧ w.frozen? ⟨g, 4, none⟩ = false := by
  refine ⟨⟨?_, ?_, ?_, ?_, ?_⟩, frozen_of_row w g 0 _ _ h, frozen_of_row w g 1 _ _ h, frozen_of_row w g 2 _ _ h, frozen_of_row w g 3 _ _ h, frozen_of_row w g 4 _ _ h⟩ <;> (rw [cell_of_row w g _ _ _ _ h]; rfl)
theorem row_set5 {w : World} {g : Nat} {a0 a1 a2 a3 a4 : Value} {t : TypeId} (h : w.heap[g]? = some (.cells #[a0, a1, a2, a3, a4] t (0, 0))) (v0 v1 v2 v3 v4 : Value) :
    (((((w.setCell ⟨g, 0, none⟩ v0).setCell ⟨g, 1, none⟩ v1).setCell ⟨g, 2, none⟩ v2).setCell ⟨g, 3, none⟩ v3).setCell ⟨g, 4, none⟩ v4).heap[g]? = some (.cells #[v0, v1, v2, v3, v4] t (0, 0)) := by
  have h0 := heap_setCell_same w g 0 _ _ v0 h
  have h1 := heap_setCell_same _ g 1 _ _ v1 h0
  have h2 := heap_setCell_same _ g 2 _ _ v2 h1
  have h3 := heap_setCell_same _ g 3 _ _ v3 h2
  have h4 := heap_setCell_same _ g 4 _ _ v4 h3
  rw [h4]
  rfl
theorem cell_set5 {w : World} {g b o : Nat} {v : Value} (h : w.cell? ⟨b, o, none⟩ = some v) (hne : b ≠ g) (v0 v1 v2 v3 v4 : Value) :
    (((((w.setCell ⟨g, 0, none⟩ v0).setCell ⟨g, 1, none⟩ v1).setCell ⟨g, 2, none⟩ v2).setCell ⟨g, 3, none⟩ v3).setCell ⟨g, 4, none⟩ v4).cell? ⟨b, o, none⟩ = some v := by
  have e : ∀ (W : World) (i : Nat) (x : Value), (W.setCell ⟨g, i, none⟩ x).cell? ⟨b, o, none⟩ = W.cell? ⟨b, o, none⟩ := fun W i x => World.cell?_setCell_other _ _ _ _ (by intro q; simp only [Addr.mk.injEq] at q; exact hne q.1.symm)
  rw [e, e, e, e, e]
  exact h
theorem below_set5 {B : Nat} {a w : World} (h : Below B a w) {g : Nat} (hg : B ≤ g) (v0 v1 v2 v3 v4 : Value) : Below B a (((((w.setCell ⟨g, 0, none⟩ v0).setCell ⟨g, 1, none⟩ v1).setCell ⟨g, 2, none⟩ v2).setCell ⟨g, 3, none⟩ v3).setCell ⟨g, 4, none⟩ v4) :=
  ((((h.setCell hg _).setCell hg _).setCell hg _).setCell hg _).setCell hg _
/-- two results: a whole variable, and a slot -/
theorem results_row_tmp {P : Program} {fn : Func} {p q : Tmp} {ty : TypeId} (h : fn.results = #[.cell p ty, .tmp q]) (tmps : Array Value) (w : World) (g : Nat) (t : TypeId) (cs : Array Value) (fr : Nat × Nat) (d : TypeDesc) (v : Value)
    (hp : tmps.getD p undef = .pointer (some ⟨g, 0, none⟩)) (hv : tmps.getD q undef = v) (hg : w.heap[g]? = some (.cells cs t fr))
    (hu : P.underlying ty = some d) (hd : (match d with | .struct _ | .array _ _ => true | _ => false) = true) (hi : (P.info? ty).map (·.size) = some cs.size) :
    (results fn tmps).run P w = .ok (.tuple #[.agg cs, v]) w := by
  have hp' : tmps[p]?.getD undef = .pointer (some ⟨g, 0, none⟩) := by simpa using hp
  have hv' : tmps[q]?.getD undef = v := by simpa using hv
  simp [results, h, hp', hv', asAddr, run_loadVar_row w g t ty cs fr d hg hu hd hi]
theorem post_row_tmp {P : Program} {fn : Func} {R : Ending → World → Prop} {a : Act} {w : World} {p q : Tmp} {ty : TypeId} (h : fn.results = #[.cell p ty, .tmp q]) (g : Nat) (t : TypeId) (cs : Array Value) (fr : Nat × Nat) (d : TypeDesc) (v : Value)
    (hu : P.underlying ty = some d) (hd : (match d with | .struct _ | .array _ _ => true | _ => false) = true) (hi : (P.info? ty).map (·.size) = some cs.size)
    (hp : a.tmps.getD p undef = .pointer (some ⟨g, 0, none⟩)) (hv : a.tmps.getD q undef = v) (hg : w.heap[g]? = some (.cells cs t fr)) (hdf : a.defers = []) (hR : R (.returned (.tuple #[.agg cs, v])) w) : bodyPost P fn R .ret a w :=
  bodyPost_ret (results_row_tmp h a.tmps w g t cs fr d v hp hv hg hu hd hi) hdf hR
abbrev zpg : Array Value := #[.int .u8 0, .int .u32 0, .int .u64 0, .int .i64 0, .slice none 0 0]
set_option maxRecDepth 100000 in
theorem info_pg : (Tryz.prog.info? 47).map (·.size) = some 5 := by kernel_rfl
set_option maxRecDepth 100000 in
theorem decode_long (a : Option Addr) (n c : Nat) (w : World) (hn : n ≠ 512) :
    Calls Tryz.prog 83 #[.slice a n c] w fun e w' => e = .returned (.tuple #[.agg #[.int .u8 0, .int .u32 0, .int .u64 0, .int .i64 0, .slice none 0 0], .iface 78 (.int .i64 2)]) ∧ Below w.heap.size w w' := by
  have hb : ((n : Int) != 512) = true := by rw [bne_iff_ne]; omega
  go_enter Tryz.func83, Tryz.ntmps83
  go_wp2
  refine bodyPost_ret (v := .tuple #[.agg #[.int .u8 0, .int .u32 0, .int .u64 0, .int .i64 0, .slice none 0 0], .iface 78 (.int .i64 2)]) (by simp [results, Tryz.results83, go_sem]) rfl ⟨rfl, ?_⟩
  exact (Below.refl _ _).alloc (Nat.le_refl _) _
set_option maxRecDepth 100000 in
theorem decode_sum (b off c : Nat) (xs : List Int) (w : World) (hn : xs.length = 512) (hx : Lies w (some ⟨b, off, none⟩) xs) (hc : 512 ≤ c) (hg : isGood xs = false) :
    Calls Tryz.prog 83 #[.slice (some ⟨b, off, none⟩) 512 c] w fun e w' => e = .returned (.tuple #[.agg #[.int .u8 0, .int .u32 0, .int .u64 0, .int .i64 0, .slice none 0 0], .iface 78 (.int .i64 7)]) ∧ Below w.heap.size w w' := by
  have HX := Lib.hid (hx.below (alX w (.cells #[.int .u8 0, .int .u32 0, .int .u64 0, .int .i64 0, .slice none 0 0] 47)))
  have HN := Lib.hid hn
  clear hx hn
  go_enter Tryz.func83, Tryz.ntmps83
  go_upto_region 4 with (go_at_call 108; refine (good_n _ _ _ _ _ HN.out (by omega) HX.out (by omega) hc).mono ?_; rintro e w1 ⟨rfl, hb⟩; have HB := Lib.hid hb; have HZ := Lib.hid ((hb.block w.heap.size (by simp)).trans (heap_alloc_new w _)); clear hb)
  obtain ⟨⟨c0, c1, c2, c3, c4⟩, f0, f1, f2, f3, f4⟩ := row_cells HZ.out
  go_wp2
  refine post_row_tmp Tryz.results83 w.heap.size 47 zpg (0, 0) _ (.iface 78 (.int .i64 7)) Tryz.underlying47 rfl info_pg ?_ ?_ (row_set5 HZ.out _ _ _ _ _) ?_ ?_
  · rfl
  · rfl
  · rfl
  exact ⟨rfl, below_set5 (((Below.refl _ _).alloc (Nat.le_refl _) _).trans (HB.out.mono (by simp))) (Nat.le_refl _) _ _ _ _ _⟩
/-- is what stands in a sector's bytes a page's? -/
def formOk (xs : List Int) (s n : Nat) : Bool := fitsB s n && !((cutb xs (16 + n * s) (508 - (16 + n * s))).any badN)
set_option maxRecDepth 100000 in
theorem quiet_taken {w : World} {b off c k : Nat} {xs : List Int} {v : Int} (i n : Nat) (hx : Lies w (some ⟨b, off, none⟩) xs) (hn : i + n ≤ xs.length) (h8 : n ≤ 8) (hv : num256 (cutb xs i n) = v) :
    Calls Tryz.prog 109 #[.slice (some ⟨b, off + i, none⟩) n c] (w.drewN k) fun e w'' => e = .returned (.int .u64 v) ∧ ∃ m, w'' = w.drewN m := by
  subst hv
  exact Calls.quiet_of_same ((taken_any _ n c (cutb xs i n) (w.drewN k) (cutb_len hn) h8 ((hx.cutb i n).drewN k)).mono fun _ _ ⟨h, e⟩ => ⟨h, e.symm⟩)
theorem fits_mul {s n : Nat} (h : fitsB s n = true) : 1 ≤ s ∧ s ≤ 492 ∧ n ≤ 255 ∧ n * s ≤ 492 := by
  rw [fits_iff] at h
  have h1 := room_size h.1
  have h2 := room_mul h1.1
  have h3 := room_bd s
  have h4 : (n : Int) * (s : Int) ≤ room s * s := Int.mul_le_mul_of_nonneg_right h.2 (by omega)
  have h5 : ((n * s : Nat) : Int) = (n : Int) * (s : Int) := Int.natCast_mul _ _
  omega
theorem Below.drewN' {B : Nat} {a w : World} (h : Below B a w) (n : Nat) : Below B a (w.drewN n) := ⟨h.os, h.tape, h.output, h.size, h.block⟩
set_option maxRecDepth 100000 in
theorem decode_form (b off c : Nat) (xs : List Int) (s n : Nat) (w : World) (hn : xs.length = 512) (hx : Lies w (some ⟨b, off, none⟩) xs) (hc : 512 ≤ c) (hg : isGood xs = true) (hs : num256 (cutb xs 13 2) = s) (hk : xs[15]? = some (n : Int)) (hf : formOk xs s n = false) :
    Calls Tryz.prog 83 #[.slice (some ⟨b, off, none⟩) 512 c] w fun e w' => e = .returned (.tuple #[.agg #[.int .u8 0, .int .u32 0, .int .u64 0, .int .i64 0, .slice none 0 0], .iface 78 (.int .i64 3)]) ∧ Below w.heap.size w w' := by
  have HX0 := Lib.hid hx
  have HX := Lib.hid (hx.below (alX w (.cells #[.int .u8 0, .int .u32 0, .int .u64 0, .int .i64 0, .slice none 0 0] 47)))
  have HN := Lib.hid hn
  have HG := Lib.hid hg
  have HS := Lib.hid hs
  have HF := Lib.hid hf
  have HK := Lib.hid hk
  clear hx hn hg hs hf hk
  go_enter Tryz.func83, Tryz.ntmps83
  go_wp2_with (go_at_call 108; refine (good_n _ _ _ _ _ HN.out (by omega) HX.out (by omega) hc).mono ?_; rintro e w1 ⟨rfl, hb⟩; have HB := Lib.hid hb; have HZ := Lib.hid ((hb.block w.heap.size (by simp)).trans (heap_alloc_new w _)); have hg := HG.out; clear hb)
  clear hg
  have HX1 := Lib.hid (HX0.out.below ((alX w _).trans (HB.out.mono (by simp))))
  have HBY := Lib.hid HX0.out.byte
  have hcell := lies_at HX1.out HK.out
  have hc15 : (15 : Int) ≤ (c : Int) := by omega
  have n256 : (n : Int) < 256 := by
    obtain ⟨h15, e15⟩ := List.getElem?_eq_some_iff.1 HK.out
    have := (HBY.out 15 h15).2
    omega
  have sb := num_cutb HBY.out 13 2 (by rw [HN.out]; omega)
  rw [HS.out] at sb
  have sb1 : (s : Int) < 65536 := sb.2
  clear sb
  go_quiet ((go_at_call 109; exact quiet_taken 13 2 HX1.out (by rw [HN.out]; omega) (by omega) HS.out))
  have HZ1 : Hid ((w1.drewN nq).heap[w.heap.size]? = some (.cells zpg 47 (0, 0))) := HZ
  have HB1 : Hid (Below w.heap.size w (w1.drewN nq)) := Lib.hid (Below.drewN' ((alX w _).trans (HB.out.mono (by simp))) nq)
  have HX2 : Hid (Lies (w1.drewN nq) (some ⟨b, off, none⟩) xs) := HX1
  generalize w1.drewN nq = w2 at HZ1 HB1 HX2 ⊢
  clear hcell HZ HX1 HB HX
  obtain ⟨⟨c0, c1, c2, c3, c4⟩, f0, f1, f2, f3, f4⟩ := row_cells HZ1.out
  have hf := HF.out
  unfold formOk at hf
  cases hfit : fitsB s n
  · clear hf
    go_wp2_with (go_at_call 93; refine (fits_any _ _ _ (by omega)).mono ?_; rintro e w' ⟨rfl, rfl⟩)
    refine post_row_tmp Tryz.results83 w.heap.size 47 zpg (0, 0) _ (.iface 78 (.int .i64 3)) Tryz.underlying47 rfl info_pg ?_ ?_ (row_set5 HZ1.out _ _ _ _ _) ?_ ?_
    · rfl
    · rfl
    · rfl
    exact ⟨rfl, below_set5 HB1.out (Nat.le_refl _) _ _ _ _ _⟩
  · rw [hfit, Bool.true_and, Bool.not_eq_false'] at hf
    have HF2 := Lib.hid hf
    obtain ⟨m1, m2, m3, m4⟩ := fits_mul hfit
    obtain ⟨P, hP⟩ : ∃ P, P = n * s := ⟨_, rfl⟩
    rw [← hP] at m4 HF2
    have hPI : (n : Int) * (s : Int) = (P : Int) := by rw [hP]; exact (Int.natCast_mul _ _).symm
    have i0 : (0 : Int) ≤ 16 + (P : Int) := by omega
    have i1 : (16 + (P : Int)).toNat = 16 + P := by omega
    have i2 : 16 + (P : Int) ≤ 508 := by omega
    have i3 : (508 : Int) ≤ (c : Int) := by omega
    have hl := cutb_len (xs := xs) (i := 16 + P) (m := 508 - (16 + P)) (by rw [HN.out]; omega)
    have HL := Lib.hid hl
    clear hP hl hf
    go_wp2_with (first | (go_at_call 93; refine (fits_any _ _ _ (by omega)).mono ?_; rintro e w' ⟨rfl, rfl⟩) | (go_at_call 110; refine (noughts_any _ _ _ _ _ HL.out (by omega) (HX2.out.cutb _ _)).mono ?_; rintro e w' ⟨rfl, rfl⟩; have hq := HF2.out))
    refine post_row_tmp Tryz.results83 w.heap.size 47 zpg (0, 0) _ (.iface 78 (.int .i64 3)) Tryz.underlying47 rfl info_pg ?_ ?_ (row_set5 HZ1.out _ _ _ _ _) ?_ ?_
    · rfl
    · rfl
    · rfl
    exact ⟨rfl, below_set5 HB1.out (Nat.le_refl _) _ _ _ _ _⟩
theorem below_of_drew {B : Nat} {w0 w w' : World} (h : Below B w0 w) (hB : B ≤ w.drew.heap.size) (h' : Below w.drew.heap.size w.drew w') : Below B w0 w' := h.drew.trans (h'.mono hB)
/-- records stay where a page's variable is written -/
theorem heap_set5 (w : World) (g k : Nat) (v0 v1 v2 v3 v4 : Value) (hk : k ≠ g) : (((((w.setCell ⟨g, 0, none⟩ v0).setCell ⟨g, 1, none⟩ v1).setCell ⟨g, 2, none⟩ v2).setCell ⟨g, 3, none⟩ v3).setCell ⟨g, 4, none⟩ v4).heap[k]? = w.heap[k]? := by
  rw [heap_setCell_other _ _ k _ hk, heap_setCell_other _ _ k _ hk, heap_setCell_other _ _ k _ hk, heap_setCell_other _ _ k _ hk, heap_setCell_other _ _ k _ hk]
/-- the page of a sector's bytes -/
def pgOf (xs : List Int) (s n : Nat) : Pg := .mkPg (xs.getD 0 0) (num256 (cutb xs 1 4)) (num256 (cutb xs 5 8)) s (prts (xs.drop 16) s n)
/-- a page as a call hands it back -/
def Read (w : World) (p : Pg) (n : Nat) (e : Ending) (w' : World) : Prop :=
  ∃ ra cap, e = .returned (.tuple #[.agg #[.int .u8 p.kind, .int .u32 p.number, .int .u64 p.epoch, .int .i64 p.size, .slice ra n cap], .nilIface]) ∧ OwnRecs w.heap.size w' (.slice ra n cap) n p.recs ∧ Below w.heap.size w w'
set_option maxRecDepth 100000 in
theorem taken_at {w : World} {b off c : Nat} {xs : List Int} {i n : Nat} (hx : Lies w (some ⟨b, off, none⟩) xs) (hn : i + n ≤ xs.length) (h8 : n ≤ 8) :
    Calls Tryz.prog 109 #[.slice (some ⟨b, off + i, none⟩) n c] w fun e w' => e = .returned (.int .u64 (num256 (cutb xs i n))) ∧ w = w' :=
  taken_any _ n c (cutb xs i n) w (cutb_len hn) h8 (hx.cutb i n)
set_option maxRecDepth 100000 in
set_option maxHeartbeats 1000000 in
theorem decode_ok (b off c : Nat) (xs : List Int) (s n : Nat) (w : World) (hn : xs.length = 512) (hx : Lies w (some ⟨b, off, none⟩) xs) (hc : 512 ≤ c) (hg : isGood xs = true) (hs : num256 (cutb xs 13 2) = s) (hk : xs[15]? = some (n : Int)) (hf : formOk xs s n = true) :
    Calls Tryz.prog 83 #[.slice (some ⟨b, off, none⟩) 512 c] w (Read w (pgOf xs s n) n) := by
  have HX0 := Lib.hid hx
  have HX := Lib.hid (hx.below (alX w (.cells #[.int .u8 0, .int .u32 0, .int .u64 0, .int .i64 0, .slice none 0 0] 47)))
  have HN := Lib.hid hn
  have HG := Lib.hid hg
  have HS := Lib.hid hs
  have HF := Lib.hid hf
  have HK := Lib.hid hk
  clear hx hn hg hs hf hk
  go_enter Tryz.func83, Tryz.ntmps83
  go_wp2_with (go_at_call 108; refine (good_n _ _ _ _ _ HN.out (by omega) HX.out (by omega) hc).mono ?_; rintro e w1 ⟨rfl, hb⟩; have HB := Lib.hid hb; have HZ := Lib.hid ((hb.block w.heap.size (by simp)).trans (heap_alloc_new w _)); have hg := HG.out; clear hb)
  clear hg
  have HX1 := Lib.hid (HX0.out.below ((alX w _).trans (HB.out.mono (by simp))))
  have HBY := Lib.hid HX0.out.byte
  have hcell := lies_at HX1.out HK.out
  have hc15 : (15 : Int) ≤ (c : Int) := by omega
  have n256 : (n : Int) < 256 := by
    obtain ⟨h15, e15⟩ := List.getElem?_eq_some_iff.1 HK.out
    have := (HBY.out 15 h15).2
    omega
  have sb := num_cutb HBY.out 13 2 (by rw [HN.out]; omega)
  rw [HS.out] at sb
  have sb1 : (s : Int) < 65536 := sb.2
  clear sb
  go_quiet ((go_at_call 109; exact quiet_taken 13 2 HX1.out (by rw [HN.out]; omega) (by omega) HS.out))
  have HZ1 : Hid ((w1.drewN nq).heap[w.heap.size]? = some (.cells zpg 47 (0, 0))) := HZ
  have HB1 : Hid (Below w.heap.size w (w1.drewN nq)) := Lib.hid (Below.drewN' ((alX w _).trans (HB.out.mono (by simp))) nq)
  have HX2 : Hid (Lies (w1.drewN nq) (some ⟨b, off, none⟩) xs) := HX1
  generalize w1.drewN nq = w2 at HZ1 HB1 HX2 ⊢
  clear hcell HZ HX1 HB HX
  have hf := HF.out
  unfold formOk at hf
  rw [Bool.and_eq_true, Bool.not_eq_true'] at hf
  have hfit := hf.1
  have HF2 := Lib.hid hf.2
  obtain ⟨m1, m2, m3, m4⟩ := fits_mul hfit
  obtain ⟨P, hP⟩ : ∃ P, P = n * s := ⟨_, rfl⟩
  rw [← hP] at m4 HF2
  have HP := Lib.hid hP
  have hPI : (n : Int) * (s : Int) = (P : Int) := by rw [hP]; exact (Int.natCast_mul _ _).symm
  have i0 : (0 : Int) ≤ 16 + (P : Int) := by omega
  have i1 : (16 + (P : Int)).toNat = 16 + P := by omega
  have i2 : 16 + (P : Int) ≤ 508 := by omega
  have i3 : (508 : Int) ≤ (c : Int) := by omega
  have hl := cutb_len (xs := xs) (i := 16 + P) (m := 508 - (16 + P)) (by rw [HN.out]; omega)
  have HL := Lib.hid hl
  clear hP hl hf
  go_upto_region 8 with (first | (go_at_call 93; refine (fits_any _ _ _ (by omega)).mono ?_; rintro e w' ⟨rfl, rfl⟩) | (go_at_call 110; refine (noughts_any _ _ _ _ _ HL.out (by omega) (HX2.out.cutb _ _)).mono ?_; rintro e w' ⟨rfl, rfl⟩; have hq := HF2.out))
  have hms : n * s ≤ 496 := by have := HP.out; omega
  clear hfit i0 i1 i2 hPI m4 m3
  obtain ⟨k0, k0b⟩ : (∃ x, xs[0]? = some x) ∧ True := ⟨⟨_, List.getElem?_eq_getElem (by rw [HN.out]; omega)⟩, trivial⟩
  obtain ⟨x0, hx0⟩ := k0
  have HX0' := Lib.hid hx0
  have K0 := Lib.hid (show w2.cell? ⟨b, off, none⟩ = some (.int .u8 x0) from lies_at HX2.out hx0)
  have nb := num_cutb HBY.out 1 4 (by rw [HN.out]; omega)
  have nb0 := nb.1
  have nb1 : num256 (cutb xs 1 4) < 4294967296 := nb.2
  have HYS := Lib.hid (show Lies w2 (some ⟨b, off + 16, none⟩) (xs.drop 16) from HX2.out.drop 16)
  have HYL := Lib.hid (show (xs.drop 16).length = 496 by rw [List.length_drop, HN.out])
  have hlt : w.heap.size < w2.heap.size := lt_of_block HZ1.out
  have hbl := World.block_lt_of_cell? w2 _ K0.out
  have hbl' : b < w2.heap.size := hbl
  have HMS := Lib.hid hms
  clear nb hx0 hbl hms k0b
  have hc16 : (16 : Int) ≤ (c : Int) := by omega
  have hc13 : (13 : Int) ≤ (c : Int) := by omega
  have hc5 : (5 : Int) ≤ (c : Int) := by omega
  have hwu : IntKind.u32.wrap (num256 (cutb xs 1 4)) = num256 (cutb xs 1 4) := by rw [IntKind.wrap_u32']; omega
  have HNE := Lib.hid (show b ≠ w.heap.size from Nat.ne_of_lt (World.block_lt_of_cell? w _ (lies_at HX0.out HX0'.out)))
  have hn1 : ¬ c = 1 := by omega
  have hn5 : ¬ c = 5 := by omega
  have hn16 : ¬ c = 16 := by omega
  have KD : Hid (w2.drew.cell? ⟨b, off, none⟩ = some (.int .u8 x0)) := K0
  have HXD : Hid (Lies w2.drew (some ⟨b, off, none⟩) xs) := HX2
  have HYD : Hid (Lies w2.drew (some ⟨b, off + 16, none⟩) (xs.drop 16)) := HYS
  have HZD : Hid (w2.drew.heap[w.heap.size]? = some (.cells zpg 47 (0, 0))) := HZ1
  have hltD : Hid (w.heap.size < w2.drew.heap.size) := Lib.hid hlt
  have hblD : Hid (b < w2.drew.heap.size) := Lib.hid hbl'
  clear hlt hbl'
  go_region_held3 (fun w' => w'.cell? ⟨b, off, none⟩ = some (.int .u8 x0)) (first | with_reducible exact KD.out | with_reducible exact k3 | exact cell_set5 k3 HNE.out _ _ _ _ _) (first | (go_at_call 109; refine (taken_at (b := b) (off := off) (xs := xs) (by first | with_reducible exact HXD.out | with_reducible exact HX3.out) (by rw [HN.out]; omega) (by omega)).mono ?_; rintro e w' ⟨rfl, rfl⟩) | (go_at_call 111; refine (parted_any _ _ 496 _ s n (xs.drop 16) _ HYL.out HMS.out (by omega) (by omega) m1 (by omega) (by omega) (by with_reducible exact HYD.out)).mono ?_; rintro e w3 ⟨ra, cap, rfl, hr3, hb3⟩; have HR3 := Lib.hid hr3; have HX3 := Lib.hid (HXD.out.below hb3); have k3 := ((hb3.cell (p := ⟨b, off, none⟩) hblD.out).trans KD.out); have HZ3 := Lib.hid ((hb3.block w.heap.size hltD.out).trans HZD.out); obtain ⟨⟨d0, d1, d2, d3, d4⟩, g0, g1, g2, g3, g4⟩ := row_cells HZ3.out; clear hr3))
  go_wp2
  refine post_row_tmp Tryz.results83 w.heap.size 47 #[.int .u8 x0, .int .u32 (num256 (cutb xs 1 4)), .int .u64 (num256 (cutb xs 5 8)), .int .i64 s, .slice ra n cap] (0, 0) _ .nilIface Tryz.underlying47 rfl info_pg ?_ ?_ (row_set5 HZ3.out _ _ _ _ _) ?_ ?_
  · rfl
  · rfl
  · rfl
  have hb5 := below_set5 (below_of_drew HB1.out (Nat.le_of_lt hltD.out) hb3) (Nat.le_refl _) (.int .u8 x0) (.int .u32 (num256 (cutb xs 1 4))) (.int .u64 (num256 (cutb xs 5 8))) (.int .i64 s) (.slice ra n cap)
  have e0 : (pgOf xs s n).kind = x0 := by show xs.getD 0 0 = x0; rw [List.getD_eq_getElem?_getD, HX0'.out]; rfl
  refine ⟨ra, cap, ?_, ?_, hb5⟩
  · rw [e0]
    rfl
  · exact (HR3.out.mono (Nat.le_of_lt hltD.out)).other HZ3.out (by decide) (by decide) fun k hk => heap_set5 _ _ k _ _ _ _ _ hk
end Go.Proofs.YtlfkkakohldgnaaGreatDoor.Sm

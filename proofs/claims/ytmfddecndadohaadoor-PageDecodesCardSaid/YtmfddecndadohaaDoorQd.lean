/-
  THE WALK of the document's own Decode, where the bytes are none's. Conditions: the bytes lie in memory.
-/
import Derived.Test.YtmfddecndadohaaDoorQc
import Derived.Test.YtmfddecndadohaaDoorBackW
import Derived.Test.YtmfddecndadohaaDoorTill
namespace Go.Proofs.YtmfddecndadohaaDoor
open Go.RowKit Crc

set_option maxRecDepth 100000 in
theorem info_rp : (Tryd.prog.info? 26).map (·.size) = some 5 := by kernel_rfl
/-- no page, and an error's number -/
abbrev noPage (k : Int) : Value := .tuple #[.agg #[.int .u8 0, .int .u32 0, .int .u64 0, .int .i64 0, .slice none 0 0], .int .i64 k]
set_option maxRecDepth 100000 in
theorem refdec_long (a : Option Addr) (n c : Nat) (w : World) (hn : n ≠ 512) :
    Calls Tryd.prog 20 #[.slice a n c] w fun e w' => e = .returned (noPage 2) ∧ Below w.heap.size w w' := by
  have hb : ((n : Int) != 512) = true := by rw [bne_iff_ne]; omega
  go_enter Tryd.func20, Tryd.ntmps20
  go_wp2
  refine bodyPost_ret (v := noPage 2) (by simp [results, Tryd.results20, go_sem]) rfl ⟨rfl, ?_⟩
  exact (Below.refl _ _).alloc (Nat.le_refl _) _
set_option maxRecDepth 100000 in
theorem refdec_sum (b off c : Nat) (xs : List Int) (w : World) (hn : xs.length = 512) (hx : Lies w (some ⟨b, off, none⟩) xs) (hc : 512 ≤ c) (hg : isGood xs = false) :
    Calls Tryd.prog 20 #[.slice (some ⟨b, off, none⟩) 512 c] w fun e w' => e = .returned (noPage 7) ∧ Below w.heap.size w w' := by
  have HX := Lib.hid (hx.below (alX w (.cells zpg 26)))
  have HN := Lib.hid hn
  have HL := Lib.hid (show (mkd xs).length = 512 by rw [mkd_len (by omega), hn])
  have hne := good_str hx.byte (by omega)
  rw [hg] at hne
  clear hx hn hg
  go_enter Tryd.func20, Tryd.ntmps20
  go_upto_region 5 with (go_at_call 28; refine (refmark_any b off c 512 xs _ HN.out (by omega) HX.out (by omega) hc).mono ?_; rintro e w1 ⟨ao, cap, rfl, hl1, hb1⟩; have HB := Lib.hid hb1; have HZ := Lib.hid ((hb1.block w.heap.size (by simp)).trans (heap_alloc_new w _)); have cm := conv_any (c := cap) hl1 HL.out; have cx := conv_any (c := c) (HX.out.below hb1) HN.out; clear hb1 hl1)
  obtain ⟨⟨c0, c1, c2, c3, c4⟩, f0, f1, f2, f3, f4⟩ := row_cells HZ.out
  go_wp2
  refine post_row_tmp Tryd.results20 w.heap.size 26 zpg (0, 0) _ (.int .i64 7) Tryd.underlying26 rfl info_rp ?_ ?_ (row_set5 HZ.out _ _ _ _ _) ?_ ?_
  · rfl
  · rfl
  · rfl
  exact ⟨rfl, below_set5 (((Below.refl _ _).alloc (Nat.le_refl _) _).trans (HB.out.mono (by simp))) (Nat.le_refl _) _ _ _ _ _⟩
set_option maxRecDepth 100000 in
theorem number_at {w : World} {b off c : Nat} {xs : List Int} {i n : Nat} (hx : Lies w (some ⟨b, off, none⟩) xs) (hn : i + n ≤ xs.length) (h8 : n ≤ 8) :
    Calls Tryd.prog 33 #[.slice (some ⟨b, off + i, none⟩) n c] w fun e w' => e = .returned (.int .u64 (num256 (cutb xs i n))) ∧ w = w' :=
  number_any _ n c (cutb xs i n) w (cutb_len hn) h8 (hx.cutb i n)
/-- the parts of b as slices of it -/
def sl (b off s c k : Nat) : List Value := (List.range k).map fun i => Value.slice (some ⟨b, off + (16 + i * s), none⟩) s (c - (16 + i * s))
theorem sl_len (b off s c k : Nat) : (sl b off s c k).length = k := by simp [sl]
theorem sl_next (b off s c k : Nat) : sl b off s c (k + 1) = sl b off s c k ++ [.slice (some ⟨b, off + (16 + k * s), none⟩) s (c - (16 + k * s))] := by simp [sl, List.range_succ]
/-- what the document's Decode has put together so far -/
structure RD (w wr : World) (X : Nat) (x0 n1 n2 : Int) (b off s c : Nat) (k : Nat) (v : Value) : Prop where
  row : wr.heap[X]? = some (.cells #[.int .u8 x0, .int .u32 n1, .int .u64 n2, .int .i64 s, v] 26 (0, 0))
  own : wr.ownsRow w.heap.size 30 1 v k (sl b off s c k)
  res : wr.heap[w.heap.size]? = some (.cells zpg 26 (0, 0))
  bel : Below w.heap.size w wr
  ne : X ≠ w.heap.size
theorem RD.drewN {w wr : World} {X : Nat} {x0 n1 n2 : Int} {b off s c k : Nat} {v : Value} (h : RD w wr X x0 n1 n2 b off s c k v) (m : Nat) : RD w (wr.drewN m) X x0 n1 n2 b off s c k v := ⟨h.row, h.own, h.res, Below.drewN' h.bel m, h.ne⟩
theorem recs_sl {W : World} {B b off s c n : Nat} {v : Value} {xs : List Int} (own : W.ownsRow B 30 1 v n (sl b off s c n)) (hl : Lies W (some ⟨b, off, none⟩) xs) (hn : xs.length = 512) (hs : n = 0 ∨ 16 + n * s ≤ 512) (hc : 512 ≤ c) (hm : c ≤ 9223372036854775807) :
    ∃ va vc, v = .slice va n vc ∧ Recs W va (prts (xs.drop 16) s n) := by
  rcases own.2 with ⟨rfl, rfl⟩ | ⟨g, cap, cur, rfl, _, hg, hk, _, hsz, ht⟩
  · exact ⟨none, 0, rfl, fun i hi => absurd hi (by simp [prts])⟩
  · refine ⟨_, cap, rfl, ?_⟩
    intro i hi
    have hin : i < n := by simpa [prts] using hi
    have h1 : (i + 1) * s ≤ n * s := Nat.mul_le_mul_right s (by omega)
    rw [Nat.succ_mul] at h1
    have hpl : (prt (xs.drop 16) s i).length = s := by unfold prt; rw [List.length_take, List.length_drop, List.length_drop, hn]; omega
    have e : (prts (xs.drop 16) s n)[i] = prt (xs.drop 16) s i := prts_get _ _ _ _ hi
    rw [e, hpl]
    have hcell : W.cell? ⟨g, i, none⟩ = some (.slice (some ⟨b, off + (16 + i * s), none⟩) s (c - (16 + i * s))) := by
      rw [cell_of_row W g i _ _ _ hg]
      have e2 : (sl b off s c n)[i]? = some (.slice (some ⟨b, off + (16 + i * s), none⟩) s (c - (16 + i * s))) := by simp [sl, hin]
      rw [← ht, List.getElem?_take, if_pos (by omega)] at e2
      simpa using e2
    refine ⟨g, 0, _, _, rfl, by rw [Nat.zero_add]; exact hcell, ?_, by omega, by omega⟩
    have h2 := ((hl.drop 16).drop (i * s)).take s
    rw [Nat.add_assoc] at h2
    exact h2
theorem fits_may {xs : List Int} {s n : Nat} (hl : xs.length = 512) (hf : fitsB s n = true) : (pgOf xs s n).may = true := by
  obtain ⟨m1, m2, m3, m4⟩ := fits_mul hf
  unfold Pg.may pgOf
  simp only [prts_len]
  rw [hf, Bool.true_and, Bool.not_eq_true', List.any_eq_false]
  intro r hr
  simp only [prts, List.mem_map, List.mem_range] at hr
  obtain ⟨i, hi, rfl⟩ := hr
  have h1 : (i + 1) * s ≤ n * s := Nat.mul_le_mul_right s (by omega)
  rw [Nat.succ_mul] at h1
  have e : (prt (xs.drop 16) s i).length = s := by unfold prt; rw [List.length_take, List.length_drop, List.length_drop]; omega
  simp [badB, e]
theorem fits_not {xs : List Int} {s n : Nat} (hf : fitsB s n = false) : (pgOf xs s n).may = false := by
  unfold Pg.may pgOf
  simp only [prts_len]
  rw [hf]
  rfl
theorem form_bytes {xs : List Int} {s n : Nat} (hl : xs.length = 512) (hf : fitsB s n = true) (hfo : formOk xs s n = false) : (pgOf xs s n).bytes ≠ xs := by
  intro e
  have h := bytes_form (pgOf xs s n) s (fits_may hl hf) rfl
  rw [e] at h
  have e2 : (pgOf xs s n).recs.length = n := prts_len _ _ _
  rw [e2, hfo] at h
  cases h
/-- what the document's Decode hands back -/
def RefRead (w : World) (xs : List Int) (s n : Nat) (e : Ending) (w' : World) : Prop :=
  (formOk xs s n = false → e = .returned (noPage 3)) ∧ (formOk xs s n = true → ∃ va vc, e = .returned (.tuple #[.agg #[.int .u8 (pgOf xs s n).kind, .int .u32 (pgOf xs s n).number, .int .u64 (pgOf xs s n).epoch, .int .i64 s, .slice va n vc], .int .i64 0]) ∧ Recs w' va (pgOf xs s n).recs) ∧ Below w.heap.size w w'
theorem fin_recs {w W : World} {b off s c n : Nat} {va : Option Addr} {vc : Nat} {xs : List Int} (own : W.ownsRow w.heap.size 30 1 (.slice va n vc) n (sl b off s c n)) (HE : W.heap[w.heap.size]? = some (.cells zpg 26 (0, 0))) (HB : Below w.heap.size w W) (hx : Lies w (some ⟨b, off, none⟩) xs) (hn : xs.length = 512) (hms : 16 + n * s ≤ 512) (hc : 512 ≤ c) (hcm : c ≤ 9223372036854775807) (v0 v1 v2 v3 v4 : Value) :
    Recs (((((W.setCell ⟨w.heap.size, 0, none⟩ v0).setCell ⟨w.heap.size, 1, none⟩ v1).setCell ⟨w.heap.size, 2, none⟩ v2).setCell ⟨w.heap.size, 3, none⟩ v3).setCell ⟨w.heap.size, 4, none⟩ v4) va (prts (xs.drop 16) s n) := by
  obtain ⟨va', vc', hv, hr⟩ := recs_sl (own_other own HE (by decide) (fun k hk => heap_set5 W w.heap.size k v0 v1 v2 v3 v4 hk)) (hx.below (below_set5 HB (Nat.le_refl _) v0 v1 v2 v3 v4)) hn (.inr hms) hc hcm
  obtain ⟨rfl, rfl⟩ : va = va' ∧ vc = vc' := by simpa using hv
  exact hr
set_option maxRecDepth 100000 in
theorem may_is (B : Bool) (ki nu ep si : Int) (a : Option Addr) (n c : Nat) (rs : List (List Int)) (w : World) (hB : (Pg.mkPg ki nu ep si rs).may = B) (hn : rs.length = n) (hm : n ≤ 9223372036854775807) (hs : si ≤ 9223372036854775807) (hr : Recs w a rs) :
    Calls Tryd.prog 15 #[.agg #[.int .u8 ki, .int .u32 nu, .int .u64 ep, .int .i64 si, .slice a n c]] w fun e w' => e = .returned (.bool B) ∧ Below w.heap.size w w' := by
  subst hB
  exact may_any ki nu ep si a n c rs w hn hm hs hr
theorem ref_err {w W : World} {act : Act} {xs : List Int} {s n : Nat} (HE : W.heap[w.heap.size]? = some (.cells zpg 26 (0, 0))) (HB : Below w.heap.size w W) (hff : formOk xs s n = false) (h2 : act.tmps.getD 2 undef = .pointer (some ⟨w.heap.size, 0, none⟩)) (h3 : act.tmps.getD 3 undef = .int .i64 3) (hd : act.defers = []) :
    bodyPost Tryd.prog Tryd.f20 (RefRead w xs s n) .ret act (((((W.setCell ⟨w.heap.size, 0, none⟩ (.int .u8 0)).setCell ⟨w.heap.size, 1, none⟩ (.int .u32 0)).setCell ⟨w.heap.size, 2, none⟩ (.int .u64 0)).setCell ⟨w.heap.size, 3, none⟩ (.int .i64 0)).setCell ⟨w.heap.size, 4, none⟩ (.slice none 0 0)) :=
  post_row_tmp Tryd.results20 w.heap.size 26 zpg (0, 0) _ (.int .i64 3) Tryd.underlying26 rfl info_rp h2 h3 (row_set5 HE _ _ _ _ _) hd ⟨fun _ => rfl, (fun h => by rw [hff] at h; cases h), below_set5 HB (Nat.le_refl _) _ _ _ _ _⟩
theorem ref_ok {w W : World} {act : Act} {xs : List Int} {s n : Nat} {x0 N1 N2 : Int} {va : Option Addr} {vc : Nat} (HE : W.heap[w.heap.size]? = some (.cells zpg 26 (0, 0))) (HB : Below w.heap.size w W) (hff : formOk xs s n = true) (hpg : pgOf xs s n = .mkPg x0 N1 N2 s (prts (xs.drop 16) s n)) (hr : Recs (((((W.setCell ⟨w.heap.size, 0, none⟩ (.int .u8 x0)).setCell ⟨w.heap.size, 1, none⟩ (.int .u32 N1)).setCell ⟨w.heap.size, 2, none⟩ (.int .u64 N2)).setCell ⟨w.heap.size, 3, none⟩ (.int .i64 s)).setCell ⟨w.heap.size, 4, none⟩ (.slice va n vc)) va (prts (xs.drop 16) s n)) (h2 : act.tmps.getD 2 undef = .pointer (some ⟨w.heap.size, 0, none⟩)) (h3 : act.tmps.getD 3 undef = .int .i64 0) (hd : act.defers = []) :
    bodyPost Tryd.prog Tryd.f20 (RefRead w xs s n) .ret act (((((W.setCell ⟨w.heap.size, 0, none⟩ (.int .u8 x0)).setCell ⟨w.heap.size, 1, none⟩ (.int .u32 N1)).setCell ⟨w.heap.size, 2, none⟩ (.int .u64 N2)).setCell ⟨w.heap.size, 3, none⟩ (.int .i64 s)).setCell ⟨w.heap.size, 4, none⟩ (.slice va n vc)) :=
  post_row_tmp Tryd.results20 w.heap.size 26 #[.int .u8 x0, .int .u32 N1, .int .u64 N2, .int .i64 s, .slice va n vc] (0, 0) _ (.int .i64 0) Tryd.underlying26 rfl info_rp h2 h3 (row_set5 HE _ _ _ _ _) hd
    ⟨(fun h => by rw [hff] at h; cases h), (fun _ => ⟨va, vc, by rw [hpg], by rw [hpg]; exact hr⟩), below_set5 HB (Nat.le_refl _) _ _ _ _ _⟩
theorem own_ne {w : World} {B : Nat} {e : TypeId} {s : Nat} {v : Value} {n : Nat} {xs : List Value} (h : w.ownsRow B e s v n xs) {X : Nat} {cs : Array Value} {t : TypeId} {fr : Nat × Nat} (hg : w.heap[X]? = some (.cells cs t fr)) (hne : e ≠ t) : some X ≠ v.ownBlock := by
  intro hq
  rcases h.2 with ⟨rfl, _⟩ | ⟨g', cap', cur', rfl, _, c', _⟩
  · cases hq
  · have e1 : X = g' := Option.some.inj hq
    subst e1
    rw [hg] at c'
    have := Option.some.inj c'
    injection this with _ h2 _
    exact hne h2.symm
theorem rd_mid {w wr w2 : World} {X : Nat} {x0 n1 n2 : Int} {b off s c k : Nat} {v nv : Value} (h : RD w wr X x0 n1 n2 b off s c k v) (hg : (wr.alloc (.cells #[nv] 30)).drew.grownBy w2 v.ownBlock) :
    w2.heap[X]? = some (.cells #[.int .u8 x0, .int .u32 n1, .int .u64 n2, .int .i64 s, v] 26 (0, 0)) ∧ w2.heap[w.heap.size]? = some (.cells zpg 26 (0, 0)) ∧ Below w.heap.size w w2 := by
  have hb := (alX wr (.cells #[nv] 30)).drew
  have hs : wr.heap.size < (wr.alloc (.cells #[nv] 30)).drew.heap.size := by show wr.heap.size < (wr.alloc (.cells #[nv] 30)).heap.size; rw [World.size_alloc]; omega
  refine ⟨?_, ?_, ?_⟩
  · rw [hg.block X (Nat.lt_trans (lt_of_block h.row) hs) (own_ne h.own h.row (by decide)), hb.block X (lt_of_block h.row)]
    exact h.row
  · rw [hg.block _ (Nat.lt_trans (lt_of_block h.res) hs) (own_ne h.own h.res (by decide)), hb.block _ (lt_of_block h.res)]
    exact h.res
  · exact (h.bel.trans (hb.mono h.bel.size)).grown hg (Nat.le_trans h.bel.size (Nat.le_of_lt hs)) (fun q hq => (h.own.lt q hq).1)
theorem rd_next {w wr w2 : World} {X : Nat} {x0 n1 n2 : Int} {b off s c k : Nat} {v nv v2 : Value} (h : RD w wr X x0 n1 n2 b off s c k v) (hg : (wr.alloc (.cells #[nv] 30)).drew.grownBy w2 v.ownBlock) (ho : w2.ownsRow w.heap.size 30 1 v2 (k + 1) (sl b off s c (k + 1))) (hX : w.heap.size ≤ X) :
    RD w (w2.setCell ⟨X, 4, none⟩ v2) X x0 n1 n2 b off s c (k + 1) v2 := by
  obtain ⟨h1, h2, h3⟩ := rd_mid h hg
  refine ⟨heap_setCell_same w2 X 4 _ _ v2 h1, own_other ho h1 (by decide) (fun q hq => heap_setCell_other w2 _ q v2 hq), ?_, h3.setCell hX v2, h.ne⟩
  rw [heap_setCell_other w2 _ _ v2 (Ne.symm h.ne)]
  exact h2
set_option maxRecDepth 100000 in
theorem quiet_refroom (s : Int) (w : World) (k : Nat) (hs : s ≤ 9223372036854775807) :
    Calls Tryd.prog 13 #[.int .i64 s] (w.drewN k) fun e w'' => e = .returned (.int .i64 (room s)) ∧ ∃ m, w'' = w.drewN m := quiet_room s w k hs
set_option maxRecDepth 100000 in
set_option maxHeartbeats 2000000 in
theorem refdec_good (b off c : Nat) (xs : List Int) (s n : Nat) (w : World) (hn : xs.length = 512) (hx : Lies w (some ⟨b, off, none⟩) xs) (hc : 512 ≤ c) (hcm : c ≤ 9223372036854775807) (hg : isGood xs = true) (hs : num256 (cutb xs 13 2) = s) (hk : xs[15]? = some (n : Int)) :
    Calls Tryd.prog 20 #[.slice (some ⟨b, off, none⟩) 512 c] w (RefRead w xs s n) := by
  have HX0 := Lib.hid hx
  have HX := Lib.hid (hx.below (alX w (.cells zpg 26)))
  have HN := Lib.hid hn
  have HL := Lib.hid (show (mkd xs).length = 512 by rw [mkd_len (by omega), hn])
  have hne := good_str hx.byte (by omega)
  rw [hg] at hne
  have HG := Lib.hid hg
  have HS := Lib.hid hs
  have HK := Lib.hid hk
  have HBY := Lib.hid hx.byte
  clear hx hn hg hs hk
  go_enter Tryd.func20, Tryd.ntmps20
  go_upto_region 6 with (go_at_call 28; refine (refmark_any b off c 512 xs _ HN.out (by omega) HX.out (by omega) hc).mono ?_; rintro e w1 ⟨ao, cap, rfl, hl1, hb1⟩; have HB := Lib.hid hb1; have HZ := Lib.hid ((hb1.block w.heap.size (by simp)).trans (heap_alloc_new w _)); have cm := conv_any (c := cap) hl1 HL.out; have cx := conv_any (c := c) (HX.out.below hb1) HN.out; clear hb1 hl1)
  clear cm cx
  obtain ⟨x0, hx0⟩ : ∃ x, xs[0]? = some x := ⟨_, List.getElem?_eq_getElem (by rw [HN.out]; omega)⟩
  have HX0' := Lib.hid hx0
  have HX1 := Lib.hid (HX0.out.below ((alX w _).trans (HB.out.mono (by simp))))
  have HLT := Lib.hid (lt_of_block HZ.out)
  have KD := Lib.hid (show w1.drew.cell? ⟨b, off, none⟩ = some (.int .u8 x0) from lies_at HX1.out hx0)
  have KA := Lib.hid (show (w1.alloc (.cells zpg 26)).drew.cell? ⟨b, off, none⟩ = some (.int .u8 x0) from lies_at (HX1.out.below (alX _ _)) hx0)
  have HXD := Lib.hid (show Lies w1.drew (some ⟨b, off, none⟩) xs from HX1.out)
  have HXA := Lib.hid (show Lies (w1.alloc (.cells zpg 26)).drew (some ⟨b, off, none⟩) xs from HX1.out.below (alX _ _).drew)
  have nb := num_cutb HBY.out 1 4 (by rw [HN.out]; omega)
  have nb0 := nb.1
  have nb1 : num256 (cutb xs 1 4) < 4294967296 := nb.2
  have sb := num_cutb HBY.out 13 2 (by rw [HN.out]; omega)
  have hS := HS.out
  rw [hS] at sb
  have sb1 : (s : Int) < 65536 := sb.2
  have hwu : IntKind.u32.wrap (num256 (cutb xs 1 4)) = num256 (cutb xs 1 4) := by rw [IntKind.wrap_u32']; omega
  have hc5 : (5 : Int) ≤ (c : Int) := by omega
  have hc13 : (13 : Int) ≤ (c : Int) := by omega
  have hc15 : (15 : Int) ≤ (c : Int) := by omega
  have hn1 : ¬ c = 1 := by omega
  have hn5 : ¬ c = 5 := by omega
  have hn13 : ¬ c = 13 := by omega
  have hwi : IntKind.i64.wrap (s : Int) = s := IntWalk.i64_in _ (by omega)
  have KF := Lib.hid (show (w1.alloc (.cells #[.int .u8 x0, .int .u32 (num256 (cutb xs 1 4)), .int .u64 (num256 (cutb xs 5 8)), .int .i64 s, .slice none 0 0] 26)).drew.cell? ⟨b, off, none⟩ = some (.int .u8 x0) from lies_at (HX1.out.below (alX _ _).drew) hx0)
  clear nb sb hx0 hne
  go_cut [6] (fun t wx => t = .pointer (some ⟨w1.heap.size, 0, none⟩) ∧ Hid (wx = (w1.alloc (.cells #[.int .u8 x0, .int .u32 (num256 (cutb xs 1 4)), .int .u64 (num256 (cutb xs 5 8)), .int .i64 s, .slice none 0 0] 26)).drew))
  case first =>
    go_region_held (fun W => W.cell? ⟨b, off, none⟩ = some (.int .u8 x0)) (first | with_reducible exact KD.out | with_reducible exact KA.out | with_reducible exact KF.out) (first | (go_at_call 33; refine (number_at (b := b) (off := off) (xs := xs) (by first | with_reducible exact HXD.out | with_reducible exact HXA.out) (by rw [HN.out]; omega) (by omega)).mono ?_; rintro e w' ⟨rfl, rfl⟩))
    all_goals go_wp2
    all_goals go_meet
    all_goals exact ⟨rfl, Lib.hid rfl⟩
  case rest =>
    obtain ⟨rfl, hwc⟩ := hcut
    have hwc' := hwc.out
    subst hwc'
    clear hwc
    have HD := Lib.hid (show RD w (w1.alloc (.cells #[.int .u8 x0, .int .u32 (num256 (cutb xs 1 4)), .int .u64 (num256 (cutb xs 5 8)), .int .i64 s, .slice none 0 0] 26)).drew w1.heap.size x0 (num256 (cutb xs 1 4)) (num256 (cutb xs 5 8)) b off s c 0 (.slice none 0 0) from
      ⟨heap_alloc_new _ _, World.ownsRow_nil _ _ _ _, ((alX w1 _).block _ HLT.out).trans HZ.out, (((alX w _).trans (HB.out.mono (by simp))).trans ((alX w1 _).mono (Nat.le_of_lt HLT.out))).drew, by have := HLT.out; omega⟩)
    go_wp2
    generalize (w1.alloc (.cells #[.int .u8 x0, .int .u32 (num256 (cutb xs 1 4)), .int .u64 (num256 (cutb xs 5 8)), .int .i64 s, .slice none 0 0] 26)).drew = W3 at HD ⊢
    generalize hN1 : num256 (cutb xs 1 4) = N1 at HD
    generalize hN2 : num256 (cutb xs 5 8) = N2 at HD
    have HPG := Lib.hid (show pgOf xs s n = .mkPg x0 N1 N2 s (prts (xs.drop 16) s n) by unfold pgOf; rw [hN1, hN2, List.getD_eq_getElem?_getD, HX0'.out]; rfl)
    have HCM := Lib.hid hcm
    clear hN1 hN2 hcm
    have HXG := Lib.hid (show w.heap.size ≤ w1.heap.size from Nat.le_of_lt HLT.out)
    generalize w1.heap.size = X6 at HD HXG ⊢
    clear KD KA KF HXD HXA HLT HX1 HB HZ nb0 nb1 hwu hwi hn1 hn5 hn13 hc5 hc13
    have HX3 := Lib.hid (HX0.out.below HD.out.bel)
    have n256 : (n : Int) < 256 := by
      obtain ⟨h15, e15⟩ := List.getElem?_eq_some_iff.1 HK.out
      have := (HBY.out 15 h15).2
      omega
    have h15 := lies_at HX3.out HK.out
    obtain ⟨z0, z1, z2, z3, z4⟩ := (row_cells HD.out.row).1
    have hrq := fun (W : World) (k : Nat) => quiet_refroom (s : Int) W k (by omega)
    go_quiet ((go_at_call 13; exact hrq _ _))
    have HD2 := Lib.hid (HD.out.drewN nq)
    generalize W3.drewN nq = W4 at HD2 ⊢
    clear HX3 HD h15 z0 z1 z2 z3 z4 hrq
    have HC := Lib.hid hc
    have HN256 := Lib.hid n256
    clear hS hc15 n256 hc
    by_cases hrn : room s < (n : Int)
    · obtain ⟨⟨c0, c1, c2, c3, c4⟩, f0, f1, f2, f3, f4⟩ := row_cells HD2.out.res
      have hd : decide (room s < (n : Int)) = true := decide_eq_true hrn
      rw [hd]
      have HRM := Lib.hid hrn
      clear hd hrn
      go_wp2
      refine post_row_tmp Tryd.results20 w.heap.size 26 zpg (0, 0) _ (.int .i64 3) Tryd.underlying26 rfl info_rp ?_ ?_ (row_set5 HD2.out.res _ _ _ _ _) ?_ ?_
      · rfl
      · rfl
      · rfl
      have hff : formOk xs s n = false := by
        unfold formOk fitsB
        rw [decide_eq_false (show ¬ ((n : Int) ≤ room s) by have := HRM.out; omega), Bool.and_false, Bool.false_and]
      exact ⟨fun _ => rfl, (fun h => by rw [hff] at h; cases h), below_set5 HD2.out.bel (Nat.le_refl _) _ _ _ _ _⟩
    · have HRN := Lib.hid (show (n : Int) ≤ room s by omega)
      obtain ⟨i0, hi, hz0, hz1, hz2⟩ := info_parts info_sl
      have HI := Lib.hid hi
      have HI0 := Lib.hid hz0
      have HI1 := Lib.hid hz1
      have HI2 := Lib.hid hz2
      clear hi hz0 hz1 hz2
      have hd : decide (room s < (n : Int)) = false := decide_eq_false hrn
      rw [hd]
      clear hd hrn
      go_wp2
      go_loopw [7] (fun i wr => ∃ (k : Nat) (v : Value), k ≤ n ∧ i = .int .i64 k ∧ Hid (RD w wr X6 x0 N1 N2 b off s c k v)) (fun i _ => n - (intOf i).toNat)
      case atStart => exact ⟨0, _, by omega, rfl, HD2⟩
      case round =>
        obtain ⟨k, v, hk, rfl, HDK⟩ := hrel
        have n256 := HN256.out
        have hc := HC.out
        have h15 := lies_at (HX0.out.below HDK.out.bel) HK.out
        have h15D : wr.drew.cell? ⟨b, off + 15, none⟩ = some (.int .u8 n) := h15
        obtain ⟨z0, z1, z2, z3, z4⟩ := (row_cells HDK.out.row).1
        have zf := (row_cells HDK.out.row).2.2.2.2.2
        by_cases hlt : k < n
        · have hfit : fitsB s n = true := fits_iff.2 ⟨by have := HRN.out; omega, HRN.out⟩
          obtain ⟨m1, m2, m3, m4⟩ := fits_mul hfit
          have hks : k * s + s ≤ 492 := by
            have h1 : (k + 1) * s ≤ n * s := Nat.mul_le_mul_right s (by omega)
            rw [Nat.succ_mul] at h1
            omega
          have HSN := Lib.hid (sl_next b off s c k)
          obtain ⟨P, hP⟩ : ∃ P, P = k * s := ⟨_, rfl⟩
          rw [← hP] at hks HSN
          have hPI : (k : Int) * (s : Int) = (P : Int) := by rw [hP]; exact (Int.natCast_mul _ _).symm
          have hPJ : ((k : Int) + 1) * (s : Int) = (P : Int) + s := by rw [Int.add_mul, hPI, Int.one_mul]
          have j0 : (0 : Int) ≤ 16 + (P : Int) := by omega
          have j1 : (16 + (P : Int)).toNat = 16 + P := by omega
          have j2 : (16 + ((P : Int) + s)).toNat = 16 + (P + s) := by omega
          have j3 : 16 + ((P : Int) + s) ≤ (c : Int) := by omega
          have j4 : 16 + (P : Int) ≤ 16 + ((P : Int) + s) := by omega
          have j5 : ¬ c = 16 + P := by omega
          have hki : (k : Int) < (n : Int) := by omega
          clear hP hfit m4
          obtain ⟨va, vc, hv⟩ := own_slice HDK.out.own
          subst hv
          go_wp2
          have HX6 := Lib.hid (lt_of_block HDK.out.row)
          obtain ⟨S, eS⟩ : ∃ S : Bool → World → Prop, S = fun b W => b = false → (W.cell? ⟨X6, 3, none⟩ = some (.int .i64 s) ∧ W.cell? ⟨X6, 4, none⟩ = some (.slice va k vc)) := ⟨_, rfl⟩
          have hF : ∀ w', S false w' → (w'.cell? ⟨X6, 3, none⟩ = some (.int .i64 s) ∧ w'.cell? ⟨X6, 4, none⟩ = some (.slice va k vc)) := by
            intro w' h
            rw [eS] at h
            exact h rfl
          have hSb : ∀ w', (w'.cell? ⟨X6, 3, none⟩ = some (.int .i64 s) ∧ w'.cell? ⟨X6, 4, none⟩ = some (.slice va k vc)) → S false w' := by
            intro w' h
            rw [eS]
            exact fun _ => h
          have hSt : ∀ w', S true w' := by
            intro w'
            rw [eS]
            exact fun e => by cases e
          have hS0 : S false wr.drew := hSb _ ⟨z3, z4⟩
          clear eS z0 z1 z2 z3 z4 zf h15 h15D
          have v1 : IntKind.i64.wrap (P : Int) = P := IntWalk.i64_in _ (by omega)
          have v2 : IntKind.i64.wrap (16 + (P : Int)) = 16 + (P : Int) := IntWalk.i64_in _ (by omega)
          have v3 : IntKind.i64.wrap ((k : Int) + 1) = (k : Int) + 1 := IntWalk.i64_in _ (by omega)
          have v4 : IntKind.i64.wrap ((P : Int) + s) = (P : Int) + s := IntWalk.i64_in _ (by omega)
          have v5 : IntKind.i64.wrap (16 + ((P : Int) + s)) = 16 + ((P : Int) + s) := IntWalk.i64_in _ (by omega)
          have v6 : max (16 + ((P : Int) + s)) 0 = 16 + ((P : Int) + s) := by omega
          have v7 : 16 + (P + s) - (16 + P) = s := by omega
          have v8 : 0 ≤ 16 + ((P : Int) + s) := by omega
          refine Till.region (s := 18) (S := S) (by kernel_rfl) ?_
          simp only [List.size_toArray, List.length_cons, List.length_nil]
          refine Till.move (i := 0) (d := 55) (v := ?_) rfl rfl (by kernel_rfl) (by kernel_rfl) (by kernel_rfl) (by kernel_rfl) (fun _ _ _ h => h) hS0 ?_ (by rfl) (by kernel_rfl) ?_
          rotate_left 1
          · intro w
            go_simp
            try with_reducible rfl
          dsimp only [Act.put]
          simp only [List.setIfInBounds_toArray, List.set_cons_zero, List.set_cons_succ]
          refine Till.load (i := 1) (d := 56) (v := ?_) rfl rfl (by kernel_rfl) (by kernel_rfl) (by kernel_rfl) (by kernel_rfl) (fun _ _ _ h => h) hS0 ?_ (by rfl) ?_
          rotate_left 1
          · intro w' hw
            have hx := (hF w' hw).1
            have hy := (hF w' hw).2
            clear hw
            go_simp
            try with_reducible rfl
          dsimp only [Act.put]
          simp only [List.setIfInBounds_toArray, List.set_cons_zero, List.set_cons_succ]
          refine Till.move (i := 2) (d := 57) (v := ?_) rfl rfl (by kernel_rfl) (by kernel_rfl) (by kernel_rfl) (by kernel_rfl) (fun _ _ _ h => h) hS0 ?_ (by rfl) (by kernel_rfl) ?_
          rotate_left 1
          · intro w
            go_simp
            try with_reducible rfl
          dsimp only [Act.put]
          simp only [List.setIfInBounds_toArray, List.set_cons_zero, List.set_cons_succ]
          refine Till.move (i := 3) (d := 58) (v := ?_) rfl rfl (by kernel_rfl) (by kernel_rfl) (by kernel_rfl) (by kernel_rfl) (fun _ _ _ h => h) hS0 ?_ (by rfl) (by kernel_rfl) ?_
          rotate_left 1
          · intro w
            go_simp
            try with_reducible rfl
          dsimp only [Act.put]
          simp only [List.setIfInBounds_toArray, List.set_cons_zero, List.set_cons_succ]
          refine Till.move (i := 4) (d := 59) (v := ?_) rfl rfl (by kernel_rfl) (by kernel_rfl) (by kernel_rfl) (by kernel_rfl) (fun _ _ _ h => h) hS0 ?_ (by rfl) (by kernel_rfl) ?_
          rotate_left 1
          · intro w
            go_simp
            try with_reducible rfl
          dsimp only [Act.put]
          simp only [List.setIfInBounds_toArray, List.set_cons_zero, List.set_cons_succ]
          refine Till.load (i := 5) (d := 60) (v := ?_) rfl rfl (by kernel_rfl) (by kernel_rfl) (by kernel_rfl) (by kernel_rfl) (fun _ _ _ h => h) hS0 ?_ (by rfl) ?_
          rotate_left 1
          · intro w' hw
            have hx := (hF w' hw).1
            have hy := (hF w' hw).2
            clear hw
            go_simp
            try with_reducible rfl
          dsimp only [Act.put]
          simp only [List.setIfInBounds_toArray, List.set_cons_zero, List.set_cons_succ]
          refine Till.move (i := 6) (d := 61) (v := ?_) rfl rfl (by kernel_rfl) (by kernel_rfl) (by kernel_rfl) (by kernel_rfl) (fun _ _ _ h => h) hS0 ?_ (by rfl) (by kernel_rfl) ?_
          rotate_left 1
          · intro w
            go_simp
            try with_reducible rfl
          dsimp only [Act.put]
          simp only [List.setIfInBounds_toArray, List.set_cons_zero, List.set_cons_succ]
          refine Till.move (i := 7) (d := 62) (v := ?_) rfl rfl (by kernel_rfl) (by kernel_rfl) (by kernel_rfl) (by kernel_rfl) (fun _ _ _ h => h) hS0 ?_ (by rfl) (by kernel_rfl) ?_
          rotate_left 1
          · intro w
            go_simp
            try with_reducible rfl
          dsimp only [Act.put]
          simp only [List.setIfInBounds_toArray, List.set_cons_zero, List.set_cons_succ]
          refine Till.move (i := 8) (d := 63) (v := ?_) rfl rfl (by kernel_rfl) (by kernel_rfl) (by kernel_rfl) (by kernel_rfl) (fun _ _ _ h => h) hS0 ?_ (by rfl) (by kernel_rfl) ?_
          rotate_left 1
          · intro w
            go_simp
            try with_reducible rfl
          dsimp only [Act.put]
          simp only [List.setIfInBounds_toArray, List.set_cons_zero, List.set_cons_succ]
          refine Till.move (i := 9) (d := 64) (v := ?_) rfl rfl (by kernel_rfl) (by kernel_rfl) (by kernel_rfl) (by kernel_rfl) (fun _ _ _ h => h) hS0 ?_ (by rfl) (by kernel_rfl) ?_
          rotate_left 1
          · intro w
            go_simp
            try with_reducible rfl
          dsimp only [Act.put]
          simp only [List.setIfInBounds_toArray, List.set_cons_zero, List.set_cons_succ]
          refine Till.move (i := 10) (d := 65) (v := ?_) rfl rfl (by kernel_rfl) (by kernel_rfl) (by kernel_rfl) (by kernel_rfl) (fun _ _ _ h => h) hS0 ?_ (by rfl) (by kernel_rfl) ?_
          rotate_left 1
          · intro w
            go_simp
            try with_reducible rfl
          dsimp only [Act.put]
          simp only [List.setIfInBounds_toArray, List.set_cons_zero, List.set_cons_succ]
          refine Till.load (i := 11) (d := 66) (v := ?_) rfl rfl (by kernel_rfl) (by kernel_rfl) (by kernel_rfl) (by kernel_rfl) (fun _ _ _ h => h) hS0 ?_ (by rfl) ?_
          rotate_left 1
          · intro w' hw
            have hx := (hF w' hw).1
            have hy := (hF w' hw).2
            clear hw
            go_simp
            try with_reducible rfl
          dsimp only [Act.put]
          simp only [List.setIfInBounds_toArray, List.set_cons_zero, List.set_cons_succ]
          refine Till.move (i := 12) (d := 67) (v := ?_) rfl rfl (by kernel_rfl) (by kernel_rfl) (by kernel_rfl) (by kernel_rfl) (fun _ _ _ h => h) hS0 ?_ (by rfl) (by kernel_rfl) ?_
          rotate_left 1
          · intro w
            go_simp
            try with_reducible rfl
          dsimp only [Act.put]
          simp only [List.setIfInBounds_toArray, List.set_cons_zero, List.set_cons_succ]
          refine Till.move (i := 13) (d := 68) (v := ?_) rfl rfl (by kernel_rfl) (by kernel_rfl) (by kernel_rfl) (by kernel_rfl) (fun _ _ _ h => h) hS0 ?_ (by rfl) (by kernel_rfl) ?_
          rotate_left 1
          · intro w
            go_simp
            try with_reducible rfl
          dsimp only [Act.put]
          simp only [List.setIfInBounds_toArray, List.set_cons_zero, List.set_cons_succ]
          refine Till.move (i := 14) (d := 69) (v := ?_) rfl rfl (by kernel_rfl) (by kernel_rfl) (by kernel_rfl) (by kernel_rfl) (fun _ _ _ h => h) hS0 ?_ (by rfl) (by kernel_rfl) ?_
          rotate_left 1
          · intro w
            go_simp
            try with_reducible rfl
          dsimp only [Act.put]
          simp only [List.setIfInBounds_toArray, List.set_cons_zero, List.set_cons_succ]
          refine Till.only false (i := 15) rfl (by kernel_rfl) (by rfl) (by kernel_rfl) fun K hK => ?_
          go_simp
          have HX7 := Lib.hid (Nat.lt_of_lt_of_le HX6.out (Nat.le_refl wr.heap.size))
          refine hK.out _ _ (hSb _ ⟨(row_cells (((alX wr (.cells #[.slice (some ⟨b, off + (16 + P), none⟩) s (c - (16 + P))] 30)).drew.block X6 HX6.out).trans HDK.out.row)).1.2.2.2.1, (row_cells (((alX wr (.cells #[.slice (some ⟨b, off + (16 + P), none⟩) s (c - (16 + P))] 30)).drew.block X6 HX6.out).trans HDK.out.row)).1.2.2.2.2⟩) ?_
          clear hK K
          refine Till.only false (i := 16) rfl (by kernel_rfl) (by rfl) (by kernel_rfl) fun K hK => ?_
          refine wp_append_lies _ (.tmp 56) (.tmp 70) 24 rfl w.heap.size 30 i0 (.slice none 0 0) 1 24 Tryd.underlying24 HI.out HI0.out HI1.out HI2.out rfl (by decide) (.slice va k vc) k (sl b off s c k) rfl (HDK.out.own.alloc _).drew ⟨wr.heap.size, 0, none⟩ 1 1 [.slice (some ⟨b, off + (16 + P), none⟩) s (c - (16 + P))] rfl rfl (cell_one_new wr (.slice (some ⟨b, off + (16 + P), none⟩) s (c - (16 + P))) 30) (by simp [Value.oneCell']) (by decide) (by unfold maxLen; omega) (by omega) (by have := HDK.out.bel.size; show _ ≤ (wr.alloc _).heap.size; rw [World.size_alloc]; omega) _ rfl ?_
          intro g3 cap3 w3 hown3 hgrow3 hat3 hlt3
          have HM3 := Lib.hid (rd_mid HDK.out hgrow3)
          have HN3 := Lib.hid (rd_next HDK.out hgrow3 (by rw [HSN.out]; exact hown3) HXG.out)
          refine hK.out _ _ (hSb _ ⟨(row_cells HM3.out.1).1.2.2.2.1, (row_cells HM3.out.1).1.2.2.2.2⟩) ?_
          clear hK K hown3 hgrow3 hat3 hlt3
          have hS3 : S false w3 := hSb _ ⟨(row_cells HM3.out.1).1.2.2.2.1, (row_cells HM3.out.1).1.2.2.2.2⟩
          refine Till.only false (i := 17) rfl (by kernel_rfl) (by rfl) (by kernel_rfl) fun K hK => ?_
          go_simp
          refine hK.out _ _ hS3 ?_
          clear hK K
          refine Till.only true (i := 18) rfl (by kernel_rfl) (by rfl) (by kernel_rfl) fun K hK => ?_
          have y4 := (row_cells HM3.out.1).1.2.2.2.2
          have yf := (row_cells HM3.out.1).2.2.2.2.2
          go_simp
          refine hK.out _ _ (hSt _) ?_
          clear hK K y4 yf
          refine Till.done (by kernel_rfl) ?_ _
          clear hS3 hF hSb hSt hS0
          go_wp2
          go_roundw
          case rel => exact ⟨k + 1, _, by omega, by go_num, HN3⟩
          case measure => simp [intOf]; omega
        · obtain rfl : k = n := by omega
          have HCC := Lib.hid hc
          have hkr := HRN.out
          obtain ⟨va, vc, hv⟩ := own_slice HDK.out.own
          subst hv
          go_wp2
          clear n256 hc
          cases hfit : fitsB s k
          · have hk0 : k = 0 := by
              rw [Bool.eq_false_iff] at hfit
              have h := room_bd s
              by_cases h0 : 0 < room s
              · exact absurd (fits_iff.2 ⟨h0, hkr⟩) hfit
              · omega
            have HRD := Lib.hid (show Recs wr.drew va (prts (xs.drop 16) s k) by
              obtain ⟨va', vc', hv, hr⟩ := recs_sl HDK.out.own (HX0.out.below HDK.out.bel) HN.out (.inl hk0) HCC.out HCM.out
              obtain ⟨rfl, rfl⟩ : va = va' ∧ vc = vc' := by simpa using hv
              exact hr)
            have HMF := Lib.hid (show (Pg.mkPg x0 N1 N2 s (prts (xs.drop 16) s k)).may = false by rw [← HPG.out]; exact fits_not hfit)
            have HFF := Lib.hid (show formOk xs s k = false by unfold formOk; rw [hfit]; rfl)
            clear hk0 hkr hfit
            have HOD := Lib.hid (show wr.drew.heap[X6]? = some (.cells #[.int .u8 x0, .int .u32 N1, .int .u64 N2, .int .i64 s, .slice va k vc] 26 (0, 0)) from HDK.out.row)
            have HED := Lib.hid (show wr.drew.heap[w.heap.size]? = some (.cells zpg 26 (0, 0)) from HDK.out.res)
            have HBD := Lib.hid (show Below w.heap.size w wr.drew from HDK.out.bel.drew); have HVD := Lib.hid (show wr.drew.ownsRow w.heap.size 30 1 (.slice va k vc) k (sl b off s c k) from HDK.out.own)
            have KD := Lib.hid (row_cells HOD.out).1
            clear z0 z1 z2 z3 z4 zf h15 h15D
            obtain ⟨kd0, kd1, kd2, kd3, kd4⟩ := KD.out
            refine Till.region (s := 10) (S := fun _ _ => True) (by kernel_rfl) ?_
            simp only [List.size_toArray, List.length_cons, List.length_nil]
            refine Till.only false (i := 0) rfl (by kernel_rfl) (by rfl) (by kernel_rfl) fun K hK => ?_
            go_simp
            refine hK.out _ _ trivial ?_
            clear hK K
            refine Till.only false (i := 1) rfl (by kernel_rfl) (by rfl) (by kernel_rfl) fun K hK => ?_
            go_simp
            refine (may_is _ x0 N1 N2 s va k vc (prts (xs.drop 16) s k) _ HMF.out (prts_len _ _ _) (by have := HN256.out; omega) (by omega) (by with_reducible exact HRD.out)).mono ?_
            rintro e w5 ⟨rfl, hb5⟩
            have HB5 := Lib.hid (HBD.out.trans (hb5.mono HBD.out.size))
            have HO5 := Lib.hid ((hb5.block X6 (lt_of_block HOD.out)).trans HOD.out)
            have HE5 := Lib.hid ((hb5.block w.heap.size (lt_of_block HED.out)).trans HED.out)
            have k5 := (row_cells HO5.out).1
            have HL5 := Lib.hid (HX0.out.below HB5.out)
            have cb5 := conv_any (c := c) HL5.out HN.out
            have HR5 := Lib.hid (HRD.out.below hb5)
            have HV5 := Lib.hid (own_below HVD.out hb5)
            clear hb5
            refine hK.out _ _ trivial ?_
            clear hK K
            refine Till.only false (i := 2) rfl (by kernel_rfl) (by rfl) (by kernel_rfl) fun K hK => ?_
            go_simp
            refine hK.out _ _ trivial ?_
            clear hK K
            refine Till.only false (i := 3) rfl (by kernel_rfl) (by rfl) (by kernel_rfl) fun K hK => ?_
            go_simp
            refine hK.out _ _ trivial ?_
            clear hK K
            refine Till.skip (i := 4) (d := 77) rfl rfl (by kernel_rfl) (by kernel_rfl) (by kernel_rfl) (by kernel_rfl) (fun _ _ _ h => h) trivial (by rfl) (by kernel_rfl) ?_
            dsimp only [Act.put]
            simp only [List.setIfInBounds_toArray, List.set_cons_zero, List.set_cons_succ]
            refine Till.skip (i := 5) (d := 78) rfl rfl (by kernel_rfl) (by kernel_rfl) (by kernel_rfl) (by kernel_rfl) (fun _ _ _ h => h) trivial (by rfl) (by kernel_rfl) ?_
            dsimp only [Act.put]
            simp only [List.setIfInBounds_toArray, List.set_cons_zero, List.set_cons_succ]
            refine Till.skip (i := 6) (d := 79) rfl rfl (by kernel_rfl) (by kernel_rfl) (by kernel_rfl) (by kernel_rfl) (fun _ _ _ h => h) trivial (by rfl) (by kernel_rfl) ?_
            dsimp only [Act.put]
            simp only [List.setIfInBounds_toArray, List.set_cons_zero, List.set_cons_succ]
            refine Till.skip (i := 7) (d := 80) rfl rfl (by kernel_rfl) (by kernel_rfl) (by kernel_rfl) (by kernel_rfl) (fun _ _ _ h => h) trivial (by rfl) (by kernel_rfl) ?_
            dsimp only [Act.put]
            simp only [List.setIfInBounds_toArray, List.set_cons_zero, List.set_cons_succ]
            refine Till.skip (i := 8) (d := 81) rfl rfl (by kernel_rfl) (by kernel_rfl) (by kernel_rfl) (by kernel_rfl) (fun _ _ _ h => h) trivial (by rfl) (by kernel_rfl) ?_
            dsimp only [Act.put]
            simp only [List.setIfInBounds_toArray, List.set_cons_zero, List.set_cons_succ]
            refine Till.skip (i := 9) (d := 82) rfl rfl (by kernel_rfl) (by kernel_rfl) (by kernel_rfl) (by kernel_rfl) (fun _ _ _ h => h) trivial (by rfl) (by kernel_rfl) ?_
            dsimp only [Act.put]
            simp only [List.setIfInBounds_toArray, List.set_cons_zero, List.set_cons_succ]
            refine Till.only true (i := 10) rfl (by kernel_rfl) (by rfl) (by kernel_rfl) fun K hK => ?_
            go_simp
            refine hK.out _ _ trivial ?_
            clear hK K
            refine Till.done (by kernel_rfl) ?_ _
            all_goals obtain ⟨⟨c0, c1, c2, c3, c4⟩, f0, f1, f2, f3, f4⟩ := row_cells HE5.out
            all_goals go_wp2
            all_goals exact ref_err HE5.out HB5.out HFF.out rfl rfl rfl
          · have hms : 16 + k * s ≤ 512 := by have := (fits_mul hfit).2.2.2; omega
            have HMS := Lib.hid hms
            have HRD := Lib.hid (show Recs wr.drew va (prts (xs.drop 16) s k) by
              obtain ⟨va', vc', hv, hr⟩ := recs_sl HDK.out.own (HX0.out.below HDK.out.bel) HN.out (.inr hms) HCC.out HCM.out
              obtain ⟨rfl, rfl⟩ : va = va' ∧ vc = vc' := by simpa using hv
              exact hr)
            have HMF := Lib.hid (show (Pg.mkPg x0 N1 N2 s (prts (xs.drop 16) s k)).may = true by rw [← HPG.out]; exact fits_may HN.out hfit)
            have HFT := Lib.hid (show (Pg.mkPg x0 N1 N2 s (prts (xs.drop 16) s k)).Fit by rw [← HPG.out]; exact pgOf_fit s k HBY.out HN.out)
            cases hff : formOk xs s k
            · have hne := str_ne (byte_bytes HRD.out.byte) HBY.out (show (Pg.mkPg x0 N1 N2 s (prts (xs.drop 16) s k)).bytes ≠ xs by rw [← HPG.out]; exact form_bytes HN.out hfit hff)
              have HFF := Lib.hid hff
              clear hkr hfit hms hff
              have HOD := Lib.hid (show wr.drew.heap[X6]? = some (.cells #[.int .u8 x0, .int .u32 N1, .int .u64 N2, .int .i64 s, .slice va k vc] 26 (0, 0)) from HDK.out.row)
              have HED := Lib.hid (show wr.drew.heap[w.heap.size]? = some (.cells zpg 26 (0, 0)) from HDK.out.res)
              have HBD := Lib.hid (show Below w.heap.size w wr.drew from HDK.out.bel.drew); have HVD := Lib.hid (show wr.drew.ownsRow w.heap.size 30 1 (.slice va k vc) k (sl b off s c k) from HDK.out.own)
              have KD := Lib.hid (row_cells HOD.out).1
              clear z0 z1 z2 z3 z4 zf h15 h15D
              go_region_held (fun W => W.cell? ⟨X6, 0, none⟩ = some (.int .u8 x0) ∧ W.cell? ⟨X6, 1, none⟩ = some (.int .u32 N1) ∧ W.cell? ⟨X6, 2, none⟩ = some (.int .u64 N2) ∧ W.cell? ⟨X6, 3, none⟩ = some (.int .i64 s) ∧ W.cell? ⟨X6, 4, none⟩ = some (.slice va k vc)) (first | with_reducible exact KD.out | with_reducible exact k5 | with_reducible exact k6) (first | (go_at_call 15; refine (may_is _ x0 N1 N2 s va k vc (prts (xs.drop 16) s k) _ HMF.out (prts_len _ _ _) (by have := HN256.out; omega) (by omega) (by with_reducible exact HRD.out)).mono ?_; rintro e w5 ⟨rfl, hb5⟩; have HB5 := Lib.hid (HBD.out.trans (hb5.mono HBD.out.size)); have HO5 := Lib.hid ((hb5.block X6 (lt_of_block HOD.out)).trans HOD.out); have HE5 := Lib.hid ((hb5.block w.heap.size (lt_of_block HED.out)).trans HED.out); have k5 := (row_cells HO5.out).1; have HL5 := Lib.hid (HX0.out.below HB5.out); have cb5 := conv_any (c := c) HL5.out HN.out; have HR5 := Lib.hid (HRD.out.below hb5); have HV5 := Lib.hid (own_below HVD.out hb5); clear hb5) | (go_at_call 18; refine (refenc_any x0 N1 N2 s va k vc (prts (xs.drop 16) s k) _ (prts_len _ _ _) (by with_reducible exact HR5.out) HMF.out HFT.out).mono ?_; rintro e w6 ⟨ao6, cap6, rfl, hl6, hb6⟩; have HB6 := Lib.hid (HB5.out.trans (hb6.mono HB5.out.size)); have HO6 := Lib.hid ((hb6.block X6 (lt_of_block HO5.out)).trans HO5.out); have HE6 := Lib.hid ((hb6.block w.heap.size (lt_of_block HE5.out)).trans HE5.out); have k6 := (row_cells HO6.out).1; have cb6 := conv_any (c := c) (HX0.out.below HB6.out) HN.out; have ce6 := conv_any (c := cap6) hl6 (bytes_len HMF.out); have HV6 := Lib.hid (own_below HV5.out hb6); clear hb6 hl6))
              all_goals obtain ⟨⟨c0, c1, c2, c3, c4⟩, f0, f1, f2, f3, f4⟩ := row_cells HE6.out
              all_goals go_wp2
              all_goals exact ref_err HE6.out HB6.out HFF.out rfl rfl rfl
            · have heq := bytes_back HBY.out HN.out HG.out HS.out HK.out hff
              have hne : ((strOfNums (Pg.mkPg x0 N1 N2 s (prts (xs.drop 16) s k)).bytes).toList == (strOfNums xs).toList) = true := by rw [← HPG.out, heq]; exact str_eq _
              have HFF := Lib.hid hff
              clear hkr hfit hms hff heq
              have HOD := Lib.hid (show wr.drew.heap[X6]? = some (.cells #[.int .u8 x0, .int .u32 N1, .int .u64 N2, .int .i64 s, .slice va k vc] 26 (0, 0)) from HDK.out.row)
              have HED := Lib.hid (show wr.drew.heap[w.heap.size]? = some (.cells zpg 26 (0, 0)) from HDK.out.res)
              have HBD := Lib.hid (show Below w.heap.size w wr.drew from HDK.out.bel.drew); have HVD := Lib.hid (show wr.drew.ownsRow w.heap.size 30 1 (.slice va k vc) k (sl b off s c k) from HDK.out.own)
              have KD := Lib.hid (row_cells HOD.out).1
              clear z0 z1 z2 z3 z4 zf h15 h15D
              go_region_held (fun W => W.cell? ⟨X6, 0, none⟩ = some (.int .u8 x0) ∧ W.cell? ⟨X6, 1, none⟩ = some (.int .u32 N1) ∧ W.cell? ⟨X6, 2, none⟩ = some (.int .u64 N2) ∧ W.cell? ⟨X6, 3, none⟩ = some (.int .i64 s) ∧ W.cell? ⟨X6, 4, none⟩ = some (.slice va k vc)) (first | with_reducible exact KD.out | with_reducible exact k5 | with_reducible exact k6) (first | (go_at_call 15; refine (may_is _ x0 N1 N2 s va k vc (prts (xs.drop 16) s k) _ HMF.out (prts_len _ _ _) (by have := HN256.out; omega) (by omega) (by with_reducible exact HRD.out)).mono ?_; rintro e w5 ⟨rfl, hb5⟩; have HB5 := Lib.hid (HBD.out.trans (hb5.mono HBD.out.size)); have HO5 := Lib.hid ((hb5.block X6 (lt_of_block HOD.out)).trans HOD.out); have HE5 := Lib.hid ((hb5.block w.heap.size (lt_of_block HED.out)).trans HED.out); have k5 := (row_cells HO5.out).1; have HL5 := Lib.hid (HX0.out.below HB5.out); have cb5 := conv_any (c := c) HL5.out HN.out; have HR5 := Lib.hid (HRD.out.below hb5); have HV5 := Lib.hid (own_below HVD.out hb5); clear hb5) | (go_at_call 18; refine (refenc_any x0 N1 N2 s va k vc (prts (xs.drop 16) s k) _ (prts_len _ _ _) (by with_reducible exact HR5.out) HMF.out HFT.out).mono ?_; rintro e w6 ⟨ao6, cap6, rfl, hl6, hb6⟩; have HB6 := Lib.hid (HB5.out.trans (hb6.mono HB5.out.size)); have HO6 := Lib.hid ((hb6.block X6 (lt_of_block HO5.out)).trans HO5.out); have HE6 := Lib.hid ((hb6.block w.heap.size (lt_of_block HE5.out)).trans HE5.out); have k6 := (row_cells HO6.out).1; have cb6 := conv_any (c := c) (HX0.out.below HB6.out) HN.out; have ce6 := conv_any (c := cap6) hl6 (bytes_len HMF.out); have HV6 := Lib.hid (own_below HV5.out hb6); clear hb6 hl6))
              all_goals obtain ⟨⟨c0, c1, c2, c3, c4⟩, f0, f1, f2, f3, f4⟩ := row_cells HE6.out
              all_goals obtain ⟨y0, y1, y2, y3, y4⟩ := k6
              all_goals go_wp2
              all_goals exact ref_ok HE6.out HB6.out HFF.out HPG.out (fin_recs HV6.out HE6.out HB6.out HX0.out HN.out HMS.out HCC.out HCM.out _ _ _ _ _) rfl rfl rfl
end Go.Proofs.YtmfddecndadohaaDoor

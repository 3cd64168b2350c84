/-
  NO SHADOW: of no disk, a small one, with no frames, or too many; none opened on a disk without roots: the walks of on, New and Open. Conditions: those that each lemma names.
  THE TABLES THAT A ROOT TELLS: the walk of tablesOf. Conditions: those that each lemma names.
-/
import Derived.Maps.AppendAt
import Derived.Test.YtokikeenfpligaaGreatDoorU42
namespace Go.Proofs.YtokikeenfpligaaGreatDoor.Sh
open Go.RowKit Go.Maps

theorem size_none (w : World) : Calls Tryz.prog 71 #[.pointer none] w fun e w' => e = .returned (.int .i64 0) ∧ w = w' := by
  go_enter Tryz.func71, Tryz.ntmps71
  go_wp2
  go_ret
  exact ⟨rfl, rfl⟩
def NoS (w : World) (e : Ending) (w' : World) : Prop := e = .returned (.tuple #[.pointer none, .iface 78 (.int .i64 1)]) ∧ w = w'
/-- what `on` refuses -/
def OnNo (d : Value) (m : Int) (w : World) : Prop := Calls Tryz.prog 34 #[d, .int .i64 m] w (NoS w)
theorem on_nil (m : Int) (w : World) : OnNo (.pointer none) m w := by
  unfold OnNo
  go_enter Tryz.func34, Tryz.ntmps34
  go_wp2_with (go_at_call 71; refine (size_none _).mono ?_; rintro e w' ⟨rfl, rfl⟩)
  go_ret2
  exact ⟨rfl, rfl⟩
theorem on_small {W w : World} {D n N : Nat} {ct : Nat → ByteArray} {H : Nat → Prop} (m : Int) (h : DkS W w D n ct N H) (h4 : n < 4) : OnNo (.pointer (some ⟨D, 0, none⟩)) m w := by
  unfold OnNo
  have HD := Lib.hid h
  have hn : (n : Int) < 4 := by omega
  clear h
  go_enter Tryz.func34, Tryz.ntmps34
  go_wp2_with (go_at_call 71; refine (dks_size HD.out).mono ?_; rintro e w' ⟨rfl, rfl⟩)
  go_ret2
  exact ⟨rfl, rfl⟩
theorem on_frames {W w : World} {D n N : Nat} {ct : Nat → ByteArray} {H : Nat → Prop} (m : Int) (h : DkS W w D n ct N H) (h4 : 4 ≤ n) (hm : m < 1 ∨ 1024 < m) : OnNo (.pointer (some ⟨D, 0, none⟩)) m w := by
  unfold OnNo
  have HD := Lib.hid h
  have HM := Lib.hid hm
  have hn : ¬ (n : Int) < 4 := by omega
  clear h hm
  go_enter Tryz.func34, Tryz.ntmps34
  go_wp2_with (first | (go_at_call 71; refine (dks_size HD.out).mono ?_; rintro e w' ⟨rfl, rfl⟩) | (go_at_call 72; refine (newp_no _ m _ (.inr ⟨⟨D, rfl⟩, HM.out⟩)).mono ?_; rintro e w' ⟨rfl, rfl⟩))
  go_ret2
  exact ⟨rfl, rfl⟩
theorem new_no {d : Value} {m : Int} {w : World} (h : OnNo d m w) : Calls Tryz.prog 11 #[d, .int .i64 m] w (NoS w) := by
  have HO := Lib.hid h
  clear h
  go_enter Tryz.func11, Tryz.ntmps11
  go_wp2_with (go_at_call 34; refine HO.out.mono ?_; rintro e w' ⟨rfl, rfl⟩)
  go_ret2
  exact ⟨rfl, rfl⟩
theorem open_no {d : Value} {m : Int} {w : World} (h : OnNo d m w) : Calls Tryz.prog 17 #[d, .int .i64 m] w (NoS w) := by
  have HO := Lib.hid h
  clear h
  go_enter Tryz.func17, Tryz.ntmps17
  go_wp2_with (go_at_call 34; refine HO.out.mono ?_; rintro e w' ⟨rfl, rfl⟩)
  go_ret2
  exact ⟨rfl, rfl⟩
/-- a disk without roots -/
def NoRoot (W : World) (N : Nat) (w : World) (D : Nat) (ct : Nat → ByteArray) (n m : Nat) (Hd : Nat → Prop) (e : Ending) (w' : World) : Prop :=
  ∃ p H', e = .returned (.tuple #[.pointer none, .iface 78 (.int .i64 8)]) ∧ PS W N w' p D ct (fun _ => True) n m H' ∧ Stp w Hd w' H'
theorem on_stp {W w w1 : World} {D n m N : Nat} {ct : Nat → ByteArray} {Hd H : Nat → Prop} {P p K G T : Nat} (h : OnAt W N w w1 D ct n m Hd P p K G T H) : Stp w Hd w1 H :=
  ⟨h.b.os, h.b.tape, h.b.output, h.b.size, fun k hk _ => h.b.block k hk, h.own⟩
set_option maxRecDepth 100000 in
set_option maxHeartbeats 1000000 in
theorem open_none {W w : World} {D n N : Nat} {ct : Nat → ByteArray} {Hd : Nat → Prop} (m : Nat) (h : DkS W w D n ct N Hd) (hHd : ∀ k, Hd k → k < w.heap.size) (h4 : 4 ≤ n) (hn : n ≤ 16384) (h1 : 1 ≤ m) (h2 : m ≤ 1024) (h0 : goodT (ct 0) = false) (h01 : goodT (ct 1) = false) (hN : N + 10000 < 2305843009213693952) :
    Calls Tryz.prog 17 #[.pointer (some ⟨D, 0, none⟩), .int .i64 (m : Int)] w (NoRoot W (N + 4) w D ct n m Hd) := by
  have HD := Lib.hid h
  have HHD := Lib.hid hHd
  have HST := Lib.hid (show ∀ r, r < 2 → Rt ct r ((fun _ => none : Nat → Option (Nat × List Nat)) r) from fun r hr => by
    rcases (show r = 0 ∨ r = 1 by omega) with rfl | rfl
    · exact h0
    · exact h01)
  clear h hHd h0 h01
  go_enter Tryz.func17, Tryz.ntmps17
  go_wp2_with fail
  refine (on_any m HD.out HHD.out h4 hn h1 h2).mono ?_
  rintro e w1 ⟨P, p, K, G, T, H, rfl, hon⟩
  have HON := Lib.hid hon
  clear hon
  go_wp2_with fail
  refine (newest_any P HON.out.ps HON.out.hd.c0 HON.out.nh.1 (by omega) _ HST.out (by omega)).mono ?_
  rintro e w2 ⟨ra, cap, H2, B, C, rfl, _, _, _, _, hps, hst⟩
  have HP2 := Lib.hid hps
  have HT2 := Lib.hid ((on_stp HON.out).trans hst)
  rw [show best (fun _ => none : Nat → Option (Nat × List Nat)) 2 = none from rfl]
  clear hps hst
  unfold pv
  go_wp2
  go_ret2
  exact ⟨p, H2, rfl, HP2.out.below (Sm.alX w2 _), HT2.out.trans (.of_below (H := H2) (Sm.alX w2 _))⟩
end Go.Proofs.YtokikeenfpligaaGreatDoor.Sh
namespace Go.Proofs.YtokikeenfpligaaGreatDoor.Sh
open Go.RowKit Go.Maps

/-- records that lie in blocks of which none is S's -/
def Safe (w : World) (S : Nat → Prop) (v : Value) (n : Nat) (rs : List (List Int)) : Prop := ∃ B C, OwnIn B C w v n rs ∧ C ≤ w.heap.size ∧ ∀ k, B ≤ k → k < C → ¬ S k
theorem Safe.mono {w w' : World} {S S' : Nat → Prop} {v : Value} {n : Nat} {rs : List (List Int)} (h : Safe w S v n rs) (hb : ∀ k, k < w.heap.size → ¬ S k → w'.heap[k]? = w.heap[k]?) (hs : w.heap.size ≤ w'.heap.size) (hS : ∀ k, k < w.heap.size → S' k → S k) : Safe w' S' v n rs := by
  obtain ⟨B, C, h1, h2, h3⟩ := h
  exact ⟨B, C, h1.step fun k a b => hb k (by omega) (h3 k a b), by omega, fun k a b q => h3 k a b (hS k (by omega) q)⟩
theorem Safe.now {w : World} {S : Nat → Prop} {v : Value} {n : Nat} {rs : List (List Int)} (h : Safe w S v n rs) : ∃ B, Sm.OwnRecs B w v n rs := by
  obtain ⟨B, C, h1, _⟩ := h
  exact ⟨B, h1.now⟩
/-- the cells of k tables' pages -/
def cellsF (e : Nat) (g : Nat → Option Addr × Nat) : Nat → List Value
  | 0 => []
  | k + 1 => cellsF e g k ++ [.int .u8 84, .int .u32 (k : Int), .int .u64 (e : Int), .int .i64 4, .slice (g k).1 123 (g k).2]
theorem cellsF_upd (e : Nat) (g : Nat → Option Addr × Nat) (x : Option Addr × Nat) (n : Nat) : ∀ k, k ≤ n → cellsF e (fun j => if j = n then x else g j) k = cellsF e g k
  | 0, _ => rfl
  | k + 1, h => by
    show cellsF e _ k ++ _ = cellsF e g k ++ _
    rw [cellsF_upd e g x n k (by omega)]
    simp only [if_neg (show ¬ k = n by omega)]
theorem own_of_block {w w' : World} {B : Nat} {e : TypeId} {s : Nat} {v : Value} {n : Nat} {xs : List Value} (h : w.ownsRow B e s v n xs) (hb : ∀ b, v.ownBlock = some b → w'.heap[b]? = w.heap[b]?) : w'.ownsRow B e s v n xs := by
  obtain ⟨hl, h⟩ := h
  refine ⟨hl, ?_⟩
  rcases h with ⟨rfl, h0⟩ | ⟨g, cap, cur, rfl, h1, hg, rest⟩
  · exact .inl ⟨rfl, h0⟩
  · exact .inr ⟨g, cap, cur, rfl, h1, (hb g rfl).trans hg, rest⟩
theorem row5_cells (w : World) (a b c d e : Value) (t : TypeId) : ∀ j u, [a, b, c, d, e][j]? = some u → (w.alloc (.cells #[a, b, c, d, e] t)).cell? ((⟨w.heap.size, 0, none⟩ : Addr).add j) = some u := by
  intro j u hj
  rw [show (⟨w.heap.size, 0, none⟩ : Addr).add j = ⟨w.heap.size, j, none⟩ from by simp [Addr.add]; omega]
  rw [cell_of_row _ _ j _ _ _ (heap_alloc_new w _)]
  simpa using hj
/-- a page's cells, in a row -/
structure Box0 (w : World) (g o : Nat) (ki nu ep si : Int) (v : Value) : Prop where
  f0 : w.cell? ⟨g, o, none⟩ = some (.int .u8 ki)
  f1 : w.cell? ⟨g, o + 1, none⟩ = some (.int .u32 nu)
  f2 : w.cell? ⟨g, o + 2, none⟩ = some (.int .u64 ep)
  f3 : w.cell? ⟨g, o + 3, none⟩ = some (.int .i64 si)
  f4 : w.cell? ⟨g, o + 4, none⟩ = some v
def TabsR (w : World) (base : Nat) (H : Nat → Prop) (v : Value) (e : Nat) (f : Nat → Nat) (k : Nat) : Prop :=
  ∃ g : Nat → Option Addr × Nat, w.ownsRow base 47 5 v k (cellsF e g k) ∧ (∀ b, v.ownBlock = some b → ¬ H b) ∧ ∀ i, i < k → Safe w (fun b => H b ∨ v.ownBlock = some b ∨ b < base) (.slice (g i).1 123 (g i).2) 123 ((tbl f i).map rec4)
theorem stp_grown {w0 w w' : World} {H H' : Nat → Prop} {r : Option Nat} (h : Stp w0 H w H') (g : w.grownBy w' r) (hr : ∀ b, r = some b → w0.heap.size ≤ b) : Stp w0 H w' H' :=
  ⟨g.os.trans h.os, g.tape.trans h.tape, g.output.trans h.output, Nat.le_trans h.size g.size, fun k hk hn => (g.block k (Nat.lt_of_lt_of_le hk h.size) (fun e => by have := hr k e.symm; omega)).trans (h.block k hk hn), h.own⟩
def ownB (r : Option Nat) (b : Nat) : Prop := r = some b
theorem stp_own {w w' : World} {r : Option Nat} (g : w.grownBy w' r) : Stp w (ownB r) w' (ownB r) :=
  ⟨g.os, g.tape, g.output, g.size, fun k hk hn => g.block k hk (fun e => hn e.symm), fun _ q => .inl q⟩
structure ToRel (W : World) (N : Nat) (w1 wr : World) (p D : Nat) (ct : Nat → ByteArray) (Q : Nat → Prop) (n m : Nat) (H : Nat → Prop) (e : Nat) (f : Nat → Nat) (k : Nat) (v : Value) (H' : Nat → Prop) : Prop where
  ps : PS W (N + 2 * k) wr p D ct Q n m H'
  st : Stp w1 H wr H'
  tr : TabsR wr w1.heap.size H' v e f k
def TabsE (W : World) (N : Nat) (w : World) (p D : Nat) (ct : Nat → ByteArray) (Q : Nat → Prop) (n m : Nat) (H : Nat → Prop) (e : Nat) (f : Nat → Nat) (k : Nat) (e' : Ending) (w' : World) : Prop :=
  ∃ v H' base, e' = .returned (.tuple #[v, .nilIface]) ∧ PS W (N + 2 * k) w' p D ct Q n m H' ∧ Stp w H w' H' ∧ w.heap.size ≤ base ∧ TabsR w' base H' v e f k
def Look4 (W : World) (N : Nat) (w : World) (p D : Nat) (ct : Nat → ByteArray) (Q : Nat → Prop) (n m : Nat) (H : Nat → Prop) (i e : Nat) (f : Nat → Nat) (e' : Ending) (w' : World) : Prop :=
  ∃ ra cap H', e' = .returned (.tuple #[.agg #[.int .u8 84, .int .u32 (i : Int), .int .u64 (e : Int), .int .i64 4, .slice ra 123 cap], .nilIface]) ∧ PS W N w' p D ct Q n m H' ∧ Stp w H w' H' ∧ ∃ B, w.heap.size < B ∧ B ≤ w'.heap.size ∧ (∀ k, H' k → k < B) ∧ OwnIn B w'.heap.size w' (.slice ra 123 cap) 123 ((tbl f i).map rec4)
theorem look4 {W w : World} {N p D n m : Nat} {ct : Nat → ByteArray} {Q H : Nat → Prop} (P : Nat) (h : PS W N w p D ct Q n m H) (c0 : w.cell? ⟨P, 0, none⟩ = some (.pointer (some ⟨p, 0, none⟩))) (q : Nat) (hq : q < n) (i e : Nat) (f : Nat → Nat) (hi : i < 122) (he : e < 4611686018427387904) (hct : ct q = bt (pg4 84 (i : Int) (e : Int) (tbl f i))) (hN : N + 2 < 2305843009213693952) :
    Calls Tryz.prog 44 #[.pointer (some ⟨P, 0, none⟩), .int .i64 q] w (Look4 W (N + 2) w p D ct Q n m H i e f) := by
  have hl : (pg4 84 (i : Int) (e : Int) (tbl f i)).recs.length = 123 := by simp [pg4, tbl_len]
  refine (look_page P h c0 q hq _ (pg4_ok 84 (i : Int) (e : Int) (tbl f i) (by rw [tbl_len]; decide) (by decide) (by decide) (by omega) (by omega) (by omega) (by omega)) hct hN).mono ?_
  rintro e' w' ⟨ra, cap, H', rfl, hps, hst, B, b1, b2, b3, b4⟩
  rw [hl] at b4 ⊢
  exact ⟨ra, cap, H', rfl, hps, hst, B, b1, b2, b3, b4⟩
set_option maxRecDepth 100000 in
theorem info_pg5 : (Tryz.prog.info? 47).map (fun i => (i.zero, i.size, i.bytes)) = some (some zpv, 5, 48) := by kernel_rfl
set_option maxRecDepth 100000 in
set_option maxHeartbeats 4000000 in
theorem tablesOf_any {W w : World} {N p D n m : Nat} {ct : Nat → ByteArray} {Q H : Nat → Prop} (P : Nat) (h : PS W N w p D ct Q n m H) (c0 : w.cell? ⟨P, 0, none⟩ = some (.pointer (some ⟨p, 0, none⟩))) (hPH : ¬ H P) (ki nu ep si : Int) (ra : Option Addr) (k0 cap : Nat) (tb : List Nat) (hk : tb.length = k0) (hr : Sm.Recs w ra (tb.map rec4)) (h122 : k0 ≤ 122) (hx : ∀ x ∈ tb, x < n) (hn : n ≤ 16384) (e : Nat) (he : e < 4611686018427387904) (f : Nat → Nat) (htt : ∀ i (h : i < tb.length), ct tb[i] = bt (pg4 84 (i : Int) (e : Int) (tbl f i))) (hN : N + 1000 < 2305843009213693952) :
    Calls Tryz.prog 48 #[.pointer (some ⟨P, 0, none⟩), .agg #[.int .u8 ki, .int .u32 nu, .int .u64 ep, .int .i64 si, .slice ra k0 cap]] w (TabsE W N w p D ct Q n m H e f k0) := by
  have HB := Lib.hid (Sm.alX w (.cells #[.int .u8 ki, .int .u32 nu, .int .u64 ep, .int .i64 si, .slice ra k0 cap] 47))
  have HS := Lib.hid (h.below HB.out)
  have HR := Lib.hid (hr.below HB.out)
  have HK := Lib.hid hk
  have HX := Lib.hid hx
  have HTT := Lib.hid htt
  have HPH := Lib.hid hPH
  have HC0 := Lib.hid ((HB.out.cell (p := ⟨P, 0, none⟩) (World.block_lt_of_cell? w _ c0)).trans c0)
  have HHL := Lib.hid (fun b (q : H b) => (h.lt b q).2)
  obtain ⟨i0, hi, hz0, hz1, hz2⟩ := info_parts info_pg5
  have HI := Lib.hid hi
  have HI0 := Lib.hid hz0
  have HI1 := Lib.hid hz1
  have HI2 := Lib.hid hz2
  clear h hr hk hx htt hPH c0 hi hz0 hz1 hz2
  go_enter Tryz.func48, Tryz.ntmps48
  go_wp2_with fail
  refine (told_any ki nu ep si ra k0 cap tb _ HK.out HR.out (fun x hx => by have := HX.out x hx; omega) (by omega)).mono ?_
  intro e' w1 hlo
  obtain ⟨ao, ac, rfl, hxi, _, hb1, hao⟩ := low_blk hlo
  rw [HK.out]
  have HS1 := Lib.hid (HS.out.below hb1)
  have HX1 := Lib.hid hxi
  have HB1 := Lib.hid (HB.out.trans (hb1.mono HB.out.size))
  have HC1 := Lib.hid ((hb1.cell (p := ⟨P, 0, none⟩) (World.block_lt_of_cell? _ _ HC0.out)).trans HC0.out)
  have HAO := Lib.hid (show ∀ b o, ao = some ⟨b, o, none⟩ → ¬ H b from fun b o e q => by have := (hao b o e).1; have := HHL.out b q; have := HB.out.size; omega)
  clear hlo hxi hb1 hao
  go_wp2
  go_loopw [6, 8, 9, 10, 14] (fun v _ _ _ i wr => ∃ (k : Nat) (H' : Nat → Prop), k ≤ k0 ∧ i = .int .i64 k ∧ Hid (ToRel W N w1 wr p D ct Q n m H e f k v H')) (fun _ _ _ _ i _ => k0 - (intOf i).toNat)
  case atStart => exact ⟨0, H, by omega, rfl, Lib.hid ⟨HS1.out, Stp.refl _ _, fun _ => (none, 0), World.ownsRow_nil _ _ _ _, fun b q => (by simp [Value.ownBlock] at q), fun i hi => absurd hi (by omega)⟩⟩
  case round =>
    obtain ⟨k, H1, hk, rfl, HR1⟩ := hrel
    have j0 : (0 : Int) ≤ (k : Int) := by omega
    by_cases hlt : k < k0
    · obtain ⟨b, off, rfl, hc⟩ := (ints_stp HX1.out HR1.out.st HAO.out) k (by rw [zl_len, HK.out]; exact hlt)
      have HKT := Lib.hid (show k < tb.length by rw [HK.out]; exact hlt)
      rw [show (zl tb)[k]'(by rw [zl_len]; exact HKT.out) = ((tb[k]'HKT.out : Nat) : Int) by simp [zl]] at hc
      have HQ := Lib.hid (HX.out (tb[k]'HKT.out) (List.getElem_mem _))
      have HCT := Lib.hid (HTT.out k HKT.out)
      generalize (tb[k]'HKT.out) = q at hc HQ HCT
      have j1 : (k : Int) < (k0 : Int) := by omega
      have HC := Lib.hid (HR1.out.st.cell HC1.out HPH.out)
      go_wp2_with fail
      refine (look4 P HR1.out.ps HC.out q HQ.out k e f (by omega) he HCT.out (by omega)).mono ?_
      rintro e' w2 ⟨rx, cx, H2, rfl, hps, hst, B, b1, b2, b3, b4⟩
      have HP2 := Lib.hid hps
      have HT2 := Lib.hid hst
      have HOW := Lib.hid b4
      have HBB := Lib.hid (And.intro b1 (And.intro b2 b3))
      clear hps hst b1 b2 b3 b4 hc
      go_upto_region 8 with (go_at_call 45; refine (is_nil 7 _).mono ?_; rintro e' w' ⟨rfl, rfl⟩)
      have HB3 := Lib.hid (Sm.alX w2 (.cells #[.int .u8 84, .int .u32 (k : Int), .int .u64 (e : Int), .int .i64 4, .slice rx 123 cx] 47))
      have x0 := (box_new w2 84 (k : Int) (e : Int) 4 (.slice rx 123 cx)).f0
      have x1 := (box_new w2 84 (k : Int) (e : Int) 4 (.slice rx 123 cx)).f1
      have x2 := (box_new w2 84 (k : Int) (e : Int) 4 (.slice rx 123 cx)).f2
      have x3 := (box_new w2 84 (k : Int) (e : Int) 4 (.slice rx 123 cx)).f3
      have x4 := (box_new w2 84 (k : Int) (e : Int) 4 (.slice rx 123 cx)).f4
      generalize w2.alloc _ = w3 at HB3 x0 x1 x2 x3 x4 ⊢
      obtain ⟨g, hg1, hg2, hg3⟩ := HR1.out.tr
      have HG3 := Lib.hid hg3
      have HG2 := Lib.hid hg2
      have HVL := Lib.hid hg1.lt
      have HB4 := Lib.hid (Sm.alX w3 (.cells #[.int .u8 84, .int .u32 (k : Int), .int .u64 (e : Int), .int .i64 4, .slice rx 123 cx] 47))
      have HW1 := Lib.hid (own_of_block hg1 (w' := w3.alloc (.cells #[.int .u8 84, .int .u32 (k : Int), .int .u64 (e : Int), .int .i64 4, .slice rx 123 cx] 47)) (fun b hb => by
        have l := (HVL.out b hb).2
        have l2 := HT2.out.size
        have l3 := HB3.out.size
        exact (HB4.out.block b (by omega)).trans ((HB3.out.block b (by omega)).trans (HT2.out.block b l (HG2.out b hb)))))
      clear hg1 hg2 hg3
      go_wp2_with (at_builtin; refine wpList_append_own_at _ rfl (.tmp 28) (.tmp 30) 108 rfl w1.heap.size 47 i0 zpv 5 48 Tryz.underlying108 HI.out HI0.out HI1.out HI2.out rfl (by decide) _ k (cellsF e g k) rfl HW1.out ⟨w3.heap.size, 0, none⟩ 1 1 [.int .u8 84, .int .u32 (k : Int), .int .u64 (e : Int), .int .i64 4, .slice rx 123 cx] rfl rfl (row5_cells _ _ _ _ _ _ _) (by simp [Value.oneCell']) (by unfold maxLen; omega) (by omega) (by have := HR1.out.st.size; have := HT2.out.size; have := HB3.out.size; have := HB4.out.size; omega) ?_; intro v2 w5 hown hgrow _ hat; have HO5 := Lib.hid hown; have HG5 := Lib.hid hgrow; have HA5 := Lib.hid hat; clear hown hgrow hat)
      go_roundw
      case rel =>
        have s2 := HT2.out.size
        have s3 := HB3.out.size
        have s4 := HB4.out.size
        have s1 := HR1.out.st.size
        have hS4 : Stp w1 H (w3.alloc (.cells #[.int .u8 84, .int .u32 (k : Int), .int .u64 (e : Int), .int .i64 4, .slice rx 123 cx] 47)) H2 := (HR1.out.st.trans HT2.out).trans (.of_below (H := H2) (HB3.out.trans (HB4.out.mono s3)))
        have hP4 := (HP2.out.below HB3.out).below HB4.out
        obtain ⟨b1, b2, b3⟩ := HBB.out
        have hWw := HS1.out.b.size
        generalize w3.alloc _ = w4 at HB4 s4 hS4 hP4 HG5 HA5
        have hvH : ∀ b, Value.ownBlock _ = some b → ¬ H2 b := fun b hb => nh_stp HT2.out (HVL.out b hb).2 (HG2.out b hb)
        refine ⟨k + 1, H2, by omega, by go_num, Lib.hid ⟨(hP4.mono (M := N + 2 * (k + 1)) (by omega)).stp (stp_own HG5.out) (fun b hb q => hvH b q hb) (fun b q => by have := (HVL.out b q).1; omega), stp_grown hS4 HG5.out (fun b q => (HVL.out b q).1), fun j => if j = k then (rx, cx) else g j, ?_, ?_, ?_⟩⟩
        · show World.ownsRow _ _ _ _ _ _ (cellsF e (fun j => if j = k then (rx, cx) else g j) k ++ _)
          rw [cellsF_upd e g (rx, cx) k k (Nat.le_refl k)]
          simp only [if_true]
          exact HO5.out
        · intro b hb
          rcases HA5.out with q | q
          · exact hvH b (q ▸ hb)
          · rw [q] at hb
            intro hh
            have h1 := (HP2.out.lt b hh).2
            have h2 : w4.heap.size = b := Option.some.inj hb
            omega
        · intro i hi
          by_cases hik : i = k
          · subst hik
            simp only [if_true]
            refine ⟨B, w2.heap.size, HOW.out.step fun j a1 a2 => ?_, by have := HG5.out.size; omega, fun j a1 a2 q => ?_⟩
            · exact (HG5.out.block j (by omega) (fun q => by have := (HVL.out j q.symm).2; omega)).trans ((HB4.out.block j (by omega)).trans (HB3.out.block j a2))
            · rcases q with q | q | q
              · have := b3 j q; omega
              · rcases HA5.out with r | r
                · have := (HVL.out j (r ▸ q)).2; omega
                · rw [r] at q
                  have : w4.heap.size = j := Option.some.inj q
                  omega
              · omega
          · simp only [if_neg hik]
            refine (HG3.out i (by omega)).mono (fun j hj hn => ?_) (by have := HG5.out.size; omega) (fun j hj q => ?_)
            · exact (HG5.out.block j (by omega) (fun q => hn (.inr (.inl q.symm)))).trans ((HB4.out.block j (by omega)).trans ((HB3.out.block j (by omega)).trans (HT2.out.block j hj (fun q => hn (.inl q)))))
            · rcases q with q | q | q
              · rcases HT2.out.own j q with q | q
                · exact .inl q
                · omega
              · rcases HA5.out with r | r
                · exact .inr (.inl (r ▸ q))
                · rw [r] at q
                  have : w4.heap.size = j := Option.some.inj q
                  omega
              · exact .inr (.inr q)
      case measure => simp [intOf]; omega
    · have hkk : k = k0 := by omega
      subst hkk
      go_wp2
      go_ret2
      exact ⟨_, H1, w1.heap.size, rfl, HR1.out.ps, (Stp.of_below (H := H) HB1.out).trans HR1.out.st, HB1.out.size, HR1.out.tr⟩
/-! a table's page among them -/
theorem cellsF_len (e : Nat) (g : Nat → Option Addr × Nat) : ∀ k, (cellsF e g k).length = k * 5
  | 0 => rfl
  | k + 1 => by
    show (cellsF e g k ++ _).length = _
    rw [List.length_append, cellsF_len e g k]
    show k * 5 + 5 = (k + 1) * 5
    omega
theorem cellsF_at (e : Nat) (g : Nat → Option Addr × Nat) (i : Nat) : ∀ k, i < k → ∀ j, j < 5 → (cellsF e g k)[i * 5 + j]? = [Value.int .u8 84, .int .u32 (i : Int), .int .u64 (e : Int), .int .i64 4, .slice (g i).1 123 (g i).2][j]?
  | 0, h, _, _ => absurd h (by omega)
  | k + 1, h, j, hj => by
    show (cellsF e g k ++ [Value.int .u8 84, .int .u32 (k : Int), .int .u64 (e : Int), .int .i64 4, .slice (g k).1 123 (g k).2])[i * 5 + j]? = _
    by_cases hik : i = k
    · subst hik
      rw [List.getElem?_append_right (by rw [cellsF_len]; omega), cellsF_len, Nat.add_sub_cancel_left]
    · rw [List.getElem?_append_left (by rw [cellsF_len]; omega)]
      exact cellsF_at e g i k (by omega) j hj
theorem tabs_page {w : World} {base : Nat} {H : Nat → Prop} {v : Value} {e : Nat} {f : Nat → Nat} {k : Nat} (h : TabsR w base H v e f k) (i : Nat) (hi : i < k) :
    ∃ bv cap ra rc, v = .slice (some ⟨bv, 0, none⟩) k cap ∧ k ≤ cap ∧ base ≤ bv ∧ Box0 w bv (i * 5) 84 (i : Int) (e : Int) 4 (.slice ra 123 rc) ∧ Safe w (fun b => H b ∨ b = bv ∨ b < base) (.slice ra 123 rc) 123 ((tbl f i).map rec4) := by
  obtain ⟨g, h1, _, h3⟩ := h
  have hs := h3 i hi
  rcases h1.2 with ⟨_, h0⟩ | ⟨bv, cap, cur, rfl, hb, hg, hc, _, hcs, ht⟩
  · omega
  · have hcell : ∀ j, j < 5 → w.cell? ⟨bv, i * 5 + j, none⟩ = [Value.int .u8 84, .int .u32 (i : Int), .int .u64 (e : Int), .int .i64 4, .slice (g i).1 123 (g i).2][j]? := fun j hj => by
      rw [cell_of_row _ _ _ _ _ _ hg, ← cellsF_at e g i k hi j hj, ← ht, List.getElem?_take_of_lt (by omega), Array.getElem?_toList]
    refine ⟨bv, cap, (g i).1, (g i).2, rfl, hc, hb, ⟨hcell 0 (by omega), hcell 1 (by omega), hcell 2 (by omega), hcell 3 (by omega), hcell 4 (by omega)⟩, hs.mono (fun _ _ _ => rfl) (Nat.le_refl _) (fun j _ q => ?_)⟩
    rcases q with q | q | q
    · exact .inl q
    · exact .inr (.inl (by rw [q]; rfl))
    · exact .inr (.inr q)
end Go.Proofs.YtokikeenfpligaaGreatDoor.Sh

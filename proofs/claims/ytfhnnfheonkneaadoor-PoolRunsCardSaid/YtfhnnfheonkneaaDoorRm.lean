/-
  THE DOCUMENT's New. Conditions: the disk lies in memory, the number is small.
-/
import Derived.Test.YtfhnnfheonkneaaDoorRi
namespace Go.Proofs.YtfhnnfheonkneaaDoor
open Go.RowKit Go.Maps

def pz (r : Ref) (v : Value) : Array Value := #[.slice (some ⟨r.nb, 0, none⟩) r.n r.nc, .slice (some ⟨r.sb, 0, none⟩) r.n r.sc, .slice r.pa r.pend.length r.pc, .int .i64 r.writes, .int .i64 r.left, v, .int .i64 0, .int .i64 0]
theorem st_newp {ops : Array Oper} {rest : List Oper} {o : Oper} {a : Act} {w : World} {Q : Exit → Act → World → Prop} (hgd : o.guard = none) (x y : Operand) (ho : o.op = .store 38 x y) {w1 : World} {cs old : Array Value} (hw : w = w1.alloc (.cells old 38)) (h8 : old.size = 8) (h9 : cs.size = 8) (h1 : cs.all (·.oneCell') = true) (hx : a.eval x = .pointer (some ⟨w1.heap.size, 0, none⟩)) (hy : a.eval y = .agg cs)
    (h : ∀ w', Below w1.heap.size w1 w' → w'.heap[w1.heap.size]? = some (.cells cs 38 (0, 0)) → w'.heap.size = w1.heap.size + 1 → wpList Tryd.prog ops Q rest (a.put o.dst undef) w') : wpList Tryd.prog ops Q (o :: rest) a w := by
  subst hw
  have hh := heap_alloc_new w1 (.cells old 38)
  exact wpList_store_row hgd _ x y ho w1.heap.size cs hx hy _ old hh (by rw [info_rp, h9]) (h8.trans h9.symm) h1 (h _ ((Ony.row _ w1.heap.size cs).below ((Below.refl _ _).alloc (Nat.le_refl _) _) (Nat.le_refl _)) (setRow_heap _ _ _ _ _ _ hh) (by simp))
theorem pz_one (r : Ref) : (pz r (.slice none 0 0)).all (·.oneCell') = true := by simp [pz, Value.oneCell']
theorem one_fr (w : World) (f : Fr) (T : TypeId) : ∀ j u, (gl f)[j]? = some u → (w.alloc (.cells (gcs f) T)).cell? ((⟨w.heap.size, 0, none⟩ : Addr).add j) = some u := by
  intro j u hj
  rw [Addr.add_mid, cell_of_row _ _ _ _ _ _ (heap_alloc_new w _), Nat.zero_add]
  have : (gcs f)[j]? = (gl f)[j]? := by
    show (gl f).toArray[j]? = _
    simp
  rw [this]
  exact hj
theorem fsl_next (f : Fr) (k : Nat) : fsl (fun _ => f) k ++ gl f = fsl (fun _ => f) (k + 1) := by
  have h5 : (k + 1) * 5 = k * 5 + 5 := by omega
  unfold fsl
  rw [h5, List.range_add, List.map_append]
  congr 1
  rw [List.map_map]
  show gl f = List.map _ [0, 1, 2, 3, 4]
  have hm : ∀ j, j < 5 → (k * 5 + j) % 5 = j := fun j hj => by omega
  simp only [List.map_cons, List.map_nil, Function.comp, gvf, hm 0 (by omega), hm 1 (by omega), hm 2 (by omega), hm 3 (by omega), hm 4 (by omega)]
  rfl
theorem own_sl5 {w : World} {B n : Nat} {v : Value} {xs : List Value} (h : w.ownsRow B 67 5 v n xs) : ∃ ao cap, v = .slice ao n cap := by
  rcases h.2 with ⟨rfl, rfl⟩ | ⟨g, cap, cur, rfl, _⟩
  · exact ⟨none, 0, rfl⟩
  · exact ⟨_, cap, rfl⟩
structure NewS (w wr : World) (r : Ref) (k : Nat) (v : Value) : Prop where
  b : Below w.heap.size w wr
  p : wr.heap[w.heap.size + 2]? = some (.cells (pz r v) 38 (0, 0))
  z : wr.heap[w.heap.size + 1]? = some (.cells zcs 38 (0, 0))
  o : wr.ownsRow (w.heap.size + 3) 67 5 v k (fsl (fun _ => Fr.new (-1)) k)
  s : w.heap.size + 3 ≤ wr.heap.size
theorem setc {w : World} {g : Nat} {cs cs' : Array Value} {T : TypeId} (h : w.heap[g]? = some (.cells cs T (0, 0))) (j : Nat) (v : Value) (e : cs.setIfInBounds j v = cs') : (w.setCell ⟨g, j, none⟩ v).heap[g]? = some (.cells cs' T (0, 0)) := by
  subst e
  show (w.heap.modify g _)[g]? = _
  rw [Array.getElem?_modify, if_pos rfl, h]
  rfl
theorem new_next {w wr w2 : World} {r : Ref} {k : Nat} {v v2 : Value} (h : NewS w wr r k v) (ho : w2.ownsRow (w.heap.size + 3) 67 5 v2 (k + 1) (fsl (fun _ => Fr.new (-1)) k ++ gl (Fr.new (-1)))) (hg : (wr.alloc (.cells (gcs (Fr.new (-1))) 67)).grownBy w2 v.ownBlock) :
    NewS w (w2.setCell ⟨w.heap.size + 2, 5, none⟩ v2) r (k + 1) v2 ∧ w2.cell? ⟨w.heap.size + 2, 5, none⟩ = some v ∧ w2.frozen? ⟨w.heap.size + 2, 5, none⟩ = false := by
  have hs := h.s
  have hb : Below (w.heap.size + 3) (wr.alloc (.cells (gcs (Fr.new (-1))) 67)) w2 := (Below.refl _ _).grown hg (by simp; omega) (fun j hj => (h.o.lt j hj).1)
  have hb2 : Below w.heap.size w w2 := (h.b.alloc (by omega) _).trans (hb.mono (by omega))
  have hp2 : w2.heap[w.heap.size + 2]? = some (.cells (pz r v) 38 (0, 0)) := (hb.block _ (by omega)).trans ((heap_alloc_old _ _ (by omega)).trans h.p)
  have hz2 : w2.heap[w.heap.size + 1]? = some (.cells zcs 38 (0, 0)) := (hb.block _ (by omega)).trans ((heap_alloc_old _ _ (by omega)).trans h.z)
  have hsz : w.heap.size + 3 ≤ w2.heap.size := by have := hb.size; simp at this; omega
  refine ⟨⟨hb2.setCell (by show w.heap.size ≤ w.heap.size + 2; omega) _, setc hp2 5 v2 rfl, ?_, ?_, by simpa using hsz⟩, by rw [cell_of_row _ _ _ _ _ _ hp2]; rfl, frozen_of_row _ _ _ _ _ hp2⟩
  · rw [Below.heap_setCell _ _ _ _ (by show w.heap.size + 1 ≠ w.heap.size + 2; omega)]
    exact hz2
  · rw [fsl_next] at ho
    refine ⟨ho.1, ?_⟩
    rcases ho.2 with q | ⟨g, cap, cur, e, hB, hgg, hr⟩
    · exact .inl q
    · exact .inr ⟨g, cap, cur, e, hB, (Below.heap_setCell _ _ _ _ (by show g ≠ w.heap.size + 2; omega)).trans hgg, hr⟩
set_option maxRecDepth 100000 in
set_option maxHeartbeats 1600000 in
theorem rnew_any (r : Ref) (d : Dk) (n : Nat) (w : World) (h : RefOk w r) (t : RTie r d) (pd : PendOk d) (h1 : 1 ≤ n) (h2 : n ≤ 1024) :
    Calls Tryd.prog 6 #[.agg #[.slice (some ⟨r.nb, 0, none⟩) r.n r.nc, .slice (some ⟨r.sb, 0, none⟩) r.n r.sc, .slice r.pa r.pend.length r.pc, .int .i64 r.writes, .int .i64 r.left], .int .i64 (n : Int)] w fun e w' => ∃ ρ : Rp, e = .returned (.agg ρ.cs) ∧ ρ.X = Px.fresh d n ∧ ρ.r = r ∧ ρ.Ok w' ∧ w.heap.size ≤ ρ.L ∧ Below w.heap.size w w' := by
  obtain ⟨ie, hi, hz0, hz1, hz2⟩ := info_parts info_rf3
  have HI := Lib.hid hi
  have HZ0 := Lib.hid hz0
  have HZ1 := Lib.hid hz1
  have HZ2 := Lib.hid hz2
  have HH := Lib.hid h
  have HT := Lib.hid t
  have HPD := Lib.hid pd
  have n2 : (n : Int) ≤ 1024 := by omega
  have HB1 := Lib.hid (show Below w.heap.size w ((w.alloc (.cells (dcs r) 35)).alloc (.cells zcs 38)) from ((Below.refl _ _).alloc (Nat.le_refl _) _).alloc (by simp) _)
  have HD1 := Lib.hid (heap_alloc2_old w (.cells (dcs r) 35) (.cells zcs 38))
  have HZ1' := Lib.hid (heap_alloc2_new w (.cells (dcs r) 35) (.cells zcs 38))
  have hs1 : ((w.alloc (.cells (dcs r) 35)).alloc (.cells zcs 38)).heap.size = w.heap.size + 2 := by simp
  clear hi hz0 hz1 hz2 h t pd
  go_enter Tryd.func6, Tryd.ntmps6
  go_upto_region 1 with (fail)
  change Code.wp _ _ _ _ ((w.alloc (.cells (dcs r) 35)).alloc (.cells zcs 38))
  generalize (w.alloc (.cells (dcs r) 35)).alloc (.cells zcs 38) = w1 at HB1 HD1 HZ1' hs1 ⊢
  have HS1 := Lib.hid hs1
  have c0 : w1.cell? ⟨w.heap.size, 0, none⟩ = some (.slice (some ⟨r.nb, 0, none⟩) r.n r.nc) := cell_of_row _ _ _ _ _ _ HD1.out
  have c1 : w1.cell? ⟨w.heap.size, 1, none⟩ = some (.slice (some ⟨r.sb, 0, none⟩) r.n r.sc) := cell_of_row _ _ _ _ _ _ HD1.out
  have c2 : w1.cell? ⟨w.heap.size, 2, none⟩ = some (.slice r.pa r.pend.length r.pc) := cell_of_row _ _ _ _ _ _ HD1.out
  have c3 : w1.cell? ⟨w.heap.size, 3, none⟩ = some (.int .i64 r.writes) := cell_of_row _ _ _ _ _ _ HD1.out
  have c4 : w1.cell? ⟨w.heap.size, 4, none⟩ = some (.int .i64 r.left) := cell_of_row _ _ _ _ _ _ HD1.out
  clear hs1
  go_upto_region 2 with (refine st_newp (w1 := w1) (cs := pz r (.slice none 0 0)) rfl _ _ rfl rfl rfl rfl (pz_one r) rfl rfl ?_; intro w2 hb2 hp2 hs2; have HB2 := Lib.hid hb2; have HP2 := Lib.hid hp2; have HS2 := Lib.hid hs2; clear hb2 hp2 hs2)
  have e2 : w1.heap.size = w.heap.size + 2 := HS1.out
  have HN0 := Lib.hid (show NewS w w2 r 0 (.slice none 0 0) from ⟨HB1.out.trans (HB2.out.mono HB1.out.size), by rw [← e2]; exact HP2.out, (HB2.out.block _ (by omega)).trans HZ1'.out, World.ownsRow_nil _ _ _ _, by rw [HS2.out]; omega⟩)
  rw [e2]
  clear c0 c1 c2 c3 c4 e2 HB2 HP2 HS2 HS1 HB1 HD1 HZ1'
  go_wp2
  go_loopw [6] (fun x wr => ∃ (k : Nat) (v : Value), k ≤ n ∧ x = .int .i64 (k : Int) ∧ Hid (NewS w wr r k v)) (fun x _ => n - (intOf x).toNat)
  case atStart => exact ⟨0, _, by omega, rfl, HN0⟩
  case round =>
    obtain ⟨k, v, hk, rfl, S⟩ := hrel
    by_cases hlt : k < n
    · have k1 : (k : Int) < (n : Int) := by omega
      have c5 : wr.cell? ⟨w.heap.size + 2, 5, none⟩ = some v := cell_of_row _ _ _ _ _ _ S.out.p
      go_wp2_with (first | (at_builtin; refine wpList_append_own _ rfl (.tmp 15) (.tmp 17) 36 rfl (w.heap.size + 3) 67 ie _ 5 40 Tryd.underlying36 HI.out HZ0.out HZ1.out HZ2.out rfl (by decide) v k (fsl (fun _ => Fr.new (-1)) k) rfl (S.out.o.alloc _) ⟨wr.heap.size, 0, none⟩ 1 1 (gl (Fr.new (-1))) rfl rfl (one_fr wr (Fr.new (-1)) 67) (gl_one _) (by unfold maxLen; omega) (by omega) (by have := S.out.s; simp; omega) ?_; intro v2 w2 hown hgrow _; obtain ⟨ao, cap, rfl⟩ := own_sl5 hown; have hnx := new_next S.out hown hgrow; have d5 := hnx.2.1; have f5 := hnx.2.2; have HN2 := Lib.hid hnx.1; clear hown hgrow hnx))
      go_roundw
      case rel => exact ⟨k + 1, _, by omega, by go_num, HN2⟩
      case measure => simp [intOf]; omega
    · obtain rfl : k = n := by omega
      have ho := S.out.o
      have hs := S.out.s
      rcases ho.2 with ⟨_, e⟩ | ⟨g, cap, cur, rfl, hB, hg, hnc, hcm, hcs, ht⟩
      · omega
      unfold maxLen at hcm
      have HG := Lib.hid hg
      have HC := Lib.hid hcs
      have HTK := Lib.hid ht
      have hrow : FRow wr g k (fun _ => Fr.new (-1)) := by
        refine ⟨fun j hj q v hv => ?_, (Array.getElem?_eq_some_iff.1 hg).1⟩
        have hq : q < 5 := (List.getElem?_eq_some_iff.1 hv).1
        rw [cell_of_row _ _ _ _ _ _ hg, ← Array.getElem?_toList]
        have h1 := fsl_at (fun _ => Fr.new (-1)) (k := j) (j := q) (m := k) hj hq
        rw [← ht, List.getElem?_take, if_pos (by omega)] at h1
        rw [h1]
        exact hv
      have hok : (Rp.mk r g cap (Px.fresh d k)).Ok wr := ⟨HH.out.below S.out.b, ⟨HT.out.n, HT.out.cur, HT.out.pend, HT.out.writes, HT.out.left⟩, hrow, ⟨hnc, by show cap ≤ _; omega⟩, ⟨h1, h2⟩, HPD.out⟩
      clear hrow
      have hn : ∀ b, (Rp.mk r g cap (Px.fresh d k)).blk b → b ≠ w.heap.size + 1 := fun b hb e => by
        subst e
        rcases hb with e | e | e | ⟨hp, off, ha⟩
        · have := HH.out.lt.1; change _ = r.nb at e; omega
        · have := HH.out.lt.2; change _ = r.sb at e; omega
        · change _ = g at e; omega
        · obtain ⟨b', off', ha', hc⟩ := HH.out.p 0 (by rw [List.length_map]; exact List.length_pos_iff.2 hp)
          have ha2 : r.pa = some ⟨w.heap.size + 1, off, none⟩ := ha
          rw [ha2] at ha'
          obtain ⟨rfl, rfl⟩ : w.heap.size + 1 = b' ∧ off = off' := by simpa using ha'
          have := World.block_lt_of_cell? w _ hc
          change w.heap.size + 1 < w.heap.size at this
          omega
      have HOK := Lib.hid hok
      have HP := Lib.hid (show Box w wr (w.heap.size + 2) (Rp.mk r g cap (Px.fresh d k)) 38 (Rp.mk r g cap (Px.fresh d k)).cs from ⟨S.out.p, by omega, fun e => by
        rcases e with e | e | e | ⟨hp, off, ha⟩
        · have := HH.out.lt.1; change _ = r.nb at e; omega
        · have := HH.out.lt.2; change _ = r.sb at e; omega
        · change _ = g at e; omega
        · obtain ⟨b', off', ha', hc⟩ := HH.out.p 0 (by rw [List.length_map]; exact List.length_pos_iff.2 hp)
          have ha2 : r.pa = some ⟨w.heap.size + 2, off, none⟩ := ha
          rw [ha2] at ha'
          obtain ⟨rfl, rfl⟩ : w.heap.size + 2 = b' ∧ off = off' := by simpa using ha'
          have := World.block_lt_of_cell? w _ hc
          change w.heap.size + 2 < w.heap.size at this
          omega⟩)
      have HZ := Lib.hid (show Box w wr (w.heap.size + 1) (Rp.mk r g cap (Px.fresh d k)) 38 zcs from ⟨S.out.z, by omega, fun e => hn _ e rfl⟩)
      have HB := Lib.hid S.out.b
      have hgl : w.heap.size ≤ g := by omega
      clear ho hg hcs ht hok hn
      go_wp2_with (first | (refine ld_pool rfl _ rfl HP.out rfl ?_) | (refine st_pool rfl _ _ rfl HZ.out rfl rfl rfl ?_; intro w7 ho7 hz7; have HO7 := Lib.hid ho7; have HZ7 := Lib.hid hz7; clear ho7 hz7))
      refine post_pool rfl HZ7.out rfl rfl ?_
      exact ⟨_, rfl, rfl, rfl, HOK.out.moved (by rw [HO7.out.size]; exact Nat.le_refl _) (fun b hb => HO7.out.block b (fun e => HZ7.out.off (e ▸ hb))), hgl, HO7.out.below HB.out (by omega)⟩
end Go.Proofs.YtfhnnfheonkneaaDoor

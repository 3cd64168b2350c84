/-
  FOUR TILES' SQUARES, and the square of them; a store beside a block of one's own. No condition but those that each lemma names.
-/
import Derived.Test.YtifkhmcdgmnipaaDoorP47
namespace Go.Proofs.YtifkhmcdgmnipaaDoor
open Go.RowKit Ti Qd Go.Maps Go.WideMaps

theorem leaf_lit {B : Nat} {w : World} {P : Nat} {L : List Sq} {room : Nat} {H : Nat → Prop} (h : St B w P L room H) (t : T6) (k : Int) (e : rg t = k) (hr : (put L (leafQ t)).length ≤ room) :
    Calls Tryd.prog 14 #[.pointer (some ⟨P, 0, none⟩), .int .u64 k] w fun e w' => e = .returned (.tuple #[.int .i64 (nr L (leafQ t)), .nilIface]) ∧ Goes B w P room H (put L (leafQ t)) w' := by
  subst e
  exact leaf_ok h t hr
theorem new_put {L : List Sq} {q : Sq} (h : ¬ q ∈ L) : put L q = L ++ [q] ∧ nr L q = L.length + 1 := ⟨if_neg h, nr_new h⟩
/-- a store, made behind W0, and all that lies ahead of it -/
def Qs (B : Nat) (W0 : World) (P : Nat) (L : List Sq) (room : Nat) (W : World) (H : Nat → Prop) : Prop := St B W P L room H ∧ Below B W0 W
theorem Qs.goes {B : Nat} {W0 W W' : World} {P : Nat} {L L' : List Sq} {room : Nat} {H : Nat → Prop} (h : Qs B W0 P L room W H) (g : Goes B W P room H L' W') (hB : B ≤ W.heap.size) : ∃ H', Qs B W0 P L' room W' H' ∧ Stp W H W' H' := by
  obtain ⟨H', k1, k2⟩ := g
  exact ⟨H', ⟨k1, h.2.trans (k2.below (fun b hb => (h.1.lt b hb).1) hB)⟩, k2⟩
/-- four tiles' squares, one by one -/
def fo (t0 t1 t2 t3 : T6) : Nat → List Sq
  | 0 => []
  | 1 => put [] (leafQ t0)
  | 2 => put (put [] (leafQ t0)) (leafQ t1)
  | 3 => put (put (put [] (leafQ t0)) (leafQ t1)) (leafQ t2)
  | _ => put (put (put (put [] (leafQ t0)) (leafQ t1)) (leafQ t2)) (leafQ t3)
def foT (t0 t1 t2 t3 : T6) (k : Nat) : T6 := if k = 0 then t0 else if k = 1 then t1 else if k = 2 then t2 else t3
def foN (t0 t1 t2 t3 : T6) (k : Nat) : Int := nr (fo t0 t1 t2 t3 k) (leafQ (foT t0 t1 t2 t3 k))
theorem fo_succ (t0 t1 t2 t3 : T6) (k : Nat) (h : k < 4) : fo t0 t1 t2 t3 (k + 1) = put (fo t0 t1 t2 t3 k) (leafQ (foT t0 t1 t2 t3 k)) := by
  match k, h with
  | 0, _ => rfl
  | 1, _ => rfl
  | 2, _ => rfl
  | 3, _ => rfl
theorem fo_ext (t0 t1 t2 t3 : T6) : ∀ k m, k + m ≤ 4 → fo t0 t1 t2 t3 k <+: fo t0 t1 t2 t3 (k + m)
  | _, 0, _ => List.prefix_rfl
  | k, m + 1, h => (fo_ext t0 t1 t2 t3 k m (by omega)).trans (by rw [← Nat.add_assoc, fo_succ _ _ _ _ _ (by omega)]; exact put_ext _ _)
theorem fo_inv (t0 t1 t2 t3 : T6) : ∀ k, k ≤ 4 → Inv (fo t0 t1 t2 t3 k)
  | 0, _ => inv_nil
  | k + 1, h => by rw [fo_succ _ _ _ _ _ (by omega)]; exact (fo_inv t0 t1 t2 t3 k (by omega)).leaf _
theorem fo_len (t0 t1 t2 t3 : T6) : ∀ k, k ≤ 4 → (fo t0 t1 t2 t3 k).length ≤ k
  | 0, _ => Nat.le_refl _
  | k + 1, h => by
    rw [fo_succ _ _ _ _ _ (by omega)]
    have := (put_len (fo t0 t1 t2 t3 k) (leafQ (foT t0 t1 t2 t3 k))).2
    have := fo_len t0 t1 t2 t3 k (by omega)
    omega
theorem fo_at (t0 t1 t2 t3 : T6) (k : Nat) (h : k < 4) : Ok (fo t0 t1 t2 t3 4) (foN t0 t1 t2 t3 k) ∧ at' (fo t0 t1 t2 t3 4) (foN t0 t1 t2 t3 k) = leafQ (foT t0 t1 t2 t3 k) := by
  have e := fo_ext t0 t1 t2 t3 (k + 1) (4 - (k + 1)) (by omega)
  rw [show k + 1 + (4 - (k + 1)) = 4 by omega, fo_succ _ _ _ _ _ h] at e
  exact ⟨(put_ok _ _).ext e, (at_ext e (put_ok _ _)).trans (put_at _ _)⟩
/-- the square of the four -/
def foQ (t0 t1 t2 t3 : T6) : Sq := joinQ (fo t0 t1 t2 t3 4) (foN t0 t1 t2 t3 0) (foN t0 t1 t2 t3 1) (foN t0 t1 t2 t3 2) (foN t0 t1 t2 t3 3)
theorem fo_four (t0 t1 t2 t3 : T6) : Four (fo t0 t1 t2 t3 4) (foN t0 t1 t2 t3 0) (foN t0 t1 t2 t3 1) (foN t0 t1 t2 t3 2) (foN t0 t1 t2 t3 3) 3 :=
  ⟨(fo_at t0 t1 t2 t3 0 (by decide)).1, (fo_at t0 t1 t2 t3 1 (by decide)).1, (fo_at t0 t1 t2 t3 2 (by decide)).1, (fo_at t0 t1 t2 t3 3 (by decide)).1,
    by rw [(fo_at t0 t1 t2 t3 0 (by decide)).2]; rfl, by rw [(fo_at t0 t1 t2 t3 1 (by decide)).2]; rfl, by rw [(fo_at t0 t1 t2 t3 2 (by decide)).2]; rfl, by rw [(fo_at t0 t1 t2 t3 3 (by decide)).2]; rfl⟩
def foL (t0 t1 t2 t3 : T6) : List Sq := put (fo t0 t1 t2 t3 4) (foQ t0 t1 t2 t3)
def foI (t0 t1 t2 t3 : T6) : Int := nr (fo t0 t1 t2 t3 4) (foQ t0 t1 t2 t3)
theorem foL_inv (t0 t1 t2 t3 : T6) : Inv (foL t0 t1 t2 t3) := (fo_inv t0 t1 t2 t3 4 (by decide)).join (fo_four t0 t1 t2 t3) (by decide) (by decide)
theorem foL_len (t0 t1 t2 t3 : T6) : (foL t0 t1 t2 t3).length ≤ 5 := by
  have := (put_len (fo t0 t1 t2 t3 4) (foQ t0 t1 t2 t3)).2
  have := fo_len t0 t1 t2 t3 4 (by decide)
  unfold foL
  omega
theorem foI_at (t0 t1 t2 t3 : T6) : at' (foL t0 t1 t2 t3) (foI t0 t1 t2 t3) = foQ t0 t1 t2 t3 := put_at _ _
theorem foI_lv (t0 t1 t2 t3 : T6) : Lv (foL t0 t1 t2 t3) 1 (foI t0 t1 t2 t3) := ⟨put_ok _ _, by
  rw [foI_at]
  show (at' (fo t0 t1 t2 t3 4) (foN t0 t1 t2 t3 0)).lev + 1 = _
  rw [(fo_at t0 t1 t2 t3 0 (by decide)).2]
  rfl⟩
/-- the square there, asked again -/
theorem foQ_again (t0 t1 t2 t3 : T6) : joinQ (foL t0 t1 t2 t3) (foN t0 t1 t2 t3 0) (foN t0 t1 t2 t3 1) (foN t0 t1 t2 t3 2) (foN t0 t1 t2 t3 3) = foQ t0 t1 t2 t3 :=
  join_ext (put_ext _ _) (fo_at t0 t1 t2 t3 0 (by decide)).1 (fo_at t0 t1 t2 t3 1 (by decide)).1 (fo_at t0 t1 t2 t3 2 (by decide)).1 (fo_at t0 t1 t2 t3 3 (by decide)).1
theorem put_mem (L : List Sq) (q : Sq) : q ∈ put L q := by
  unfold put
  split
  · assumption
  · simp
theorem put_again (L : List Sq) (q : Sq) : put (put L q) q = put L q ∧ nr (put L q) q = nr L q := by
  refine ⟨if_pos (put_mem L q), ?_⟩
  by_cases h : q ∈ L
  · rw [nr_in h]
  · rw [(new_put h).1, (new_put h).2]
    unfold nr
    rw [List.idxOf_append, if_neg h]
    simp
theorem foL_four (t0 t1 t2 t3 : T6) : Four (foL t0 t1 t2 t3) (foN t0 t1 t2 t3 0) (foN t0 t1 t2 t3 1) (foN t0 t1 t2 t3 2) (foN t0 t1 t2 t3 3) 3 := by
  have h := fo_four t0 t1 t2 t3
  have e : fo t0 t1 t2 t3 4 <+: foL t0 t1 t2 t3 := put_ext _ _
  exact ⟨h.o0.ext e, h.o1.ext e, h.o2.ext e, h.o3.ext e, by rw [at_ext e h.o0]; exact h.l0, by rw [at_ext e h.o1]; exact h.l1, by rw [at_ext e h.o2]; exact h.l2, by rw [at_ext e h.o3]; exact h.l3⟩
theorem fo_cel (t0 t1 t2 t3 : T6) (x y : Nat) (hx : x < 16) (hy : y < 16) : cel (foL t0 t1 t2 t3) 1 (foI t0 t1 t2 t3) x y = (foT t0 t1 t2 t3 (x / 8 + 2 * (y / 8))).getLsbD (8 * (y % 8) + x % 8) := by
  show (at' (foL t0 t1 t2 t3) (kid (at' (foL t0 t1 t2 t3) (foI t0 t1 t2 t3)) (qd 8 x y))).til.getLsbD _ = _
  have hq : qd 8 x y < 4 := by unfold qd; omega
  rw [foI_at, show kid (foQ t0 t1 t2 t3) (qd 8 x y) = foN t0 t1 t2 t3 (qd 8 x y) from kid_join _ (foN t0 t1 t2 t3) _ hq, at_ext (show fo t0 t1 t2 t3 4 <+: foL t0 t1 t2 t3 from put_ext _ _) (fo_at t0 t1 t2 t3 _ hq).1, (fo_at t0 t1 t2 t3 _ hq).2]
  rw [show qd 8 x y = x / 8 + 2 * (y / 8) by unfold qd; omega]
  rfl
def kv (t0 t1 t2 t3 : T6) (k j : Nat) : Int := if j < k then foN t0 t1 t2 t3 j else 0
theorem kv_row {t0 t1 t2 t3 : T6} {w : World} {g k : Nat} {T : TypeId} (hk : k < 4) (h : w.heap[g]? = some (.cells #[.int .i64 (kv t0 t1 t2 t3 k 0), .int .i64 (kv t0 t1 t2 t3 k 1), .int .i64 (kv t0 t1 t2 t3 k 2), .int .i64 (kv t0 t1 t2 t3 k 3)] T (0, 0))) :
    (w.setCell ⟨g, k, none⟩ (.int .i64 (foN t0 t1 t2 t3 k))).heap[g]? = some (.cells #[.int .i64 (kv t0 t1 t2 t3 (k + 1) 0), .int .i64 (kv t0 t1 t2 t3 (k + 1) 1), .int .i64 (kv t0 t1 t2 t3 (k + 1) 2), .int .i64 (kv t0 t1 t2 t3 (k + 1) 3)] T (0, 0)) := by
  rw [heap_setCell_same w g k _ _ _ h]
  match k, hk with
  | 0, _ => rfl
  | 1, _ => rfl
  | 2, _ => rfl
  | 3, _ => rfl
theorem kv_cell {t0 t1 t2 t3 : T6} {w : World} {g k : Nat} {T : TypeId} (hk : k < 4) (h : w.heap[g]? = some (.cells #[.int .i64 (kv t0 t1 t2 t3 k 0), .int .i64 (kv t0 t1 t2 t3 k 1), .int .i64 (kv t0 t1 t2 t3 k 2), .int .i64 (kv t0 t1 t2 t3 k 3)] T (0, 0))) : w.cell? ⟨g, k, none⟩ = some (.int .i64 0) := by
  rw [cell_of_row w g _ _ _ _ h]
  match k, hk with
  | 0, _ => rfl
  | 1, _ => rfl
  | 2, _ => rfl
  | 3, _ => rfl
theorem tl_cell {t0 t1 t2 t3 : T6} {w : World} {g : Nat} {T : TypeId} (h : w.heap[g]? = some (.cells #[.int .u64 (rg t0), .int .u64 (rg t1), .int .u64 (rg t2), .int .u64 (rg t3)] T (0, 0))) (k : Nat) (hk : k < 4) : w.cell? ⟨g, k, none⟩ = some (.int .u64 (rg (foT t0 t1 t2 t3 k))) := by
  rw [cell_of_row w g _ _ _ _ h]
  match k, hk with
  | 0, _ => rfl
  | 1, _ => rfl
  | 2, _ => rfl
  | 3, _ => rfl
/-- a store beside a block of one's own -/
def Qg (B : Nat) (W0 : World) (P : Nat) (L : List Sq) (room g : Nat) (o : Obj) (W : World) : Prop := ∃ H, Qs B W0 P L room W H ∧ ¬ H g ∧ W.heap[g]? = some o ∧ B ≤ W.heap.size
theorem Qg.goes {B : Nat} {W0 W W' : World} {P : Nat} {L L' : List Sq} {room g : Nat} {o : Obj} {H : Nat → Prop} (h : Qs B W0 P L room W H) (hn : ¬ H g) (hg : W.heap[g]? = some o) (hB : B ≤ W.heap.size) (k : Goes B W P room H L' W') : Qg B W0 P L' room g o W' := by
  obtain ⟨H', h1, h2⟩ := h.goes k hB
  exact ⟨H', h1, fun e => by
    rcases h2.own g e with q | q
    · exact hn q
    · have := lt_of_block hg
      omega, (h2.block g (lt_of_block hg) hn).trans hg, Nat.le_trans hB h2.size⟩
theorem Qg.below {B : Nat} {W0 W W' : World} {P : Nat} {L : List Sq} {room g : Nat} {o : Obj} (h : Qg B W0 P L room g o W) (hb : Below W.heap.size W W') : Qg B W0 P L room g o W' := by
  obtain ⟨H, h1, h2, h3, h4⟩ := h
  exact ⟨H, ⟨h1.1.below hb (Nat.le_refl _), h1.2.trans (hb.mono h4)⟩, h2, (hb.block g (lt_of_block h3)).trans h3, Nat.le_trans h4 hb.size⟩
theorem Qg.set {B : Nat} {W0 W : World} {P : Nat} {L : List Sq} {room g i : Nat} {o o' : Obj} {v : Value} (h : Qg B W0 P L room g o W) (hB : B ≤ g) (ho : (W.setCell ⟨g, i, none⟩ v).heap[g]? = some o') : Qg B W0 P L room g o' (W.setCell ⟨g, i, none⟩ v) := by
  obtain ⟨H, h1, h2, h3, h4⟩ := h
  exact ⟨H, ⟨h1.1.moved fun b hb => heap_setCell_other W ⟨g, i, none⟩ b v (fun e => h2 (by have e2 : b = g := e; rw [← e2]; exact hb)), h1.2.setCell (p := ⟨g, i, none⟩) hB v⟩, h2, ho, by simpa using h4⟩
/-- how many live in the first so many of four -/
def sN (t0 t1 t2 t3 : T6) : Nat → Nat
  | 0 => 0
  | k + 1 => sN t0 t1 t2 t3 k + liv (foT t0 t1 t2 t3 k)
theorem sN_le (t0 t1 t2 t3 : T6) : ∀ k, sN t0 t1 t2 t3 k ≤ 64 * k
  | 0 => Nat.le_refl _
  | k + 1 => by
    have := sN_le t0 t1 t2 t3 k
    have := pcN_le (foT t0 t1 t2 t3 k).toNat 64
    show sN t0 t1 t2 t3 k + liv (foT t0 t1 t2 t3 k) ≤ _
    unfold liv
    omega
theorem foQ_cnt (t0 t1 t2 t3 : T6) : (foQ t0 t1 t2 t3).cnt = ((sN t0 t1 t2 t3 4 : Nat) : Int) := by
  show cnt4 (at' _ (foN t0 t1 t2 t3 0)).cnt (at' _ (foN t0 t1 t2 t3 1)).cnt (at' _ (foN t0 t1 t2 t3 2)).cnt (at' _ (foN t0 t1 t2 t3 3)).cnt = _
  rw [(fo_at t0 t1 t2 t3 0 (by decide)).2, (fo_at t0 t1 t2 t3 1 (by decide)).2, (fo_at t0 t1 t2 t3 2 (by decide)).2, (fo_at t0 t1 t2 t3 3 (by decide)).2]
  show cnt4 ((liv t0 : Nat) : Int) ((liv t1 : Nat) : Int) ((liv t2 : Nat) : Int) ((liv t3 : Nat) : Int) = _
  rw [cnt4_small (show liv t0 ≤ 64 from pcN_le _ _) (show liv t1 ≤ 64 from pcN_le _ _) (show liv t2 ≤ 64 from pcN_le _ _) (show liv t3 ≤ 64 from pcN_le _ _)]
  show _ = (((((0 + liv t0) + liv t1) + liv t2) + liv t3 : Nat) : Int)
  omega
/-- a store made behind W0, and as great as that at least -/
def Qh (B : Nat) (W0 : World) (P : Nat) (L : List Sq) (room : Nat) (W : World) : Prop := ∃ H, Qs B W0 P L room W H ∧ B ≤ W.heap.size
theorem Qh.goes {B : Nat} {W0 W W' : World} {P : Nat} {L L' : List Sq} {room : Nat} {H : Nat → Prop} (h : Qs B W0 P L room W H) (hB : B ≤ W.heap.size) (k : Goes B W P room H L' W') : Qh B W0 P L' room W' := by
  obtain ⟨H', h1, h2⟩ := h.goes k hB
  exact ⟨H', h1, Nat.le_trans hB h2.size⟩
theorem Qh.below {B : Nat} {W0 W W' : World} {P : Nat} {L : List Sq} {room : Nat} (h : Qh B W0 P L room W) (hb : Below W.heap.size W W') : Qh B W0 P L room W' := by
  obtain ⟨H, h1, h4⟩ := h
  exact ⟨H, ⟨h1.1.below hb (Nat.le_refl _), h1.2.trans (hb.mono h4)⟩, Nat.le_trans h4 hb.size⟩
theorem Qg.qh {B : Nat} {W0 W : World} {P : Nat} {L : List Sq} {room g : Nat} {o : Obj} (h : Qg B W0 P L room g o W) : Qh B W0 P L room W := by
  obtain ⟨H, h1, _, _, h4⟩ := h
  exact ⟨H, h1, h4⟩
end Go.Proofs.YtifkhmcdgmnipaaDoor

/-
  THE WALK of QuadCells. No condition.
-/
import Derived.Test.YtgdcedlmndkfiaaSu
namespace Go.Proofs.Ytgdcedlmndkfiaa
open Go.RowKit Ti Qd Go.Maps Go.WideMaps

/-- four tiles' squares, one by one -/
def fo (t0 t1 t2 t3 : T6) : Nat → List Sq
  | 0 => []
  | 1 => put [] (leafQ t0)
  | 2 => put (put [] (leafQ t0)) (leafQ t1)
  | 3 => put (put (put [] (leafQ t0)) (leafQ t1)) (leafQ t2)
  | _ => put (put (put (put [] (leafQ t0)) (leafQ t1)) (leafQ t2)) (leafQ t3)
def foT (t0 t1 t2 t3 : T6) (k : Nat) : T6 := if k = 0 then t0 else if k = 1 then t1 else if k = 2 then t2 else t3
def foN (t0 t1 t2 t3 : T6) (k : Nat) : Int := nr (fo t0 t1 t2 t3 k) (leafQ (foT t0 t1 t2 t3 k))
theorem fo_succ (t0 t1 t2 t3 : T6) (k : Nat) (h : k < 4) : fo t0 t1 t2 t3 (k + 1) = put (fo t0 t1 t2 t3 k) (leafQ (foT t0 t1 t2 t3 k)) := by
  match k, h with
  | 0, _ => rfl
  | 1, _ => rfl
  | 2, _ => rfl
  | 3, _ => rfl
theorem fo_ext (t0 t1 t2 t3 : T6) : ∀ k m, k + m ≤ 4 → fo t0 t1 t2 t3 k <+: fo t0 t1 t2 t3 (k + m)
  | _, 0, _ => List.prefix_rfl
  | k, m + 1, h => (fo_ext t0 t1 t2 t3 k m (by omega)).trans (by rw [← Nat.add_assoc, fo_succ _ _ _ _ _ (by omega)]; exact put_ext _ _)
theorem fo_inv (t0 t1 t2 t3 : T6) : ∀ k, k ≤ 4 → Inv (fo t0 t1 t2 t3 k)
  | 0, _ => inv_nil
  | k + 1, h => by rw [fo_succ _ _ _ _ _ (by omega)]; exact (fo_inv t0 t1 t2 t3 k (by omega)).leaf _
theorem fo_len (t0 t1 t2 t3 : T6) : ∀ k, k ≤ 4 → (fo t0 t1 t2 t3 k).length ≤ k
  | 0, _ => Nat.le_refl _
  | k + 1, h => by
    rw [fo_succ _ _ _ _ _ (by omega)]
    have := (put_len (fo t0 t1 t2 t3 k) (leafQ (foT t0 t1 t2 t3 k))).2
    have := fo_len t0 t1 t2 t3 k (by omega)
    omega
theorem fo_at (t0 t1 t2 t3 : T6) (k : Nat) (h : k < 4) : Ok (fo t0 t1 t2 t3 4) (foN t0 t1 t2 t3 k) ∧ at' (fo t0 t1 t2 t3 4) (foN t0 t1 t2 t3 k) = leafQ (foT t0 t1 t2 t3 k) := by
  have e := fo_ext t0 t1 t2 t3 (k + 1) (4 - (k + 1)) (by omega)
  rw [show k + 1 + (4 - (k + 1)) = 4 by omega, fo_succ _ _ _ _ _ h] at e
  exact ⟨(put_ok _ _).ext e, (at_ext e (put_ok _ _)).trans (put_at _ _)⟩
/-- the square of the four -/
def foQ (t0 t1 t2 t3 : T6) : Sq := joinQ (fo t0 t1 t2 t3 4) (foN t0 t1 t2 t3 0) (foN t0 t1 t2 t3 1) (foN t0 t1 t2 t3 2) (foN t0 t1 t2 t3 3)
theorem fo_four (t0 t1 t2 t3 : T6) : Four (fo t0 t1 t2 t3 4) (foN t0 t1 t2 t3 0) (foN t0 t1 t2 t3 1) (foN t0 t1 t2 t3 2) (foN t0 t1 t2 t3 3) 3 :=
  ⟨(fo_at t0 t1 t2 t3 0 (by decide)).1, (fo_at t0 t1 t2 t3 1 (by decide)).1, (fo_at t0 t1 t2 t3 2 (by decide)).1, (fo_at t0 t1 t2 t3 3 (by decide)).1,
    by rw [(fo_at t0 t1 t2 t3 0 (by decide)).2]; rfl, by rw [(fo_at t0 t1 t2 t3 1 (by decide)).2]; rfl, by rw [(fo_at t0 t1 t2 t3 2 (by decide)).2]; rfl, by rw [(fo_at t0 t1 t2 t3 3 (by decide)).2]; rfl⟩
def foL (t0 t1 t2 t3 : T6) : List Sq := put (fo t0 t1 t2 t3 4) (foQ t0 t1 t2 t3)
def foI (t0 t1 t2 t3 : T6) : Int := nr (fo t0 t1 t2 t3 4) (foQ t0 t1 t2 t3)
theorem foL_inv (t0 t1 t2 t3 : T6) : Inv (foL t0 t1 t2 t3) := (fo_inv t0 t1 t2 t3 4 (by decide)).join (fo_four t0 t1 t2 t3) (by decide) (by decide)
theorem foL_len (t0 t1 t2 t3 : T6) : (foL t0 t1 t2 t3).length ≤ 5 := by
  have := (put_len (fo t0 t1 t2 t3 4) (foQ t0 t1 t2 t3)).2
  have := fo_len t0 t1 t2 t3 4 (by decide)
  unfold foL
  omega
theorem foI_at (t0 t1 t2 t3 : T6) : at' (foL t0 t1 t2 t3) (foI t0 t1 t2 t3) = foQ t0 t1 t2 t3 := put_at _ _
theorem foI_lv (t0 t1 t2 t3 : T6) : Lv (foL t0 t1 t2 t3) 1 (foI t0 t1 t2 t3) := ⟨put_ok _ _, by
  rw [foI_at]
  show (at' (fo t0 t1 t2 t3 4) (foN t0 t1 t2 t3 0)).lev + 1 = _
  rw [(fo_at t0 t1 t2 t3 0 (by decide)).2]
  rfl⟩
/-- the square there, asked again -/
theorem foQ_again (t0 t1 t2 t3 : T6) : joinQ (foL t0 t1 t2 t3) (foN t0 t1 t2 t3 0) (foN t0 t1 t2 t3 1) (foN t0 t1 t2 t3 2) (foN t0 t1 t2 t3 3) = foQ t0 t1 t2 t3 :=
  join_ext (put_ext _ _) (fo_at t0 t1 t2 t3 0 (by decide)).1 (fo_at t0 t1 t2 t3 1 (by decide)).1 (fo_at t0 t1 t2 t3 2 (by decide)).1 (fo_at t0 t1 t2 t3 3 (by decide)).1
theorem put_mem (L : List Sq) (q : Sq) : q ∈ put L q := by
  unfold put
  split
  · assumption
  · simp
theorem put_again (L : List Sq) (q : Sq) : put (put L q) q = put L q ∧ nr (put L q) q = nr L q := by
  refine ⟨if_pos (put_mem L q), ?_⟩
  by_cases h : q ∈ L
  · rw [nr_in h]
  · rw [(new_put h).1, (new_put h).2]
    unfold nr
    rw [List.idxOf_append, if_neg h]
    simp
theorem foL_four (t0 t1 t2 t3 : T6) : Four (foL t0 t1 t2 t3) (foN t0 t1 t2 t3 0) (foN t0 t1 t2 t3 1) (foN t0 t1 t2 t3 2) (foN t0 t1 t2 t3 3) 3 := by
  have h := fo_four t0 t1 t2 t3
  have e : fo t0 t1 t2 t3 4 <+: foL t0 t1 t2 t3 := put_ext _ _
  exact ⟨h.o0.ext e, h.o1.ext e, h.o2.ext e, h.o3.ext e, by rw [at_ext e h.o0]; exact h.l0, by rw [at_ext e h.o1]; exact h.l1, by rw [at_ext e h.o2]; exact h.l2, by rw [at_ext e h.o3]; exact h.l3⟩
theorem fo_cel (t0 t1 t2 t3 : T6) (x y : Nat) (hx : x < 16) (hy : y < 16) : cel (foL t0 t1 t2 t3) 1 (foI t0 t1 t2 t3) x y = (foT t0 t1 t2 t3 (x / 8 + 2 * (y / 8))).getLsbD (8 * (y % 8) + x % 8) := by
  show (at' (foL t0 t1 t2 t3) (kid (at' (foL t0 t1 t2 t3) (foI t0 t1 t2 t3)) (qd 8 x y))).til.getLsbD _ = _
  have hq : qd 8 x y < 4 := by unfold qd; omega
  rw [foI_at, show kid (foQ t0 t1 t2 t3) (qd 8 x y) = foN t0 t1 t2 t3 (qd 8 x y) from kid_join _ (foN t0 t1 t2 t3) _ hq, at_ext (show fo t0 t1 t2 t3 4 <+: foL t0 t1 t2 t3 from put_ext _ _) (fo_at t0 t1 t2 t3 _ hq).1, (fo_at t0 t1 t2 t3 _ hq).2]
  rw [show qd 8 x y = x / 8 + 2 * (y / 8) by unfold qd; omega]
  rfl
def kv (t0 t1 t2 t3 : T6) (k j : Nat) : Int := if j < k then foN t0 t1 t2 t3 j else 0
theorem kv_row {t0 t1 t2 t3 : T6} {w : World} {g k : Nat} {T : TypeId} (hk : k < 4) (h : w.heap[g]? = some (.cells #[.int .i64 (kv t0 t1 t2 t3 k 0), .int .i64 (kv t0 t1 t2 t3 k 1), .int .i64 (kv t0 t1 t2 t3 k 2), .int .i64 (kv t0 t1 t2 t3 k 3)] T (0, 0))) :
    (w.setCell ⟨g, k, none⟩ (.int .i64 (foN t0 t1 t2 t3 k))).heap[g]? = some (.cells #[.int .i64 (kv t0 t1 t2 t3 (k + 1) 0), .int .i64 (kv t0 t1 t2 t3 (k + 1) 1), .int .i64 (kv t0 t1 t2 t3 (k + 1) 2), .int .i64 (kv t0 t1 t2 t3 (k + 1) 3)] T (0, 0)) := by
  rw [heap_setCell_same w g k _ _ _ h]
  match k, hk with
  | 0, _ => rfl
  | 1, _ => rfl
  | 2, _ => rfl
  | 3, _ => rfl
theorem kv_cell {t0 t1 t2 t3 : T6} {w : World} {g k : Nat} {T : TypeId} (hk : k < 4) (h : w.heap[g]? = some (.cells #[.int .i64 (kv t0 t1 t2 t3 k 0), .int .i64 (kv t0 t1 t2 t3 k 1), .int .i64 (kv t0 t1 t2 t3 k 2), .int .i64 (kv t0 t1 t2 t3 k 3)] T (0, 0))) : w.cell? ⟨g, k, none⟩ = some (.int .i64 0) := by
  rw [cell_of_row w g _ _ _ _ h]
  match k, hk with
  | 0, _ => rfl
  | 1, _ => rfl
  | 2, _ => rfl
  | 3, _ => rfl
theorem tl_cell {t0 t1 t2 t3 : T6} {w : World} {g : Nat} {T : TypeId} (h : w.heap[g]? = some (.cells #[.int .u64 (rg t0), .int .u64 (rg t1), .int .u64 (rg t2), .int .u64 (rg t3)] T (0, 0))) (k : Nat) (hk : k < 4) : w.cell? ⟨g, k, none⟩ = some (.int .u64 (rg (foT t0 t1 t2 t3 k))) := by
  rw [cell_of_row w g _ _ _ _ h]
  match k, hk with
  | 0, _ => rfl
  | 1, _ => rfl
  | 2, _ => rfl
  | 3, _ => rfl
/-- a store beside a block of one's own -/
def Qg (B : Nat) (W0 : World) (P : Nat) (L : List Sq) (room g : Nat) (o : Obj) (W : World) : Prop := ∃ H, Qs B W0 P L room W H ∧ ¬ H g ∧ W.heap[g]? = some o ∧ B ≤ W.heap.size
theorem Qg.goes {B : Nat} {W0 W W' : World} {P : Nat} {L L' : List Sq} {room g : Nat} {o : Obj} {H : Nat → Prop} (h : Qs B W0 P L room W H) (hn : ¬ H g) (hg : W.heap[g]? = some o) (hB : B ≤ W.heap.size) (k : Goes B W P room H L' W') : Qg B W0 P L' room g o W' := by
  obtain ⟨H', h1, h2⟩ := h.goes k hB
  exact ⟨H', h1, fun e => by
    rcases h2.own g e with q | q
    · exact hn q
    · have := lt_of_block hg
      omega, (h2.block g (lt_of_block hg) hn).trans hg, Nat.le_trans hB h2.size⟩
theorem Qg.below {B : Nat} {W0 W W' : World} {P : Nat} {L : List Sq} {room g : Nat} {o : Obj} (h : Qg B W0 P L room g o W) (hb : Below W.heap.size W W') : Qg B W0 P L room g o W' := by
  obtain ⟨H, h1, h2, h3, h4⟩ := h
  exact ⟨H, ⟨h1.1.below hb (Nat.le_refl _), h1.2.trans (hb.mono h4)⟩, h2, (hb.block g (lt_of_block h3)).trans h3, Nat.le_trans h4 hb.size⟩
theorem Qg.set {B : Nat} {W0 W : World} {P : Nat} {L : List Sq} {room g i : Nat} {o o' : Obj} {v : Value} (h : Qg B W0 P L room g o W) (hB : B ≤ g) (ho : (W.setCell ⟨g, i, none⟩ v).heap[g]? = some o') : Qg B W0 P L room g o' (W.setCell ⟨g, i, none⟩ v) := by
  obtain ⟨H, h1, h2, h3, h4⟩ := h
  exact ⟨H, ⟨h1.1.moved fun b hb => heap_setCell_other W ⟨g, i, none⟩ b v (fun e => h2 (by have e2 : b = g := e; rw [← e2]; exact hb)), h1.2.setCell (p := ⟨g, i, none⟩) hB v⟩, h2, ho, by simpa using h4⟩
theorem red_nat (x : Int) (m : Nat) (h0 : 0 < m) (h : m ≤ 1099511627776) : ∃ p : Nat, p < m ∧ wrap64 ((IntKind.u64.wrap x).tmod (m : Int)) = (p : Int) := by
  have h1 := wrap_u64_nonneg x
  obtain ⟨n, hn⟩ : ∃ n : Nat, IntKind.u64.wrap x = (n : Int) := ⟨(IntKind.u64.wrap x).toNat, by omega⟩
  rw [hn, tmod_nat]
  have := Nat.mod_lt n h0
  exact ⟨n % m, this, wrap_small (by omega)⟩
theorem get_ok_int (t : T6) (x y : Nat) (X Y : Int) (hx : x < 8) (hy : y < 8) (eX : X = x) (eY : Y = y) (w : World) :
    Calls Try.prog 15 #[.int .u64 (rg t), .int .i64 X, .int .i64 Y] w fun e w' => e = .returned (.tuple #[.bool (t.getLsbD (8 * y + x)), .nilIface]) ∧ w = w' := by
  subst eX eY
  exact get_ok t x y hx hy w
set_option maxRecDepth 100000 in
set_option maxHeartbeats 4000000 in
theorem cells_any (t0 t1 t2 t3 : T6) (x y : Int) (w : World) (_hx : (Lit.int .i64 x).wf = true) (_hy : (Lit.int .i64 y).wf = true) :
    Calls Try.prog 5 #[.agg #[.int .u64 (rg t0), .int .u64 (rg t1), .int .u64 (rg t2), .int .u64 (rg t3)], .int .i64 x, .int .i64 y] w fun e w' => e = .returned (.bool true) ∧ Below w.heap.size w w' := by
  have hbx := heap_alloc_new w (.cells #[.int .u64 (rg t0), .int .u64 (rg t1), .int .u64 (rg t2), .int .u64 (rg t3)] 38)
  have hbl := alX w (.cells #[.int .u64 (rg t0), .int .u64 (rg t1), .int .u64 (rg t2), .int .u64 (rg t3)] 38)
  have HW := Lib.hid (And.intro hbx hbl)
  have HSZ := Lib.hid (show (w.alloc (.cells #[.int .u64 (rg t0), .int .u64 (rg t1), .int .u64 (rg t2), .int .u64 (rg t3)] 38)).heap.size = w.heap.size + 1 by simp)
  have HN := Lib.hid (new_lit 100 100 rfl (w.alloc (.cells #[.int .u64 (rg t0), .int .u64 (rg t1), .int .u64 (rg t2), .int .u64 (rg t3)] 38)) (by decide) (by decide))
  clear hbx hbl
  go_enter Try.func5, Try.ntmps5
  go_wp2_with fail
  generalize w.alloc (.cells #[.int .u64 (rg t0), .int .u64 (rg t1), .int .u64 (rg t2), .int .u64 (rg t3)] 38) = W0 at HW HSZ HN ⊢
  refine HN.out.mono ?_
  rintro e w1 ⟨P, H, rfl, hs, hb⟩
  have hz := heap_alloc_new w1 (.cells #[.int .i64 0, .int .i64 0, .int .i64 0, .int .i64 0] 39)
  have HQ := Lib.hid (show Qg W0.heap.size W0 P [] 100 w1.heap.size (.cells #[.int .i64 0, .int .i64 0, .int .i64 0, .int .i64 0] 39) (w1.alloc (.cells #[.int .i64 0, .int .i64 0, .int .i64 0, .int .i64 0] 39)) from
    ⟨H, ⟨hs.below (alX _ _) (Nat.le_refl _), hb.trans ((alX _ _).mono hb.size)⟩, fun e => by have := (hs.lt _ e).2; omega, hz, Nat.le_trans hb.size (by simp)⟩)
  have HBG := Lib.hid hb.size
  clear hs hb HN hz
  go_wp2
  obtain ⟨g, hg⟩ : ∃ g, g = w1.heap.size := ⟨_, rfl⟩
  rw [← hg] at HQ HBG ⊢
  generalize w1.alloc (.cells #[.int .i64 0, .int .i64 0, .int .i64 0, .int .i64 0] 39) = W1 at HQ ⊢
  clear hg
  go_loopw [6, 10] (fun v i wr => ∃ k : Nat, k ≤ 4 ∧ v = .bool false ∧ i = .int .i64 k ∧ Hid (Qg W0.heap.size W0 P (fo t0 t1 t2 t3 k) 100 g (.cells #[.int .i64 (kv t0 t1 t2 t3 k 0), .int .i64 (kv t0 t1 t2 t3 k 1), .int .i64 (kv t0 t1 t2 t3 k 2), .int .i64 (kv t0 t1 t2 t3 k 3)] 39) wr)) (fun _ i _ => 4 - (intOf i).toNat)
  case atStart => exact ⟨0, by omega, rfl, rfl, HQ⟩
  case round =>
    clear HQ
    obtain ⟨k, hk, rfl, rfl, HR⟩ := hrel
    have k0 : (0 : Int) ≤ (k : Int) := by omega
    by_cases hlt : k < 4
    · have k1 : (k : Int) < 4 := by omega
      have HLT := Lib.hid hlt
      obtain ⟨H, h1, h2, h3, h4⟩ := HR.out
      have ct := tl_cell ((h1.2.block _ (by have := HSZ.out; omega)).trans HW.out.1) k hlt
      have HP := Lib.hid (And.intro h1 (And.intro h2 (And.intro h3 h4)))
      have HLF := Lib.hid (leaf_ok h1.1 (foT t0 t1 t2 t3 k) (by rw [← fo_succ _ _ _ _ _ hlt]; exact Nat.le_trans (fo_len _ _ _ _ _ (by omega)) (by omega)))
      clear h1 h2 h3 h4
      go_wp2_with fail
      refine HLF.out.mono ?_
      rintro e w2 ⟨rfl, hgo⟩
      rw [← fo_succ _ _ _ _ _ HLT.out] at hgo
      rw [show nr (fo t0 t1 t2 t3 k) (leafQ (foT t0 t1 t2 t3 k)) = foN t0 t1 t2 t3 k from rfl]
      have HQ2 := Lib.hid (Qg.goes HP.out.1 HP.out.2.1 HP.out.2.2.1 HP.out.2.2.2 hgo)
      obtain ⟨_, _, _, h3, _⟩ := HQ2.out
      have cg := kv_cell HLT.out h3
      have fg := frozen_of_row _ _ k _ _ h3
      have HN3 := Lib.hid (kv_row HLT.out h3)
      clear h3 hgo ct HLF HP HR
      generalize foN t0 t1 t2 t3 k = nk at HN3 ⊢
      go_wp2
      go_roundw
      case rel => exact ⟨k + 1, by have := HLT.out; omega, rfl, by go_num, Lib.hid (HQ2.out.set HBG.out HN3.out)⟩
      case measure => have := HLT.out; simp [intOf]; omega
    · obtain rfl : k = 4 := by omega
      obtain ⟨H4, h1, h2, h3, h4⟩ := HR.out
      have HP := Lib.hid (And.intro h1 (And.intro h2 (And.intro h3 h4)))
      have HND := Lib.hid (node_ok h1.1 (foN t0 t1 t2 t3 0) (foN t0 t1 t2 t3 1) (foN t0 t1 t2 t3 2) (foN t0 t1 t2 t3 3) 3 (fo_four t0 t1 t2 t3) (by decide) (Nat.le_trans (foL_len t0 t1 t2 t3) (by decide)))
      obtain ⟨c0, c1, c2, c3⟩ := row4 h3
      clear h1 h2 h3 h4 HR
      rw [show kv t0 t1 t2 t3 4 0 = foN t0 t1 t2 t3 0 from rfl] at c0
      rw [show kv t0 t1 t2 t3 4 1 = foN t0 t1 t2 t3 1 from rfl] at c1
      rw [show kv t0 t1 t2 t3 4 2 = foN t0 t1 t2 t3 2 from rfl] at c2
      rw [show kv t0 t1 t2 t3 4 3 = foN t0 t1 t2 t3 3 from rfl] at c3
      go_wp2_with fail
      refine HND.out.mono ?_
      rintro e w2 ⟨rfl, hgo⟩
      have HQ2 := Lib.hid (Qg.goes HP.out.1 HP.out.2.1 HP.out.2.2.1 HP.out.2.2.2 (show Goes _ _ _ _ _ (foL t0 t1 t2 t3) _ from hgo))
      rw [show nr (fo t0 t1 t2 t3 4) (joinQ (fo t0 t1 t2 t3 4) (foN t0 t1 t2 t3 0) (foN t0 t1 t2 t3 1) (foN t0 t1 t2 t3 2) (foN t0 t1 t2 t3 3)) = foI t0 t1 t2 t3 from rfl]
      clear hgo HND HP c0 c1 c2 c3
      obtain ⟨H5, h1, h2, h3, h4⟩ := HQ2.out
      have HP := Lib.hid (And.intro h1 (And.intro h2 (And.intro h3 h4)))
      have hnd := node_ok h1.1 (foN t0 t1 t2 t3 0) (foN t0 t1 t2 t3 1) (foN t0 t1 t2 t3 2) (foN t0 t1 t2 t3 3) 3 (foL_four t0 t1 t2 t3) (by decide) (by rw [foQ_again, show put (foL t0 t1 t2 t3) (foQ t0 t1 t2 t3) = foL t0 t1 t2 t3 from (put_again _ _).1]; exact Nat.le_trans (foL_len t0 t1 t2 t3) (by decide))
      rw [foQ_again, show put (foL t0 t1 t2 t3) (foQ t0 t1 t2 t3) = foL t0 t1 t2 t3 from (put_again _ _).1, show nr (foL t0 t1 t2 t3) (foQ t0 t1 t2 t3) = foI t0 t1 t2 t3 from (put_again _ _).2] at hnd
      have HND := Lib.hid hnd
      obtain ⟨c0, c1, c2, c3⟩ := row4 h3
      clear h1 h2 h3 h4 hnd HQ2
      rw [show kv t0 t1 t2 t3 4 0 = foN t0 t1 t2 t3 0 from rfl] at c0
      rw [show kv t0 t1 t2 t3 4 1 = foN t0 t1 t2 t3 1 from rfl] at c1
      rw [show kv t0 t1 t2 t3 4 2 = foN t0 t1 t2 t3 2 from rfl] at c2
      rw [show kv t0 t1 t2 t3 4 3 = foN t0 t1 t2 t3 3 from rfl] at c3
      go_wp2_with fail
      refine HND.out.mono ?_
      rintro e w3 ⟨rfl, hgo⟩
      have HQ2 := Lib.hid (Qg.goes HP.out.1 HP.out.2.1 HP.out.2.2.1 HP.out.2.2.2 hgo)
      clear hgo HND HP c0 c1 c2 c3
      go_upto_region 15 with (fail)
      obtain ⟨p, hp, ep⟩ := red_nat x 16 (by decide) (by decide)
      obtain ⟨q, hq, eq⟩ := red_nat y 16 (by decide) (by decide)
      rw [show wrap64 ((IntKind.u64.wrap x).tmod 16) = (p : Int) from ep, show wrap64 ((IntKind.u64.wrap y).tmod 16) = (q : Int) from eq]
      have HCE := Lib.hid (fo_cel t0 t1 t2 t3 p q hp hq)
      have hso := Qd.set_ok (foL_inv t0 t1 t2 t3) 1 (foI t0 t1 t2 t3) p q (!cel (foL t0 t1 t2 t3) 1 (foI t0 t1 t2 t3) p q) (foI_lv t0 t1 t2 t3) (by decide) hp hq
      have HSO := Lib.hid hso
      have HCL := Lib.hid (show cel (setQ (foL t0 t1 t2 t3) 1 (foI t0 t1 t2 t3) p q (!cel (foL t0 t1 t2 t3) 1 (foI t0 t1 t2 t3) p q)).1 1 (setQ (foL t0 t1 t2 t3) 1 (foI t0 t1 t2 t3) p q (!cel (foL t0 t1 t2 t3) 1 (foI t0 t1 t2 t3) p q)).2 p q = !cel (foL t0 t1 t2 t3) 1 (foI t0 t1 t2 t3) p q by
        have := hso.cel p q hp hq
        rw [if_pos ⟨rfl, rfl⟩] at this
        exact this)
      have HNE := Lib.hid (show ¬ (setQ (foL t0 t1 t2 t3) 1 (foI t0 t1 t2 t3) p q (!cel (foL t0 t1 t2 t3) 1 (foI t0 t1 t2 t3) p q)).2 = foI t0 t1 t2 t3 from fun e => by
        have h1 := HCL.out
        rw [e, cel_ext (foL_inv t0 t1 t2 t3) hso.ext 1 _ _ _ (foI_lv t0 t1 t2 t3)] at h1
        cases hc : cel (foL t0 t1 t2 t3) 1 (foI t0 t1 t2 t3) p q <;> rw [hc] at h1 <;> cases h1)
      have HLN := Lib.hid (show (setQ (foL t0 t1 t2 t3) 1 (foI t0 t1 t2 t3) p q (!cel (foL t0 t1 t2 t3) 1 (foI t0 t1 t2 t3) p q)).1.length ≤ 100 by have := hso.len; have := foL_len t0 t1 t2 t3; omega)
      have HPQ := Lib.hid (And.intro hp hq)
      clear hso ep eq
      obtain ⟨H6, h1, h2, h3, h4⟩ := HQ2.out
      have HP := Lib.hid (And.intro h1 (And.intro h2 (And.intro h3 h4)))
      have HGT := Lib.hid (get_is 1 (foI t0 t1 t2 t3) p q w3 h1.1 (foI_lv t0 t1 t2 t3) (by decide) hp hq)
      clear h1 h2 h3 h4 HQ2
      have HST := Lib.hid (fun (w' : World) (h' : St W0.heap.size w' P (foL t0 t1 t2 t3) 100 H6) => set_is (!cel (foL t0 t1 t2 t3) 1 (foI t0 t1 t2 t3) p q) 1 (foL t0 t1 t2 t3) H6 (foI t0 t1 t2 t3) p q w' h' (foI_lv t0 t1 t2 t3) (by decide) hp hq HLN.out)
      generalize hr : cel (foL t0 t1 t2 t3) 1 (foI t0 t1 t2 t3) p q = r at *
      generalize setQ (foL t0 t1 t2 t3) 1 (foI t0 t1 t2 t3) p q (!r) = LL at *
      clear hr
      have p0 : (0 : Int) ≤ (p : Int) := by omega
      have q0 : (0 : Int) ≤ (q : Int) := by omega
      have p1 : (p : Int) < 16 := by omega
      have q1 : (q : Int) < 16 := by omega
      go_wp2_with fail
      refine HGT.out.mono ?_
      rintro e w4 ⟨rfl, hb⟩
      have HP4 := Lib.hid (show Qs W0.heap.size W0 P (foL t0 t1 t2 t3) 100 w4 H6 ∧ W0.heap.size ≤ w4.heap.size from ⟨⟨HP.out.1.1.below hb (Nat.le_refl _), HP.out.1.2.trans (hb.mono HP.out.2.2.2)⟩, Nat.le_trans HP.out.2.2.2 hb.size⟩)
      clear hb
      have ct := tl_cell ((HP4.out.1.2.block _ (by have := HSZ.out; omega)).trans HW.out.1) (p / 8 + 2 * (q / 8)) (by omega)
      go_upto_region 16 with (fail)
      go_wp2_with fail
      refine (get_ok_int _ (p % 8) (q % 8) _ _ (Nat.mod_lt _ (by decide)) (Nat.mod_lt _ (by decide)) (by omega) (by omega) _).mono ?_
      rintro e w5 ⟨rfl, rfl⟩
      rw [← HCE.out]
      clear ct
      go_wp2_with fail
      refine (HST.out _ HP4.out.1.1).mono ?_
      rintro e w6 ⟨rfl, hgo⟩
      obtain ⟨H7, k1, k2⟩ := HP4.out.1.goes hgo HP4.out.2
      have HP7 := Lib.hid (show Qs W0.heap.size W0 P LL.1 100 w6 H7 ∧ W0.heap.size ≤ w6.heap.size from ⟨k1, Nat.le_trans HP4.out.2 k2.size⟩)
      have hgt := get_is 1 LL.2 p q w6 k1.1 HSO.out.lv (by decide) HPQ.out.1 HPQ.out.2
      rw [HCL.out] at hgt
      have HGT2 := Lib.hid hgt
      clear hgo k1 k2 hgt
      go_wp2_with fail
      refine HGT2.out.mono ?_
      rintro e w7 ⟨rfl, hb⟩
      have HB7 := Lib.hid (HP7.out.1.2.trans (hb.mono HP7.out.2))
      clear hb
      have b1 : (r == r) = true := by simp
      have b2 : ((!r) != r) = true := by cases r <;> rfl
      have b3 : (LL.2 != foI t0 t1 t2 t3) = true := by rw [bne_iff_ne]; exact HNE.out
      have b4 : (foI t0 t1 t2 t3 == foI t0 t1 t2 t3) = true := by simp
      go_wp2_with fail
      refine (sure_any _).mono ?_
      rintro e w8 ⟨rfl, hb⟩
      have HB8 := Lib.hid (HW.out.2.trans ((HB7.out.trans (hb.mono HB7.out.size)).mono (by have := HSZ.out; omega)))
      clear hb
      go_wp2
      go_ret
      exact ⟨rfl, HB8.out⟩
end Go.Proofs.Ytgdcedlmndkfiaa

/-
  TILES AS PLAIN DATA: a tile made of its cells, turned, mirrored, a cell alone. No condition.
  SQUARES AS PLAIN DATA: a list of squares, each once; a square put, an empty one, one with a cell set; which cells live. Conditions: those that each lemma names.
-/
import Derived.Test.YtlejohclijjhnaaGreatDoorL01
namespace Go.Proofs.YtlejohclijjhnaaGreatDoor.Ti

def mkN (f : Nat → Bool) : Nat → Nat
  | 0 => 0
  | k + 1 => 2 ^ k * (f k).toNat + mkN f k
theorem mkN_lt (f : Nat → Bool) : ∀ k, mkN f k < 2 ^ k
  | 0 => by simp [mkN]
  | k + 1 => by
    have := mkN_lt f k
    rw [mkN, Nat.pow_succ]
    cases f k <;> simp <;> omega
theorem mkN_bit (f : Nat → Bool) : ∀ k i, (mkN f k).testBit i = (decide (i < k) && f i)
  | 0, i => by simp [mkN]
  | k + 1, i => by
    rw [mkN, Nat.testBit_two_pow_mul_add _ (mkN_lt f k), mkN_bit f k i]
    by_cases h : i < k
    · have : i < k + 1 := by omega
      simp [h, this]
    · rw [if_neg h]
      by_cases e : i = k
      · subst e
        rw [Nat.sub_self, decide_eq_true (show i < i + 1 by omega), Bool.true_and]
        cases f i <;> decide
      · have h2 : ¬ i < k + 1 := by omega
        obtain ⟨j, hj⟩ : ∃ j, i - k = j + 1 := ⟨i - k - 1, by omega⟩
        rw [hj, decide_eq_false h2, Bool.false_and]
        cases f k
        · exact Nat.zero_testBit _
        · show Nat.testBit 1 (j + 1) = false
          rw [Nat.testBit_succ]
          exact Nat.zero_testBit _
def mkT (f : Nat → Bool) : T6 := BitVec.ofNat 64 (mkN f 64)
theorem mkT_bit (f : Nat → Bool) (i : Nat) (hi : i < 64) : (mkT f).getLsbD i = f i := by
  unfold mkT
  rw [BitVec.getLsbD_ofNat, mkN_bit, decide_eq_true hi, Bool.true_and, Bool.true_and]
theorem eq_mkT {t : T6} {f : Nat → Bool} (h : ∀ i, i < 64 → t.getLsbD i = f i) : t = mkT f := by
  apply BitVec.eq_of_getLsbD_eq
  intro i hi
  rw [h i hi, mkT_bit f i hi]
def turnI (i : Nat) : Nat := 8 * (7 - i % 8) + i / 8
def flipI (i : Nat) : Nat := 8 * (i / 8) + (7 - i % 8)
def turnB (t : T6) : T6 := mkT (fun i => t.getLsbD (turnI i))
def flipB (t : T6) : T6 := mkT (fun i => t.getLsbD (flipI i))
/-- the cell alone -/
def cellB (x y : Nat) : T6 := 1#64 <<< (8 * y + x)
theorem one_bit (i : Nat) : (1#64).getLsbD i = decide (i = 0) := by
  by_cases h : i < 64
  · have q : ∀ i < 64, (1#64).getLsbD i = decide (i = 0) := by decide
    exact q i h
  · rw [BitVec.getLsbD_of_ge _ _ (by omega), decide_eq_false (by omega)]
theorem cellB_bit (x y i : Nat) (h : 8 * y + x < 64) : (cellB x y).getLsbD i = decide (i = 8 * y + x) := by
  unfold cellB
  rw [BitVec.getLsbD_shiftLeft, one_bit]
  by_cases e : i = 8 * y + x
  · subst e; simp [h]
  · rw [decide_eq_false e]
    by_cases q : i < 8 * y + x
    · simp [q]
    · have : ¬ i - (8 * y + x) = 0 := by omega
      simp [this]
theorem and_cell (t : T6) (x y : Nat) (h : 8 * y + x < 64) : (t &&& cellB x y = 0#64) ↔ t.getLsbD (8 * y + x) = false := by
  constructor
  · intro e
    have := congrArg (fun z : T6 => z.getLsbD (8 * y + x)) e
    simpa [BitVec.getLsbD_and, cellB_bit x y _ h] using this
  · intro e
    apply BitVec.eq_of_getLsbD_eq
    intro i _
    rw [BitVec.getLsbD_and, cellB_bit x y i h]
    by_cases q : i = 8 * y + x
    · subst q; simp [e]
    · simp [q]
/-- the part of a tile that moves, the cells below k -/
def MvAt (g : Nat → Nat) (t : T6) (k : Nat) (m : T6) : Prop := ∀ i, i < 64 → m.getLsbD i = (decide (i < k) && t.getLsbD (g i))
theorem MvAt.nil (g : Nat → Nat) (t : T6) : MvAt g t 0 0#64 := by intro i _; simp
theorem MvAt.on {g : Nat → Nat} {t : T6} {x y : Nat} {m : T6} (h : MvAt g t (8 * y + x) m) (hk : 8 * y + x < 64) (hg : t.getLsbD (g (8 * y + x)) = true) : MvAt g t (8 * y + (x + 1)) (m ||| cellB x y) := by
  intro i hi
  rw [BitVec.getLsbD_or, h i hi, cellB_bit x y i hk]
  by_cases e : i = 8 * y + x
  · subst e; simp [hg]
  · have e2 : decide (i < 8 * y + x) = decide (i < 8 * y + (x + 1)) := by rw [Bool.eq_iff_iff, decide_eq_true_iff, decide_eq_true_iff]; omega
    simp [e, e2]
theorem MvAt.off {g : Nat → Nat} {t : T6} {x y : Nat} {m : T6} (h : MvAt g t (8 * y + x) m) (hg : t.getLsbD (g (8 * y + x)) = false) : MvAt g t (8 * y + (x + 1)) m := by
  intro i hi
  rw [h i hi]
  by_cases e : i = 8 * y + x
  · subst e; simp [hg]
  · have e2 : decide (i < 8 * y + x) = decide (i < 8 * y + (x + 1)) := by rw [Bool.eq_iff_iff, decide_eq_true_iff, decide_eq_true_iff]; omega
    rw [e2]
theorem MvAt.row {g : Nat → Nat} {t : T6} {y : Nat} {m : T6} (h : MvAt g t (8 * y + 8) m) : MvAt g t (8 * (y + 1) + 0) m := h
theorem MvAt.all {g : Nat → Nat} {t : T6} {m : T6} (h : MvAt g t (8 * 8 + 0) m) : m = mkT (fun i => t.getLsbD (g i)) := by
  apply eq_mkT
  intro i hi
  rw [h i hi, decide_eq_true (show i < 8 * 8 + 0 by omega), Bool.true_and]
theorem or_cell (t : T6) (x y : Nat) (h : 8 * y + x < 64) (i : Nat) : (t ||| cellB x y).getLsbD i = (t.getLsbD i || decide (i = 8 * y + x)) := by
  rw [BitVec.getLsbD_or, cellB_bit x y i h]
theorem not_cell (t : T6) (x y : Nat) (h : 8 * y + x < 64) (i : Nat) : (t &&& ~~~(cellB x y)).getLsbD i = (t.getLsbD i && !decide (i = 8 * y + x)) := by
  rw [BitVec.getLsbD_and]
  by_cases hi : i < 64
  · rw [BitVec.getLsbD_not, cellB_bit x y i h]; simp [hi]
  · rw [BitVec.getLsbD_of_ge t _ (by omega)]; simp
/-- how many live -/
def liv (t : T6) : Nat := pcN t.toNat 64
theorem pcN_le (x : Nat) : ∀ k, pcN x k ≤ k
  | 0 => Nat.le_refl _
  | k + 1 => by
    have := pcN_le x k
    have h : (x.testBit k).toNat ≤ 1 := by cases x.testBit k <;> decide
    rw [pcN]
    omega
theorem pcN_succ (t : T6) (k : Nat) : pcN t.toNat (k + 1) = pcN t.toNat k + (t.getLsbD k).toNat := rfl
end Go.Proofs.YtlejohclijjhnaaGreatDoor.Ti
namespace Go.Proofs.YtlejohclijjhnaaGreatDoor.Qd
open Ti

/-- a square: its level, how many live, its tile, its four -/
structure Sq where
  lev : Int
  cnt : Int
  til : T6
  k0 : Int
  k1 : Int
  k2 : Int
  k3 : Int
theorem Sq.ext' {a b : Sq} (h1 : a.lev = b.lev) (h2 : a.cnt = b.cnt) (h3 : a.til = b.til) (h4 : a.k0 = b.k0) (h5 : a.k1 = b.k1) (h6 : a.k2 = b.k2) (h7 : a.k3 = b.k3) : a = b := by
  cases a; cases b; simp_all
instance : DecidableEq Sq := fun a b => decidable_of_iff (a.lev = b.lev ∧ a.cnt = b.cnt ∧ a.til = b.til ∧ a.k0 = b.k0 ∧ a.k1 = b.k1 ∧ a.k2 = b.k2 ∧ a.k3 = b.k3)
  ⟨fun ⟨h1, h2, h3, h4, h5, h6, h7⟩ => Sq.ext' h1 h2 h3 h4 h5 h6 h7, fun h => by subst h; simp⟩
def dead : Sq := ⟨0, 0, 0#64, 0, 0, 0, 0⟩
def put (L : List Sq) (q : Sq) : List Sq := if q ∈ L then L else L ++ [q]
def nr (L : List Sq) (q : Sq) : Int := (L.idxOf q : Nat) + 1
def at' (L : List Sq) (id : Int) : Sq := (L[(id - 1).toNat]?).getD dead
def Ok (L : List Sq) (id : Int) : Prop := 1 ≤ id ∧ id ≤ L.length
theorem put_ext (L : List Sq) (q : Sq) : L <+: put L q := by
  unfold put
  split
  · exact List.prefix_rfl
  · exact List.prefix_append _ _
theorem put_len (L : List Sq) (q : Sq) : L.length ≤ (put L q).length ∧ (put L q).length ≤ L.length + 1 := by
  unfold put
  split <;> simp
theorem put_nd {L : List Sq} (h : L.Nodup) (q : Sq) : (put L q).Nodup := by
  unfold put
  split
  · exact h
  · rename_i hq
    rw [List.nodup_append]
    exact ⟨h, by simp, fun a ha b hb => by rw [List.mem_singleton] at hb; subst hb; exact fun e => hq (e ▸ ha)⟩
theorem put_ok (L : List Sq) (q : Sq) : Ok (put L q) (nr L q) := by
  unfold Ok put nr
  split
  · rename_i h
    have := List.idxOf_lt_length_of_mem h
    omega
  · rename_i h
    have := List.idxOf_eq_length h
    rw [List.length_append]
    simp
    omega
theorem put_at (L : List Sq) (q : Sq) : at' (put L q) (nr L q) = q := by
  unfold at' put nr
  rw [show ((L.idxOf q : Nat) + 1 - 1 : Int).toNat = L.idxOf q by omega]
  split
  · rename_i h
    have h1 := List.idxOf_lt_length_of_mem h
    rw [List.getElem?_eq_getElem h1, List.getElem_idxOf]
    rfl
  · rename_i h
    rw [List.idxOf_eq_length h, List.getElem?_append_right (Nat.le_refl _), Nat.sub_self]
    rfl
theorem at_ext {L M : List Sq} (h : L <+: M) {id : Int} (ho : Ok L id) : at' M id = at' L id := by
  obtain ⟨t, rfl⟩ := h
  unfold at'
  unfold Ok at ho
  rw [List.getElem?_append_left (by omega)]
theorem Ok.ext {L M : List Sq} (h : L <+: M) {id : Int} (ho : Ok L id) : Ok M id := by
  have := h.length_le
  unfold Ok at *
  omega
theorem at_inj {L : List Sq} (h : L.Nodup) {i j : Int} (hi : Ok L i) (hj : Ok L j) (e : at' L i = at' L j) : i = j := by
  unfold Ok at hi hj
  unfold at' at e
  rw [List.getElem?_eq_getElem (by omega), List.getElem?_eq_getElem (by omega)] at e
  have h1 := (List.getElem_inj h).1 (show L[(i - 1).toNat]'(by omega) = L[(j - 1).toNat]'(by omega) from e)
  omega
def sat (a b : Int) : Int := a + min b (4611686018427387904 - a)
def cnt4 (a b c d : Int) : Int := sat (sat (sat (sat 0 a) b) c) d
def joinQ (L : List Sq) (a b c d : Int) : Sq := ⟨(at' L a).lev + 1, cnt4 (at' L a).cnt (at' L b).cnt (at' L c).cnt (at' L d).cnt, 0#64, a, b, c, d⟩
def leafQ (t : T6) : Sq := ⟨3, (liv t : Nat), t, 0, 0, 0, 0⟩
/-- what a square of the number id must be -/
structure Node (L : List Sq) (id : Int) (q : Sq) : Prop where
  lo : 4 ≤ q.lev
  hi : q.lev ≤ 40
  b0 : 1 ≤ q.k0 ∧ q.k0 < id
  b1 : 1 ≤ q.k1 ∧ q.k1 < id
  b2 : 1 ≤ q.k2 ∧ q.k2 < id
  b3 : 1 ≤ q.k3 ∧ q.k3 < id
  l0 : (at' L q.k0).lev = q.lev - 1
  l1 : (at' L q.k1).lev = q.lev - 1
  l2 : (at' L q.k2).lev = q.lev - 1
  l3 : (at' L q.k3).lev = q.lev - 1
  eq : q = joinQ L q.k0 q.k1 q.k2 q.k3
def Gd (L : List Sq) (id : Int) (q : Sq) : Prop := q = leafQ q.til ∨ Node L id q
structure Inv (L : List Sq) : Prop where
  nd : L.Nodup
  gd : ∀ id, Ok L id → Gd L id (at' L id)
theorem inv_nil : Inv [] := ⟨List.nodup_nil, fun id h => by unfold Ok at h; simp at h; omega⟩
theorem join_ext {L M : List Sq} (h : L <+: M) {a b c d : Int} (ha : Ok L a) (hb : Ok L b) (hc : Ok L c) (hd : Ok L d) : joinQ M a b c d = joinQ L a b c d := by
  unfold joinQ
  rw [at_ext h ha, at_ext h hb, at_ext h hc, at_ext h hd]
theorem Node.ext {L M : List Sq} (h : L <+: M) {id : Int} {q : Sq} (hn : Node L id q) (ho : id ≤ L.length + 1) : Node M id q := by
  have o0 : Ok L q.k0 := by have := hn.b0; unfold Ok; omega
  have o1 : Ok L q.k1 := by have := hn.b1; unfold Ok; omega
  have o2 : Ok L q.k2 := by have := hn.b2; unfold Ok; omega
  have o3 : Ok L q.k3 := by have := hn.b3; unfold Ok; omega
  exact ⟨hn.lo, hn.hi, hn.b0, hn.b1, hn.b2, hn.b3, by rw [at_ext h o0]; exact hn.l0, by rw [at_ext h o1]; exact hn.l1, by rw [at_ext h o2]; exact hn.l2, by rw [at_ext h o3]; exact hn.l3, by rw [join_ext h o0 o1 o2 o3]; exact hn.eq⟩
theorem Gd.ext {L M : List Sq} (h : L <+: M) {id : Int} {q : Sq} (hg : Gd L id q) (ho : id ≤ L.length + 1) : Gd M id q := by
  rcases hg with h1 | h1
  · exact .inl h1
  · exact .inr (h1.ext h ho)
theorem Inv.put {L : List Sq} (h : Inv L) {q : Sq} (hq : Gd L (L.length + 1) q) : Inv (put L q) := by
  by_cases hm : q ∈ L
  · have e : Qd.put L q = L := if_pos hm
    rw [e]
    exact h
  · refine ⟨put_nd h.nd q, fun id ho => ?_⟩
    have e : Qd.put L q = L ++ [q] := if_neg hm
    by_cases hl : id ≤ L.length
    · have hoL : Ok L id := ⟨ho.1, hl⟩
      rw [at_ext (put_ext L q) hoL]
      exact (h.gd id hoL).ext (put_ext L q) (by omega)
    · have hi : id = L.length + 1 := by
        have := ho.2
        rw [e] at this
        simp at this
        omega
      have e2 : at' (Qd.put L q) id = q := by
        have := put_at L q
        rw [show nr L q = id by rw [hi]; unfold nr; rw [List.idxOf_eq_length hm]] at this
        exact this
      rw [e2, hi]
      exact hq.ext (put_ext L q) (Int.le_refl _)
theorem sat_lo {a b : Int} (ha : 0 ≤ a) (hb : 0 ≤ b) (h : a ≤ 4611686018427387904) : 0 ≤ sat a b ∧ sat a b ≤ 4611686018427387904 := by unfold sat; omega
theorem cnt4_lo {a b c d : Int} (ha : 0 ≤ a) (hb : 0 ≤ b) (hc : 0 ≤ c) (hd : 0 ≤ d) : 0 ≤ cnt4 a b c d ∧ cnt4 a b c d ≤ 4611686018427387904 := by
  have h1 := sat_lo (a := 0) (b := a) (by omega) ha (by omega)
  have h2 := sat_lo h1.1 hb h1.2
  have h3 := sat_lo h2.1 hc h2.2
  exact sat_lo h3.1 hd h3.2
/-- a square's numbers keep their bounds -/
structure Bd (L : List Sq) (q : Sq) : Prop where
  l0 : 3 ≤ q.lev
  l1 : q.lev ≤ 40
  c0 : 0 ≤ q.cnt
  c1 : q.cnt ≤ 4611686018427387904
  a0 : 0 ≤ q.k0 ∧ q.k0 ≤ L.length
  a1 : 0 ≤ q.k1 ∧ q.k1 ≤ L.length
  a2 : 0 ≤ q.k2 ∧ q.k2 ≤ L.length
  a3 : 0 ≤ q.k3 ∧ q.k3 ≤ L.length
theorem leaf_bd (L : List Sq) (t : T6) : Bd L (leafQ t) := by
  have := pcN_le t.toNat 64
  constructor <;> simp [leafQ, liv] <;> omega
theorem Inv.cnt {L : List Sq} (h : Inv L) : ∀ (n : Nat) (id : Int), id.toNat ≤ n → Ok L id → 0 ≤ (at' L id).cnt
  | 0, id, hn, ho => by unfold Ok at ho; omega
  | n + 1, id, hn, ho => by
    rcases h.gd id ho with h1 | h1
    · rw [h1]; simp [leafQ]
    · have := ho.2
      have := ho.1
      rw [h1.eq]
      have f := fun (k : Int) (hk : 1 ≤ k ∧ k < id) => h.cnt n k (by omega) ⟨hk.1, by omega⟩
      exact (cnt4_lo (f _ h1.b0) (f _ h1.b1) (f _ h1.b2) (f _ h1.b3)).1
theorem Inv.bd {L : List Sq} (h : Inv L) {id : Int} (ho : Ok L id) : Bd L (at' L id) := by
  rcases h.gd id ho with h1 | h1
  · rw [h1]; exact leaf_bd L _
  · have := ho.2
    have f := fun (k : Int) (hk : 1 ≤ k ∧ k < id) => h.cnt _ k (Nat.le_refl _) ⟨hk.1, by omega⟩
    have c := cnt4_lo (f _ h1.b0) (f _ h1.b1) (f _ h1.b2) (f _ h1.b3)
    have e : (at' L id).cnt = cnt4 _ _ _ _ := congrArg Sq.cnt h1.eq
    have := h1.b0
    have := h1.b1
    have := h1.b2
    have := h1.b3
    have := h1.lo
    have := h1.hi
    exact ⟨by omega, by omega, by rw [e]; exact c.1, by rw [e]; exact c.2, by omega, by omega, by omega, by omega⟩
/-- four of one level that can be joined -/
structure Four (L : List Sq) (a b c d : Int) (l : Int) : Prop where
  o0 : Ok L a
  o1 : Ok L b
  o2 : Ok L c
  o3 : Ok L d
  l0 : (at' L a).lev = l
  l1 : (at' L b).lev = l
  l2 : (at' L c).lev = l
  l3 : (at' L d).lev = l
theorem Four.gd {L : List Sq} {a b c d l : Int} (h : Four L a b c d l) (h1 : 3 ≤ l) (h2 : l < 40) : Gd L (L.length + 1) (joinQ L a b c d) := by
  obtain ⟨⟨a0, a1⟩, ⟨b0, b1⟩, ⟨c0, c1⟩, ⟨d0, d1⟩, l0, l1, l2, l3⟩ := h
  refine .inr ⟨?_, ?_, ⟨a0, ?_⟩, ⟨b0, ?_⟩, ⟨c0, ?_⟩, ⟨d0, ?_⟩, ?_, ?_, ?_, ?_, rfl⟩
  all_goals simp only [joinQ]
  all_goals omega
theorem Four.bd {L : List Sq} {a b c d l : Int} (hi : Inv L) (h : Four L a b c d l) (h1 : 3 ≤ l) (h2 : l < 40) : Bd L (joinQ L a b c d) := by
  have c4 := cnt4_lo (hi.bd h.o0).c0 (hi.bd h.o1).c0 (hi.bd h.o2).c0 (hi.bd h.o3).c0
  obtain ⟨⟨a0, a1⟩, ⟨b0, b1⟩, ⟨c0, c1⟩, ⟨d0, d1⟩, l0, l1, l2, l3⟩ := h
  refine ⟨?_, ?_, c4.1, c4.2, ⟨?_, ?_⟩, ⟨?_, ?_⟩, ⟨?_, ?_⟩, ⟨?_, ?_⟩⟩
  all_goals simp only [joinQ]
  all_goals omega
theorem Inv.leaf {L : List Sq} (h : Inv L) (t : T6) : Inv (Qd.put L (leafQ t)) := h.put (.inl rfl)
theorem Inv.join {L : List Sq} (h : Inv L) {a b c d l : Int} (hf : Four L a b c d l) (h1 : 3 ≤ l) (h2 : l < 40) : Inv (Qd.put L (joinQ L a b c d)) := h.put (hf.gd h1 h2)
end Go.Proofs.YtlejohclijjhnaaGreatDoor.Qd

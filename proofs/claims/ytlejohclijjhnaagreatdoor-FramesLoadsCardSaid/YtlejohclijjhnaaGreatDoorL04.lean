/-
  HOW A SQUARE GOES ON, AS PLAIN DATA: windows of a plane; middles; what comes of a square, remembered or not, over a list of squares. Conditions: those that each lemma names.
-/
import Derived.Test.YtlejohclijjhnaaGreatDoorL03
namespace Go.Proofs.YtlejohclijjhnaaGreatDoor.Qd
open Ti Ru

/-- a window of a plane: what a square of level n + 3 has -/
def Wn (L : List Sq) (n : Nat) (id : Int) (p : Pl) (ox oy : Int) : Prop := Lv L n id ∧ ∀ x y : Nat, x < 2 ^ (n + 3) → y < 2 ^ (n + 3) → cel L n id x y = p (ox + x) (oy + y)
theorem Wn.ext {L M : List Sq} (hi : Inv L) (h : L <+: M) {n : Nat} {id : Int} {p : Pl} {ox oy : Int} (w : Wn L n id p ox oy) : Wn M n id p ox oy :=
  ⟨w.1.ext h, fun x y hx hy => by rw [cel_ext hi h n _ _ _ w.1]; exact w.2 x y hx hy⟩
theorem Lv.back {L M : List Sq} (h : L <+: M) {n : Nat} {id : Int} (ho : Ok L id) (hl : Lv M n id) : Lv L n id := ⟨ho, by rw [← at_ext h ho]; exact hl.2⟩
theorem Wn.back {L M : List Sq} (hi : Inv L) (h : L <+: M) {n : Nat} {id : Int} {p : Pl} {ox oy : Int} (ho : Ok L id) (w : Wn M n id p ox oy) : Wn L n id p ox oy :=
  have hl := w.1.back h ho
  ⟨hl, fun x y hx hy => by rw [← cel_ext hi h n _ _ _ hl]; exact w.2 x y hx hy⟩
theorem Wn.self {L : List Sq} {n : Nat} {id : Int} (h : Lv L n id) : Wn L n id (fun x y => cel L n id x.toNat y.toNat) 0 0 := ⟨h, fun x y _ _ => by simp⟩
theorem Wn.uniq {L : List Sq} (hi : Inv L) {n : Nat} {a b : Int} {p : Pl} {ox oy : Int} (ha : Wn L n a p ox oy) (hb : Wn L n b p ox oy) : a = b :=
  Qd.uniq hi n a b ha.1 hb.1 fun x y hx hy => by rw [ha.2 x y hx hy, hb.2 x y hx hy]
theorem Wn.ag {L : List Sq} {n : Nat} {id : Int} {p q : Pl} {ox oy ux uy : Int} (h : Wn L n id p ox oy) (e : ∀ x y : Nat, x < 2 ^ (n + 3) → y < 2 ^ (n + 3) → p (ox + x) (oy + y) = q (ux + x) (uy + y)) : Wn L n id q ux uy :=
  ⟨h.1, fun x y hx hy => by rw [h.2 x y hx hy, e x y hx hy]⟩
theorem pow3 (n : Nat) : 2 ^ (n + 1 + 3) = 2 * 2 ^ (n + 3) := by rw [show n + 1 + 3 = (n + 3) + 1 by omega, Nat.pow_succ]; omega
theorem half_le {i h : Nat} (hi : i < 2) : i * h ≤ h := by
  have : i ≤ 1 := by omega
  calc i * h ≤ 1 * h := Nat.mul_le_mul_right _ this
    _ = h := Nat.one_mul _
/-- a quarter of a window -/
theorem Wn.kid {L : List Sq} (hi : Inv L) {n : Nat} {id : Int} {p : Pl} {ox oy : Int} (w : Wn L (n + 1) id p ox oy) (i : Nat) (h4 : i < 4) : Wn L n (Qd.kid (at' L id) i) p (ox + (i % 2 * 2 ^ (n + 3) : Nat)) (oy + (i / 2 * 2 ^ (n + 3) : Nat)) := by
  refine ⟨hi.kid w.1 i, fun x y hx hy => ?_⟩
  obtain ⟨e1, e2, e3⟩ := qd_at hx hy h4
  have hw := pow3 n
  have b1 := half_le (h := 2 ^ (n + 3)) (show i % 2 < 2 by omega)
  have b2 := half_le (h := 2 ^ (n + 3)) (show i / 2 < 2 by omega)
  have := w.2 (i % 2 * 2 ^ (n + 3) + x) (i / 2 * 2 ^ (n + 3) + y) (by omega) (by omega)
  simp only [cel] at this
  rw [e1, e2, e3] at this
  rw [this]
  congr 1 <;> omega
theorem four_of {L : List Sq} {n : Nat} {f : Nat → Int} (h : ∀ i, i < 4 → Lv L n (f i)) : Four L (f 0) (f 1) (f 2) (f 3) (n + 3) :=
  ⟨(h 0 (by decide)).1, (h 1 (by decide)).1, (h 2 (by decide)).1, (h 3 (by decide)).1, (h 0 (by decide)).2, (h 1 (by decide)).2, (h 2 (by decide)).2, (h 3 (by decide)).2⟩
theorem node_lv {L : List Sq} {n : Nat} {f : Nat → Int} (h : ∀ i, i < 4 → Lv L n (f i)) : Lv (put L (joinQ L (f 0) (f 1) (f 2) (f 3))) (n + 1) (nr L (joinQ L (f 0) (f 1) (f 2) (f 3))) :=
  ⟨put_ok _ _, by rw [put_at]; show (at' L (f 0)).lev + 1 = _; rw [(h 0 (by decide)).2]; omega⟩
theorem node_inv {L : List Sq} (hi : Inv L) {n : Nat} (hn : n ≤ 36) {f : Nat → Int} (h : ∀ i, i < 4 → Lv L n (f i)) : Inv (put L (joinQ L (f 0) (f 1) (f 2) (f 3))) :=
  hi.join (four_of h) (by omega) (by omega)
theorem qd_parts {h x y : Nat} (h1 : x / h < 2) : qd h x y % 2 = x / h ∧ qd h x y / 2 = y / h := by
  unfold qd
  generalize x / h = a at *
  generalize y / h = b at *
  omega
/-- four windows side by side are one -/
theorem node_wn {L : List Sq} (hi : Inv L) {n : Nat} {f : Nat → Int} {p : Pl} {ox oy : Int} (h : ∀ i, i < 4 → Wn L n (f i) p (ox + (i % 2 * 2 ^ (n + 3) : Nat)) (oy + (i / 2 * 2 ^ (n + 3) : Nat))) :
    Wn (put L (joinQ L (f 0) (f 1) (f 2) (f 3))) (n + 1) (nr L (joinQ L (f 0) (f 1) (f 2) (f 3))) p ox oy := by
  refine ⟨node_lv fun i h4 => (h i h4).1, fun x y hx hy => ?_⟩
  have hw := pow3 n
  have hp := Nat.two_pow_pos (n + 3)
  have hq : qd (2 ^ (n + 3)) x y < 4 := qd_lt (by rw [show n + 3 + 1 = n + 1 + 3 by omega]; exact hx) (by rw [show n + 3 + 1 = n + 1 + 3 by omega]; exact hy)
  show cel (put L _) n (Qd.kid (at' (put L _) (nr L _)) (qd (2 ^ (n + 3)) x y)) (x % 2 ^ (n + 3)) (y % 2 ^ (n + 3)) = _
  rw [put_at, kid_join L f _ hq, cel_ext hi (put_ext _ _) n _ _ _ (h _ hq).1, (h _ hq).2 _ _ (Nat.mod_lt _ hp) (Nat.mod_lt _ hp)]
  have h1 : x / 2 ^ (n + 3) < 2 := by rw [Nat.div_lt_iff_lt_mul hp]; omega
  have h2 : y / 2 ^ (n + 3) < 2 := by rw [Nat.div_lt_iff_lt_mul hp]; omega
  have e1 : qd (2 ^ (n + 3)) x y % 2 = x / 2 ^ (n + 3) := (qd_parts h1).1
  have e2 : qd (2 ^ (n + 3)) x y / 2 = y / 2 ^ (n + 3) := (qd_parts h1).2
  rw [e1, e2]
  have d1 := Nat.div_add_mod x (2 ^ (n + 3))
  have d2 := Nat.div_add_mod y (2 ^ (n + 3))
  rw [Nat.mul_comm] at d1 d2
  congr 1 <;> omega
/-- four tiles, by their numbers -/
def t4 (a b c d : T6) : Nat → T6
  | 0 => a
  | 1 => b
  | 2 => c
  | _ => d
def cutP (p : Pl) (x y : Int) : T6 := mkT (fun i => p (x + (i % 8 : Nat)) (y + (i / 8 : Nat)))
def growP (b l n : Nat) (t : Nat → T6) : T6 := cutP (gens b l (tp 2 t) n) 4 4
theorem gen_shift (b l : Nat) (p : Pl) (u v : Int) : gen b l (fun x y => p (u + x) (v + y)) = fun x y => gen b l p (u + x) (v + y) := by
  funext x y
  unfold gen nbr
  simp only [Int.add_assoc, Int.add_sub_assoc]
theorem gens_shift (b l : Nat) (p : Pl) (u v : Int) : ∀ n, gens b l (fun x y => p (u + x) (v + y)) n = fun x y => gens b l p n (u + x) (v + y)
  | 0 => rfl
  | n + 1 => by
    show gen b l (gens b l _ n) = _
    rw [gens_shift b l p u v n, gen_shift]
    rfl
theorem gens_add (b l : Nat) (p : Pl) (m : Nat) : ∀ n, gens b l (gens b l p m) n = gens b l p (m + n)
  | 0 => rfl
  | n + 1 => by
    show gen b l (gens b l (gens b l p m) n) = gen b l (gens b l p (m + n))
    rw [gens_add b l p m n]
/-- of four tiles that are windows, so many generations on, a window -/
theorem tile_wn {L : List Sq} (b l n : Nat) (hn : n ≤ 4) {f : Nat → Int} {p : Pl} {ox oy : Int} (h : ∀ i, i < 4 → Wn L 0 (f i) p (ox + (i % 2 * 8 : Nat)) (oy + (i / 2 * 8 : Nat))) :
    Wn (put L (leafQ (growP b l n (t4 (at' L (f 0)).til (at' L (f 1)).til (at' L (f 2)).til (at' L (f 3)).til)))) 0 (nr L (leafQ (growP b l n (t4 (at' L (f 0)).til (at' L (f 1)).til (at' L (f 2)).til (at' L (f 3)).til)))) (gens b l p n) (ox + 4) (oy + 4) := by
  refine ⟨⟨put_ok _ _, by rw [put_at]; rfl⟩, fun x y hx hy => ?_⟩
  have hx : x < 8 := hx
  have hy : y < 8 := hy
  show (at' (put L _) (nr L _)).til.getLsbD (8 * y + x) = _
  rw [put_at]
  show (growP b l n _).getLsbD (8 * y + x) = _
  unfold growP cutP
  rw [mkT_bit _ _ (by omega), show (8 * y + x) % 8 = x by omega, show (8 * y + x) / 8 = y by omega]
  have ag : Ag (tp 2 (t4 (at' L (f 0)).til (at' L (f 1)).til (at' L (f 2)).til (at' L (f 3)).til)) (fun x y => p (ox + x) (oy + y)) 0 15 0 15 := by
    intro u v u0 u1 v0 v1
    obtain ⟨u, rfl⟩ := Int.eq_ofNat_of_zero_le u0
    obtain ⟨v, rfl⟩ := Int.eq_ofNat_of_zero_le v0
    have hu : u < 16 := by omega
    have hv : v < 16 := by omega
    unfold tp
    rw [decide_eq_true u0, decide_eq_true v0, decide_eq_true (show (u : Int) < 8 * ((2 : Nat) : Int) by omega), decide_eq_true (show (v : Int) < 8 * ((2 : Nat) : Int) by omega)]
    simp only [Bool.and_self, Bool.true_and, Int.toNat_natCast]
    have hq : v / 8 * 2 + u / 8 < 4 := by omega
    have key := (h _ hq).2 (u % 8) (v % 8) (by show _ < 8; omega) (by show _ < 8; omega)
    have e : t4 (at' L (f 0)).til (at' L (f 1)).til (at' L (f 2)).til (at' L (f 3)).til (v / 8 * 2 + u / 8) = (at' L (f (v / 8 * 2 + u / 8))).til := by
      rcases (show v / 8 * 2 + u / 8 = 0 ∨ v / 8 * 2 + u / 8 = 1 ∨ v / 8 * 2 + u / 8 = 2 ∨ v / 8 * 2 + u / 8 = 3 by omega) with e | e | e | e <;> rw [e] <;> rfl
    rw [e]
    refine Eq.trans key ?_
    congr 1 <;> omega
  rw [gens_ag b l ag n _ _ (by omega) (by omega) (by omega) (by omega), gens_shift]
  show gens b l p n (ox + (4 + (x : Int))) (oy + (4 + (y : Int))) = _
  rw [← Int.add_assoc, ← Int.add_assoc]
abbrev Kn := Int → Int → Option Int
def Kn.note (K : Kn) (id j o : Int) : Kn := fun a c => if a = id ∧ c = j then some o else K a c
/-- the squares, and what is remembered -/
abbrev GS := List Sq × Kn
def nodeG (s : GS) (a b c d : Int) : GS × Int := ((put s.1 (joinQ s.1 a b c d), s.2), nr s.1 (joinQ s.1 a b c d))
def leafG (s : GS) (t : T6) : GS × Int := ((put s.1 (leafQ t), s.2), nr s.1 (leafQ t))
def tilG (L : List Sq) (a b c d : Int) : Nat → T6 := t4 (at' L a).til (at' L b).til (at' L c).til (at' L d).til
/-- the middle of four -/
def midG (s : GS) (a b c d : Int) : GS × Int :=
  if (at' s.1 a).lev = 3 then leafG s (growP 0 0 0 (tilG s.1 a b c d))
  else nodeG s (kid (at' s.1 a) 3) (kid (at' s.1 b) 2) (kid (at' s.1 c) 1) (kid (at' s.1 d) 0)
def stOf (f : GS → Nat → GS × Int) (s : GS) : Nat → GS
  | 0 => s
  | k + 1 => (f (stOf f s k) k).1
def outOf (f : GS → Nat → GS × Int) (s : GS) (k : Nat) : Int := (f (stOf f s k) k).2
def at4 (wide i : Nat) : Nat := i / (wide - 1) * wide + i % (wide - 1)
def midP (v : Nat → Int) (s : GS) (i : Nat) : GS × Int := midG s (v (at4 4 i)) (v (at4 4 i + 1)) (v (at4 4 i + 4)) (v (at4 4 i + 4 + 1))
def fourG (g : GS → Int → Nat → GS × Int) (j : Nat) (s : GS) (a b c d : Int) : GS × Int := g (nodeG s a b c d).1 (nodeG s a b c d).2 j
def fourP (g : GS → Int → Nat → GS × Int) (v : Nat → Int) (wide j : Nat) (s : GS) (i : Nat) : GS × Int := fourG g j s (v (at4 wide i)) (v (at4 wide i + 1)) (v (at4 wide i + wide)) (v (at4 wide i + wide + 1))
def sxt (L : List Sq) (id : Int) (k : Nat) : Int := kid (at' L (kid (at' L id) (k / 8 * 2 + k % 4 / 2))) (k / 4 % 2 * 2 + k % 2)
def restN (m j : Nat) : Nat := if j = m + 3 then j - 1 else j
def partG (g : GS → Int → Nat → GS × Int) (v : Nat → Int) (m j : Nat) : GS → Nat → GS × Int := if j = m + 3 then fourP g v 4 (restN m j) else midP v
/-- what comes of a square that is not remembered, of what comes of smaller ones -/
def grownG (g : GS → Int → Nat → GS × Int) (m : Nat) (s : GS) (id : Int) (j : Nat) : GS × Int :=
  let nf := partG g (sxt s.1 id) m j
  let ff := fourP g (outOf nf s) 3 (restN m j)
  nodeG (stOf ff (stOf nf s 9) 4) (outOf ff (stOf nf s 9) 0) (outOf ff (stOf nf s 9) 1) (outOf ff (stOf nf s 9) 2) (outOf ff (stOf nf s 9) 3)
def tileG (b l : Nat) (s : GS) (id : Int) (j : Nat) : GS × Int := leafG s (growP b l (2 ^ j) (tilG s.1 (at' s.1 id).k0 (at' s.1 id).k1 (at' s.1 id).k2 (at' s.1 id).k3))
def noteG (r : GS × Int) (id : Int) (j : Nat) : GS × Int := ((r.1.1, r.1.2.note id j r.2), r.2)
/-- what comes of a square of level m + 4, two to the power of j generations on -/
def growQ (b l : Nat) : Nat → GS → Int → Nat → GS × Int
  | 0, s, id, j => match s.2 id j with
    | some o => (s, o)
    | none => noteG (tileG b l s id j) id j
  | m + 1, s, id, j => match s.2 id j with
    | some o => (s, o)
    | none => noteG (grownG (growQ b l m) m s id j) id j
/-- what is remembered is so -/
structure GOk (b l : Nat) (s : GS) : Prop where
  inv : Inv s.1
  kn : ∀ id j o, s.2 id j = some o → Ok s.1 id ∧ ∀ m p ox oy, Wn s.1 (m + 1) id p ox oy → 0 ≤ j ∧ Wn s.1 m o (gens b l p (2 ^ j.toNat)) (ox + (2 ^ (m + 2) : Nat)) (oy + (2 ^ (m + 2) : Nat))
theorem GOk.ext {b l : Nat} {L M : List Sq} {K : Kn} (h : GOk b l (L, K)) (hm : Inv M) (e : L <+: M) : GOk b l (M, K) :=
  ⟨hm, fun id j o hk => by
    obtain ⟨h1, h2⟩ := h.kn id j o hk
    refine ⟨h1.ext e, fun m p ox oy hw => ?_⟩
    obtain ⟨h3, h4⟩ := h2 m p ox oy (hw.back h.inv e h1)
    exact ⟨h3, h4.ext h.inv e⟩⟩
/-- all that is new is one of some windows -/
def New (A : Nat → Pl → Int → Int → Prop) (L M : List Sq) : Prop := ∀ id, Ok M id → ¬ Ok L id → ∃ n p ox oy, A n p ox oy ∧ Wn M n id p ox oy
theorem New.refl (A : Nat → Pl → Int → Int → Prop) (L : List Sq) : New A L L := fun _ h h2 => absurd h h2
theorem New.trans {A : Nat → Pl → Int → Int → Prop} {L M N : List Sq} (hm : Inv M) (e : M <+: N) (h : New A L M) (k : New A M N) : New A L N := fun id ho hn => by
  by_cases q : Ok M id
  · obtain ⟨n, p, ox, oy, h1, h2⟩ := h id q hn
    exact ⟨n, p, ox, oy, h1, h2.ext hm e⟩
  · exact k id ho q
theorem New.put {A : Nat → Pl → Int → Int → Prop} {L : List Sq} {q : Sq} {n : Nat} {p : Pl} {ox oy : Int} (hA : A n p ox oy) (h : Wn (put L q) n (nr L q) p ox oy) : New A L (Qd.put L q) := fun id ho hn => by
  have e : id = nr L q := by
    unfold Ok at ho hn
    by_cases hq : q ∈ L
    · rw [show Qd.put L q = L from if_pos hq] at ho
      exact absurd ho hn
    · rw [show Qd.put L q = L ++ [q] from if_neg hq] at ho
      rw [List.length_append] at ho
      unfold nr
      rw [List.idxOf_eq_length hq]
      simp at ho
      omega
  exact ⟨n, p, ox, oy, hA, e ▸ h⟩
/-- what comes of a call -/
structure Res (b l : Nat) (A : Nat → Pl → Int → Int → Prop) (c : Nat) (s : GS) (r : GS × Int) (m : Nat) (p : Pl) (ox oy : Int) : Prop where
  ext : s.1 <+: r.1.1
  len : r.1.1.length ≤ s.1.length + c
  ok : GOk b l r.1
  win : Wn r.1.1 m r.2 p ox oy
  new : New A s.1 r.1.1
theorem Res.mono {b l : Nat} {A : Nat → Pl → Int → Int → Prop} {c c' : Nat} {s : GS} {r : GS × Int} {m : Nat} {p : Pl} {ox oy : Int} (h : Res b l A c s r m p ox oy) (hc : c ≤ c') : Res b l A c' s r m p ox oy :=
  ⟨h.ext, by have := h.len; omega, h.ok, h.win, h.new⟩
theorem Res.ag {b l : Nat} {A : Nat → Pl → Int → Int → Prop} {c : Nat} {s : GS} {r : GS × Int} {m : Nat} {p q : Pl} {ox oy ux uy : Int} (h : Res b l A c s r m p ox oy) (e1 : p = q) (e2 : ox = ux) (e3 : oy = uy) : Res b l A c s r m q ux uy := by
  subst e1 e2 e3
  exact h
theorem node_res {b l : Nat} {A : Nat → Pl → Int → Int → Prop} {s : GS} (hs : GOk b l s) {n : Nat} (hn : n ≤ 36) {f : Nat → Int} {p : Pl} {ox oy : Int} (h : ∀ i, i < 4 → Wn s.1 n (f i) p (ox + (i % 2 * 2 ^ (n + 3) : Nat)) (oy + (i / 2 * 2 ^ (n + 3) : Nat))) (hA : A (n + 1) p ox oy) :
    Res b l A 1 s (nodeG s (f 0) (f 1) (f 2) (f 3)) (n + 1) p ox oy := by
  have w := node_wn hs.inv h
  exact ⟨put_ext _ _, (put_len _ _).2, GOk.ext (L := s.1) (K := s.2) hs (node_inv hs.inv hn fun i h4 => (h i h4).1) (put_ext _ _), w, New.put hA w⟩
theorem leaf_res {b l : Nat} {A : Nat → Pl → Int → Int → Prop} {s : GS} (hs : GOk b l s) (r k n : Nat) (hn : n ≤ 4) {f : Nat → Int} {p : Pl} {ox oy : Int} (h : ∀ i, i < 4 → Wn s.1 0 (f i) p (ox + (i % 2 * 8 : Nat)) (oy + (i / 2 * 8 : Nat))) (hA : A 0 (gens r k p n) (ox + 4) (oy + 4)) :
    Res b l A 1 s (leafG s (growP r k n (tilG s.1 (f 0) (f 1) (f 2) (f 3)))) 0 (gens r k p n) (ox + 4) (oy + 4) := by
  have w := tile_wn r k n hn h
  exact ⟨put_ext _ _, (put_len _ _).2, GOk.ext (L := s.1) (K := s.2) hs (hs.inv.leaf _) (put_ext _ _), w, New.put hA w⟩
theorem mid_res {b l : Nat} {A : Nat → Pl → Int → Int → Prop} {s : GS} (hs : GOk b l s) {n : Nat} (hn : n ≤ 36) {f : Nat → Int} {p : Pl} {ox oy : Int} (h : ∀ i, i < 4 → Wn s.1 n (f i) p (ox + (i % 2 * 2 ^ (n + 3) : Nat)) (oy + (i / 2 * 2 ^ (n + 3) : Nat))) (hA : A n p (ox + (2 ^ (n + 2) : Nat)) (oy + (2 ^ (n + 2) : Nat))) :
    Res b l A 1 s (midG s (f 0) (f 1) (f 2) (f 3)) n p (ox + (2 ^ (n + 2) : Nat)) (oy + (2 ^ (n + 2) : Nat)) := by
  match n with
  | 0 =>
    unfold midG
    rw [if_pos (show (at' s.1 (f 0)).lev = 3 from (h 0 (by decide)).1.2)]
    exact leaf_res (p := p) hs 0 0 0 (by decide) h hA
  | n + 1 =>
    unfold midG
    rw [if_neg (by rw [(h 0 (by decide)).1.2]; omega)]
    have hw := pow3 n
    have hv : 2 ^ (n + 1 + 2) = 2 ^ (n + 3) := by rw [show n + 1 + 2 = n + 3 by omega]
    refine node_res (f := fun i => kid (at' s.1 (f i)) (3 - i)) hs (by omega) (fun i h4 => ?_) hA
    have := (h i h4).kid hs.inv (3 - i) (by omega)
    refine this.ag fun x y _ _ => ?_
    rw [hw, hv]
    generalize 2 ^ (n + 3) = h
    rcases (show i = 0 ∨ i = 1 ∨ i = 2 ∨ i = 3 by omega) with rfl | rfl | rfl | rfl <;> congr 1 <;> omega
theorem sixteen_wn {L : List Sq} (hi : Inv L) {m : Nat} {id : Int} {p : Pl} {ox oy : Int} (w : Wn L (m + 2) id p ox oy) (k : Nat) (hk : k < 16) : Wn L m (sxt L id k) p (ox + (k % 4 * 2 ^ (m + 3) : Nat)) (oy + (k / 4 * 2 ^ (m + 3) : Nat)) := by
  have h1 := (w.kid hi (k / 8 * 2 + k % 4 / 2) (by omega)).kid hi (k / 4 % 2 * 2 + k % 2) (by omega)
  refine h1.ag fun x y _ _ => ?_
  have hw := pow3 m
  rw [hw]
  generalize 2 ^ (m + 3) = h
  have e1 : (k / 8 * 2 + k % 4 / 2) % 2 * (2 * h) + (k / 4 % 2 * 2 + k % 2) % 2 * h = k % 4 * h := by
    rw [show (k / 8 * 2 + k % 4 / 2) % 2 = k % 4 / 2 by omega, show (k / 4 % 2 * 2 + k % 2) % 2 = k % 2 by omega, ← Nat.mul_assoc, ← Nat.add_mul, show k % 4 / 2 * 2 + k % 2 = k % 4 by omega]
  have e2 : (k / 8 * 2 + k % 4 / 2) / 2 * (2 * h) + (k / 4 % 2 * 2 + k % 2) / 2 * h = k / 4 * h := by
    rw [show (k / 8 * 2 + k % 4 / 2) / 2 = k / 8 by omega, show (k / 4 % 2 * 2 + k % 2) / 2 = k / 4 % 2 by omega, ← Nat.mul_assoc, ← Nat.add_mul, show k / 8 * 2 + k / 4 % 2 = k / 4 by omega]
  congr 1 <;> omega
/-- calls one behind the other -/
structure It (b l : Nat) (A : Nat → Pl → Int → Int → Prop) (c : Nat) (f : GS → Nat → GS × Int) (s : GS) (m : Nat) (P : Pl) (X Y : Nat → Int) (k : Nat) : Prop where
  ext : s.1 <+: (stOf f s k).1
  len : (stOf f s k).1.length ≤ s.1.length + k * c
  ok : GOk b l (stOf f s k)
  win : ∀ i, i < k → Wn (stOf f s k).1 m (outOf f s i) P (X i) (Y i)
  new : New A s.1 (stOf f s k).1
theorem it_ok {b l : Nat} {A : Nat → Pl → Int → Int → Prop} {c : Nat} {f : GS → Nat → GS × Int} {s : GS} {m : Nat} {P : Pl} {X Y : Nat → Int} {N : Nat} (hs : GOk b l s)
    (h : ∀ k, k < N → ∀ s' : GS, s.1 <+: s'.1 → GOk b l s' → Res b l A c s' (f s' k) m P (X k) (Y k)) : ∀ k, k ≤ N → It b l A c f s m P X Y k
  | 0, _ => ⟨List.prefix_rfl, by show s.1.length ≤ _; omega, hs, fun i hi => absurd hi (by omega), New.refl _ _⟩
  | k + 1, hk => by
    have ih := it_ok hs h k (by omega)
    have r := h k (by omega) _ ih.ext ih.ok
    refine ⟨ih.ext.trans r.ext, ?_, r.ok, fun i hi => ?_, ih.new.trans ih.ok.inv r.ext r.new⟩
    · have := r.len
      have := ih.len
      show (f (stOf f s k) k).1.1.length ≤ _
      rw [Nat.succ_mul]
      omega
    · by_cases e : i = k
      · subst e
        exact r.win
      · exact (ih.win i (by omega)).ext ih.ok.inv r.ext
theorem stOf_ext (f : GS → Nat → GS × Int) (s : GS) (h : ∀ s k, s.1 <+: (f s k).1.1) : ∀ k m, (stOf f s k).1 <+: (stOf f s (k + m)).1
  | _, 0 => List.prefix_rfl
  | k, m + 1 => (stOf_ext f s h k m).trans (h _ _)
/-- which windows may be made, and which may go on -/
structure Uni (b l : Nat) (A : Nat → Pl → Int → Int → Prop) (G : Nat → Pl → Int → Int → Nat → Prop) : Prop where
  out : ∀ m p ox oy j, G m p ox oy j → A m (gens b l p (2 ^ j)) (ox + (2 ^ (m + 2) : Nat)) (oy + (2 ^ (m + 2) : Nat))
  f9 : ∀ m p ox oy u v, G (m + 1) p ox oy (m + 3) → u ≤ 2 → v ≤ 2 → A (m + 1) p (ox + (u * 2 ^ (m + 3) : Nat)) (oy + (v * 2 ^ (m + 3) : Nat)) ∧ G m p (ox + (u * 2 ^ (m + 3) : Nat)) (oy + (v * 2 ^ (m + 3) : Nat)) (m + 2)
  f4 : ∀ m p ox oy u v, G (m + 1) p ox oy (m + 3) → u ≤ 1 → v ≤ 1 → A (m + 1) (gens b l p (2 ^ (m + 2))) (ox + (2 ^ (m + 2) + u * 2 ^ (m + 3) : Nat)) (oy + (2 ^ (m + 2) + v * 2 ^ (m + 3) : Nat)) ∧ G m (gens b l p (2 ^ (m + 2))) (ox + (2 ^ (m + 2) + u * 2 ^ (m + 3) : Nat)) (oy + (2 ^ (m + 2) + v * 2 ^ (m + 3) : Nat)) (m + 2)
  n9 : ∀ m p ox oy j u v, G (m + 1) p ox oy j → j < m + 3 → u ≤ 2 → v ≤ 2 → A m p (ox + (2 ^ (m + 2) + u * 2 ^ (m + 3) : Nat)) (oy + (2 ^ (m + 2) + v * 2 ^ (m + 3) : Nat))
  n4 : ∀ m p ox oy j u v, G (m + 1) p ox oy j → j < m + 3 → u ≤ 1 → v ≤ 1 → A (m + 1) p (ox + (2 ^ (m + 2) + u * 2 ^ (m + 3) : Nat)) (oy + (2 ^ (m + 2) + v * 2 ^ (m + 3) : Nat)) ∧ G m p (ox + (2 ^ (m + 2) + u * 2 ^ (m + 3) : Nat)) (oy + (2 ^ (m + 2) + v * 2 ^ (m + 3) : Nat)) j
theorem uni_any (b l : Nat) : Uni b l (fun _ _ _ _ => True) (fun _ _ _ _ _ => True) :=
  ⟨fun _ _ _ _ _ _ => trivial, fun _ _ _ _ _ _ _ _ _ => ⟨trivial, trivial⟩, fun _ _ _ _ _ _ _ _ _ => ⟨trivial, trivial⟩, fun _ _ _ _ _ _ _ _ _ _ _ => trivial, fun _ _ _ _ _ _ _ _ _ _ _ => ⟨trivial, trivial⟩⟩
/-- how many squares it needs at most -/
def cst : Nat → Nat → Nat
  | 0, _ => 1
  | m + 1, j => if j = m + 3 then 9 * (cst m (j - 1) + 1) + 4 * (cst m (j - 1) + 1) + 1 else 9 * 1 + 4 * (cst m j + 1) + 1
theorem note_ok {b l : Nat} {A : Nat → Pl → Int → Int → Prop} {c : Nat} {s : GS} {r : GS × Int} {m : Nat} {id : Int} {j : Nat} {p : Pl} {ox oy : Int} (hs : GOk b l s) (h : ∀ p ox oy, Wn s.1 (m + 1) id p ox oy → Res b l (fun _ _ _ _ => True) c s r m (gens b l p (2 ^ j)) (ox + (2 ^ (m + 2) : Nat)) (oy + (2 ^ (m + 2) : Nat)))
    (hw : Wn s.1 (m + 1) id p ox oy) (hr : Res b l A c s r m (gens b l p (2 ^ j)) (ox + (2 ^ (m + 2) : Nat)) (oy + (2 ^ (m + 2) : Nat))) :
    Res b l A c s (noteG r id j) m (gens b l p (2 ^ j)) (ox + (2 ^ (m + 2) : Nat)) (oy + (2 ^ (m + 2) : Nat)) := by
  refine ⟨hr.ext, hr.len, ⟨hr.ok.inv, fun a q o hk => ?_⟩, hr.win, hr.new⟩
  have hk2 : (if a = id ∧ q = j then some r.2 else r.1.2 a q) = some o := hk
  clear hk
  split at hk2
  · rename_i e
    obtain ⟨rfl, rfl⟩ := e
    obtain rfl := Option.some.inj hk2
    refine ⟨hw.1.1.ext hr.ext, fun m' p' ux uy hw' => ⟨by omega, ?_⟩⟩
    have hb := hw'.back hs.inv hr.ext hw.1.1
    obtain rfl : m' = m := by have := hb.1.2; have := hw.1.2; omega
    rw [Int.toNat_natCast]
    exact (h p' ux uy hb).win
  · exact hr.ok.kn a q o hk2
theorem pow2_4 {j : Nat} (h : j ≤ 2) : 2 ^ j ≤ 4 := by
  calc 2 ^ j ≤ 2 ^ 2 := Nat.pow_le_pow_right (by decide) h
    _ = 4 := by decide
theorem grow_ok (b l : Nat) : ∀ (m : Nat) (A : Nat → Pl → Int → Int → Prop) (G : Nat → Pl → Int → Int → Nat → Prop) (_ : Uni b l A G) (s : GS) (id : Int) (j : Nat) (p : Pl) (ox oy : Int), GOk b l s → m ≤ 36 → j ≤ m + 2 → Wn s.1 (m + 1) id p ox oy → G m p ox oy j →
    Res b l A (cst m j) s (growQ b l m s id j) m (gens b l p (2 ^ j)) (ox + (2 ^ (m + 2) : Nat)) (oy + (2 ^ (m + 2) : Nat))
  | 0, A, G, hU, s, id, j, p, ox, oy, hs, hm, hj, hw, hG => by
    unfold growQ
    cases hk : s.2 id j with
    | some o =>
      refine ⟨List.prefix_rfl, by show s.1.length ≤ _; omega, hs, ?_, New.refl _ _⟩
      have := ((hs.kn id j o hk).2 0 p ox oy hw).2
      rw [Int.toNat_natCast] at this
      exact this
    | none =>
      have key : ∀ (A : Nat → Pl → Int → Int → Prop) p ox oy, Wn s.1 1 id p ox oy → A 0 (gens b l p (2 ^ j)) (ox + 4) (oy + 4) → Res b l A 1 s (tileG b l s id j) 0 (gens b l p (2 ^ j)) (ox + 4) (oy + 4) := fun A p ox oy hw hA =>
        leaf_res (f := fun i => kid (at' s.1 id) i) hs b l (2 ^ j) (pow2_4 hj) (fun i h4 => hw.kid hs.inv i h4) hA
      exact note_ok hs (fun p ox oy hw => key _ p ox oy hw trivial) hw (key A p ox oy hw (hU.out 0 p ox oy j hG))
  | m + 1, A, G, hU, s, id, j, p, ox, oy, hs, hm, hj, hw, hG => by
    unfold growQ
    cases hk : s.2 id j with
    | some o =>
      refine ⟨List.prefix_rfl, by show s.1.length ≤ _; omega, hs, ?_, New.refl _ _⟩
      have := ((hs.kn id j o hk).2 (m + 1) p ox oy hw).2
      rw [Int.toNat_natCast] at this
      exact this
    | none =>
      have key : ∀ (A : Nat → Pl → Int → Int → Prop) (G : Nat → Pl → Int → Int → Nat → Prop) (_ : Uni b l A G) p ox oy, Wn s.1 (m + 2) id p ox oy → G (m + 1) p ox oy j → Res b l A (cst (m + 1) j) s (grownG (growQ b l m) m s id j) (m + 1) (gens b l p (2 ^ j)) (ox + (2 ^ (m + 1 + 2) : Nat)) (oy + (2 ^ (m + 1 + 2) : Nat)) := fun A G hU p ox oy hw hG => by
        have e3 : 2 ^ (m + 3) = 2 * 2 ^ (m + 2) := by rw [show m + 3 = (m + 2) + 1 by omega, Nat.pow_succ]; omega
        have e4 : 2 ^ (m + 1 + 2) = 2 * 2 ^ (m + 2) := by rw [show m + 1 + 2 = m + 3 by omega]; exact e3
        have e5 : 2 ^ (m + 1 + 3) = 2 * 2 ^ (m + 3) := pow3 m
        have six := fun k hk => sixteen_wn hs.inv hw k hk
        have sub : ∀ k, k < 9 → ∀ s' : GS, s.1 <+: s'.1 → ∀ i, i < 4 → Wn s'.1 m ((fun i => sxt s.1 id (at4 4 k + i / 2 * 4 + i % 2)) i) p (ox + (k % 3 * 2 ^ (m + 3) : Nat) + (i % 2 * 2 ^ (m + 3) : Nat)) (oy + (k / 3 * 2 ^ (m + 3) : Nat) + (i / 2 * 2 ^ (m + 3) : Nat)) := fun k hk s' he i h4 => by
          have hx : at4 4 k + i / 2 * 4 + i % 2 < 16 := by unfold at4; omega
          refine ((six _ hx).ext hs.inv he).ag fun x y _ _ => ?_
          have a1 : (at4 4 k + i / 2 * 4 + i % 2) % 4 = k % 3 + i % 2 := by unfold at4; omega
          have a2 : (at4 4 k + i / 2 * 4 + i % 2) / 4 = k / 3 + i / 2 := by unfold at4; omega
          rw [a1, a2, Nat.add_mul, Nat.add_mul]
          congr 1 <;> omega
        -- nine squares of one's own: the plane and how many
        have fin : ∀ (c9 r : Nat) (P : Pl) (A9 : Prop), cst (m + 1) j = 9 * c9 + 4 * (cst m r + 1) + 1 → restN m j = r → r ≤ m + 2 → gens b l P (2 ^ r) = gens b l p (2 ^ j) →
            (∀ k, k < 9 → ∀ s' : GS, s.1 <+: s'.1 → GOk b l s' → Res b l A c9 s' (partG (growQ b l m) (sxt s.1 id) m j s' k) m P (ox + (2 ^ (m + 2) + k % 3 * 2 ^ (m + 3) : Nat)) (oy + (2 ^ (m + 2) + k / 3 * 2 ^ (m + 3) : Nat))) →
            (∀ u v, u ≤ 1 → v ≤ 1 → A (m + 1) P (ox + (2 ^ (m + 2) + u * 2 ^ (m + 3) : Nat)) (oy + (2 ^ (m + 2) + v * 2 ^ (m + 3) : Nat)) ∧ G m P (ox + (2 ^ (m + 2) + u * 2 ^ (m + 3) : Nat)) (oy + (2 ^ (m + 2) + v * 2 ^ (m + 3) : Nat)) r) →
            Res b l A (cst (m + 1) j) s (grownG (growQ b l m) m s id j) (m + 1) (gens b l p (2 ^ j)) (ox + (2 ^ (m + 1 + 2) : Nat)) (oy + (2 ^ (m + 1 + 2) : Nat)) := fun c9 r P A9 hc hr hrm hP h9 h4 => by
          have i9 := it_ok hs h9 9 (Nat.le_refl _)
          show Res b l A (cst (m + 1) j) s (nodeG (stOf (fourP (growQ b l m) (outOf (partG (growQ b l m) (sxt s.1 id) m j) s) 3 (restN m j)) (stOf (partG (growQ b l m) (sxt s.1 id) m j) s 9) 4) _ _ _ _) (m + 1) _ _ _
          rw [hr]
          generalize partG (growQ b l m) (sxt s.1 id) m j = nf at i9 ⊢
          have w9 : ∀ i, i < 9 → Wn (stOf nf s 9).1 m (outOf nf s i) P (ox + (2 ^ (m + 2) + i % 3 * 2 ^ (m + 3) : Nat)) (oy + (2 ^ (m + 2) + i / 3 * 2 ^ (m + 3) : Nat)) := i9.win
          have hi9 : GOk b l (stOf nf s 9) := i9.ok
          have x9 : s.1 <+: (stOf nf s 9).1 := i9.ext
          have l9 : (stOf nf s 9).1.length ≤ s.1.length + 9 * c9 := i9.len
          have n9 : New A s.1 (stOf nf s 9).1 := i9.new
          clear i9
          generalize stOf nf s 9 = s9 at *
          have f4 : ∀ k, k < 4 → ∀ s' : GS, s9.1 <+: s'.1 → GOk b l s' → Res b l A (cst m r + 1) s' (fourP (growQ b l m) (outOf nf s) 3 r s' k) m (gens b l P (2 ^ r)) (ox + (2 ^ (m + 3) + k % 2 * 2 ^ (m + 3) : Nat)) (oy + (2 ^ (m + 3) + k / 2 * 2 ^ (m + 3) : Nat)) := fun k hk s' he hk' => by
            have ag := h4 (k % 2) (k / 2) (by omega) (by omega)
            have nr1 := node_res (A := A) (f := fun i => outOf nf s (at4 3 k + i / 2 * 3 + i % 2)) hk' (show m ≤ 36 by omega) (p := P) (ox := ox + (2 ^ (m + 2) + k % 2 * 2 ^ (m + 3) : Nat)) (oy := oy + (2 ^ (m + 2) + k / 2 * 2 ^ (m + 3) : Nat)) (fun i hi4 => by
              have hx : at4 3 k + i / 2 * 3 + i % 2 < 9 := by unfold at4; omega
              refine ((w9 _ hx).ext hi9.inv he).ag fun x y _ _ => ?_
              have a1 : (at4 3 k + i / 2 * 3 + i % 2) % 3 = k % 2 + i % 2 := by unfold at4; omega
              have a2 : (at4 3 k + i / 2 * 3 + i % 2) / 3 = k / 2 + i / 2 := by unfold at4; omega
              rw [a1, a2, Nat.add_mul, Nat.add_mul]
              congr 1 <;> omega) ag.1
            have g1 := grow_ok b l m A G hU _ _ r P _ _ nr1.ok (by omega) hrm nr1.win ag.2
            refine (Res.ag ⟨nr1.ext.trans g1.ext, ?_, g1.ok, g1.win, nr1.new.trans nr1.ok.inv g1.ext g1.new⟩ rfl (by rw [e3]; omega) (by rw [e3]; omega))
            have := g1.len
            have := nr1.len
            exact Nat.le_trans g1.len (by omega)
          have i4 := it_ok hi9 f4 4 (Nat.le_refl _)
          generalize fourP (growQ b l m) (outOf nf s) 3 r = ff at i4 ⊢
          have w4 := i4.win
          have nd := node_res (A := A) (f := fun i => outOf ff s9 i) i4.ok (show m ≤ 36 by omega) (p := gens b l P (2 ^ r)) (ox := ox + (2 ^ (m + 3) : Nat)) (oy := oy + (2 ^ (m + 3) : Nat)) (fun i hi4 => by
            refine (w4 i hi4).ag fun x y _ _ => ?_
            congr 1 <;> omega) (by
              have := hU.out (m + 1) p ox oy j hG
              rw [← hP, show m + 1 + 2 = m + 3 by omega] at this
              exact this)
          refine Res.ag ⟨(x9.trans i4.ext).trans nd.ext, ?_, nd.ok, nd.win, (n9.trans hi9.inv i4.ext i4.new).trans i4.ok.inv nd.ext nd.new⟩ hP (by rw [show m + 1 + 2 = m + 3 by omega]) (by rw [show m + 1 + 2 = m + 3 by omega])
          have := nd.len
          have := i4.len
          rw [hc]
          exact Nat.le_trans nd.len (by omega)
        by_cases hf : j = m + 3
        · subst hf
          have hc : cst (m + 1) (m + 3) = 9 * (cst m (m + 2) + 1) + 4 * (cst m (m + 2) + 1) + 1 := by
            show (if m + 3 = m + 3 then 9 * (cst m (m + 2) + 1) + 4 * (cst m (m + 2) + 1) + 1 else _) = _
            rw [if_pos rfl]
          refine fin (cst m (m + 2) + 1) (m + 2) (gens b l p (2 ^ (m + 2))) True hc (by unfold restN; rw [if_pos rfl]; rfl) (Nat.le_refl _) ?_ ?_ (fun u v hu hv => hU.f4 m p ox oy u v hG hu hv)
          · rw [gens_add]
            congr 1
            omega
          · intro k hk s' he hs'
            have ag := hU.f9 m p ox oy (k % 3) (k / 3) hG (by omega) (by omega)
            have nr1 := node_res (A := A) hs' (show m ≤ 36 by omega) (sub k hk s' he) ag.1
            have g1 := grow_ok b l m A G hU _ _ (m + 2) p _ _ nr1.ok (by omega) (Nat.le_refl _) nr1.win ag.2
            show Res b l A _ s' (partG (growQ b l m) (sxt s.1 id) m (m + 3) s' k) m _ _ _
            unfold partG
            rw [if_pos rfl, show restN m (m + 3) = m + 2 by unfold restN; rw [if_pos rfl]; rfl]
            refine Res.ag ⟨nr1.ext.trans g1.ext, ?_, g1.ok, g1.win, nr1.new.trans nr1.ok.inv g1.ext g1.new⟩ rfl (by omega) (by omega)
            have := nr1.len
            exact Nat.le_trans g1.len (by omega)
        · have hc : cst (m + 1) j = 9 * 1 + 4 * (cst m j + 1) + 1 := by
            show (if j = m + 3 then _ else _) = _
            rw [if_neg hf]
          refine fin 1 j p True hc (by unfold restN; rw [if_neg hf]) (by omega) rfl ?_ (fun u v hu hv => hU.n4 m p ox oy j u v hG (by omega) hu hv)
          intro k hk s' he hs'
          have ag := hU.n9 m p ox oy j (k % 3) (k / 3) hG (by omega) (by omega) (by omega)
          unfold partG
          rw [if_neg hf]
          have mr := mid_res (A := A) hs' (show m ≤ 36 by omega) (sub k hk s' he) (by
            have e1 : ox + (k % 3 * 2 ^ (m + 3) : Nat) + (2 ^ (m + 2) : Nat) = ox + (2 ^ (m + 2) + k % 3 * 2 ^ (m + 3) : Nat) := by omega
            have e2 : oy + (k / 3 * 2 ^ (m + 3) : Nat) + (2 ^ (m + 2) : Nat) = oy + (2 ^ (m + 2) + k / 3 * 2 ^ (m + 3) : Nat) := by omega
            rw [e1, e2]
            exact ag)
          exact Res.ag mr rfl (by omega) (by omega)
      exact note_ok hs (fun p ox oy hw => key _ _ (uni_any b l) p ox oy hw trivial) hw (key A G hU p ox oy hw hG)
end Go.Proofs.YtlejohclijjhnaaGreatDoor.Qd

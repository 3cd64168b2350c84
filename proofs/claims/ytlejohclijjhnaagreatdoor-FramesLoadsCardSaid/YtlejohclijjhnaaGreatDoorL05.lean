/-
  HOW A SQUARE GOES ON, AS PLAIN DATA: what holds on the way from nine to four. Conditions: those that each lemma names.
  A WIDE SQUARE, AS PLAIN DATA: corners about a square, and what they make. Conditions: those that each lemma names.
-/
import Derived.Test.YtlejohclijjhnaaGreatDoorL04
namespace Go.Proofs.YtlejohclijjhnaaGreatDoor.Qd
open Ti Ru

abbrev Tt : Nat → Pl → Int → Int → Prop := fun _ _ _ _ => True
/-- so many of a row of calls were done -/
structure Wy (b l : Nat) (f : GS → Nat → GS × Int) (s : GS) (m : Nat) (k : Nat) : Prop where
  ext : s.1 <+: (stOf f s k).1
  ok : GOk b l (stOf f s k)
  lv : ∀ i, i < k → Lv (stOf f s k).1 m (outOf f s i)
theorem It.wy {b l : Nat} {A : Nat → Pl → Int → Int → Prop} {c : Nat} {f : GS → Nat → GS × Int} {s : GS} {m : Nat} {P : Pl} {X Y : Nat → Int} {k : Nat} (h : It b l A c f s m P X Y k) : Wy b l f s m k := ⟨h.ext, h.ok, fun i hi => (h.win i hi).1⟩
theorem grow_of (b l m : Nat) (hm : m ≤ 36) (s : GS) (hs : GOk b l s) (id : Int) (j : Nat) (hj : j ≤ m + 2) (hl : Lv s.1 (m + 1) id) : s.1 <+: (growQ b l m s id j).1.1 ∧ GOk b l (growQ b l m s id j).1 ∧ Lv (growQ b l m s id j).1.1 m (growQ b l m s id j).2 := by
  have h := grow_ok b l m Tt _ (uni_any b l) s id j _ 0 0 hs hm hj (Wn.self hl) trivial
  exact ⟨h.ext, h.ok, h.win.1⟩
theorem node_of (b l m : Nat) (hm : m ≤ 36) (s : GS) (hs : GOk b l s) (f : Nat → Int) (hf : ∀ i, i < 4 → Lv s.1 m (f i)) : s.1 <+: (nodeG s (f 0) (f 1) (f 2) (f 3)).1.1 ∧ GOk b l (nodeG s (f 0) (f 1) (f 2) (f 3)).1 ∧ Lv (nodeG s (f 0) (f 1) (f 2) (f 3)).1.1 (m + 1) (nodeG s (f 0) (f 1) (f 2) (f 3)).2 :=
  ⟨put_ext _ _, GOk.ext (L := s.1) (K := s.2) hs (node_inv hs.inv hm hf) (put_ext _ _), node_lv hf⟩
theorem four_of' (b l m : Nat) (hm : m ≤ 36) (s : GS) (hs : GOk b l s) (f : Nat → Int) (hf : ∀ i, i < 4 → Lv s.1 m (f i)) (j : Nat) (hj : j ≤ m + 2) :
    s.1 <+: (fourG (growQ b l m) j s (f 0) (f 1) (f 2) (f 3)).1.1 ∧ GOk b l (fourG (growQ b l m) j s (f 0) (f 1) (f 2) (f 3)).1 ∧ Lv (fourG (growQ b l m) j s (f 0) (f 1) (f 2) (f 3)).1.1 m (fourG (growQ b l m) j s (f 0) (f 1) (f 2) (f 3)).2 ∧ (nodeG s (f 0) (f 1) (f 2) (f 3)).1.1 <+: (fourG (growQ b l m) j s (f 0) (f 1) (f 2) (f 3)).1.1 := by
  obtain ⟨h1, h2, h3⟩ := node_of b l m hm s hs f hf
  obtain ⟨k1, k2, k3⟩ := grow_of b l m hm _ h2 _ j hj h3
  exact ⟨h1.trans k1, k2, k3, k1⟩
theorem mid_of (b l m : Nat) (hm : m ≤ 36) (s : GS) (hs : GOk b l s) (f : Nat → Int) (hf : ∀ i, i < 4 → Lv s.1 m (f i)) :
    s.1 <+: (midG s (f 0) (f 1) (f 2) (f 3)).1.1 ∧ GOk b l (midG s (f 0) (f 1) (f 2) (f 3)).1 ∧ Lv (midG s (f 0) (f 1) (f 2) (f 3)).1.1 m (midG s (f 0) (f 1) (f 2) (f 3)).2 := by
  match m, hm, hf with
  | 0, _, hf =>
    have e : midG s (f 0) (f 1) (f 2) (f 3) = leafG s (growP 0 0 0 (tilG s.1 (f 0) (f 1) (f 2) (f 3))) := if_pos (show (at' s.1 (f 0)).lev = 3 from (hf 0 (by decide)).2)
    rw [e]
    exact ⟨put_ext _ _, GOk.ext (L := s.1) (K := s.2) hs (hs.inv.leaf _) (put_ext _ _), ⟨put_ok _ _, by show (at' (put s.1 _) (nr s.1 _)).lev = _; rw [put_at]; rfl⟩⟩
  | m + 1, hm, hf =>
    have e : midG s (f 0) (f 1) (f 2) (f 3) = nodeG s (kid (at' s.1 (f 0)) 3) (kid (at' s.1 (f 1)) 2) (kid (at' s.1 (f 2)) 1) (kid (at' s.1 (f 3)) 0) := if_neg (by rw [(hf 0 (by decide)).2]; omega)
    rw [e]
    exact node_of b l m (by omega) s hs (fun i => kid (at' s.1 (f i)) (3 - i)) (fun i h4 => hs.inv.kid (hf i h4) _)
theorem wy_of {b l : Nat} {f : GS → Nat → GS × Int} {s : GS} {m N : Nat} (hs : GOk b l s) (h : ∀ k, k < N → ∀ s' : GS, s.1 <+: s'.1 → GOk b l s' → s'.1 <+: (f s' k).1.1 ∧ GOk b l (f s' k).1 ∧ Lv (f s' k).1.1 m (f s' k).2) : ∀ k, k ≤ N → Wy b l f s m k
  | 0, _ => ⟨List.prefix_rfl, hs, fun i hi => absurd hi (by omega)⟩
  | k + 1, hk => by
    have ih := wy_of hs h k (by omega)
    obtain ⟨r1, r2, r3⟩ := h k (by omega) _ ih.ext ih.ok
    refine ⟨ih.ext.trans r1, r2, fun i hi => ?_⟩
    by_cases e : i = k
    · subst e
      exact r3
    · exact (ih.lv i (by omega)).ext r1
theorem Wy.le {b l : Nat} {f : GS → Nat → GS × Int} {s : GS} {m N : Nat} (hs : GOk b l s) (h : ∀ k, k < N → ∀ s' : GS, s.1 <+: s'.1 → GOk b l s' → s'.1 <+: (f s' k).1.1 ∧ GOk b l (f s' k).1 ∧ Lv (f s' k).1.1 m (f s' k).2) (k : Nat) : ∀ d, k + d ≤ N → (stOf f s k).1 <+: (stOf f s (k + d)).1
  | 0, _ => List.prefix_rfl
  | d + 1, hd => by
    have w := wy_of hs h (k + d) (by omega)
    exact (Wy.le hs h k d (by omega)).trans (h (k + d) (by omega) _ w.ext w.ok).1
theorem sxt_lv {L : List Sq} (hi : Inv L) {m : Nat} {id : Int} (hl : Lv L (m + 2) id) (k : Nat) : Lv L m (sxt L id k) := hi.kid (hi.kid hl _) _
/-- the four that are handed to the k-th of rows so wide -/
def wf (v : Nat → Int) (wide k : Nat) (i : Nat) : Int := if i = 0 then v (at4 wide k) else if i = 1 then v (at4 wide k + 1) else if i = 2 then v (at4 wide k + wide) else v (at4 wide k + wide + 1)
/-- the way of what comes of a square -/
structure Wys (b l m : Nat) (s : GS) (id : Int) (j : Nat) : Prop where
  p9 : ∀ k, k < 9 → ∀ s' : GS, s.1 <+: s'.1 → GOk b l s' → s'.1 <+: (partG (growQ b l m) (sxt s.1 id) m j s' k).1.1 ∧ GOk b l (partG (growQ b l m) (sxt s.1 id) m j s' k).1 ∧ Lv (partG (growQ b l m) (sxt s.1 id) m j s' k).1.1 m (partG (growQ b l m) (sxt s.1 id) m j s' k).2
  p4 : ∀ k, k < 4 → ∀ s' : GS, (stOf (partG (growQ b l m) (sxt s.1 id) m j) s 9).1 <+: s'.1 → GOk b l s' → s'.1 <+: (fourP (growQ b l m) (outOf (partG (growQ b l m) (sxt s.1 id) m j) s) 3 (restN m j) s' k).1.1 ∧ GOk b l (fourP (growQ b l m) (outOf (partG (growQ b l m) (sxt s.1 id) m j) s) 3 (restN m j) s' k).1 ∧ Lv (fourP (growQ b l m) (outOf (partG (growQ b l m) (sxt s.1 id) m j) s) 3 (restN m j) s' k).1.1 m (fourP (growQ b l m) (outOf (partG (growQ b l m) (sxt s.1 id) m j) s) 3 (restN m j) s' k).2
theorem rest_le {m j : Nat} (hj : j ≤ m + 3) : restN m j ≤ m + 2 := by
  unfold restN
  split <;> omega
theorem wys (b l m : Nat) (hm : m ≤ 35) (s : GS) (hs : GOk b l s) (id : Int) (j : Nat) (hj : j ≤ m + 3) (hl : Lv s.1 (m + 2) id) : Wys b l m s id j := by
  have p9 : ∀ k, k < 9 → ∀ s' : GS, s.1 <+: s'.1 → GOk b l s' → s'.1 <+: (partG (growQ b l m) (sxt s.1 id) m j s' k).1.1 ∧ GOk b l (partG (growQ b l m) (sxt s.1 id) m j s' k).1 ∧ Lv (partG (growQ b l m) (sxt s.1 id) m j s' k).1.1 m (partG (growQ b l m) (sxt s.1 id) m j s' k).2 := fun k hk s' he hs' => by
    unfold partG
    have hv : ∀ i, i < 4 → Lv s'.1 m (wf (sxt s.1 id) 4 k i) := fun i _ => by
      unfold wf
      split
      · exact (sxt_lv hs.inv hl _).ext he
      split
      · exact (sxt_lv hs.inv hl _).ext he
      split
      · exact (sxt_lv hs.inv hl _).ext he
      · exact (sxt_lv hs.inv hl _).ext he
    split
    · have := four_of' b l m (by omega) s' hs' (wf (sxt s.1 id) 4 k) hv (restN m j) (rest_le hj)
      exact ⟨this.1, this.2.1, this.2.2.1⟩
    · exact mid_of b l m (by omega) s' hs' (wf (sxt s.1 id) 4 k) hv
  refine ⟨p9, fun k hk s' he hs' => ?_⟩
  have w9 := wy_of (N := 9) hs p9 9 (Nat.le_refl _)
  have hv : ∀ i, i < 4 → Lv s'.1 m (wf (outOf (partG (growQ b l m) (sxt s.1 id) m j) s) 3 k i) := fun i _ => by
    unfold wf at4
    split
    · exact (w9.lv _ (by omega)).ext he
    split
    · exact (w9.lv _ (by omega)).ext he
    split
    · exact (w9.lv _ (by omega)).ext he
    · exact (w9.lv _ (by omega)).ext he
  have := four_of' b l m (by omega) s' hs' (wf (outOf (partG (growQ b l m) (sxt s.1 id) m j) s) 3 k) hv (restN m j) (rest_le hj)
  exact ⟨this.1, this.2.1, this.2.2.1⟩
end Go.Proofs.YtlejohclijjhnaaGreatDoor.Qd
namespace Go.Proofs.YtlejohclijjhnaaGreatDoor.Qd
open Ti Ru

/-- of four tiles that are cuts of a plane, the middle -/
theorem cuts_wn {L : List Sq} {t : Nat → T6} {p : Pl} {ox oy : Int} (h : ∀ i, i < 4 → Cuts p (ox + (i % 2 * 8 : Nat)) (oy + (i / 2 * 8 : Nat)) (t i)) :
    Wn (put L (leafQ (growP 0 0 0 (t4 (t 0) (t 1) (t 2) (t 3))))) 0 (nr L (leafQ (growP 0 0 0 (t4 (t 0) (t 1) (t 2) (t 3))))) p (ox + 4) (oy + 4) := by
  refine ⟨⟨put_ok _ _, by rw [put_at]; rfl⟩, fun x y hx hy => ?_⟩
  have hx : x < 8 := hx
  have hy : y < 8 := hy
  show (at' (put L _) (nr L _)).til.getLsbD (8 * y + x) = _
  rw [put_at]
  show (growP 0 0 0 _).getLsbD (8 * y + x) = _
  unfold growP cutP
  rw [mkT_bit _ _ (by omega), show (8 * y + x) % 8 = x by omega, show (8 * y + x) / 8 = y by omega]
  show tp 2 _ (4 + (x : Int)) (4 + (y : Int)) = _
  obtain ⟨u, hu⟩ : ∃ u, u = 4 + x := ⟨_, rfl⟩
  obtain ⟨v, hv⟩ : ∃ v, v = 4 + y := ⟨_, rfl⟩
  rw [show (4 + (x : Int)) = (u : Int) by omega, show (4 + (y : Int)) = (v : Int) by omega]
  unfold tp
  rw [decide_eq_true (show (0 : Int) ≤ (u : Int) by omega), decide_eq_true (show (0 : Int) ≤ (v : Int) by omega), decide_eq_true (show (u : Int) < 8 * ((2 : Nat) : Int) by omega), decide_eq_true (show (v : Int) < 8 * ((2 : Nat) : Int) by omega)]
  simp only [Bool.and_self, Bool.true_and, Int.toNat_natCast]
  have hq : v / 8 * 2 + u / 8 < 4 := by omega
  have e : t4 (t 0) (t 1) (t 2) (t 3) (v / 8 * 2 + u / 8) = t (v / 8 * 2 + u / 8) := by
    rcases (show v / 8 * 2 + u / 8 = 0 ∨ v / 8 * 2 + u / 8 = 1 ∨ v / 8 * 2 + u / 8 = 2 ∨ v / 8 * 2 + u / 8 = 3 by omega) with e | e | e | e <;> rw [e] <;> rfl
  rw [e, h _ hq _ (by omega)]
  congr 1 <;> omega
def ab0 (t : T6) (i k : Nat) : T6 := if k = 3 - i then t else 0#64
def abI (e kd : Int) (i k : Nat) : Int := if k = 3 - i then kd else e
def corn0 (s : GS) : Nat → GS × Int
  | 0 => (s, 0)
  | n + 1 => (((emp s.1 n).1, s.2), (emp s.1 n).2)
def cornT (t : T6) (s : GS) (i : Nat) : GS × Int := leafG s (growP 0 0 0 (t4 (ab0 t i 0) (ab0 t i 1) (ab0 t i 2) (ab0 t i 3)))
def cornN (q : Sq) (e : Int) (s : GS) (i : Nat) : GS × Int := nodeG s (abI e (kid q i) i 0) (abI e (kid q i) i 1) (abI e (kid q i) i 2) (abI e (kid q i) i 3)
def cornF (L : List Sq) (n : Nat) (id e : Int) : GS → Nat → GS × Int := if n = 0 then cornT (at' L id).til else cornN (at' L id) e
def wideG (s : GS) (n : Nat) (id : Int) : GS × Int :=
  nodeG (stOf (cornF s.1 n id (corn0 s n).2) (corn0 s n).1 4) (outOf (cornF s.1 n id (corn0 s n).2) (corn0 s n).1 0) (outOf (cornF s.1 n id (corn0 s n).2) (corn0 s n).1 1) (outOf (cornF s.1 n id (corn0 s n).2) (corn0 s n).1 2) (outOf (cornF s.1 n id (corn0 s n).2) (corn0 s n).1 3)
/-- nothing lives outside -/
def Alone (p : Pl) (ox oy : Int) (w : Nat) : Prop := ∀ x y : Int, x < ox ∨ ox + w ≤ x ∨ y < oy ∨ oy + w ≤ y → p x y = false
theorem new_tt {L M : List Sq} (hi : Inv M) : New Tt L M := fun id ho _ => ⟨((at' M id).lev - 3).toNat, _, 0, 0, trivial, Wn.self ⟨ho, by have := (hi.bd ho).l0; omega⟩⟩
/-- corners one by one -/
theorem corn_res {b l : Nat} {s : GS} (hs : GOk b l s) {n : Nat} (hn : n ≤ 36) {id : Int} {p : Pl} {ox oy : Int} (hw : Wn s.1 n id p ox oy) (ha : Alone p ox oy (2 ^ (n + 3))) :
    GOk b l (corn0 s n).1 ∧ s.1 <+: (corn0 s n).1.1 ∧ (corn0 s n).1.1.length ≤ s.1.length + n ∧ ∀ k, k < 4 → ∀ s' : GS, (corn0 s n).1.1 <+: s'.1 → GOk b l s' → Res b l Tt 1 s' (cornF s.1 n id (corn0 s n).2 s' k) n p (ox - (2 ^ (n + 2) : Nat) + (k % 2 * 2 ^ (n + 3) : Nat)) (oy - (2 ^ (n + 2) : Nat) + (k / 2 * 2 ^ (n + 3) : Nat)) := by
  match n, hn, hw, ha with
  | 0, _, hw, ha =>
    refine ⟨hs, List.prefix_rfl, Nat.le_refl _, fun k hk s' _ hs' => ?_⟩
    have key := cuts_wn (L := s'.1) (t := ab0 (at' s.1 id).til k) (p := p) (ox := ox - 8 + (k % 2 * 8 : Nat)) (oy := oy - 8 + (k / 2 * 8 : Nat)) (fun i hi => by
      intro q hq
      unfold ab0
      split
      · rename_i e
        have := hw.2 (q % 8) (q / 8) (by show _ < 8; omega) (by show _ < 8; omega)
        simp only [cel] at this
        rw [show 8 * (q / 8) + q % 8 = q by omega] at this
        rw [this]
        rcases (show k = 0 ∨ k = 1 ∨ k = 2 ∨ k = 3 by omega) with rfl | rfl | rfl | rfl <;> rcases (show i = 0 ∨ i = 1 ∨ i = 2 ∨ i = 3 by omega) with rfl | rfl | rfl | rfl <;> first | omega | (congr 1 <;> omega)
      · rename_i e
        rw [BitVec.getLsbD_zero]
        symm
        apply ha
        show _ ∨ _ + ((8 : Nat) : Int) ≤ _ ∨ _ ∨ _ + ((8 : Nat) : Int) ≤ _
        rcases (show k = 0 ∨ k = 1 ∨ k = 2 ∨ k = 3 by omega) with rfl | rfl | rfl | rfl <;> rcases (show i = 0 ∨ i = 1 ∨ i = 2 ∨ i = 3 by omega) with rfl | rfl | rfl | rfl <;> omega)
    refine Res.ag ⟨put_ext _ _, (put_len _ _).2, GOk.ext (L := s'.1) (K := s'.2) hs' (hs'.inv.leaf _) (put_ext _ _), key, New.put (A := Tt) trivial key⟩ rfl (by show ox - 8 + _ + 4 = ox - ((4 : Nat) : Int) + _; omega) (by show oy - 8 + _ + 4 = oy - ((4 : Nat) : Int) + _; omega)
  | n + 1, hn, hw, ha =>
    have he := emp_ok hs.inv n (by omega)
    have g0 : GOk b l (corn0 s (n + 1)).1 := GOk.ext (L := s.1) (K := s.2) hs he.inv he.ext
    refine ⟨g0, he.ext, he.len, fun k hk s' hx hs' => ?_⟩
    have hx2 : s.1 <+: s'.1 := he.ext.trans hx
    have e3 : 2 ^ (n + 1 + 2) = 2 ^ (n + 3) := by rw [show n + 1 + 2 = n + 3 by omega]
    have e4 : 2 ^ (n + 1 + 3) = 2 * 2 ^ (n + 3) := pow3 n
    rw [e4] at ha
    rw [e3, e4]
    have hE : Lv s'.1 n (emp s.1 n).2 := he.lv.ext hx
    show Res b l Tt 1 s' (nodeG s' (abI (emp s.1 n).2 (kid (at' s.1 id) k) k 0) (abI (emp s.1 n).2 (kid (at' s.1 id) k) k 1) (abI (emp s.1 n).2 (kid (at' s.1 id) k) k 2) (abI (emp s.1 n).2 (kid (at' s.1 id) k) k 3)) (n + 1) p _ _
    refine node_res (f := abI (emp s.1 n).2 (kid (at' s.1 id) k) k) hs' (by omega) (fun i hi => ?_) trivial
    have hkid := (hw.kid hs.inv k hk).ext hs.inv hx2
    generalize hh : 2 ^ (n + 3) = h at *
    unfold abI
    split
    · rename_i e
      refine hkid.ag fun x y _ _ => ?_
      rcases (show k = 0 ∨ k = 1 ∨ k = 2 ∨ k = 3 by omega) with rfl | rfl | rfl | rfl <;> rcases (show i = 0 ∨ i = 1 ∨ i = 2 ∨ i = 3 by omega) with rfl | rfl | rfl | rfl <;> first | omega | (congr 1 <;> omega)
    · rename_i e
      refine ⟨hE, fun x y hx' hy' => ?_⟩
      rw [cel_ext he.inv hx n _ _ _ he.lv, he.cel]
      symm
      apply ha
      rw [hh] at hx' hy'
      rcases (show k = 0 ∨ k = 1 ∨ k = 2 ∨ k = 3 by omega) with rfl | rfl | rfl | rfl <;> rcases (show i = 0 ∨ i = 1 ∨ i = 2 ∨ i = 3 by omega) with rfl | rfl | rfl | rfl <;> omega
theorem wide_res {b l : Nat} {s : GS} (hs : GOk b l s) {n : Nat} (hn : n ≤ 36) {id : Int} {p : Pl} {ox oy : Int} (hw : Wn s.1 n id p ox oy) (ha : Alone p ox oy (2 ^ (n + 3))) :
    Res b l Tt (n + 5) s (wideG s n id) (n + 1) p (ox - (2 ^ (n + 2) : Nat)) (oy - (2 ^ (n + 2) : Nat)) := by
  obtain ⟨h1, h2, h3, h4⟩ := corn_res hs hn hw ha
  have i4 := it_ok h1 h4 4 (Nat.le_refl _)
  have nd := node_res (A := Tt) (f := fun i => outOf (cornF s.1 n id (corn0 s n).2) (corn0 s n).1 i) i4.ok (show n ≤ 36 by omega) (p := p) (ox := ox - (2 ^ (n + 2) : Nat)) (oy := oy - (2 ^ (n + 2) : Nat)) (fun i hi => i4.win i hi) trivial
  refine ⟨(h2.trans i4.ext).trans nd.ext, ?_, nd.ok, nd.win, new_tt nd.ok.inv⟩
  have := nd.len
  have := i4.len
  exact Nat.le_trans nd.len (by omega)
end Go.Proofs.YtlejohclijjhnaaGreatDoor.Qd

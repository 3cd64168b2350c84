/-
  A WIDE SQUARE, AS PLAIN DATA: corners about a square, and what they make. Conditions: those that each lemma names.
-/
import Derived.Test.YtgimphkamjojpaaDoorE34
namespace Go.Proofs.YtgimphkamjojpaaDoor.Qd
open Ti Ru

/-- of four tiles that are cuts of a plane, the middle -/
theorem cuts_wn {L : List Sq} {t : Nat → T6} {p : Pl} {ox oy : Int} (h : ∀ i, i < 4 → Cuts p (ox + (i % 2 * 8 : Nat)) (oy + (i / 2 * 8 : Nat)) (t i)) :
    Wn (put L (leafQ (growP 0 0 0 (t4 (t 0) (t 1) (t 2) (t 3))))) 0 (nr L (leafQ (growP 0 0 0 (t4 (t 0) (t 1) (t 2) (t 3))))) p (ox + 4) (oy + 4) := by
  refine ⟨⟨put_ok _ _, by rw [put_at]; rfl⟩, fun x y hx hy => ?_⟩
  have hx : x < 8 := hx
  have hy : y < 8 := hy
  show (at' (put L _) (nr L _)).til.getLsbD (8 * y + x) = _
  rw [put_at]
  show (growP 0 0 0 _).getLsbD (8 * y + x) = _
  unfold growP cutP
  rw [mkT_bit _ _ (by omega), show (8 * y + x) % 8 = x by omega, show (8 * y + x) / 8 = y by omega]
  show tp 2 _ (4 + (x : Int)) (4 + (y : Int)) = _
  obtain ⟨u, hu⟩ : ∃ u, u = 4 + x := ⟨_, rfl⟩
  obtain ⟨v, hv⟩ : ∃ v, v = 4 + y := ⟨_, rfl⟩
  rw [show (4 + (x : Int)) = (u : Int) by omega, show (4 + (y : Int)) = (v : Int) by omega]
  unfold tp
  rw [decide_eq_true (show (0 : Int) ≤ (u : Int) by omega), decide_eq_true (show (0 : Int) ≤ (v : Int) by omega), decide_eq_true (show (u : Int) < 8 * ((2 : Nat) : Int) by omega), decide_eq_true (show (v : Int) < 8 * ((2 : Nat) : Int) by omega)]
  simp only [Bool.and_self, Bool.true_and, Int.toNat_natCast]
  have hq : v / 8 * 2 + u / 8 < 4 := by omega
  have e : t4 (t 0) (t 1) (t 2) (t 3) (v / 8 * 2 + u / 8) = t (v / 8 * 2 + u / 8) := by
    rcases (show v / 8 * 2 + u / 8 = 0 ∨ v / 8 * 2 + u / 8 = 1 ∨ v / 8 * 2 + u / 8 = 2 ∨ v / 8 * 2 + u / 8 = 3 by omega) with e | e | e | e <;> rw [e] <;> rfl
  rw [e, h _ hq _ (by omega)]
  congr 1 <;> omega
def ab0 (t : T6) (i k : Nat) : T6 := if k = 3 - i then t else 0#64
def abI (e kd : Int) (i k : Nat) : Int := if k = 3 - i then kd else e
def corn0 (s : GS) : Nat → GS × Int
  | 0 => (s, 0)
  | n + 1 => (((emp s.1 n).1, s.2), (emp s.1 n).2)
def cornT (t : T6) (s : GS) (i : Nat) : GS × Int := leafG s (growP 0 0 0 (t4 (ab0 t i 0) (ab0 t i 1) (ab0 t i 2) (ab0 t i 3)))
def cornN (q : Sq) (e : Int) (s : GS) (i : Nat) : GS × Int := nodeG s (abI e (kid q i) i 0) (abI e (kid q i) i 1) (abI e (kid q i) i 2) (abI e (kid q i) i 3)
def cornF (L : List Sq) (n : Nat) (id e : Int) : GS → Nat → GS × Int := if n = 0 then cornT (at' L id).til else cornN (at' L id) e
def wideG (s : GS) (n : Nat) (id : Int) : GS × Int :=
  nodeG (stOf (cornF s.1 n id (corn0 s n).2) (corn0 s n).1 4) (outOf (cornF s.1 n id (corn0 s n).2) (corn0 s n).1 0) (outOf (cornF s.1 n id (corn0 s n).2) (corn0 s n).1 1) (outOf (cornF s.1 n id (corn0 s n).2) (corn0 s n).1 2) (outOf (cornF s.1 n id (corn0 s n).2) (corn0 s n).1 3)
/-- nothing lives outside -/
def Alone (p : Pl) (ox oy : Int) (w : Nat) : Prop := ∀ x y : Int, x < ox ∨ ox + w ≤ x ∨ y < oy ∨ oy + w ≤ y → p x y = false
theorem new_tt {L M : List Sq} (hi : Inv M) : New Tt L M := fun id ho _ => ⟨((at' M id).lev - 3).toNat, _, 0, 0, trivial, Wn.self ⟨ho, by have := (hi.bd ho).l0; omega⟩⟩
/-- corners one by one -/
theorem corn_res {b l : Nat} {s : GS} (hs : GOk b l s) {n : Nat} (hn : n ≤ 36) {id : Int} {p : Pl} {ox oy : Int} (hw : Wn s.1 n id p ox oy) (ha : Alone p ox oy (2 ^ (n + 3))) :
    GOk b l (corn0 s n).1 ∧ s.1 <+: (corn0 s n).1.1 ∧ (corn0 s n).1.1.length ≤ s.1.length + n ∧ ∀ k, k < 4 → ∀ s' : GS, (corn0 s n).1.1 <+: s'.1 → GOk b l s' → Res b l Tt 1 s' (cornF s.1 n id (corn0 s n).2 s' k) n p (ox - (2 ^ (n + 2) : Nat) + (k % 2 * 2 ^ (n + 3) : Nat)) (oy - (2 ^ (n + 2) : Nat) + (k / 2 * 2 ^ (n + 3) : Nat)) := by
  match n, hn, hw, ha with
  | 0, _, hw, ha =>
    refine ⟨hs, List.prefix_rfl, Nat.le_refl _, fun k hk s' _ hs' => ?_⟩
    have key := cuts_wn (L := s'.1) (t := ab0 (at' s.1 id).til k) (p := p) (ox := ox - 8 + (k % 2 * 8 : Nat)) (oy := oy - 8 + (k / 2 * 8 : Nat)) (fun i hi => by
      intro q hq
      unfold ab0
      split
      · rename_i e
        have := hw.2 (q % 8) (q / 8) (by show _ < 8; omega) (by show _ < 8; omega)
        simp only [cel] at this
        rw [show 8 * (q / 8) + q % 8 = q by omega] at this
        rw [this]
        rcases (show k = 0 ∨ k = 1 ∨ k = 2 ∨ k = 3 by omega) with rfl | rfl | rfl | rfl <;> rcases (show i = 0 ∨ i = 1 ∨ i = 2 ∨ i = 3 by omega) with rfl | rfl | rfl | rfl <;> first | omega | (congr 1 <;> omega)
      · rename_i e
        rw [BitVec.getLsbD_zero]
        symm
        apply ha
        show _ ∨ _ + ((8 : Nat) : Int) ≤ _ ∨ _ ∨ _ + ((8 : Nat) : Int) ≤ _
        rcases (show k = 0 ∨ k = 1 ∨ k = 2 ∨ k = 3 by omega) with rfl | rfl | rfl | rfl <;> rcases (show i = 0 ∨ i = 1 ∨ i = 2 ∨ i = 3 by omega) with rfl | rfl | rfl | rfl <;> omega)
    refine Res.ag ⟨put_ext _ _, (put_len _ _).2, GOk.ext (L := s'.1) (K := s'.2) hs' (hs'.inv.leaf _) (put_ext _ _), key, New.put (A := Tt) trivial key⟩ rfl (by show ox - 8 + _ + 4 = ox - ((4 : Nat) : Int) + _; omega) (by show oy - 8 + _ + 4 = oy - ((4 : Nat) : Int) + _; omega)
  | n + 1, hn, hw, ha =>
    have he := emp_ok hs.inv n (by omega)
    have g0 : GOk b l (corn0 s (n + 1)).1 := GOk.ext (L := s.1) (K := s.2) hs he.inv he.ext
    refine ⟨g0, he.ext, he.len, fun k hk s' hx hs' => ?_⟩
    have hx2 : s.1 <+: s'.1 := he.ext.trans hx
    have e3 : 2 ^ (n + 1 + 2) = 2 ^ (n + 3) := by rw [show n + 1 + 2 = n + 3 by omega]
    have e4 : 2 ^ (n + 1 + 3) = 2 * 2 ^ (n + 3) := pow3 n
    rw [e4] at ha
    rw [e3, e4]
    have hE : Lv s'.1 n (emp s.1 n).2 := he.lv.ext hx
    show Res b l Tt 1 s' (nodeG s' (abI (emp s.1 n).2 (kid (at' s.1 id) k) k 0) (abI (emp s.1 n).2 (kid (at' s.1 id) k) k 1) (abI (emp s.1 n).2 (kid (at' s.1 id) k) k 2) (abI (emp s.1 n).2 (kid (at' s.1 id) k) k 3)) (n + 1) p _ _
    refine node_res (f := abI (emp s.1 n).2 (kid (at' s.1 id) k) k) hs' (by omega) (fun i hi => ?_) trivial
    have hkid := (hw.kid hs.inv k hk).ext hs.inv hx2
    generalize hh : 2 ^ (n + 3) = h at *
    unfold abI
    split
    · rename_i e
      refine hkid.ag fun x y _ _ => ?_
      rcases (show k = 0 ∨ k = 1 ∨ k = 2 ∨ k = 3 by omega) with rfl | rfl | rfl | rfl <;> rcases (show i = 0 ∨ i = 1 ∨ i = 2 ∨ i = 3 by omega) with rfl | rfl | rfl | rfl <;> first | omega | (congr 1 <;> omega)
    · rename_i e
      refine ⟨hE, fun x y hx' hy' => ?_⟩
      rw [cel_ext he.inv hx n _ _ _ he.lv, he.cel]
      symm
      apply ha
      rw [hh] at hx' hy'
      rcases (show k = 0 ∨ k = 1 ∨ k = 2 ∨ k = 3 by omega) with rfl | rfl | rfl | rfl <;> rcases (show i = 0 ∨ i = 1 ∨ i = 2 ∨ i = 3 by omega) with rfl | rfl | rfl | rfl <;> omega
theorem wide_res {b l : Nat} {s : GS} (hs : GOk b l s) {n : Nat} (hn : n ≤ 36) {id : Int} {p : Pl} {ox oy : Int} (hw : Wn s.1 n id p ox oy) (ha : Alone p ox oy (2 ^ (n + 3))) :
    Res b l Tt (n + 5) s (wideG s n id) (n + 1) p (ox - (2 ^ (n + 2) : Nat)) (oy - (2 ^ (n + 2) : Nat)) := by
  obtain ⟨h1, h2, h3, h4⟩ := corn_res hs hn hw ha
  have i4 := it_ok h1 h4 4 (Nat.le_refl _)
  have nd := node_res (A := Tt) (f := fun i => outOf (cornF s.1 n id (corn0 s n).2) (corn0 s n).1 i) i4.ok (show n ≤ 36 by omega) (p := p) (ox := ox - (2 ^ (n + 2) : Nat)) (oy := oy - (2 ^ (n + 2) : Nat)) (fun i hi => i4.win i hi) trivial
  refine ⟨(h2.trans i4.ext).trans nd.ext, ?_, nd.ok, nd.win, new_tt nd.ok.inv⟩
  have := nd.len
  have := i4.len
  exact Nat.le_trans nd.len (by omega)
end Go.Proofs.YtgimphkamjojpaaDoor.Qd

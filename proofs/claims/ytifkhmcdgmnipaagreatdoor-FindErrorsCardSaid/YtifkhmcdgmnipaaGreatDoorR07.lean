/-
  The cells of a square as a list (plain): in the order in which they are found, how many there are, how many lie between corners.
-/
import Derived.Test.YtifkhmcdgmnipaaGreatDoorR05
import Derived.Test.YtifkhmcdgmnipaaGreatDoorR06
namespace Go.Proofs.YtifkhmcdgmnipaaGreatDoor.Qd
open Ti Ce

def sh (a c : Cel) : Cel := (a.1 + c.1, a.2 + c.2)
def tl (t : T6) : List Cel := ((List.range 64).filter fun i => t.getLsbD i).map fun i => (((i % 8 : Nat) : Int), ((i / 8 : Nat) : Int))
def crn (h i : Nat) : Cel := (((i % 2 * h : Nat) : Int), ((i / 2 * h : Nat) : Int))
/-- the cells of a square of level n + 3 -/
def lst (L : List Sq) : Nat → Int → List Cel
  | 0, id => tl (at' L id).til
  | n + 1, id => (List.range 4).flatMap fun i => (lst L n (kid (at' L id) i)).map (sh (crn (2 ^ (n + 3)) i))
theorem lst_ext {L M : List Sq} (hi : Inv L) (h : L <+: M) : ∀ (n : Nat) (id : Int), Lv L n id → lst M n id = lst L n id
  | 0, id, hl => by
    show tl (at' M id).til = tl (at' L id).til
    rw [at_ext h hl.1]
  | n + 1, id, hl => by
    show (List.range 4).flatMap _ = (List.range 4).flatMap _
    rw [at_ext h hl.1]
    congr 1
    funext i
    rw [lst_ext hi h n _ (hi.kid hl i)]
theorem tl_mem (t : T6) (c : Cel) : c ∈ tl t ↔ ∃ u v : Nat, u < 8 ∧ v < 8 ∧ c = ((u : Int), (v : Int)) ∧ t.getLsbD (8 * v + u) = true := by
  unfold tl
  rw [List.mem_map]
  constructor
  · rintro ⟨i, hi, rfl⟩
    obtain ⟨h1, h2⟩ := List.mem_filter.1 hi
    have h1 := List.mem_range.1 h1
    exact ⟨i % 8, i / 8, by omega, by omega, rfl, by rw [show 8 * (i / 8) + i % 8 = i by omega]; exact h2⟩
  · rintro ⟨u, v, hu, hv, rfl, ht⟩
    refine ⟨8 * v + u, List.mem_filter.2 ⟨List.mem_range.2 (by omega), ht⟩, ?_⟩
    rw [show (8 * v + u) % 8 = u by omega, show (8 * v + u) / 8 = v by omega]
theorem qd_mod {h u v : Nat} (e : u / h < 2) : qd h u v % 2 = u / h := by
  unfold qd
  generalize u / h = a at *
  generalize v / h = b at *
  omega
theorem qd_div {h u v : Nat} (e : u / h < 2) : qd h u v / 2 = v / h := by
  unfold qd
  generalize u / h = a at *
  generalize v / h = b at *
  omega
theorem lst_mem {L : List Sq} (hi : Inv L) : ∀ (n : Nat) (id : Int) (c : Cel), Lv L n id → (c ∈ lst L n id ↔ ∃ u v : Nat, u < 2 ^ (n + 3) ∧ v < 2 ^ (n + 3) ∧ c = ((u : Int), (v : Int)) ∧ cel L n id u v = true)
  | 0, id, c, hl => tl_mem _ c
  | n + 1, id, c, hl => by
    have hp : 0 < 2 ^ (n + 3) := Nat.pow_pos (by omega)
    have h2 : 2 ^ (n + 1 + 3) = 2 * 2 ^ (n + 3) := by rw [show n + 1 + 3 = (n + 3) + 1 by omega, Nat.pow_succ]; omega
    show c ∈ (List.range 4).flatMap _ ↔ _
    rw [List.mem_flatMap, h2]
    constructor
    · rintro ⟨i, h4, hc⟩
      have h4 := List.mem_range.1 h4
      obtain ⟨d, hd, rfl⟩ := List.mem_map.1 hc
      obtain ⟨u, v, hu, hv, rfl, hcel⟩ := (lst_mem hi n _ d (hi.kid hl i)).1 hd
      have hq := qd_at (i := i) hu hv h4
      have b1 : i % 2 * 2 ^ (n + 3) ≤ 1 * 2 ^ (n + 3) := Nat.mul_le_mul_right _ (by omega)
      have b2 : i / 2 * 2 ^ (n + 3) ≤ 1 * 2 ^ (n + 3) := Nat.mul_le_mul_right _ (by omega)
      refine ⟨i % 2 * 2 ^ (n + 3) + u, i / 2 * 2 ^ (n + 3) + v, by omega, by omega, ?_, ?_⟩
      · show (_, _) = (_, _)
        simp [crn]
      · show cel L n (Qd.kid (at' L id) (qd _ _ _)) _ _ = true
        rw [hq.1, hq.2.1, hq.2.2]
        exact hcel
    · rintro ⟨u, v, hu, hv, rfl, hcel⟩
      have h4 : qd (2 ^ (n + 3)) u v < 4 := qd_lt (n := n + 3) (by rw [Nat.pow_succ]; omega) (by rw [Nat.pow_succ]; omega)
      refine ⟨qd (2 ^ (n + 3)) u v, List.mem_range.2 h4, List.mem_map.2 ⟨((u % 2 ^ (n + 3) : Nat), (v % 2 ^ (n + 3) : Nat)), (lst_mem hi n _ _ (hi.kid hl _)).2 ⟨_, _, Nat.mod_lt _ hp, Nat.mod_lt _ hp, rfl, hcel⟩, ?_⟩⟩
      have e1 : u / 2 ^ (n + 3) < 2 := (Nat.div_lt_iff_lt_mul hp).2 (by omega)
      have e2 : v / 2 ^ (n + 3) < 2 := (Nat.div_lt_iff_lt_mul hp).2 (by omega)
      have f1 : qd (2 ^ (n + 3)) u v % 2 = u / 2 ^ (n + 3) := qd_mod e1
      have f2 : qd (2 ^ (n + 3)) u v / 2 = v / 2 ^ (n + 3) := qd_div e1
      have g1 := Nat.div_add_mod u (2 ^ (n + 3))
      have g2 := Nat.div_add_mod v (2 ^ (n + 3))
      rw [Nat.mul_comm] at g1 g2
      unfold sh crn
      rw [f1, f2]
      show (_, _) = (_, _)
      rw [Prod.mk.injEq]
      constructor
      · show ((u / 2 ^ (n + 3) * 2 ^ (n + 3) : Nat) : Int) + ((u % 2 ^ (n + 3) : Nat) : Int) = u
        omega
      · show ((v / 2 ^ (n + 3) * 2 ^ (n + 3) : Nat) : Int) + ((v % 2 ^ (n + 3) : Nat) : Int) = v
        omega
theorem lst_in {L : List Sq} (hi : Inv L) {n : Nat} {id : Int} {c : Cel} (hl : Lv L n id) (h : c ∈ lst L n id) : 0 ≤ c.1 ∧ c.1 < ((2 ^ (n + 3) : Nat) : Int) ∧ 0 ≤ c.2 ∧ c.2 < ((2 ^ (n + 3) : Nat) : Int) := by
  obtain ⟨u, v, hu, hv, rfl, _⟩ := (lst_mem hi n id c hl).1 h
  exact ⟨by simp, Int.ofNat_lt.2 hu, by simp, Int.ofNat_lt.2 hv⟩
theorem sh_inj {a b c : Cel} (h : sh a b = sh a c) : b = c := by
  unfold sh at h
  rw [Prod.mk.injEq] at h
  exact Prod.ext (by omega) (by omega)
theorem lst_nodup {L : List Sq} (hi : Inv L) : ∀ (n : Nat) (id : Int), Lv L n id → (lst L n id).Nodup
  | 0, id, hl => by
    refine List.Pairwise.map _ ?_ (List.Pairwise.filter _ (List.nodup_range (n := 64)))
    intro i j hij e
    rw [Prod.mk.injEq] at e
    omega
  | n + 1, id, hl => by
    show ((List.range 4).flatMap _).Nodup
    refine List.pairwise_flatMap.2 ⟨fun i hi4 => ?_, ?_⟩
    · exact List.Pairwise.map _ (fun a b hab e => hab (sh_inj e)) (lst_nodup hi n _ (hi.kid hl i))
    · refine (List.nodup_range (n := 4)).imp_of_mem ?_
      intro i j hi4 hj4 hij x hx y hy e
      obtain ⟨a, ha, rfl⟩ := List.mem_map.1 hx
      obtain ⟨b, hb, rfl⟩ := List.mem_map.1 hy
      have hi4 := List.mem_range.1 hi4
      have hj4 := List.mem_range.1 hj4
      have ka := lst_in hi (hi.kid hl i) ha
      have kb := lst_in hi (hi.kid hl j) hb
      unfold sh crn at e
      rw [Prod.mk.injEq] at e
      generalize 2 ^ (n + 3) = h at *
      have e1 := e.1
      have e2 := e.2
      have c1 : i = 0 ∨ i = 1 ∨ i = 2 ∨ i = 3 := by omega
      have c2 : j = 0 ∨ j = 1 ∨ j = 2 ∨ j = 3 := by omega
      rcases c1 with rfl | rfl | rfl | rfl <;> rcases c2 with rfl | rfl | rfl | rfl <;> simp at e1 e2 hij <;> omega
def big : Int := 4611686018427387904
theorem lst_len4 (L : List Sq) (n : Nat) (id : Int) : (lst L (n + 1) id).length = (lst L n (kid (at' L id) 0)).length + (lst L n (kid (at' L id) 1)).length + (lst L n (kid (at' L id) 2)).length + (lst L n (kid (at' L id) 3)).length := by
  show ((List.range 4).flatMap _).length = _
  rw [show List.range 4 = [0, 1, 2, 3] from rfl]
  simp only [List.flatMap_cons, List.flatMap_nil, List.length_append, List.length_map, List.length_nil]
  omega
theorem pc_len (t : T6) : ∀ k, pcN t.toNat k = ((List.range k).filter fun i => t.getLsbD i).length
  | 0 => by simp [pcN]
  | k + 1 => by
    rw [pcN_succ, pc_len t k, List.range_succ, List.filter_append, List.length_append]
    congr 1
    cases e : t.getLsbD k <;> simp [BitVec.getLsbD] at e ⊢ <;> simp [e]
theorem cnt_lst {L : List Sq} (hi : Inv L) : ∀ (n : Nat) (id : Int), Lv L n id → (at' L id).cnt = min ((lst L n id).length : Int) big
  | 0, id, hl => by
    rw [hi.isLeaf hl]
    show ((liv _ : Nat) : Int) = _
    have e : (lst L 0 id).length = liv (at' L id).til := by
      show (tl (at' L id).til).length = _
      unfold tl liv
      rw [List.length_map, ← pc_len]
    rw [e]
    have : liv (at' L id).til ≤ 64 := by
      rw [← e]
      show (tl _).length ≤ 64
      unfold tl
      rw [List.length_map]
      exact Nat.le_trans (List.length_filter_le _ _) (by simp)
    show _ = min _ (4611686018427387904 : Int)
    omega
  | n + 1, id, hl => by
    have h0 := cnt_lst hi n _ (hi.kid hl 0)
    have h1 := cnt_lst hi n _ (hi.kid hl 1)
    have h2 := cnt_lst hi n _ (hi.kid hl 2)
    have h3 := cnt_lst hi n _ (hi.kid hl 3)
    have hn := lst_len4 L n id
    have hq := (hi.node hl).eq
    rw [hq, hn]
    show cnt4 (at' L (kid (at' L id) 0)).cnt (at' L (kid (at' L id) 1)).cnt (at' L (kid (at' L id) 2)).cnt (at' L (kid (at' L id) 3)).cnt = _
    rw [h0, h1, h2, h3]
    unfold cnt4 sat big
    omega
theorem cnt_zero {L : List Sq} (hi : Inv L) {n : Nat} {id : Int} (hl : Lv L n id) : (at' L id).cnt = 0 ↔ lst L n id = [] := by
  rw [cnt_lst hi n id hl, ← List.length_eq_zero_iff]
  unfold big
  omega
theorem cnt_few {L : List Sq} (hi : Inv L) {n : Nat} {id : Int} (hl : Lv L n id) (h : (at' L id).cnt < big) : (at' L id).cnt = ((lst L n id).length : Int) := by
  have := cnt_lst hi n id hl
  omega
/-- between corners -/
def inb (lo hi c : Cel) : Bool := decide (lo.1 ≤ c.1 ∧ c.1 ≤ hi.1 ∧ lo.2 ≤ c.2 ∧ c.2 ≤ hi.2)
def cin (L : List Sq) (n : Nat) (id : Int) (lo hi : Cel) : Nat := ((lst L n id).filter (inb lo hi)).length
def inV (L : List Sq) (n : Nat) (id : Int) (lo hi : Cel) : Int := min (cin L n id lo hi : Int) big
def mi (a c : Cel) : Cel := (a.1 - c.1, a.2 - c.2)
theorem inb_sh (lo hi a c : Cel) : inb lo hi (sh a c) = inb (mi lo a) (mi hi a) c := by
  unfold inb sh mi
  rw [decide_eq_decide]
  simp only
  omega
theorem cin_sh (l : List Cel) (lo hi a : Cel) : ((l.map (sh a)).filter (inb lo hi)).length = (l.filter (inb (mi lo a) (mi hi a))).length := by
  rw [List.filter_map, List.length_map]
  congr 2
  funext c
  exact inb_sh lo hi a c
/-- the parts of a part -/
def kcn (L : List Sq) (n : Nat) (id : Int) (lo hi : Cel) (i : Nat) : Nat := cin L n (kid (at' L id) i) (mi lo (crn (2 ^ (n + 3)) i)) (mi hi (crn (2 ^ (n + 3)) i))
theorem cin_node (L : List Sq) (n : Nat) (id : Int) (lo hi : Cel) : cin L (n + 1) id lo hi = kcn L n id lo hi 0 + kcn L n id lo hi 1 + kcn L n id lo hi 2 + kcn L n id lo hi 3 := by
  show (((List.range 4).flatMap _).filter _).length = _
  rw [show List.range 4 = [0, 1, 2, 3] from rfl]
  simp only [List.flatMap_cons, List.flatMap_nil, List.filter_append, List.length_append, cin_sh, List.filter_nil, List.length_nil]
  show kcn L n id lo hi 0 + (kcn L n id lo hi 1 + (kcn L n id lo hi 2 + (kcn L n id lo hi 3 + 0))) = _
  omega
/-- the sum, so far -/
def kcs (L : List Sq) (n : Nat) (id : Int) (lo hi : Cel) : Nat → Nat
  | 0 => 0
  | j + 1 => kcs L n id lo hi j + kcn L n id lo hi j
def kin (L : List Sq) (n : Nat) (id : Int) (lo hi : Cel) (j : Nat) : Int := min (kcs L n id lo hi j : Int) big
theorem kin_zero (L : List Sq) (n : Nat) (id : Int) (lo hi : Cel) : kin L n id lo hi 0 = 0 := rfl
theorem kin_next (L : List Sq) (n : Nat) (id : Int) (lo hi : Cel) (j : Nat) : kin L n id lo hi (j + 1) = kin L n id lo hi j + min (inV L n (kid (at' L id) j) (mi lo (crn (2 ^ (n + 3)) j)) (mi hi (crn (2 ^ (n + 3)) j))) (big - kin L n id lo hi j) := by
  unfold kin inV
  show min (((kcs L n id lo hi j + cin L n _ _ _ : Nat)) : Int) big = _
  unfold big
  omega
theorem kin_all (L : List Sq) (n : Nat) (id : Int) (lo hi : Cel) : kin L n id lo hi 4 = inV L (n + 1) id lo hi := by
  unfold kin inV
  rw [cin_node]
  show min (((0 + kcn L n id lo hi 0 + kcn L n id lo hi 1 + kcn L n id lo hi 2 + kcn L n id lo hi 3 : Nat)) : Int) big = _
  rw [Nat.zero_add]
theorem kin_le (L : List Sq) (n : Nat) (id : Int) (lo hi : Cel) (j : Nat) : 0 ≤ kin L n id lo hi j ∧ kin L n id lo hi j ≤ big := by
  unfold kin big
  omega
theorem inV_le (L : List Sq) (n : Nat) (id : Int) (lo hi : Cel) : 0 ≤ inV L n id lo hi ∧ inV L n id lo hi ≤ big := by
  unfold inV big
  omega
/-- cut to the square -/
def clo (lo : Cel) : Cel := (max lo.1 0, max lo.2 0)
def chi (n : Nat) (hi : Cel) : Cel := (min hi.1 (((2 ^ (n + 3) : Nat) : Int) - 1), min hi.2 (((2 ^ (n + 3) : Nat) : Int) - 1))
theorem inV_cut {L : List Sq} (hi : Inv L) {n : Nat} {id : Int} (hl : Lv L n id) (lo h : Cel) : inV L n id (clo lo) (chi n h) = inV L n id lo h := by
  unfold inV cin
  congr 3
  refine List.filter_congr fun c hc => ?_
  have := lst_in hi hl hc
  unfold inb clo chi
  rw [decide_eq_decide]
  simp only
  omega
theorem inV_none {L : List Sq} {n : Nat} {id : Int} {lo h : Cel} (e : h.1 < lo.1 ∨ h.2 < lo.2) : inV L n id lo h = 0 := by
  unfold inV cin
  rw [List.filter_eq_nil_iff.2 (fun c _ => by unfold inb; simp only [decide_eq_true_eq]; omega)]
  rfl
theorem inV_whole {L : List Sq} (hi : Inv L) {n : Nat} {id : Int} (hl : Lv L n id) {lo h : Cel} (h1 : lo = (0, 0)) (h2 : h = (((2 ^ (n + 3) : Nat) : Int) - 1, ((2 ^ (n + 3) : Nat) : Int) - 1)) : inV L n id lo h = (at' L id).cnt := by
  rw [cnt_lst hi n id hl]
  unfold inV cin
  rw [List.filter_eq_self.2]
  intro c hc
  have := lst_in hi hl hc
  subst h1 h2
  unfold inb
  simp only [decide_eq_true_eq]
  omega
end Go.Proofs.YtifkhmcdgmnipaaGreatDoor.Qd

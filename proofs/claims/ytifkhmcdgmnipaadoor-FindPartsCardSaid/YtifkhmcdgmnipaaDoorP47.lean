/-
  FOUR NUMBERS THAT CAME IN AS AN ARRAY: their form. No conditions.
  SMALL LAWS that the statements' walks share: numbers reduced, a square of none. No conditions.
  A SQUARE OF ALL CELLS, as plain data: as many as there are, 2^62 at most. Conditions: those that each lemma names.
  HOW MANY OF A SQUARE LIE IN PARTS OF IT, as plain data: between corners and in two halves of that; of a square of all cells. Conditions: those that each lemma names.
-/
import Derived.OpenShut
import Derived.ChangeSame
import Derived.Laws.IdiomArrays
import Derived.WideShapes
import Derived.Lib.SmallJoins
import Derived.Test.YtifkhmcdgmnipaaDoorP46
import Derived.Test.YtifkhmcdgmnipaaDoorP45
import Derived.Test.YtifkhmcdgmnipaaDoorP05
import Derived.Test.YtifkhmcdgmnipaaDoorP09
namespace Go.Proofs.YtifkhmcdgmnipaaDoor
open Go.ChangeShapes Go.WideShapes Go.RowKit

theorem lis4 {α : Type} (l : List α) (h : (⟨l⟩ : Array α).size = 4) : ∃ a b c d, l = [a, b, c, d] := by
  match l, h with
  | [a, b, c, d], _ => exact ⟨a, b, c, d, rfl⟩
theorem open_four_i {H : Type} {enc : TypeId × Value → H} {P : Program} {w W : World} {base : Nat} {spare : Nat → Bool} {held : Bool} {r : Reach} {b0 : Nat} {t e : TypeId} {v : Value} {d : DataW H} {p : List MemPlace}
    (ht : P.underlying t = some (.array 4 e)) (he : P.underlying e = some (.int .i64)) (hce : P.cellsOf e = 1) (hct : P.cellsOf t = 4) (hv : Value.okWide P W r b0 t v) (h : DataW.Trod enc P w base spare held t v d p) :
    ∃ A B C D : Int, v = .agg #[.int .i64 A, .int .i64 B, .int .i64 C, .int .i64 D] := by
  obtain ⟨cs, rfl, hsz, _⟩ : ∃ cs, v = .agg cs ∧ cs.size = P.cellsOf t ∧ Row.okWide P W r b0 t cs := by
    simpa [Value.okWide, ht] using hv
  rw [hct] at hsz
  obtain ⟨l⟩ := cs
  obtain ⟨c0, c1, c2, c3, rfl⟩ := lis4 l hsz
  obtain ⟨fuel, hf⟩ := h
  obtain ⟨y0, y1, y2, y3, m, hx, hy0, hy1, hy2, hy3⟩ := trod_array4 ht hce hf
  obtain ⟨x0, e0, _, w0⟩ := DataW.trod_int he hy0
  obtain ⟨x1, e1, _, w1⟩ := DataW.trod_int he hy1
  obtain ⟨x2, e2, _, w2⟩ := DataW.trod_int he hy2
  obtain ⟨x3, e3, _, w3⟩ := DataW.trod_int he hy3
  simp at e0 e1 e2 e3
  subst e0 e1 e2 e3
  exact ⟨_, _, _, _, rfl⟩
end Go.Proofs.YtifkhmcdgmnipaaDoor
namespace Go.Proofs.YtifkhmcdgmnipaaDoor
open Go.RowKit Ti Qd Ce Cl Go.Maps Go.WideMaps

theorem wrap_u64_nonneg (x : Int) : 0 ≤ IntKind.u64.wrap x := by rw [IntKind.wrap_u64]; omega
theorem red_nat (x : Int) (m : Nat) (h0 : 0 < m) (h : m ≤ 1099511627776) : ∃ p : Nat, p < m ∧ wrap64 ((IntKind.u64.wrap x).tmod (m : Int)) = (p : Int) := by
  have h1 := wrap_u64_nonneg x
  obtain ⟨n, hn⟩ : ∃ n : Nat, IntKind.u64.wrap x = (n : Int) := ⟨(IntKind.u64.wrap x).toNat, by omega⟩
  rw [hn, tmod_nat]
  have := Nat.mod_lt n h0
  exact ⟨n % m, this, wrap_small (by omega)⟩
theorem lst_emp {L : List Sq} (hi : Inv L) {n : Nat} (hn : n ≤ 37) : lst (emp L n).1 n (emp L n).2 = [] :=
  (cnt_zero (emp_ok hi n hn).inv (emp_ok hi n hn).lv).1 (emp_ok hi n hn).cnt
theorem inV_nil {L : List Sq} {n : Nat} {id : Int} (h : lst L n id = []) (lo hi : Cel) : inV L n id lo hi = 0 := by
  unfold inV cin
  rw [h]
  rfl
theorem lvl_k {p : Nat} (h : p < 38) : wrap64 (3 + (p : Int)) = (p : Int) + 3 := by unfold wrap64; omega
theorem lyc_nil (w : World) : Lyc w none [] := fun i c h => by simp at h
theorem emp_room (p : Nat) (hp : p < 38) (room : Nat) (hr : 38 ≤ room) : (emp [] p).1.length ≤ room := by
  have he := (emp_ok inv_nil p (by omega)).len
  simp at he
  omega
theorem shl_lit {p : Nat} (h : p < 38) : IntKind.i64.wrap (2 ^ min ((p : Int) + 3).toNat 64) = ((2 ^ (p + 3) : Nat) : Int) := by
  have e : min ((p : Int) + 3).toNat 64 = p + 3 := by omega
  rw [e]
  have h2 : 2 ^ (p + 3) ≤ 2 ^ 40 := Nat.pow_le_pow_right (by decide) (by omega)
  have h3 : (2 ^ (p + 3) : Int) = ((2 ^ (p + 3) : Nat) : Int) := by simp
  rw [h3]
  rw [IntKind.wrap_i64]
  clear h3 e
  generalize 2 ^ (p + 3) = M at *
  omega
theorem pow_le {p : Nat} (h : p < 38) : 2 ^ (p + 3) ≤ 1099511627776 := by
  have h2 : 2 ^ (p + 3) ≤ 2 ^ 40 := Nat.pow_le_pow_right (by decide) (by omega)
  omega
theorem pow_pos8 (p : Nat) : 8 ≤ 2 ^ (p + 3) := by
  have := Nat.pow_le_pow_right (show 0 < 2 by decide) (show 3 ≤ p + 3 by omega)
  omega
theorem u64_small {M : Nat} (h : M ≤ 1099511627776) : IntKind.u64.wrap (M : Int) = (M : Int) := by rw [IntKind.wrap_u64]; omega
theorem inV_out {L : List Sq} {n : Nat} {id : Int} {x lo hi : Cel} (hl : lst L n id = [x]) (h : inb lo hi x = false) : inV L n id lo hi = 0 := by
  unfold inV cin
  rw [hl]
  rw [List.filter_cons_of_neg (by rw [h]; decide)]
  rfl
theorem lyc_new2 (w : World) (c d : Cel) (n : Nat) (hn : n = w.heap.size) : Lyc (w.alloc (.cells #[.int .i64 c.1, .int .i64 c.2, .int .i64 d.1, .int .i64 d.2] 33)) (some ⟨n, 0, none⟩) [c, d] := fun i x hx => by
  subst hn
  have h := heap_alloc_new w (.cells #[.int .i64 c.1, .int .i64 c.2, .int .i64 d.1, .int .i64 d.2] 33)
  match i, hx with
  | 0, hx =>
    have e : c = x := by simpa using hx
    subst e
    exact ⟨w.heap.size, 0, rfl, cell_of_row _ _ 0 _ _ _ h, cell_of_row _ _ 1 _ _ _ h⟩
  | 1, hx =>
    have e : d = x := by simpa using hx
    subst e
    exact ⟨w.heap.size, 0, rfl, cell_of_row _ _ 2 _ _ _ h, cell_of_row _ _ 3 _ _ _ h⟩
  | i + 2, hx => simp at hx
theorem wrap_pred {M x : Nat} (h : x < M) (hM : M ≤ 1099511627776) : wrap64 ((x : Int) - 1) = (x : Int) - 1 := by unfold wrap64; omega
theorem inb_left (x y m : Int) (a b : Int) : inb (a, b) (x - 1, m) (x, y) = false := by
  unfold inb
  have : ¬ (x ≤ x - 1) := by omega
  simp [this]
theorem inb_up (x y m : Int) (a b : Int) : inb (a, b) (m, y - 1) (x, y) = false := by
  unfold inb
  have : ¬ (y ≤ y - 1) := by omega
  simp [this]
theorem inV_nat {L : List Sq} {n : Nat} {id : Int} {lo hi : Cel} {m : Nat} (h : cin L n id lo hi ≤ m) (hm : m ≤ 4611686018427387904) : inV L n id lo hi = ((cin L n id lo hi : Nat) : Int) := by
  unfold inV big
  omega
theorem mul_small {M a b : Nat} (hM : M ≤ 1048576) (ha : a ≤ M) (hb : b ≤ M) : a * b ≤ 1099511627776 := Nat.le_trans (Nat.mul_le_mul ha hb) (Nat.le_trans (Nat.mul_le_mul hM hM) (by decide))
theorem sub_wrap {M x : Nat} (h : x < M) (hM : M ≤ 1099511627776) : wrap64 ((M : Int) - (x : Int)) = ((M - x : Nat) : Int) := by unfold wrap64; omega
end Go.Proofs.YtifkhmcdgmnipaaDoor
namespace Go.Proofs.YtifkhmcdgmnipaaDoor.Qd
open Ti

def full : T6 := 18446744073709551615#64
def ful (L : List Sq) : Nat → List Sq × Int
  | 0 => (put L (leafQ full), nr L (leafQ full))
  | n + 1 => (put (ful L n).1 (joinQ (ful L n).1 (ful L n).2 (ful L n).2 (ful L n).2 (ful L n).2), nr (ful L n).1 (joinQ (ful L n).1 (ful L n).2 (ful L n).2 (ful L n).2 (ful L n).2))
def cN : Nat → Int
  | 0 => 64
  | n + 1 => cnt4 (cN n) (cN n) (cN n) (cN n)
def wantN (m : Nat) : Int := if m < 31 then 2 ^ (2 * m) else 4611686018427387904
theorem cN_is : ∀ n < 38, cN n = wantN (3 + n) := by decide +kernel
structure FulOk (L : List Sq) (n : Nat) (r : List Sq × Int) : Prop where
  ext : L <+: r.1
  len : r.1.length ≤ L.length + (n + 1)
  inv : Inv r.1
  lv : Lv r.1 n r.2
  cnt : (at' r.1 r.2).cnt = cN n
theorem Lv.four {L : List Sq} {n : Nat} {id : Int} (h : Lv L n id) : Four L id id id id (n + 3) := ⟨h.1, h.1, h.1, h.1, h.2, h.2, h.2, h.2⟩
theorem ful_ok {L : List Sq} (hi : Inv L) : ∀ n, n ≤ 37 → FulOk L n (ful L n)
  | 0, _ => by
    refine ⟨put_ext _ _, (put_len _ _).2, hi.leaf _, ⟨put_ok _ _, ?_⟩, ?_⟩
    · show (at' (put L _) (nr L _)).lev = _
      rw [put_at]
      rfl
    · show (at' (put L _) (nr L _)).cnt = _
      rw [put_at]
      decide +kernel
  | n + 1, hn => by
    have ih := ful_ok hi n (by omega)
    show FulOk L (n + 1) (put (ful L n).1 _, nr _ _)
    generalize ful L n = r at ih ⊢
    have hat := put_at r.1 (joinQ r.1 r.2 r.2 r.2 r.2)
    have hext := put_ext r.1 (joinQ r.1 r.2 r.2 r.2 r.2)
    refine ⟨ih.ext.trans hext, ?_, ih.inv.join ih.lv.four (by omega) (by omega), ⟨put_ok _ _, ?_⟩, ?_⟩
    · have := (put_len r.1 (joinQ r.1 r.2 r.2 r.2 r.2)).2
      have := ih.len
      show (put r.1 _).length ≤ _
      omega
    · show (at' (put r.1 _) (nr r.1 _)).lev = _
      rw [hat]
      show (at' r.1 r.2).lev + 1 = _
      rw [ih.lv.2]
      omega
    · show (at' (put r.1 _) (nr r.1 _)).cnt = _
      rw [hat]
      show cnt4 _ _ _ _ = cnt4 _ _ _ _
      rw [ih.cnt]
theorem ful_ext (L : List Sq) : ∀ k m, (ful L k).1 <+: (ful L (k + m)).1
  | _, 0 => List.prefix_rfl
  | k, m + 1 => (ful_ext L k m).trans (put_ext _ _)
theorem cnt4_small {a b c d : Nat} (ha : a ≤ 64) (hb : b ≤ 64) (hc : c ≤ 64) (hd : d ≤ 64) : cnt4 a b c d = ((a + b + c + d : Nat) : Int) := by
  unfold cnt4 sat
  omega
end Go.Proofs.YtifkhmcdgmnipaaDoor.Qd
namespace Go.Proofs.YtifkhmcdgmnipaaDoor.Qd
open Ti Ce

theorem ful_cel {L : List Sq} (hi : Inv L) : ∀ n, n ≤ 37 → ∀ u v, u < 2 ^ (n + 3) → v < 2 ^ (n + 3) → cel (ful L n).1 n (ful L n).2 u v = true
  | 0, _ => fun u v hu hv => by
    show (at' (put L _) (nr L _)).til.getLsbD _ = _
    rw [put_at]
    show full.getLsbD (8 * v + u) = true
    have e : full = BitVec.allOnes 64 := by decide
    rw [e, BitVec.getLsbD_allOnes]
    have h1 : u < 8 := hu
    have h2 : v < 8 := hv
    simp
    omega
  | n + 1, hn => fun u v hu hv => by
    have ih := ful_ok hi n (by omega)
    have ihc := ful_cel hi n (by omega)
    show cel (put (ful L n).1 _) n (kid (at' (put (ful L n).1 _) (nr (ful L n).1 _)) (qd (2 ^ (n + 3)) u v)) (u % 2 ^ (n + 3)) (v % 2 ^ (n + 3)) = _
    generalize ful L n = r at ih ihc ⊢
    have hat := put_at r.1 (joinQ r.1 r.2 r.2 r.2 r.2)
    have hext := put_ext r.1 (joinQ r.1 r.2 r.2 r.2 r.2)
    rw [hat, show kid (joinQ r.1 r.2 r.2 r.2 r.2) (qd (2 ^ (n + 3)) u v) = r.2 by unfold kid joinQ; simp, cel_ext ih.inv hext n _ _ _ ih.lv]
    exact ihc _ _ (Nat.mod_lt _ (Nat.two_pow_pos _)) (Nat.mod_lt _ (Nat.two_pow_pos _))
theorem ful_mem {L : List Sq} (hi : Inv L) {n : Nat} (hn : n ≤ 37) (c : Cel) : c ∈ lst (ful L n).1 n (ful L n).2 ↔ InS n c := by
  have h := ful_ok hi n hn
  rw [lst_mem h.inv n _ c h.lv]
  constructor
  · rintro ⟨u, v, hu, hv, rfl, _⟩
    unfold InS
    refine ⟨?_, ?_, ?_, ?_⟩ <;> simp only <;> omega
  · intro hc
    have hin := ins_nat hc
    unfold InS at hc
    exact ⟨c.1.toNat, c.2.toNat, hin.1, hin.2, Prod.ext (by show c.1 = _; omega) (by show c.2 = _; omega), ful_cel hi n hn _ _ hin.1 hin.2⟩
/-- cells of a rectangle -/
def grid (p q a : Nat) : Nat → List Cel
  | 0 => []
  | b + 1 => grid p q a b ++ (List.range a).map fun i => (((p + i : Nat) : Int), ((q + b : Nat) : Int))
theorem grid_len (p q a : Nat) : ∀ b, (grid p q a b).length = a * b
  | 0 => rfl
  | b + 1 => by
    show (grid p q a b ++ _).length = _
    rw [List.length_append, grid_len p q a b, List.length_map, List.length_range, Nat.mul_succ]
theorem grid_mem (p q a : Nat) (c : Cel) : ∀ b, c ∈ grid p q a b ↔ (p : Int) ≤ c.1 ∧ c.1 < ((p + a : Nat) : Int) ∧ (q : Int) ≤ c.2 ∧ c.2 < ((q + b : Nat) : Int)
  | 0 => by
    show c ∈ [] ↔ _
    simp
  | b + 1 => by
    show c ∈ grid p q a b ++ _ ↔ _
    rw [List.mem_append, grid_mem p q a c b, List.mem_map]
    constructor
    · rintro (h | ⟨i, hi, rfl⟩)
      · omega
      · rw [List.mem_range] at hi
        simp only
        omega
    · intro h
      by_cases h2 : c.2 < ((q + b : Nat) : Int)
      · exact .inl ⟨h.1, h.2.1, h.2.2.1, h2⟩
      · exact .inr ⟨(c.1 - p).toNat, List.mem_range.2 (by omega), Prod.ext (by show _ = c.1; omega) (by show _ = c.2; omega)⟩
theorem grid_nodup (p q a : Nat) : ∀ b, (grid p q a b).Nodup
  | 0 => List.nodup_nil
  | b + 1 => by
    show (grid p q a b ++ _).Nodup
    rw [List.nodup_append]
    refine ⟨grid_nodup p q a b, ?_, ?_⟩
    · refine List.Pairwise.map _ (fun i j (h : i ≠ j) => ?_) (List.nodup_range (n := a))
      intro e
      have := congrArg Prod.fst e
      simp only at this
      omega
    · intro x hx y hy e
      subst e
      have h1 := (grid_mem p q a x b).1 hx
      obtain ⟨i, _, rfl⟩ := List.mem_map.1 hy
      simp only at h1
      omega
/-- of a square of all cells, from a corner on -/
theorem ful_cin {L : List Sq} (hi : Inv L) {n : Nat} (hn : n ≤ 37) {p q : Nat} (hp : p ≤ 2 ^ (n + 3)) (hq : q ≤ 2 ^ (n + 3)) (a b : Int) (ha : ((2 ^ (n + 3) : Nat) : Int) ≤ a + 1) (hb : ((2 ^ (n + 3) : Nat) : Int) ≤ b + 1) :
    cin (ful L n).1 n (ful L n).2 ((p : Int), (q : Int)) (a, b) = (2 ^ (n + 3) - p) * (2 ^ (n + 3) - q) := by
  have h := ful_ok hi n hn
  unfold cin
  rw [← grid_len p q (2 ^ (n + 3) - p) (2 ^ (n + 3) - q)]
  refine ((List.perm_ext_iff_of_nodup (List.Pairwise.filter _ (lst_nodup h.inv n _ h.lv)) (grid_nodup _ _ _ _)).2 fun c => ?_).length_eq
  rw [List.mem_filter, ful_mem hi hn, grid_mem]
  unfold InS inb
  rw [decide_eq_true_iff]
  generalize 2 ^ (n + 3) = M at *
  simp only
  omega
theorem fil_split {l : List Cel} {p q r : Cel → Bool} (h : ∀ c, p c = (q c || r c)) (h2 : ∀ c, q c = true → r c = false) : (l.filter p).length = (l.filter q).length + (l.filter r).length := by
  induction l with
  | nil => rfl
  | cons a l ih =>
    have ha := h a
    have hb := h2 a
    cases hq : q a <;> cases hr : r a <;> rw [hq, hr] at ha
    · rw [List.filter_cons_of_neg (by rw [ha]; decide), List.filter_cons_of_neg (by rw [hq]; decide), List.filter_cons_of_neg (by rw [hr]; decide), ih]
    · rw [List.filter_cons_of_pos (by rw [ha]; decide), List.filter_cons_of_neg (by rw [hq]; decide), List.filter_cons_of_pos hr, List.length_cons, List.length_cons, ih]
      omega
    · rw [List.filter_cons_of_pos (by rw [ha]; decide), List.filter_cons_of_pos hq, List.filter_cons_of_neg (by rw [hr]; decide), List.length_cons, List.length_cons, ih]
      omega
    · rw [hb hq] at hr
      cases hr
/-- left of a column, and from it on -/
theorem cin_split (L : List Sq) (n : Nat) (id x a b c d : Int) : cin L n id (a, b) (c, d) = cin L n id (a, b) (min x c, d) + cin L n id (max (min x c + 1) a, b) (c, d) := by
  unfold cin
  refine fil_split (fun y => ?_) (fun y h => ?_)
  · unfold inb
    rw [Bool.eq_iff_iff, Bool.or_eq_true, decide_eq_true_iff, decide_eq_true_iff, decide_eq_true_iff]
    simp only
    omega
  · unfold inb at h ⊢
    rw [decide_eq_true_iff] at h
    rw [decide_eq_false_iff_not]
    simp only at h ⊢
    omega
theorem cin_le (L : List Sq) (n : Nat) (id : Int) (lo hi : Cel) : cin L n id lo hi ≤ (lst L n id).length := List.length_filter_le _ _
end Go.Proofs.YtifkhmcdgmnipaaDoor.Qd

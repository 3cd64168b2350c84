/-
  FOUR NUMBERS THAT CAME IN AS AN ARRAY: their form. No conditions.
  SMALL LAWS that the statements' walks share: numbers reduced, a square of none. No conditions.
  CELLS REDUCED; all of a square lie between its corners, fewer between closer ones: plain data. Conditions: those that each lemma names.
-/
import Derived.OpenShut
import Derived.ChangeSame
import Derived.Laws.IdiomArrays
import Derived.WideShapes
import Derived.Lib.SmallJoins
import Derived.Test.YtifkhmcdgmnipaaDoorB47
import Derived.Test.YtifkhmcdgmnipaaDoorB46
namespace Go.Proofs.YtifkhmcdgmnipaaDoor
open Go.ChangeShapes Go.WideShapes Go.RowKit

theorem lis4 {α : Type} (l : List α) (h : (⟨l⟩ : Array α).size = 4) : ∃ a b c d, l = [a, b, c, d] := by
  match l, h with
  | [a, b, c, d], _ => exact ⟨a, b, c, d, rfl⟩
theorem open_four_i {H : Type} {enc : TypeId × Value → H} {P : Program} {w W : World} {base : Nat} {spare : Nat → Bool} {held : Bool} {r : Reach} {b0 : Nat} {t e : TypeId} {v : Value} {d : DataW H} {p : List MemPlace}
    (ht : P.underlying t = some (.array 4 e)) (he : P.underlying e = some (.int .i64)) (hce : P.cellsOf e = 1) (hct : P.cellsOf t = 4) (hv : Value.okWide P W r b0 t v) (h : DataW.Trod enc P w base spare held t v d p) :
    ∃ A B C D : Int, v = .agg #[.int .i64 A, .int .i64 B, .int .i64 C, .int .i64 D] := by
  obtain ⟨cs, rfl, hsz, _⟩ : ∃ cs, v = .agg cs ∧ cs.size = P.cellsOf t ∧ Row.okWide P W r b0 t cs := by
    simpa [Value.okWide, ht] using hv
  rw [hct] at hsz
  obtain ⟨l⟩ := cs
  obtain ⟨c0, c1, c2, c3, rfl⟩ := lis4 l hsz
  obtain ⟨fuel, hf⟩ := h
  obtain ⟨y0, y1, y2, y3, m, hx, hy0, hy1, hy2, hy3⟩ := trod_array4 ht hce hf
  obtain ⟨x0, e0, _, w0⟩ := DataW.trod_int he hy0
  obtain ⟨x1, e1, _, w1⟩ := DataW.trod_int he hy1
  obtain ⟨x2, e2, _, w2⟩ := DataW.trod_int he hy2
  obtain ⟨x3, e3, _, w3⟩ := DataW.trod_int he hy3
  simp at e0 e1 e2 e3
  subst e0 e1 e2 e3
  exact ⟨_, _, _, _, rfl⟩
end Go.Proofs.YtifkhmcdgmnipaaDoor
namespace Go.Proofs.YtifkhmcdgmnipaaDoor
open Go.RowKit Ti Qd Ce Cl Go.Maps Go.WideMaps

theorem wrap_u64_nonneg (x : Int) : 0 ≤ IntKind.u64.wrap x := by rw [IntKind.wrap_u64]; omega
theorem red_nat (x : Int) (m : Nat) (h0 : 0 < m) (h : m ≤ 1099511627776) : ∃ p : Nat, p < m ∧ wrap64 ((IntKind.u64.wrap x).tmod (m : Int)) = (p : Int) := by
  have h1 := wrap_u64_nonneg x
  obtain ⟨n, hn⟩ : ∃ n : Nat, IntKind.u64.wrap x = (n : Int) := ⟨(IntKind.u64.wrap x).toNat, by omega⟩
  rw [hn, tmod_nat]
  have := Nat.mod_lt n h0
  exact ⟨n % m, this, wrap_small (by omega)⟩
theorem lst_emp {L : List Sq} (hi : Inv L) {n : Nat} (hn : n ≤ 37) : lst (emp L n).1 n (emp L n).2 = [] :=
  (cnt_zero (emp_ok hi n hn).inv (emp_ok hi n hn).lv).1 (emp_ok hi n hn).cnt
theorem inV_nil {L : List Sq} {n : Nat} {id : Int} (h : lst L n id = []) (lo hi : Cel) : inV L n id lo hi = 0 := by
  unfold inV cin
  rw [h]
  rfl
theorem lvl_k {p : Nat} (h : p < 38) : wrap64 (3 + (p : Int)) = (p : Int) + 3 := by unfold wrap64; omega
theorem lyc_nil (w : World) : Lyc w none [] := fun i c h => by simp at h
theorem emp_room (p : Nat) (hp : p < 38) (room : Nat) (hr : 38 ≤ room) : (emp [] p).1.length ≤ room := by
  have he := (emp_ok inv_nil p (by omega)).len
  simp at he
  omega
theorem shl_lit {p : Nat} (h : p < 38) : IntKind.i64.wrap (2 ^ min ((p : Int) + 3).toNat 64) = ((2 ^ (p + 3) : Nat) : Int) := by
  have e : min ((p : Int) + 3).toNat 64 = p + 3 := by omega
  rw [e]
  have h2 : 2 ^ (p + 3) ≤ 2 ^ 40 := Nat.pow_le_pow_right (by decide) (by omega)
  have h3 : (2 ^ (p + 3) : Int) = ((2 ^ (p + 3) : Nat) : Int) := by simp
  rw [h3]
  rw [IntKind.wrap_i64]
  clear h3 e
  generalize 2 ^ (p + 3) = M at *
  omega
theorem pow_le {p : Nat} (h : p < 38) : 2 ^ (p + 3) ≤ 1099511627776 := by
  have h2 : 2 ^ (p + 3) ≤ 2 ^ 40 := Nat.pow_le_pow_right (by decide) (by omega)
  omega
theorem pow_pos8 (p : Nat) : 8 ≤ 2 ^ (p + 3) := by
  have := Nat.pow_le_pow_right (show 0 < 2 by decide) (show 3 ≤ p + 3 by omega)
  omega
theorem u64_small {M : Nat} (h : M ≤ 1099511627776) : IntKind.u64.wrap (M : Int) = (M : Int) := by rw [IntKind.wrap_u64]; omega
theorem inV_out {L : List Sq} {n : Nat} {id : Int} {x lo hi : Cel} (hl : lst L n id = [x]) (h : inb lo hi x = false) : inV L n id lo hi = 0 := by
  unfold inV cin
  rw [hl]
  rw [List.filter_cons_of_neg (by rw [h]; decide)]
  rfl
theorem lyc_new2 (w : World) (c d : Cel) (n : Nat) (hn : n = w.heap.size) : Lyc (w.alloc (.cells #[.int .i64 c.1, .int .i64 c.2, .int .i64 d.1, .int .i64 d.2] 33)) (some ⟨n, 0, none⟩) [c, d] := fun i x hx => by
  subst hn
  have h := heap_alloc_new w (.cells #[.int .i64 c.1, .int .i64 c.2, .int .i64 d.1, .int .i64 d.2] 33)
  match i, hx with
  | 0, hx =>
    have e : c = x := by simpa using hx
    subst e
    exact ⟨w.heap.size, 0, rfl, cell_of_row _ _ 0 _ _ _ h, cell_of_row _ _ 1 _ _ _ h⟩
  | 1, hx =>
    have e : d = x := by simpa using hx
    subst e
    exact ⟨w.heap.size, 0, rfl, cell_of_row _ _ 2 _ _ _ h, cell_of_row _ _ 3 _ _ _ h⟩
  | i + 2, hx => simp at hx
theorem wrap_pred {M x : Nat} (h : x < M) (hM : M ≤ 1099511627776) : wrap64 ((x : Int) - 1) = (x : Int) - 1 := by unfold wrap64; omega
theorem inb_left (x y m : Int) (a b : Int) : inb (a, b) (x - 1, m) (x, y) = false := by
  unfold inb
  have : ¬ (x ≤ x - 1) := by omega
  simp [this]
theorem inb_up (x y m : Int) (a b : Int) : inb (a, b) (m, y - 1) (x, y) = false := by
  unfold inb
  have : ¬ (y ≤ y - 1) := by omega
  simp [this]
theorem inV_nat {L : List Sq} {n : Nat} {id : Int} {lo hi : Cel} {m : Nat} (h : cin L n id lo hi ≤ m) (hm : m ≤ 4611686018427387904) : inV L n id lo hi = ((cin L n id lo hi : Nat) : Int) := by
  unfold inV big
  omega
theorem mul_small {M a b : Nat} (hM : M ≤ 1048576) (ha : a ≤ M) (hb : b ≤ M) : a * b ≤ 1099511627776 := Nat.le_trans (Nat.mul_le_mul ha hb) (Nat.le_trans (Nat.mul_le_mul hM hM) (by decide))
theorem sub_wrap {M x : Nat} (h : x < M) (hM : M ≤ 1099511627776) : wrap64 ((M : Int) - (x : Int)) = ((M - x : Nat) : Int) := by unfold wrap64; omega
end Go.Proofs.YtifkhmcdgmnipaaDoor
namespace Go.Proofs.YtifkhmcdgmnipaaDoor.Qd
open Go.RowKit Ti Ce Cl Go.Maps Go.WideMaps

def rd (M : Nat) (x : Int) : Int := wrap64 ((IntKind.u64.wrap x).tmod (M : Int))
def rdc (M : Nat) (c : Cel) : Cel := (rd M c.1, rd M c.2)
def om (M : Nat) (L : List Cel) : List Cel := L.map (rdc M)
theorem rd_is (M : Nat) (x : Int) : IntKind.i64.wrap ((IntKind.u64.wrap x).tmod (M : Int)) = rd M x := by unfold rd wrap64; rw [IntKind.wrap_i64]
theorem om_len (M : Nat) (L : List Cel) : (om M L).length = L.length := List.length_map _
theorem om_take (M : Nat) (L : List Cel) {k : Nat} (h : k < L.length) : (om M L).take (k + 1) = (om M L).take k ++ [rdc M L[k]] := by
  show (L.map (rdc M)).take (k + 1) = (L.map (rdc M)).take k ++ [rdc M L[k]]
  rw [← List.map_take, ← List.map_take, List.take_succ_eq_append_getElem h, List.map_append]
  rfl
theorem rd_in {M : Nat} (x : Int) (h0 : 0 < M) (h : M ≤ 1099511627776) : 0 ≤ rd M x ∧ rd M x < (M : Int) := by
  obtain ⟨p, hp, e⟩ := red_nat x M h0 h
  unfold rd
  rw [e]
  omega
theorem om_in {n : Nat} (hn : n < 38) (L : List Cel) : ∀ c ∈ om (2 ^ (n + 3)) L, InS n c := by
  intro c hc
  obtain ⟨d, _, rfl⟩ := List.mem_map.1 hc
  have h1 := rd_in d.1 (Nat.two_pow_pos (n + 3)) (pow_le hn)
  have h2 := rd_in d.2 (Nat.two_pow_pos (n + 3)) (pow_le hn)
  exact ⟨h1.1, h1.2, h2.1, h2.2⟩
theorem srt_nodup_len {l : List Cel} (h : l.Nodup) : (srt l).length = l.length :=
  ((List.perm_ext_iff_of_nodup (srt_srt l).nodup h).2 fun c => srt_mem l c).length_eq
theorem inb_of {lo hi c : Cel} (h : lo.1 ≤ c.1 ∧ lo.2 ≤ c.2 ∧ c.1 ≤ hi.1 ∧ c.2 ≤ hi.2) : inb lo hi c = true := by
  unfold inb
  exact decide_eq_true ⟨h.1, h.2.2.1, h.2.1, h.2.2.2⟩
theorem inb_not {lo hi c : Cel} (h : ¬ (lo.1 ≤ c.1 ∧ c.1 ≤ hi.1 ∧ lo.2 ≤ c.2 ∧ c.2 ≤ hi.2)) : inb lo hi c = false := decide_eq_false h
theorem u64_lvl {p : Nat} (h : p < 38) : IntKind.u64.wrap ((p : Int) + 3) = (p : Int) + 3 := by rw [IntKind.wrap_u64]; omega
theorem shl_u64 {p M : Nat} (h : p < 38) (hM : M = 2 ^ (p + 3)) : IntKind.u64.wrap (2 ^ min ((p : Int) + 3).toNat 64) = (M : Int) := by
  have e : min ((p : Int) + 3).toNat 64 = p + 3 := by omega
  rw [e]
  have h2 := pow_le h
  have h3 : (2 ^ (p + 3) : Int) = ((2 ^ (p + 3) : Nat) : Int) := by simp
  rw [h3, ← hM]
  rw [← hM] at h2
  exact u64_small h2
theorem srt_next {l : List Cel} (h : Srt l) {i : Nat} {y x : Cel} (hy : l[i]? = some y) (hx : l[i + 1]? = some x) : y.2 < x.2 ∨ (y.2 = x.2 ∧ y.1 < x.1) := by
  obtain ⟨h1, e1⟩ := List.getElem?_eq_some_iff.1 hy
  obtain ⟨h2, e2⟩ := List.getElem?_eq_some_iff.1 hx
  have := List.pairwise_iff_getElem.1 h i (i + 1) h1 h2 (Nat.lt_succ_self _)
  rw [e1, e2, lt_iff] at this
  exact this
theorem wrap_dec (i : Nat) (h : i ≤ 4096) : wrap64 (((i + 1 : Nat) : Int) - 1) = (i : Int) := by unfold wrap64; omega
/-- all lie between the corners -/
theorem inV_all {L : List Sq} {n : Nat} {id : Int} {lo hi : Cel} (h : BoxIs (lst L n id) lo hi) (hs : (lst L n id).length ≤ 4096) : inV L n id lo hi = ((lst L n id).length : Int) := by
  unfold inV cin big
  rw [List.filter_eq_self.2 (fun c hc => inb_of (h.all c hc))]
  omega
theorem inV_less {L : List Sq} {n : Nat} {id : Int} {lo hi : Cel} (h : ∃ c ∈ lst L n id, inb lo hi c = false) : inV L n id lo hi < ((lst L n id).length : Int) := by
  unfold inV cin big
  have h2 : ((lst L n id).filter (inb lo hi)).length < (lst L n id).length := by
    rw [List.length_filter_lt_length_iff_exists]
    obtain ⟨c, hc, e⟩ := h
    exact ⟨c, hc, by rw [e]; decide⟩
  omega
theorem less1 {L : List Sq} {n : Nat} {id : Int} {lo hi : Cel} (h : BoxIs (lst L n id) lo hi) : inV L n id (lo.1 + 1, lo.2) hi < ((lst L n id).length : Int) := inV_less (by
  obtain ⟨c, m, e⟩ := h.l1
  exact ⟨c, m, inb_not (by show ¬ (lo.1 + 1 ≤ c.1 ∧ _); omega)⟩)
theorem less2 {L : List Sq} {n : Nat} {id : Int} {lo hi : Cel} (h : BoxIs (lst L n id) lo hi) : inV L n id (lo.1, lo.2 + 1) hi < ((lst L n id).length : Int) := inV_less (by
  obtain ⟨c, m, e⟩ := h.l2
  exact ⟨c, m, inb_not (by show ¬ (_ ∧ _ ∧ lo.2 + 1 ≤ c.2 ∧ _); omega)⟩)
theorem less3 {L : List Sq} {n : Nat} {id : Int} {lo hi : Cel} (h : BoxIs (lst L n id) lo hi) : inV L n id lo (hi.1 - 1, hi.2) < ((lst L n id).length : Int) := inV_less (by
  obtain ⟨c, m, e⟩ := h.h1
  exact ⟨c, m, inb_not (by show ¬ (_ ∧ c.1 ≤ hi.1 - 1 ∧ _); omega)⟩)
theorem less4 {L : List Sq} {n : Nat} {id : Int} {lo hi : Cel} (h : BoxIs (lst L n id) lo hi) : inV L n id lo (hi.1, hi.2 - 1) < ((lst L n id).length : Int) := inV_less (by
  obtain ⟨c, m, e⟩ := h.h2
  exact ⟨c, m, inb_not (by show ¬ (_ ∧ _ ∧ _ ∧ c.2 ≤ hi.2 - 1); omega)⟩)
/-- the corners lie in the square -/
theorem box_in {L : List Sq} (hi : Inv L) {n : Nat} {id : Int} (hl : Lv L n id) {lo h : Cel} (hb : BoxIs (lst L n id) lo h) : 0 ≤ lo.1 ∧ 0 ≤ lo.2 ∧ h.1 < ((2 ^ (n + 3) : Nat) : Int) ∧ h.2 < ((2 ^ (n + 3) : Nat) : Int) ∧ lo.1 ≤ h.1 ∧ lo.2 ≤ h.2 := by
  have hm : ∀ c ∈ lst L n id, 0 ≤ c.1 ∧ 0 ≤ c.2 ∧ c.1 < ((2 ^ (n + 3) : Nat) : Int) ∧ c.2 < ((2 ^ (n + 3) : Nat) : Int) := fun c hc => by
    obtain ⟨u, v, hu, hv, rfl, _⟩ := (lst_mem hi n id c hl).1 hc
    simp only
    omega
  obtain ⟨c1, m1, e1⟩ := hb.l1
  obtain ⟨c2, m2, e2⟩ := hb.l2
  obtain ⟨c3, m3, e3⟩ := hb.h1
  obtain ⟨c4, m4, e4⟩ := hb.h2
  have a1 := hm _ m1
  have a2 := hm _ m2
  have a3 := hm _ m3
  have a4 := hm _ m4
  have b1 := hb.all _ m1
  have b2 := hb.all _ m2
  omega
end Go.Proofs.YtifkhmcdgmnipaaDoor.Qd

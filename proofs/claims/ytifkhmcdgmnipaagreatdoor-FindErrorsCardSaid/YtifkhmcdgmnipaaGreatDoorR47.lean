/-
  FOUR NUMBERS THAT CAME IN AS AN ARRAY: their form. No conditions.
  SMALL LAWS that the statements' walks share: numbers reduced, a square of none. No conditions.
-/
import Derived.OpenShut
import Derived.ChangeSame
import Derived.Laws.IdiomArrays
import Derived.WideShapes
import Derived.Lib.SmallJoins
import Derived.Test.YtifkhmcdgmnipaaGreatDoorR46
import Derived.Test.YtifkhmcdgmnipaaGreatDoorR45
namespace Go.Proofs.YtifkhmcdgmnipaaGreatDoor
open Go.ChangeShapes Go.WideShapes Go.RowKit

theorem lis4 {α : Type} (l : List α) (h : (⟨l⟩ : Array α).size = 4) : ∃ a b c d, l = [a, b, c, d] := by
  match l, h with
  | [a, b, c, d], _ => exact ⟨a, b, c, d, rfl⟩
theorem open_four_i {H : Type} {enc : TypeId × Value → H} {P : Program} {w W : World} {base : Nat} {spare : Nat → Bool} {held : Bool} {r : Reach} {b0 : Nat} {t e : TypeId} {v : Value} {d : DataW H} {p : List MemPlace}
    (ht : P.underlying t = some (.array 4 e)) (he : P.underlying e = some (.int .i64)) (hce : P.cellsOf e = 1) (hct : P.cellsOf t = 4) (hv : Value.okWide P W r b0 t v) (h : DataW.Trod enc P w base spare held t v d p) :
    ∃ A B C D : Int, v = .agg #[.int .i64 A, .int .i64 B, .int .i64 C, .int .i64 D] := by
  obtain ⟨cs, rfl, hsz, _⟩ : ∃ cs, v = .agg cs ∧ cs.size = P.cellsOf t ∧ Row.okWide P W r b0 t cs := by
    simpa [Value.okWide, ht] using hv
  rw [hct] at hsz
  obtain ⟨l⟩ := cs
  obtain ⟨c0, c1, c2, c3, rfl⟩ := lis4 l hsz
  obtain ⟨fuel, hf⟩ := h
  obtain ⟨y0, y1, y2, y3, m, hx, hy0, hy1, hy2, hy3⟩ := trod_array4 ht hce hf
  obtain ⟨x0, e0, _, w0⟩ := DataW.trod_int he hy0
  obtain ⟨x1, e1, _, w1⟩ := DataW.trod_int he hy1
  obtain ⟨x2, e2, _, w2⟩ := DataW.trod_int he hy2
  obtain ⟨x3, e3, _, w3⟩ := DataW.trod_int he hy3
  simp at e0 e1 e2 e3
  subst e0 e1 e2 e3
  exact ⟨_, _, _, _, rfl⟩
end Go.Proofs.YtifkhmcdgmnipaaGreatDoor
namespace Go.Proofs.YtifkhmcdgmnipaaGreatDoor
open Go.RowKit Ti Qd Ce Cl Go.Maps Go.WideMaps

theorem wrap_u64_nonneg (x : Int) : 0 ≤ IntKind.u64.wrap x := by rw [IntKind.wrap_u64]; omega
theorem red_nat (x : Int) (m : Nat) (h0 : 0 < m) (h : m ≤ 1099511627776) : ∃ p : Nat, p < m ∧ wrap64 ((IntKind.u64.wrap x).tmod (m : Int)) = (p : Int) := by
  have h1 := wrap_u64_nonneg x
  obtain ⟨n, hn⟩ : ∃ n : Nat, IntKind.u64.wrap x = (n : Int) := ⟨(IntKind.u64.wrap x).toNat, by omega⟩
  rw [hn, tmod_nat]
  have := Nat.mod_lt n h0
  exact ⟨n % m, this, wrap_small (by omega)⟩
theorem lst_emp {L : List Sq} (hi : Inv L) {n : Nat} (hn : n ≤ 37) : lst (emp L n).1 n (emp L n).2 = [] :=
  (cnt_zero (emp_ok hi n hn).inv (emp_ok hi n hn).lv).1 (emp_ok hi n hn).cnt
theorem inV_nil {L : List Sq} {n : Nat} {id : Int} (h : lst L n id = []) (lo hi : Cel) : inV L n id lo hi = 0 := by
  unfold inV cin
  rw [h]
  rfl
theorem lvl_k {p : Nat} (h : p < 38) : wrap64 (3 + (p : Int)) = (p : Int) + 3 := by unfold wrap64; omega
theorem lyc_nil (w : World) : Lyc w none [] := fun i c h => by simp at h
theorem emp_room (p : Nat) (hp : p < 38) (room : Nat) (hr : 38 ≤ room) : (emp [] p).1.length ≤ room := by
  have he := (emp_ok inv_nil p (by omega)).len
  simp at he
  omega
theorem shl_lit {p : Nat} (h : p < 38) : IntKind.i64.wrap (2 ^ min ((p : Int) + 3).toNat 64) = ((2 ^ (p + 3) : Nat) : Int) := by
  have e : min ((p : Int) + 3).toNat 64 = p + 3 := by omega
  rw [e]
  have h2 : 2 ^ (p + 3) ≤ 2 ^ 40 := Nat.pow_le_pow_right (by decide) (by omega)
  have h3 : (2 ^ (p + 3) : Int) = ((2 ^ (p + 3) : Nat) : Int) := by simp
  rw [h3]
  rw [IntKind.wrap_i64]
  clear h3 e
  generalize 2 ^ (p + 3) = M at *
  omega
theorem pow_le {p : Nat} (h : p < 38) : 2 ^ (p + 3) ≤ 1099511627776 := by
  have h2 : 2 ^ (p + 3) ≤ 2 ^ 40 := Nat.pow_le_pow_right (by decide) (by omega)
  omega
theorem pow_pos8 (p : Nat) : 8 ≤ 2 ^ (p + 3) := by
  have := Nat.pow_le_pow_right (show 0 < 2 by decide) (show 3 ≤ p + 3 by omega)
  omega
theorem u64_small {M : Nat} (h : M ≤ 1099511627776) : IntKind.u64.wrap (M : Int) = (M : Int) := by rw [IntKind.wrap_u64]; omega
theorem inV_out {L : List Sq} {n : Nat} {id : Int} {x lo hi : Cel} (hl : lst L n id = [x]) (h : inb lo hi x = false) : inV L n id lo hi = 0 := by
  unfold inV cin
  rw [hl]
  rw [List.filter_cons_of_neg (by rw [h]; decide)]
  rfl
theorem lyc_new2 (w : World) (c d : Cel) (n : Nat) (hn : n = w.heap.size) : Lyc (w.alloc (.cells #[.int .i64 c.1, .int .i64 c.2, .int .i64 d.1, .int .i64 d.2] 30)) (some ⟨n, 0, none⟩) [c, d] := fun i x hx => by
  subst hn
  have h := heap_alloc_new w (.cells #[.int .i64 c.1, .int .i64 c.2, .int .i64 d.1, .int .i64 d.2] 30)
  match i, hx with
  | 0, hx =>
    have e : c = x := by simpa using hx
    subst e
    exact ⟨w.heap.size, 0, rfl, cell_of_row _ _ 0 _ _ _ h, cell_of_row _ _ 1 _ _ _ h⟩
  | 1, hx =>
    have e : d = x := by simpa using hx
    subst e
    exact ⟨w.heap.size, 0, rfl, cell_of_row _ _ 2 _ _ _ h, cell_of_row _ _ 3 _ _ _ h⟩
  | i + 2, hx => simp at hx
theorem wrap_pred {M x : Nat} (h : x < M) (hM : M ≤ 1099511627776) : wrap64 ((x : Int) - 1) = (x : Int) - 1 := by unfold wrap64; omega
theorem inb_left (x y m : Int) (a b : Int) : inb (a, b) (x - 1, m) (x, y) = false := by
  unfold inb
  have : ¬ (x ≤ x - 1) := by omega
  simp [this]
theorem inb_up (x y m : Int) (a b : Int) : inb (a, b) (m, y - 1) (x, y) = false := by
  unfold inb
  have : ¬ (y ≤ y - 1) := by omega
  simp [this]
theorem inV_nat {L : List Sq} {n : Nat} {id : Int} {lo hi : Cel} {m : Nat} (h : cin L n id lo hi ≤ m) (hm : m ≤ 4611686018427387904) : inV L n id lo hi = ((cin L n id lo hi : Nat) : Int) := by
  unfold inV big
  omega
theorem mul_small {M a b : Nat} (hM : M ≤ 1048576) (ha : a ≤ M) (hb : b ≤ M) : a * b ≤ 1099511627776 := Nat.le_trans (Nat.mul_le_mul ha hb) (Nat.le_trans (Nat.mul_le_mul hM hM) (by decide))
theorem sub_wrap {M x : Nat} (h : x < M) (hM : M ≤ 1099511627776) : wrap64 ((M : Int) - (x : Int)) = ((M - x : Nat) : Int) := by unfold wrap64; omega
end Go.Proofs.YtifkhmcdgmnipaaGreatDoor

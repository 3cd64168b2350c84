/-
  BYTES, and Mark of any bytes. Conditions: those that each lemma names.
  WHAT A SLICE OF BYTES THAT CAME IN GIVES A WALK. Conditions: that it could be read.
  THE CONTRACTS OF THE SUMS AS THE STATEMENTS MEET THEM, and small laws on bytes that lie in memory. Conditions: those that each lemma names.
  A DISK IN MEMORY: its struct, its sectors that are sure, the pointers to those that are pending, the list of what is pending. No program in it but the types' numbers.
  BYTES THAT LIE IN MEMORY, STRINGS, AND THE STATEMENTS' OWN sector. Conditions: those that each lemma names.
-/
import Derived.Lib.SlBytesConst
import Derived.OpenShut
import Derived.IntWalk
import Derived.Deep.AppendLies
import Derived.Laws.BytesArg
import Derived.Laws.OwnMore
import Derived.Test.YtfhnnfheonkneaaDoorProg
import Derived.WalkKit
import Derived.Deep.MidRow
import Derived.Lib.Hide
import Derived.WalkSpells
import Derived.WalkLawsBesides
import Derived.OwnWalk
import Derived.Laws.Concat
import Derived.Lib.ConvBytes
import Derived.Deep.OwnRows
import Derived.Outline
import Derived.Test.YtfhnnfheonkneaaDoorQc
namespace Go.Proofs.YtfhnnfheonkneaaDoor.Sm
open Go.RowKit Crc

def Byte (xs : List Int) : Prop := ∀ i (h : i < xs.length), 0 ≤ xs[i] ∧ xs[i] < 256
theorem lies_block {w : World} {g : Nat} {xs : List Int} {fr : Nat × Nat} (h : w.heap[g]? = some (.cells (bl xs).toArray 5 fr)) (hb : Byte xs) : Lies w (some ⟨g, 0, none⟩) xs := by
  intro i hi
  refine ⟨g, 0, rfl, ?_, (hb i hi).1, (hb i hi).2⟩
  rw [Nat.zero_add, cell_of_row w g i _ _ _ h]
  simp [bl, hi]
theorem Lies.front {w : World} {a : Option Addr} {xs ys : List Int} (h : Lies w a (xs ++ ys)) : Lies w a xs := by
  intro i hi
  obtain ⟨b', off', ha, h1, h2, h3⟩ := h i (by simp; omega)
  rw [List.getElem_append_left hi] at h1 h2 h3
  exact ⟨b', off', ha, h1, h2, h3⟩
theorem Lies.byte {w : World} {a : Option Addr} {xs : List Int} (h : Lies w a xs) : Byte xs := by
  intro i hi
  obtain ⟨_, _, _, _, h2, h3⟩ := h i hi
  exact ⟨h2, h3⟩
theorem Byte.append {xs ys : List Int} (h : Byte xs) (h' : Byte ys) : Byte (xs ++ ys) := by
  intro i hi
  by_cases e : i < xs.length
  · rw [List.getElem_append_left e]; exact h i e
  · rw [List.getElem_append_right (by omega)]; exact h' _ (by simp at hi; omega)
theorem Byte.front {xs ys : List Int} (h : Byte (xs ++ ys)) : Byte xs := by
  intro i hi
  have := h i (by simp; omega)
  rwa [List.getElem_append_left hi] at this
theorem tb_small (s : BitVec 32) (i : Nat) : 0 ≤ rg (tb s i) ∧ rg (tb s i) < 256 := by
  rw [← tb_int]
  omega
theorem byte_tls (ys : List Int) : Byte (tls ys) := by
  intro i hi
  have hi' : i < 4 := hi
  match i, hi' with
  | 0, _ => exact tb_small _ _
  | 1, _ => exact tb_small _ _
  | 2, _ => exact tb_small _ _
  | 3, _ => exact tb_small _ _
/-- bytes, marked in the place of their last four -/
def mkd (xs : List Int) : List Int := mk (xs.take (xs.length - 4))
theorem byte_mkd {xs : List Int} (h : Byte xs) : Byte (mkd xs) := by
  refine Byte.append ?_ (byte_tls _)
  have e : xs = xs.take (xs.length - 4) ++ xs.drop (xs.length - 4) := (List.take_append_drop _ _).symm
  rw [e] at h
  exact h.front
theorem mk_len (ys : List Int) : (mk ys).length = ys.length + 4 := by simp [mk, tls]
theorem mkd_len {xs : List Int} (h : 4 ≤ xs.length) : (mkd xs).length = xs.length := by unfold mkd; rw [mk_len, List.length_take]; omega
theorem good_mkd (xs : List Int) : isGood (mkd xs) = true := good_mk _
end Go.Proofs.YtfhnnfheonkneaaDoor.Sm
namespace Go.Proofs.YtfhnnfheonkneaaDoor.Sm
open Go.RowKit Crc

/-- A slice of integers that came in: nil; or it leads to a row of 'cap' cells, the numbers 'zs' (the first 'len' are its elements, the rest its spare room), each fitting its kind. -/
def IsRow (k : IntKind) (w : World) (a : Option Addr) (len cap : Nat) (zs : List Int) : Prop :=
  (a = none ∧ len = 0 ∧ cap = 0 ∧ zs = []) ∨
  ∃ x, a = some x ∧ len ≤ cap ∧ cap ≤ maxLen ∧ zs.length = cap ∧ (∀ i, i < zs.length → w.cell? (x.add i) = some (.int k (zs.getD i 0))) ∧ ∀ n ∈ zs, (Lit.int k n).wf = true
theorem isrow_open {w : World} {a : Option Addr} {len cap : Nat} {zs : List Int} (h : IsRow .u8 w a len cap zs) :
    ∃ xs : List Int, xs.length = len ∧ Lies w a xs ∧ len ≤ cap ∧ cap ≤ 9223372036854775807 := by
  rcases h with ⟨rfl, rfl, rfl, rfl⟩ | ⟨x, rfl, hl, hm, hz, hc, hw⟩
  · exact ⟨[], rfl, fun i hi => absurd hi (by simp), Nat.le_refl _, by omega⟩
  · unfold maxLen at hm
    refine ⟨zs.take len, by rw [List.length_take]; omega, ?_, hl, hm⟩
    intro i hi
    have hi' : i < len := by rw [List.length_take] at hi; omega
    have hiz : i < zs.length := by omega
    obtain ⟨b, off, spot⟩ := x
    have c := hc i hiz
    have hspot : spot = none := by
      have c0 := hc 0 (by omega)
      simpa [Addr.add] using World.cell?_spot c0
    subst hspot
    have e : zs.getD i 0 = (zs.take len)[i] := by rw [List.getElem_take]; simp [hiz]
    rw [e, Addr.add_mid] at c
    have hb := bounds_u8 (hw (zs.take len)[i] (List.mem_of_mem_take (List.getElem_mem hi)))
    exact ⟨b, off, rfl, c, hb.1, by omega⟩
theorem Lies.take {w : World} {a : Option Addr} {xs : List Int} (h : Lies w a xs) (n : Nat) : Lies w a (xs.take n) := by
  have e : xs = xs.take n ++ xs.drop n := (List.take_append_drop _ _).symm
  rw [e] at h
  exact h.front
theorem isrow_addr {k : IntKind} {w : World} {a : Option Addr} {len cap : Nat} {zs : List Int} (h : IsRow k w a len cap zs) : cap = 0 ∨ ∃ b off, a = some ⟨b, off, none⟩ := by
  rcases h with ⟨_, _, h, _⟩ | ⟨x, rfl, _, _, hz, hc, _⟩
  · exact .inl h
  · by_cases h0 : cap = 0
    · exact .inl h0
    · obtain ⟨b, off, spot⟩ := x
      have c0 := hc 0 (by omega)
      have hspot : spot = none := by simpa [Addr.add] using World.cell?_spot c0
      subst hspot
      exact .inr ⟨b, off, rfl⟩
theorem Lies.drop {w : World} {b off : Nat} {xs : List Int} (h : Lies w (some ⟨b, off, none⟩) xs) (k : Nat) : Lies w (some ⟨b, off + k, none⟩) (xs.drop k) := by
  intro i hi
  have hi' : k + i < xs.length := by rw [List.length_drop] at hi; omega
  obtain ⟨b', off', ha, h1, h2, h3⟩ := h (k + i) hi'
  obtain ⟨rfl, rfl⟩ : b = b' ∧ off = off' := by simpa using ha
  rw [List.getElem_drop]
  exact ⟨b, off + k, rfl, by rw [Nat.add_assoc]; exact h1, h2, h3⟩
theorem lies_nil (w : World) (a : Option Addr) : Lies w a [] := fun i hi => absurd hi (by simp)
end Go.Proofs.YtfhnnfheonkneaaDoor.Sm
namespace Go.Proofs.YtfhnnfheonkneaaDoor.Sm
open Go.RowKit Crc

theorem beq_of {a b : Int} (h : a = b) : (a == b) = true := by rw [h]; exact beq_self_eq_true b
/-- int(uint(a) % m) -/
theorem red_bd (a m : Int) (hm : 0 < m) (hm2 : m ≤ 9223372036854775807) : 0 ≤ wrap64 ((IntKind.u64.wrap a).tmod m) ∧ wrap64 ((IntKind.u64.wrap a).tmod m) < m := by
  have h0 := wrap_u64_nonneg a
  rw [Int.tmod_eq_emod_of_nonneg h0]
  have h1 := Int.emod_nonneg (IntKind.u64.wrap a) (show m ≠ 0 by omega)
  have h2 := Int.emod_lt_of_pos (IntKind.u64.wrap a) hm
  rw [IntWalk.wrap64_in _ ⟨by omega, by omega⟩]
  exact ⟨h1, h2⟩

theorem xor8_b8 (a b : Int) (a0 : 0 ≤ a) (a1 : a < 256) (b0 : 0 ≤ b) (b1 : b < 256) : b8 (bits .xor .u8 a b) = b8 a ^^^ b8 b ∧ 0 ≤ bits .xor .u8 a b ∧ bits .xor .u8 a b < 256 := by
  obtain ⟨A, rfl⟩ := Int.eq_ofNat_of_zero_le a0
  obtain ⟨B, rfl⟩ := Int.eq_ofNat_of_zero_le b0
  have hA : A < 2 ^ 8 := by omega
  have hB : B < 2 ^ 8 := by omega
  have h := u8_xor_nat A B (by omega) (by omega)
  have hlt : A ^^^ B < 2 ^ 8 := Nat.xor_lt_two_pow hA hB
  rw [h]
  refine ⟨?_, by omega, by omega⟩
  unfold b8
  show BitVec.ofInt 32 ((A ^^^ B : Nat) : Int) = BitVec.ofInt 32 ((A : Nat) : Int) ^^^ BitVec.ofInt 32 ((B : Nat) : Int)
  rw [BitVec.ofInt_natCast, BitVec.ofInt_natCast, BitVec.ofInt_natCast]
  apply BitVec.eq_of_toNat_eq
  simp only [BitVec.toNat_ofNat, BitVec.toNat_xor]
  rw [Nat.mod_eq_of_lt (show A ^^^ B < 2 ^ 32 by omega), Nat.mod_eq_of_lt (show A < 2 ^ 32 by omega), Nat.mod_eq_of_lt (show B < 2 ^ 32 by omega)]
theorem getD_byte {xs : List Int} (h : Byte xs) (i : Nat) : 0 ≤ xs.getD i 0 ∧ xs.getD i 0 < 256 := by
  by_cases hi : i < xs.length
  · have := h i hi
    simpa [List.getD_eq_getElem?_getD, hi] using this
  · simp [List.getD_eq_getElem?_getD, hi]
theorem own_lies {w : World} {B n : Nat} {v : Value} {xs : List Int} (h : w.ownsRow B 5 1 v n (bl xs)) (hb : Byte xs) : ∃ ao cap, v = .slice ao n cap ∧ Lies w ao xs ∧ n ≤ cap ∧ xs.length = n := by
  obtain ⟨hl, h⟩ := h
  have hn : xs.length = n := by rw [bl_len] at hl; omega
  rcases h with ⟨rfl, h0⟩ | ⟨g, cap, cur, rfl, _, hg, hnc, _, hcs, ht⟩
  · obtain rfl : xs = [] := List.eq_nil_of_length_eq_zero (by omega)
    exact ⟨none, 0, by rw [h0], fun i hi => absurd hi (by simp), by omega, by omega⟩
  · refine ⟨_, cap, rfl, ?_, by omega, hn⟩
    intro i hi
    refine ⟨g, 0, rfl, ?_, (hb i hi).1, (hb i hi).2⟩
    rw [Nat.zero_add, cell_of_row w g i _ _ _ hg]
    have e : (bl xs)[i]? = some (Value.int .u8 xs[i]) := by simp [bl, hi]
    rw [← ht, List.getElem?_take] at e
    have hi' : i < n * 1 := by omega
    rw [if_pos hi'] at e
    simpa using e
theorem sum_n (a : Option Addr) (c n : Nat) (xs : List Int) (w : World) (hx : Lies w a xs) (hn : xs.length = n) (hm : n ≤ 9223372036854775807) :
    Calls Tryd.prog 56 #[.slice a n c] w fun e w' => e = .returned (.int .u32 (rg (more 0#32 xs))) ∧ w = w' := by
  subst hn
  exact sum_any a c xs w hx hm
theorem more_n (s : BitVec 32) (a : Option Addr) (c n : Nat) (xs : List Int) (w : World) (hx : Lies w a xs) (hn : xs.length = n) (hm : n ≤ 9223372036854775807) :
    Calls Tryd.prog 70 #[.int .u32 (rg s), .slice a n c] w fun e w' => e = .returned (.int .u32 (rg (more s xs))) ∧ w = w' := by
  subst hn
  exact more_any s a c xs w hx hm
theorem ref_n (s : BitVec 32) (a : Option Addr) (c n : Nat) (xs : List Int) (w : World) (hx : Lies w a xs) (hn : xs.length = n) (hm : n ≤ 9223372036854775807) :
    Calls Tryd.prog 58 #[.int .u32 (rg s), .slice a n c] w fun e w' => e = .returned (.int .u32 (rg (more s xs))) ∧ w = w' := by
  subst hn
  exact ref_any s a c xs w hx hm
theorem ref_0 (a : Option Addr) (c n : Nat) (xs : List Int) (w : World) (hx : Lies w a xs) (hn : xs.length = n) (hm : n ≤ 9223372036854775807) :
    Calls Tryd.prog 58 #[.int .u32 0, .slice a n c] w fun e w' => e = .returned (.int .u32 (rg (more 0#32 xs))) ∧ w = w' :=
  ref_n 0#32 a c n xs w hx hn hm
theorem lies_zeros (w : World) (n : Nat) : Lies (w.alloc (.cells (List.replicate n (Value.int .u8 0)).toArray 5)) (some ⟨w.heap.size, 0, none⟩) (List.replicate n 0) := by
  have e : List.replicate n (Value.int .u8 0) = bl (List.replicate n 0) := by simp [bl]
  rw [e]
  exact lies_block (heap_alloc_new _ _) (by intro i hi; simp)

theorem good_n (a : Option Addr) (c n : Nat) (xs : List Int) (w : World) (hn : xs.length = n) (h4 : 4 ≤ n) (hx : Lies w a xs) (hm : n ≤ 9223372036854775807) (hc : n ≤ c) :
    Calls Tryd.prog 34 #[.slice a n c] w fun e w' => e = .returned (.bool (isGood xs)) ∧ Below w.heap.size w w' := by
  subst hn
  exact good_any a c xs w h4 hx hm hc
theorem mkd_take {xs : List Int} (h : 4 ≤ xs.length) : (mkd xs).take (xs.length - 4) = xs.take (xs.length - 4) := by
  unfold mkd mk
  rw [List.take_append_of_le_length (by rw [List.length_take]; omega), List.take_of_length_le (by rw [List.length_take]; omega)]
theorem mkd_mkd {xs : List Int} (h : 4 ≤ xs.length) : mkd (mkd xs) = mkd xs := by
  have e : mkd (mkd xs) = mk ((mkd xs).take ((mkd xs).length - 4)) := rfl
  rw [e, mkd_len h, mkd_take h]
  rfl
theorem conv_lies {w : World} {b off n c : Nat} {xs : List Int} (h : Lies w (some ⟨b, off, none⟩) xs) (hn : xs.length = n) :
    (convert 60 9 (.slice (some ⟨b, off, none⟩) n c)).run Tryd.prog w = .ok (.string (strOfNums xs)) w := by
  refine run_convert_bytes_arg w 60 5 Tryd.underlying60 Tryd.underlying5 b off n c xs hn (fun i hi => ?_) 9 Tryd.underlying9
  obtain ⟨b', off', ha, h1, _⟩ := h i (by omega)
  obtain ⟨rfl, rfl⟩ : b = b' ∧ off = off' := by simpa using ha
  rw [h1]
  simp [show i < xs.length by omega]
theorem lies_set {w : World} {g off : Nat} {xs : List Int} (h : Lies w (some ⟨g, off, none⟩) xs) (k : Nat) (v : Int) (v0 : 0 ≤ v) (v1 : v < 256) : Lies (w.setCell ⟨g, off + k, none⟩ (.int .u8 v)) (some ⟨g, off, none⟩) (xs.set k v) := by
  intro i hi
  have hi' : i < xs.length := by simpa using hi
  obtain ⟨b', off', ha, h1, h2, h3⟩ := h i hi'
  obtain ⟨rfl, rfl⟩ : g = b' ∧ off = off' := by simpa using ha
  refine ⟨g, off, rfl, ?_, ?_⟩
  · by_cases e : k = i
    · subst e
      rw [World.cell?_setCell_same _ _ _ h1]
      simp
    · rw [World.cell?_setCell_other _ _ _ _ (by intro q; simp only [Addr.mk.injEq] at q; omega), h1]
      simp [e]
  · by_cases e : k = i
    · subst e; simp [v0, v1]
    · simp [e, h2, h3]
theorem own_lies_at {w : World} {B n g cap : Nat} {xs : List Int} (h : w.ownsRow B 5 1 (.slice (some ⟨g, 0, none⟩) n cap) n (bl xs)) (hb : Byte xs) : Lies w (some ⟨g, 0, none⟩) xs ∧ n ≤ cap := by
  obtain ⟨ao, c, hv, hl, hc, _⟩ := own_lies h hb
  simp at hv
  obtain ⟨rfl, rfl⟩ := hv
  exact ⟨hl, hc⟩

theorem lies_cell {w : World} {g : Nat} {xs : List Int} (h : Lies w (some ⟨g, 0, none⟩) xs) {k : Nat} {x : Int} (hx : xs[k]? = some x) : w.cell? ⟨g, k, none⟩ = some (.int .u8 x) := by
  obtain ⟨hk, rfl⟩ := List.getElem?_eq_some_iff.1 hx
  obtain ⟨b', off', ha, h1, _⟩ := h k hk
  obtain ⟨rfl, rfl⟩ : g = b' ∧ 0 = off' := by simpa using ha
  rw [Nat.zero_add] at h1
  exact h1

end Go.Proofs.YtfhnnfheonkneaaDoor.Sm
namespace Go.Proofs.YtfhnnfheonkneaaDoor
open Go.RowKit

structure St where
  n : Nat
  D : Nat
  S : Nat
  L : Nat
  sure : Nat → Nat → Int
  now : Nat → Nat → Int
  late : Nat → Option Nat
  pv : Value
  pend : List Nat
  writes : Int
  left : Int

def St.has (s : St) (b : Nat) : Prop := b = s.D ∨ b = s.S ∨ b = s.L ∨ s.pv.ownBlock = some b ∨ ∃ i, s.late i = some b

structure St.Ok (B : Nat) (s : St) : Prop where
  n1 : s.n ≤ 16384
  bD : B ≤ s.D
  bS : B ≤ s.S
  bL : B ≤ s.L
  DS : s.D ≠ s.S
  DL : s.D ≠ s.L
  SL : s.S ≠ s.L
  lt : ∀ i b, s.late i = some b → B ≤ b ∧ b ≠ s.D ∧ b ≠ s.S ∧ b ≠ s.L ∧ s.pv.ownBlock ≠ some b
  inj : ∀ i j b, s.late i = some b → s.late j = some b → i = j
  pD : s.pv.ownBlock ≠ some s.D
  pS : s.pv.ownBlock ≠ some s.S
  pL : s.pv.ownBlock ≠ some s.L
  nd : s.pend.Nodup
  mem : ∀ i, i ∈ s.pend ↔ s.late i ≠ none
  lim : ∀ i, s.late i ≠ none → i < s.n
  l0 : -9223372036854775808 ≤ s.left
  l1 : s.left ≤ 9223372036854775807
  us : ∀ i j, 0 ≤ s.sure i j ∧ s.sure i j < 256
  un : ∀ i j, 0 ≤ s.now i j ∧ s.now i j < 256

def ptr (b : Option Nat) : Value := .pointer (b.map fun b => ⟨b, 0, none⟩)
def nats (l : List Nat) : List Value := l.map fun (i : Nat) => Value.int .i64 (i : Int)

structure DiskAt (B : Nat) (w : World) (s : St) : Prop where
  ok : s.Ok B
  d0 : w.cell? ⟨s.D, 0, none⟩ = some (.slice (some ⟨s.S, 0, none⟩) s.n s.n)
  d1 : w.cell? ⟨s.D, 1, none⟩ = some (.slice (some ⟨s.L, 0, none⟩) s.n s.n)
  d2 : w.cell? ⟨s.D, 2, none⟩ = some s.pv
  d3 : w.cell? ⟨s.D, 3, none⟩ = some (.int .i64 s.writes)
  d4 : w.cell? ⟨s.D, 4, none⟩ = some (.int .i64 s.left)
  dS : s.S < w.heap.size
  dL : s.L < w.heap.size
  fD : ∀ i, w.frozen? ⟨s.D, i, none⟩ = false
  cS : ∀ i j, i < s.n → j < 512 → w.cell? ⟨s.S, i * 512 + j, none⟩ = some (.int .u8 (s.sure i j))
  fS : ∀ i, w.frozen? ⟨s.S, i, none⟩ = false
  cL : ∀ i, i < s.n → w.cell? ⟨s.L, i, none⟩ = some (ptr (s.late i))
  fL : ∀ i, w.frozen? ⟨s.L, i, none⟩ = false
  p : w.ownsRow B 3 1 s.pv s.pend.length (nats s.pend)
  cT : ∀ i b, s.late i = some b → ∀ j, j < 512 → w.cell? ⟨b, j, none⟩ = some (.int .u8 (s.now i j))
  fT : ∀ i b, s.late i = some b → ∀ j, w.frozen? ⟨b, j, none⟩ = false

theorem DiskAt.lt {B : Nat} {w : World} {s : St} (h : DiskAt B w s) : ∀ b, s.has b → B ≤ b ∧ b < w.heap.size := by
  intro b hb
  rcases hb with rfl | rfl | rfl | hp | ⟨i, hi⟩
  · exact ⟨h.ok.bD, World.block_lt_of_cell? w _ h.d0⟩
  · exact ⟨h.ok.bS, h.dS⟩
  · exact ⟨h.ok.bL, h.dL⟩
  · exact h.p.lt b hp
  · exact ⟨(h.ok.lt i b hi).1, World.block_lt_of_cell? w _ (h.cT i b hi 0 (by omega))⟩

/-- every block of the disk is as it was -/
theorem DiskAt.same {B : Nat} {w w' : World} {s : St} (h : DiskAt B w s) (hs : w.heap.size ≤ w'.heap.size) (hb : ∀ k, s.has k → w'.heap[k]? = w.heap[k]?) : DiskAt B w' s := by
  have hc : ∀ k o, s.has k → w'.cell? ⟨k, o, none⟩ = w.cell? ⟨k, o, none⟩ := fun k o hk => World.cell?_of_block (hb k hk)
  have hf : ∀ k o, s.has k → w'.frozen? ⟨k, o, none⟩ = w.frozen? ⟨k, o, none⟩ := fun k o hk => World.frozen?_of_block (hb k hk)
  have D : s.has s.D := .inl rfl
  have S : s.has s.S := .inr (.inl rfl)
  have L : s.has s.L := .inr (.inr (.inl rfl))
  have T : ∀ i b, s.late i = some b → s.has b := fun i b hi => .inr (.inr (.inr (.inr ⟨i, hi⟩)))
  refine ⟨h.ok, ?_, ?_, ?_, ?_, ?_, Nat.lt_of_lt_of_le h.dS hs, Nat.lt_of_lt_of_le h.dL hs, ?_, ?_, ?_, ?_, ?_, ?_, ?_, ?_⟩
  · rw [hc _ _ D]; exact h.d0
  · rw [hc _ _ D]; exact h.d1
  · rw [hc _ _ D]; exact h.d2
  · rw [hc _ _ D]; exact h.d3
  · rw [hc _ _ D]; exact h.d4
  · intro i; rw [hf _ _ D]; exact h.fD i
  · intro i j hi hj; rw [hc _ _ S]; exact h.cS i j hi hj
  · intro i; rw [hf _ _ S]; exact h.fS i
  · intro i hi; rw [hc _ _ L]; exact h.cL i hi
  · intro i; rw [hf _ _ L]; exact h.fL i
  · refine ⟨h.p.1, ?_⟩
    rcases h.p.2 with hn | ⟨g, cap, cur, hv, hg, hh, r⟩
    · exact .inl hn
    · exact .inr ⟨g, cap, cur, hv, hg, by rw [hb g (.inr (.inr (.inr (.inl (by rw [hv]; rfl)))))]; exact hh, r⟩
  · intro i b hi j hj; rw [hc _ _ (T i b hi)]; exact h.cT i b hi j hj
  · intro i b hi j; rw [hf _ _ (T i b hi)]; exact h.fT i b hi j

theorem DiskAt.below {B : Nat} {w w' : World} {s : St} (h : DiskAt B w s) (hb : Below w.heap.size w w') : DiskAt B w' s :=
  h.same hb.size fun k hk => hb.block k (h.lt k hk).2

/-- from a world and a disk to another world and disk: what is no block of the disk's is as it was -/
structure Step (w : World) (s : St) (w' : World) (s' : St) : Prop where
  os : w'.os = w.os
  tape : w'.tape = w.tape
  output : w'.output = w.output
  size : w.heap.size ≤ w'.heap.size
  block : ∀ k, k < w.heap.size → ¬ s.has k → w'.heap[k]? = w.heap[k]?
  own : ∀ k, s'.has k → s.has k ∨ w.heap.size ≤ k

theorem Step.of_below {w w' : World} {s : St} (h : Below w.heap.size w w') : Step w s w' s := ⟨h.os, h.tape, h.output, h.size, fun k hk _ => h.block k hk, fun _ h => .inl h⟩
theorem Step.refl (w : World) (s : St) : Step w s w s := .of_below (Below.refl _ _)
theorem Step.trans {a b c : World} {r s t : St} (h : Step a r b s) (k : Step b s c t) : Step a r c t :=
  ⟨k.os.trans h.os, k.tape.trans h.tape, k.output.trans h.output, Nat.le_trans h.size k.size, fun i hi hn => (k.block i (Nat.lt_of_lt_of_le hi h.size) (fun hs => by rcases h.own i hs with e | e; exact hn e; omega)).trans (h.block i hi hn),
    fun i hi => by
      rcases k.own i hi with e | e
      · exact h.own i e
      · exact .inr (Nat.le_trans h.size e)⟩
theorem Step.below {B : Nat} {w w' : World} {s s' : St} (h : Step w s w' s') (hd : DiskAt B w s) : Below B w w' :=
  ⟨h.os, h.tape, h.output, h.size, fun k hk => h.block k (Nat.lt_of_lt_of_le hk (Nat.le_of_lt (Nat.lt_of_le_of_lt hd.ok.bS hd.dS))) (fun hs => by have := (hd.lt k hs).1; omega)⟩
/-- one block of the disk's is written -/
theorem Step.write {w w' : World} {s s' : St} (b : Nat) (hb : s.has b) (os : w'.os = w.os) (tape : w'.tape = w.tape) (output : w'.output = w.output) (size : w.heap.size ≤ w'.heap.size) (h : ∀ k, k < w.heap.size → k ≠ b → w'.heap[k]? = w.heap[k]?) (own : ∀ k, s'.has k → s.has k ∨ w.heap.size ≤ k) : Step w s w' s' :=
  ⟨os, tape, output, size, fun k hk hn => h k hk (fun e => hn (e ▸ hb)), own⟩
end Go.Proofs.YtfhnnfheonkneaaDoor
namespace Go.Proofs.YtfhnnfheonkneaaDoor
open Go.RowKit

/-- bytes that lie in memory from a on -/
def Lies (w : World) (a : Option Addr) (xs : List Int) : Prop :=
  ∀ i (h : i < xs.length), ∃ b off, a = some ⟨b, off, none⟩ ∧ w.cell? ⟨b, off + i, none⟩ = some (.int .u8 xs[i]) ∧ 0 ≤ xs[i] ∧ xs[i] < 256
theorem Lies.drewN {w : World} {a : Option Addr} {xs : List Int} (h : Lies w a xs) (n : Nat) : Lies (w.drewN n) a xs := h
theorem Lies.drew {w : World} {a : Option Addr} {xs : List Int} (h : Lies w a xs) : Lies w.drew a xs := h
theorem Lies.below {w w' : World} {a : Option Addr} {xs : List Int} (h : Lies w a xs) (hb : Below w.heap.size w w') : Lies w' a xs := by
  intro i hi
  obtain ⟨b, off, ha, hc, h0, h1⟩ := h i hi
  exact ⟨b, off, ha, by rw [hb.cell (World.block_lt_of_cell? w _ hc)]; exact hc, h0, h1⟩
theorem lies_nil (w : World) (a : Option Addr) : Lies w a [] := fun i hi => absurd hi (by simp)
theorem Lies.cell {w : World} {g off : Nat} {xs : List Int} (h : Lies w (some ⟨g, off, none⟩) xs) {k : Nat} (hk : k < xs.length) : w.cell? ⟨g, off + k, none⟩ = some (.int .u8 (xs.getD k 0)) := by
  obtain ⟨b', off', ha, h1, _⟩ := h k hk
  obtain ⟨rfl, rfl⟩ : g = b' ∧ off = off' := by simpa using ha
  rw [h1]
  simp [hk]
def bl (xs : List Int) : List Value := xs.map (Value.int .u8)
theorem bl_len (xs : List Int) : (bl xs).length = xs.length := by simp [bl]
theorem bl_one (xs : List Int) : ∀ v ∈ bl xs, v.oneCell' = true := by
  intro v hv
  simp [bl] at hv
  obtain ⟨x, _, rfl⟩ := hv
  rfl
theorem bl_lies {w : World} {b off : Nat} {xs : List Int} (h : Lies w (some ⟨b, off, none⟩) xs) : ∀ j v, (bl xs)[j]? = some v → w.cell? ⟨b, off + j, none⟩ = some v := by
  intro j v hv
  have hj : j < xs.length := by
    have := (List.getElem?_eq_some_iff.1 hv).1
    simpa [bl] using this
  rw [h.cell hj]
  simpa [bl, hj] using hv
theorem own_lies {w : World} {B n : Nat} {v : Value} {xs : List Int} (h : w.ownsRow B 5 1 v n (bl xs)) (hb : ∀ i (h : i < xs.length), 0 ≤ xs[i] ∧ xs[i] < 256) : ∃ ao cap, v = .slice ao n cap ∧ Lies w ao xs ∧ n ≤ cap ∧ xs.length = n := by
  obtain ⟨hl, h⟩ := h
  have hn : xs.length = n := by rw [bl_len] at hl; omega
  rcases h with ⟨rfl, h0⟩ | ⟨g, cap, cur, rfl, _, hg, hnc, _, hcs, ht⟩
  · obtain rfl : xs = [] := List.eq_nil_of_length_eq_zero (by omega)
    exact ⟨none, 0, by rw [h0], fun i hi => absurd hi (by simp), by omega, by omega⟩
  · refine ⟨_, cap, rfl, ?_, by omega, hn⟩
    intro i hi
    refine ⟨g, 0, rfl, ?_, (hb i hi).1, (hb i hi).2⟩
    rw [Nat.zero_add, cell_of_row w g i _ _ _ hg]
    have e : (bl xs)[i]? = some (Value.int .u8 xs[i]) := by simp [bl, hi]
    rw [← ht, List.getElem?_take] at e
    have hi' : i < n * 1 := by omega
    rw [if_pos hi'] at e
    simpa using e

theorem own_bytes {w : World} {B n : Nat} {v : Value} {xs : List Int} (h : w.ownsRow B 5 1 v n (bl xs)) (h0 : 0 < n) (hb : ∀ i (h : i < xs.length), 0 ≤ xs[i] ∧ xs[i] < 256) : ∃ g cap, v = .slice (some ⟨g, 0, none⟩) n cap ∧ Lies w (some ⟨g, 0, none⟩) xs ∧ n ≤ cap ∧ B ≤ g := by
  obtain ⟨ao, cap, hv, hl, hc, _⟩ := own_lies h hb
  rcases h.2 with ⟨_, e⟩ | ⟨g, cap', cur, e, hB, _⟩
  · omega
  · rw [hv] at e
    injection e with e1 e2 e3
    subst e1
    exact ⟨g, cap, hv, hl, hc, hB⟩

/-- a row of 512 bytes -/
def rowOf (f : Nat → Int) : List Int := (List.range 512).map f
theorem rowOf_len (f : Nat → Int) : (rowOf f).length = 512 := by simp [rowOf]
theorem rowOf_get (f : Nat → Int) (i : Nat) (h : i < (rowOf f).length) : (rowOf f)[i] = f i := by simp [rowOf]
theorem rowOf_getD (f : Nat → Int) (i : Nat) (h : i < 512) : (rowOf f).getD i 0 = f i := by simp [rowOf, h]
theorem rowOf_self {xs : List Int} (h : xs.length = 512) : rowOf (fun j => xs.getD j 0) = xs := by
  apply List.ext_getElem (by rw [rowOf_len, h])
  intro i h1 h2
  rw [rowOf_get]
  simp [h2]
theorem rowOf_congr {f g : Nat → Int} (h : ∀ i, i < 512 → f i = g i) : rowOf f = rowOf g := by
  unfold rowOf
  apply List.map_congr_left
  intro i hi
  exact h i (by simpa using hi)
theorem Lies.row {w : World} {b off : Nat} {f : Nat → Int} (h : ∀ j, j < 512 → w.cell? ⟨b, off + j, none⟩ = some (.int .u8 (f j))) (hb : ∀ j, 0 ≤ f j ∧ f j < 256) : Lies w (some ⟨b, off, none⟩) (rowOf f) := by
  intro i hi
  rw [rowOf_get f i hi]
  exact ⟨b, off, rfl, h i (by rwa [rowOf_len] at hi), (hb i).1, (hb i).2⟩

theorem Lies.byte {w : World} {a : Option Addr} {xs : List Int} (h : Lies w a xs) : ∀ i (h : i < xs.length), 0 ≤ xs[i] ∧ xs[i] < 256 := by
  intro i hi
  obtain ⟨_, _, _, _, h2, h3⟩ := h i hi
  exact ⟨h2, h3⟩
/-- a string's bytes as numbers -/
def nums (s : ByteArray) : List Int := s.data.toList.map fun b => (b.toNat : Int)
theorem nums_len (s : ByteArray) : (nums s).length = s.size := by
  unfold nums
  rw [List.length_map, Array.length_toList]
  rfl
theorem nums_byte (s : ByteArray) : ∀ i (h : i < (nums s).length), 0 ≤ (nums s)[i] ∧ (nums s)[i] < 256 := by
  intro i h
  have h2 : ∀ b : UInt8, (b.toNat : Int) < 256 := fun b => by have := b.toNat_lt; omega
  simp only [nums, List.getElem_map]
  exact ⟨by omega, h2 _⟩
theorem str_nums (s : ByteArray) : strOfNums (nums s) = s := by
  unfold strOfNums nums
  rw [List.map_map]
  have e : ∀ l : List UInt8, l.map ((fun n : Int => UInt8.ofNat n.toNat) ∘ fun b => (b.toNat : Int)) = l := by
    intro l
    induction l with
    | nil => rfl
    | cons b l ih => rw [List.map_cons, ih]; simp
  rw [e]
theorem nums_str {xs : List Int} (h : ∀ i (h : i < xs.length), 0 ≤ xs[i] ∧ xs[i] < 256) : nums (strOfNums xs) = xs := by
  unfold nums
  rw [strOfNums_data, List.map_map]
  apply List.ext_getElem (by simp)
  intro i h1 h2
  have := h i h2
  simp only [List.getElem_map, Function.comp]
  simp
  omega
/-- the text, made as long as a sector -/
def sec (s : ByteArray) : ByteArray := if s.size > 512 then s else s ++ strOfNums (List.replicate (512 - s.size) 0)
theorem sec_size {s : ByteArray} (h : s.size ≤ 512) : (sec s).size = 512 := by
  unfold sec
  rw [if_neg (by omega), ByteArray.size_append, strOfNums_size, List.length_replicate]
  omega

theorem lies_zeros (w : World) (n : Nat) : Lies (w.alloc (.cells (Array.replicate n (Value.int .u8 0)) 5)) (some ⟨w.heap.size, 0, none⟩) (List.replicate n 0) := by
  intro i hi
  have hi' : i < n := by simpa using hi
  refine ⟨w.heap.size, 0, rfl, ?_, by simp, by simp⟩
  rw [Nat.zero_add, cell_of_row _ _ _ _ _ _ (heap_alloc_new w _)]
  simp [hi']
set_option maxRecDepth 100000 in
theorem conv_lies {w : World} {b off n c : Nat} {xs : List Int} (h : Lies w (some ⟨b, off, none⟩) xs) (hn : xs.length = n) :
    (convert 60 9 (.slice (some ⟨b, off, none⟩) n c)).run Tryd.prog w = .ok (.string (strOfNums xs)) w := by
  refine run_convert_bytes_arg w 60 5 Tryd.underlying60 Tryd.underlying5 b off n c xs hn (fun i hi => ?_) 9 Tryd.underlying9
  obtain ⟨b', off', ha, h1, _⟩ := h i (by omega)
  obtain ⟨rfl, rfl⟩ : b = b' ∧ off = off' := by simpa using ha
  rw [h1]
  simp [show i < xs.length by omega]
set_option maxRecDepth 100000 in
theorem conv_any {w : World} {a : Option Addr} {n c : Nat} {xs : List Int} (h : Lies w a xs) (hn : xs.length = n) :
    (convert 60 9 (.slice a n c)).run Tryd.prog w = .ok (.string (strOfNums xs)) w := by
  cases a with
  | some x =>
    cases n with
    | zero =>
      obtain rfl : xs = [] := List.eq_nil_of_length_eq_zero hn
      rw [run_convert_bytes_string w 60 9 5 _ 0 c Tryd.underlying60 Tryd.underlying5 Tryd.underlying9]
      rw [run_bytesToString w x 0 c [] (by rfl)]
      rfl
    | succ m =>
      obtain ⟨b, off, ha, _⟩ := h 0 (by omega)
      obtain rfl : x = ⟨b, off, none⟩ := by simpa using ha
      exact conv_lies h hn
  | none =>
    obtain rfl : xs = [] := by
      cases xs with
      | nil => rfl
      | cons x xs =>
        obtain ⟨b, off, ha, _⟩ := h 0 (by simp)
        cases ha
    exact run_convert_bytes_nil w 60 5 Tryd.underlying60 Tryd.underlying5 n c 9 Tryd.underlying9
/-- the world behind the conversion of a text to bytes -/
def bw (w : World) (s : ByteArray) : World := Lib.bytesWorld w 5 s
def bc (w : World) (s : ByteArray) : Nat := grownCap w s.size 0 5
set_option maxRecDepth 100000 in
theorem conv_bytes (s : ByteArray) (w : World) : (convert 9 60 (.string s)).run Tryd.prog w = .ok (.slice (some ⟨w.heap.size, 0, none⟩) s.size (bc w s)) (bw w s) :=
  Lib.run_convert_string_bytes w 9 60 5 s Tryd.underlying9 Tryd.underlying60 Tryd.underlying5
theorem bw_below (w : World) (s : ByteArray) : Below w.heap.size w (bw w s) := by
  refine ⟨?_, ?_, ?_, ?_, fun k hk => Lib.bytesWorld_at_old w _ s k hk⟩
  · unfold bw Lib.bytesWorld World.freeze; split <;> rfl
  · unfold bw Lib.bytesWorld World.freeze; split <;> rfl
  · unfold bw Lib.bytesWorld World.freeze; split <;> rfl
  · unfold bw; rw [Lib.bytesWorld_size]; omega
theorem bw_lies (w : World) (s : ByteArray) : Lies (bw w s) (some ⟨w.heap.size, 0, none⟩) (nums s) := by
  intro i hi
  have hi' : i < s.size := by rwa [nums_len] at hi
  have hb := nums_byte s i hi
  refine ⟨w.heap.size, 0, rfl, ?_, hb.1, hb.2⟩
  rw [Nat.zero_add]
  unfold bw
  rw [Lib.bytesWorld_cell w _ s i hi']
  have e : i < s.data.size := hi'
  simp [nums]
  rw [Array.getElem?_eq_getElem e]
  rfl
theorem bw_size (w : World) (s : ByteArray) : (bw w s).heap.size = w.heap.size + 1 := Lib.bytesWorld_size w _ s
theorem bc_le (w : World) (s : ByteArray) : s.size ≤ bc w s := grownCap_ge w s.size 0 _

theorem made_eq (v : Value) (n : Nat) : madeCells #[v] n = Array.replicate n v := by
  apply Array.ext
  · simp [madeCells]
  · intro i h1 h2
    simp [madeCells, Nat.mod_one]
set_option maxRecDepth 100000 in
theorem info_b : (Tryd.prog.info? 5).map (fun i => (i.zero, i.size, i.bytes)) = some (some (.int .u8 0), 1, 1) := by kernel_rfl
end Go.Proofs.YtfhnnfheonkneaaDoor

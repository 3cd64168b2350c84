/-
  BYTES THAT LIE IN MEMORY, STRINGS, AND THE STATEMENTS' OWN sector. Conditions: those that each lemma names.
-/
import Derived.WalkSpells
import Derived.WalkLawsBesides
import Derived.IntWalk
import Derived.OwnWalk
import Derived.Laws.BytesArg
import Derived.Laws.Concat
import Derived.Lib.ConvBytes
import Derived.Deep.OwnRows
import Derived.Outline
import Derived.Test.YtokikeenfpligaaGreatDoorU17
namespace Go.Proofs.YtokikeenfpligaaGreatDoor
open Go.RowKit

/-- bytes that lie in memory from a on -/
def Lies (w : World) (a : Option Addr) (xs : List Int) : Prop :=
  ∀ i (h : i < xs.length), ∃ b off, a = some ⟨b, off, none⟩ ∧ w.cell? ⟨b, off + i, none⟩ = some (.int .u8 xs[i]) ∧ 0 ≤ xs[i] ∧ xs[i] < 256
theorem Lies.drewN {w : World} {a : Option Addr} {xs : List Int} (h : Lies w a xs) (n : Nat) : Lies (w.drewN n) a xs := h
theorem Lies.drew {w : World} {a : Option Addr} {xs : List Int} (h : Lies w a xs) : Lies w.drew a xs := h
theorem Lies.below {w w' : World} {a : Option Addr} {xs : List Int} (h : Lies w a xs) (hb : Below w.heap.size w w') : Lies w' a xs := by
  intro i hi
  obtain ⟨b, off, ha, hc, h0, h1⟩ := h i hi
  exact ⟨b, off, ha, by rw [hb.cell (World.block_lt_of_cell? w _ hc)]; exact hc, h0, h1⟩
theorem lies_nil (w : World) (a : Option Addr) : Lies w a [] := fun i hi => absurd hi (by simp)
theorem Lies.cell {w : World} {g off : Nat} {xs : List Int} (h : Lies w (some ⟨g, off, none⟩) xs) {k : Nat} (hk : k < xs.length) : w.cell? ⟨g, off + k, none⟩ = some (.int .u8 (xs.getD k 0)) := by
  obtain ⟨b', off', ha, h1, _⟩ := h k hk
  obtain ⟨rfl, rfl⟩ : g = b' ∧ off = off' := by simpa using ha
  rw [h1]
  simp [hk]
def bl (xs : List Int) : List Value := xs.map (Value.int .u8)
theorem bl_len (xs : List Int) : (bl xs).length = xs.length := by simp [bl]
theorem bl_one (xs : List Int) : ∀ v ∈ bl xs, v.oneCell' = true := by
  intro v hv
  simp [bl] at hv
  obtain ⟨x, _, rfl⟩ := hv
  rfl
theorem bl_lies {w : World} {b off : Nat} {xs : List Int} (h : Lies w (some ⟨b, off, none⟩) xs) : ∀ j v, (bl xs)[j]? = some v → w.cell? ⟨b, off + j, none⟩ = some v := by
  intro j v hv
  have hj : j < xs.length := by
    have := (List.getElem?_eq_some_iff.1 hv).1
    simpa [bl] using this
  rw [h.cell hj]
  simpa [bl, hj] using hv
theorem own_lies {w : World} {B n : Nat} {v : Value} {xs : List Int} (h : w.ownsRow B 5 1 v n (bl xs)) (hb : ∀ i (h : i < xs.length), 0 ≤ xs[i] ∧ xs[i] < 256) : ∃ ao cap, v = .slice ao n cap ∧ Lies w ao xs ∧ n ≤ cap ∧ xs.length = n := by
  obtain ⟨hl, h⟩ := h
  have hn : xs.length = n := by rw [bl_len] at hl; omega
  rcases h with ⟨rfl, h0⟩ | ⟨g, cap, cur, rfl, _, hg, hnc, _, hcs, ht⟩
  · obtain rfl : xs = [] := List.eq_nil_of_length_eq_zero (by omega)
    exact ⟨none, 0, by rw [h0], fun i hi => absurd hi (by simp), by omega, by omega⟩
  · refine ⟨_, cap, rfl, ?_, by omega, hn⟩
    intro i hi
    refine ⟨g, 0, rfl, ?_, (hb i hi).1, (hb i hi).2⟩
    rw [Nat.zero_add, cell_of_row w g i _ _ _ hg]
    have e : (bl xs)[i]? = some (Value.int .u8 xs[i]) := by simp [bl, hi]
    rw [← ht, List.getElem?_take] at e
    have hi' : i < n * 1 := by omega
    rw [if_pos hi'] at e
    simpa using e

theorem own_bytes {w : World} {B n : Nat} {v : Value} {xs : List Int} (h : w.ownsRow B 5 1 v n (bl xs)) (h0 : 0 < n) (hb : ∀ i (h : i < xs.length), 0 ≤ xs[i] ∧ xs[i] < 256) : ∃ g cap, v = .slice (some ⟨g, 0, none⟩) n cap ∧ Lies w (some ⟨g, 0, none⟩) xs ∧ n ≤ cap ∧ B ≤ g := by
  obtain ⟨ao, cap, hv, hl, hc, _⟩ := own_lies h hb
  rcases h.2 with ⟨_, e⟩ | ⟨g, cap', cur, e, hB, _⟩
  · omega
  · rw [hv] at e
    injection e with e1 e2 e3
    subst e1
    exact ⟨g, cap, hv, hl, hc, hB⟩

/-- a row of 512 bytes -/
def rowOf (f : Nat → Int) : List Int := (List.range 512).map f
theorem rowOf_len (f : Nat → Int) : (rowOf f).length = 512 := by simp [rowOf]
theorem rowOf_get (f : Nat → Int) (i : Nat) (h : i < (rowOf f).length) : (rowOf f)[i] = f i := by simp [rowOf]
theorem rowOf_getD (f : Nat → Int) (i : Nat) (h : i < 512) : (rowOf f).getD i 0 = f i := by simp [rowOf, h]
theorem rowOf_self {xs : List Int} (h : xs.length = 512) : rowOf (fun j => xs.getD j 0) = xs := by
  apply List.ext_getElem (by rw [rowOf_len, h])
  intro i h1 h2
  rw [rowOf_get]
  simp [h2]
theorem rowOf_congr {f g : Nat → Int} (h : ∀ i, i < 512 → f i = g i) : rowOf f = rowOf g := by
  unfold rowOf
  apply List.map_congr_left
  intro i hi
  exact h i (by simpa using hi)
theorem Lies.row {w : World} {b off : Nat} {f : Nat → Int} (h : ∀ j, j < 512 → w.cell? ⟨b, off + j, none⟩ = some (.int .u8 (f j))) (hb : ∀ j, 0 ≤ f j ∧ f j < 256) : Lies w (some ⟨b, off, none⟩) (rowOf f) := by
  intro i hi
  rw [rowOf_get f i hi]
  exact ⟨b, off, rfl, h i (by rwa [rowOf_len] at hi), (hb i).1, (hb i).2⟩

theorem Lies.byte {w : World} {a : Option Addr} {xs : List Int} (h : Lies w a xs) : ∀ i (h : i < xs.length), 0 ≤ xs[i] ∧ xs[i] < 256 := by
  intro i hi
  obtain ⟨_, _, _, _, h2, h3⟩ := h i hi
  exact ⟨h2, h3⟩
/-- a string's bytes as numbers -/
def nums (s : ByteArray) : List Int := s.data.toList.map fun b => (b.toNat : Int)
theorem nums_len (s : ByteArray) : (nums s).length = s.size := by
  unfold nums
  rw [List.length_map, Array.length_toList]
  rfl
theorem nums_byte (s : ByteArray) : ∀ i (h : i < (nums s).length), 0 ≤ (nums s)[i] ∧ (nums s)[i] < 256 := by
  intro i h
  have h2 : ∀ b : UInt8, (b.toNat : Int) < 256 := fun b => by have := b.toNat_lt; omega
  simp only [nums, List.getElem_map]
  exact ⟨by omega, h2 _⟩
theorem str_nums (s : ByteArray) : strOfNums (nums s) = s := by
  unfold strOfNums nums
  rw [List.map_map]
  have e : ∀ l : List UInt8, l.map ((fun n : Int => UInt8.ofNat n.toNat) ∘ fun b => (b.toNat : Int)) = l := by
    intro l
    induction l with
    | nil => rfl
    | cons b l ih => rw [List.map_cons, ih]; simp
  rw [e]
theorem nums_str {xs : List Int} (h : ∀ i (h : i < xs.length), 0 ≤ xs[i] ∧ xs[i] < 256) : nums (strOfNums xs) = xs := by
  unfold nums
  rw [strOfNums_data, List.map_map]
  apply List.ext_getElem (by simp)
  intro i h1 h2
  have := h i h2
  simp only [List.getElem_map, Function.comp]
  simp
  omega
/-- the text, made as long as a sector -/
def sec (s : ByteArray) : ByteArray := if s.size > 512 then s else s ++ strOfNums (List.replicate (512 - s.size) 0)
theorem sec_size {s : ByteArray} (h : s.size ≤ 512) : (sec s).size = 512 := by
  unfold sec
  rw [if_neg (by omega), ByteArray.size_append, strOfNums_size, List.length_replicate]
  omega

theorem lies_zeros (w : World) (n : Nat) : Lies (w.alloc (.cells (Array.replicate n (Value.int .u8 0)) 5)) (some ⟨w.heap.size, 0, none⟩) (List.replicate n 0) := by
  intro i hi
  have hi' : i < n := by simpa using hi
  refine ⟨w.heap.size, 0, rfl, ?_, by simp, by simp⟩
  rw [Nat.zero_add, cell_of_row _ _ _ _ _ _ (heap_alloc_new w _)]
  simp [hi']
set_option maxRecDepth 100000 in
theorem conv_lies {w : World} {b off n c : Nat} {xs : List Int} (h : Lies w (some ⟨b, off, none⟩) xs) (hn : xs.length = n) :
    (convert 72 9 (.slice (some ⟨b, off, none⟩) n c)).run Tryz.prog w = .ok (.string (strOfNums xs)) w := by
  refine run_convert_bytes_arg w 72 5 Tryz.underlying72 Tryz.underlying5 b off n c xs hn (fun i hi => ?_) 9 Tryz.underlying9
  obtain ⟨b', off', ha, h1, _⟩ := h i (by omega)
  obtain ⟨rfl, rfl⟩ : b = b' ∧ off = off' := by simpa using ha
  rw [h1]
  simp [show i < xs.length by omega]
set_option maxRecDepth 100000 in
theorem conv_any {w : World} {a : Option Addr} {n c : Nat} {xs : List Int} (h : Lies w a xs) (hn : xs.length = n) :
    (convert 72 9 (.slice a n c)).run Tryz.prog w = .ok (.string (strOfNums xs)) w := by
  cases a with
  | some x =>
    cases n with
    | zero =>
      obtain rfl : xs = [] := List.eq_nil_of_length_eq_zero hn
      rw [run_convert_bytes_string w 72 9 5 _ 0 c Tryz.underlying72 Tryz.underlying5 Tryz.underlying9]
      rw [run_bytesToString w x 0 c [] (by rfl)]
      rfl
    | succ m =>
      obtain ⟨b, off, ha, _⟩ := h 0 (by omega)
      obtain rfl : x = ⟨b, off, none⟩ := by simpa using ha
      exact conv_lies h hn
  | none =>
    obtain rfl : xs = [] := by
      cases xs with
      | nil => rfl
      | cons x xs =>
        obtain ⟨b, off, ha, _⟩ := h 0 (by simp)
        cases ha
    exact run_convert_bytes_nil w 72 5 Tryz.underlying72 Tryz.underlying5 n c 9 Tryz.underlying9
/-- the world behind the conversion of a text to bytes -/
def bw (w : World) (s : ByteArray) : World := Lib.bytesWorld w 5 s
def bc (w : World) (s : ByteArray) : Nat := grownCap w s.size 0 5
set_option maxRecDepth 100000 in
theorem conv_bytes (s : ByteArray) (w : World) : (convert 9 72 (.string s)).run Tryz.prog w = .ok (.slice (some ⟨w.heap.size, 0, none⟩) s.size (bc w s)) (bw w s) :=
  Lib.run_convert_string_bytes w 9 72 5 s Tryz.underlying9 Tryz.underlying72 Tryz.underlying5
theorem bw_below (w : World) (s : ByteArray) : Below w.heap.size w (bw w s) := by
  refine ⟨?_, ?_, ?_, ?_, fun k hk => Lib.bytesWorld_at_old w _ s k hk⟩
  · unfold bw Lib.bytesWorld World.freeze; split <;> rfl
  · unfold bw Lib.bytesWorld World.freeze; split <;> rfl
  · unfold bw Lib.bytesWorld World.freeze; split <;> rfl
  · unfold bw; rw [Lib.bytesWorld_size]; omega
theorem bw_lies (w : World) (s : ByteArray) : Lies (bw w s) (some ⟨w.heap.size, 0, none⟩) (nums s) := by
  intro i hi
  have hi' : i < s.size := by rwa [nums_len] at hi
  have hb := nums_byte s i hi
  refine ⟨w.heap.size, 0, rfl, ?_, hb.1, hb.2⟩
  rw [Nat.zero_add]
  unfold bw
  rw [Lib.bytesWorld_cell w _ s i hi']
  have e : i < s.data.size := hi'
  simp [nums]
  rw [Array.getElem?_eq_getElem e]
  rfl
theorem bw_size (w : World) (s : ByteArray) : (bw w s).heap.size = w.heap.size + 1 := Lib.bytesWorld_size w _ s
theorem bc_le (w : World) (s : ByteArray) : s.size ≤ bc w s := grownCap_ge w s.size 0 _

theorem made_eq (v : Value) (n : Nat) : madeCells #[v] n = Array.replicate n v := by
  apply Array.ext
  · simp [madeCells]
  · intro i h1 h2
    simp [madeCells, Nat.mod_one]
set_option maxRecDepth 100000 in
theorem info_b : (Tryz.prog.info? 5).map (fun i => (i.zero, i.size, i.bytes)) = some (some (.int .u8 0), 1, 1) := by kernel_rfl
end Go.Proofs.YtokikeenfpligaaGreatDoor

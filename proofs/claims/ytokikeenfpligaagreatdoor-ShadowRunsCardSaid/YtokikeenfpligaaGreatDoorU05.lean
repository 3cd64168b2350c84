/-
  BYTES, and Mark of any bytes. Conditions: those that each lemma names.
-/
import Derived.Lib.SlBytesConst
import Derived.Test.YtokikeenfpligaaGreatDoorU04
namespace Go.Proofs.YtokikeenfpligaaGreatDoor.Sm
open Go.RowKit Crc

def Byte (xs : List Int) : Prop := ∀ i (h : i < xs.length), 0 ≤ xs[i] ∧ xs[i] < 256
theorem lies_block {w : World} {g : Nat} {xs : List Int} {fr : Nat × Nat} (h : w.heap[g]? = some (.cells (bl xs).toArray 5 fr)) (hb : Byte xs) : Lies w (some ⟨g, 0, none⟩) xs := by
  intro i hi
  refine ⟨g, 0, rfl, ?_, (hb i hi).1, (hb i hi).2⟩
  rw [Nat.zero_add, cell_of_row w g i _ _ _ h]
  simp [bl, hi]
theorem Lies.front {w : World} {a : Option Addr} {xs ys : List Int} (h : Lies w a (xs ++ ys)) : Lies w a xs := by
  intro i hi
  obtain ⟨b', off', ha, h1, h2, h3⟩ := h i (by simp; omega)
  rw [List.getElem_append_left hi] at h1 h2 h3
  exact ⟨b', off', ha, h1, h2, h3⟩
theorem Lies.byte {w : World} {a : Option Addr} {xs : List Int} (h : Lies w a xs) : Byte xs := by
  intro i hi
  obtain ⟨_, _, _, _, h2, h3⟩ := h i hi
  exact ⟨h2, h3⟩
theorem Byte.append {xs ys : List Int} (h : Byte xs) (h' : Byte ys) : Byte (xs ++ ys) := by
  intro i hi
  by_cases e : i < xs.length
  · rw [List.getElem_append_left e]; exact h i e
  · rw [List.getElem_append_right (by omega)]; exact h' _ (by simp at hi; omega)
theorem Byte.front {xs ys : List Int} (h : Byte (xs ++ ys)) : Byte xs := by
  intro i hi
  have := h i (by simp; omega)
  rwa [List.getElem_append_left hi] at this
theorem tb_small (s : BitVec 32) (i : Nat) : 0 ≤ rg (tb s i) ∧ rg (tb s i) < 256 := by
  rw [← tb_int]
  omega
theorem byte_tls (ys : List Int) : Byte (tls ys) := by
  intro i hi
  have hi' : i < 4 := hi
  match i, hi' with
  | 0, _ => exact tb_small _ _
  | 1, _ => exact tb_small _ _
  | 2, _ => exact tb_small _ _
  | 3, _ => exact tb_small _ _
/-- bytes, marked in the place of their last four -/
def mkd (xs : List Int) : List Int := mk (xs.take (xs.length - 4))
theorem byte_mkd {xs : List Int} (h : Byte xs) : Byte (mkd xs) := by
  refine Byte.append ?_ (byte_tls _)
  have e : xs = xs.take (xs.length - 4) ++ xs.drop (xs.length - 4) := (List.take_append_drop _ _).symm
  rw [e] at h
  exact h.front
theorem mk_len (ys : List Int) : (mk ys).length = ys.length + 4 := by simp [mk, tls]
theorem mkd_len {xs : List Int} (h : 4 ≤ xs.length) : (mkd xs).length = xs.length := by unfold mkd; rw [mk_len, List.length_take]; omega
theorem good_mkd (xs : List Int) : isGood (mkd xs) = true := good_mk _
theorem mark_any (a : Option Addr) (c : Nat) (xs : List Int) (w : World) (h4 : 4 ≤ xs.length) (hx : Lies w a xs) (hm : xs.length ≤ 281474976710656) (hc : xs.length ≤ c) :
    Calls Tryz.prog 117 #[.slice a xs.length c] w fun e w' => e = .returned (.tuple #[.slice (some ⟨w.heap.size, 0, none⟩) xs.length xs.length, .nilIface]) ∧ w'.heap[w.heap.size]? = some (.cells (bl (mkd xs)).toArray 5 (0, 0)) ∧ Below w.heap.size w w' := by
  obtain ⟨b, off, rfl, _⟩ := hx 0 (by omega)
  have e : xs = xs.take (xs.length - 4) ++ xs.drop (xs.length - 4) := (List.take_append_drop _ _).symm
  have hy : Lies w (some ⟨b, off, none⟩) (xs.take (xs.length - 4)) := by
    rw [e] at hx
    exact hx.front
  have := mark_at b off (xs.length - 4) c (xs.take (xs.length - 4)) w (by rw [List.length_take]; omega) hy (by omega) (by omega)
  have e2 : xs.length - 4 + 4 = xs.length := by omega
  rw [e2] at this
  exact this

end Go.Proofs.YtokikeenfpligaaGreatDoor.Sm

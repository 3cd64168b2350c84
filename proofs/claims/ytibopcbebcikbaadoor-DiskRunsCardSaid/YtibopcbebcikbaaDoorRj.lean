/-
  THE REFERENCE's Write, whole, AND ITS Rot. Conditions: the reference's disk lies in memory.
-/
import Derived.Test.YtibopcbebcikbaaDoorRi
namespace Go.Proofs.YtibopcbebcikbaaDoor
open Go.RowKit

theorem refwrite_any (r : Ref) (i : Nat) (t : ByteArray) (w : World) (h : RefOk w r) (hi : i < r.n) (ht : t.size = 512) (hl : r.left ≠ 0) (l1 : r.left ≤ 9223372036854775807) (l0 : -1 ≤ r.left) (w0 : 0 ≤ r.writes) (w1 : r.writes < 4611686018427387904) (hp : i ∉ r.pend → r.pend.length ≤ 99) :
    Calls Tryd.prog 27 #[r.val, .int .i64 i, .string t] w (RefWroteAt w r i (txt t)) := by
  by_cases e : i ∈ r.pend
  · exact refwrite_had r i t w h hi ht hl l1 l0 w0 w1 e
  · by_cases e2 : r.pend = []
    · exact refwrite_new0 r i t w h hi ht hl l1 l0 w0 w1 e (hp e) e2
    · exact refwrite_new1 r i t w h hi ht hl l1 l0 w0 w1 e (hp e) e2
theorem turned_from {w0 w : World} (hb : Below w0.heap.size w0 w) (t : ByteArray) (q : Nat) (y : Int) (ht : t.size = 512) (hq : q < 512) (y0 : 0 ≤ y) (y1 : y < 256) :
    Calls Tryd.prog 39 #[.string t, .int .i64 q, .int .u8 y] w fun e w' => e = .returned (.string (strOfNums (rowOf (turn (txt t) q y)))) ∧ Below w.heap.size w w' ∧ Below w0.heap.size w0 w' :=
  (turned_any t q y w ht hq y0 y1).mono fun _ _ ⟨he, h⟩ => ⟨he, h, hb.trans (h.mono hb.size)⟩
theorem with_from {w0 w : World} (hb : Below w0.heap.size w0 w) (b n c i : Nat) (xs : List ByteArray) (t : ByteArray) (hx : Strs w0 (some ⟨b, 0, none⟩) xs) (hn : xs.length = n) (hi : i < n) (hc : n ≤ c) (hc2 : c ≤ 9223372036854775807) (hm : n ≤ 1000) :
    Calls Tryd.prog 38 #[.slice (some ⟨b, 0, none⟩) n c, .int .i64 i, .string t] w fun e w' => ∃ g cap, e = .returned (.slice (some ⟨g, 0, none⟩) n cap) ∧ Strs w' (some ⟨g, 0, none⟩) (xs.set i t) ∧ (n ≤ cap ∧ cap ≤ 9223372036854775807) ∧ w0.heap.size ≤ g ∧ Below w.heap.size w w' ∧ Below w0.heap.size w0 w' :=
  (with_any b 0 n c i xs t w (hx.below hb) hn hi hc hc2 hm).mono fun _ _ ⟨ao, cap, he, hs, hnc, hcp, hf, hbl⟩ => by
    obtain ⟨g, off, ha, _⟩ := hs 0 (by rw [List.length_set]; omega)
    obtain ⟨hg, rfl⟩ := hf g off ha
    subst ha
    exact ⟨g, cap, he, hs, ⟨hnc, hcp⟩, Nat.le_trans hb.size hg, hbl, hb.trans (hbl.mono hb.size)⟩
set_option maxRecDepth 100000 in
theorem refrot_range (r : Ref) (i q y : Int) (w : World) (hi : i < 0 ∨ (r.n : Int) ≤ i ∨ q < 0 ∨ 511 < q) (hn : r.n ≤ 100) :
    Calls Tryd.prog 26 #[r.val, .int .i64 i, .int .i64 q, .int .u8 y] w (RefErr w r 4) := by
  have h4 : (r.n : Int) ≤ 100 := by omega
  unfold Ref.val
  by_cases h0 : i < 0
  · go_enter Tryd.func26, Tryd.ntmps26
    go_wp2
    exact bodyPost_ret (v := .tuple #[r.val, .int .i64 4]) (by simp [results, Tryd.results26, go_sem, Ref.val]) rfl ⟨rfl, al2 _ _ _⟩
  by_cases h1 : (r.n : Int) ≤ i
  · have h2 : 0 ≤ i := by omega
    clear hi h0
    go_enter Tryd.func26, Tryd.ntmps26
    go_wp2
    exact bodyPost_ret (v := .tuple #[r.val, .int .i64 4]) (by simp [results, Tryd.results26, go_sem, Ref.val]) rfl ⟨rfl, al2 _ _ _⟩
  by_cases h2 : q < 0
  · have h3 : 0 ≤ i := by omega
    have h5 : i < (r.n : Int) := by omega
    clear hi h0 h1
    go_enter Tryd.func26, Tryd.ntmps26
    go_wp2
    exact bodyPost_ret (v := .tuple #[r.val, .int .i64 4]) (by simp [results, Tryd.results26, go_sem, Ref.val]) rfl ⟨rfl, al2 _ _ _⟩
  · have h3 : 0 ≤ i := by omega
    have h5 : i < (r.n : Int) := by omega
    have h6 : 511 < q := by omega
    have h7 : 0 ≤ q := by omega
    clear hi h0 h1 h2
    go_enter Tryd.func26, Tryd.ntmps26
    go_wp2
    exact bodyPost_ret (v := .tuple #[r.val, .int .i64 4]) (by simp [results, Tryd.results26, go_sem, Ref.val]) rfl ⟨rfl, al2 _ _ _⟩
structure RefRotted (w : World) (r : Ref) (i q : Nat) (y : Int) (w' : World) (r' : Ref) : Prop where
  ok : RefOk w' r'
  n : r'.n = r.n
  N : r'.N = upd r.N i (turn (r.N i) q y)
  S : r'.S = upd r.S i (turn (r.S i) q y)
  pend : r'.pend = r.pend
  writes : r'.writes = r.writes
  left : r'.left = r.left
  far : ∀ s, Far r s → (∀ b, s.has b → b < w.heap.size) → Far r' s
  below : Below w.heap.size w w'
theorem txt_row {f : Nat → Int} (hf : ∀ j, 0 ≤ f j ∧ f j < 256) (j : Nat) (hj : j < 512) : txt (strOfNums (rowOf f)) j = f j := by
  unfold txt
  rw [nums_str (fun i h => by rw [rowOf_get]; exact hf i)]
  exact rowOf_getD _ _ hj
theorem turn_row {f : Nat → Int} (hf : ∀ j, 0 ≤ f j ∧ f j < 256) (q : Nat) (hq : q < 512) (y : Int) : rowOf (turn (txt (strOfNums (rowOf f))) q y) = rowOf (turn f q y) :=
  rowOf_congr fun j hj => turn_congr q y (txt_row hf q hq) j (txt_row hf j hj)
end Go.Proofs.YtibopcbebcikbaaDoor

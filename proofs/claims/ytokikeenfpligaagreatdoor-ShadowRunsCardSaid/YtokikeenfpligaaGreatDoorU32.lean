/-
  MAPS FROM NUMBERS OF PAGES TO SECTORS: what one is, how many tables it needs (the walk of tablesFor). Conditions: those that each lemma names.
-/
import Derived.Maps.RangeWalk
import Derived.Maps.Ext
import Derived.Test.YtokikeenfpligaaGreatDoorU31
namespace Go.Proofs.YtokikeenfpligaaGreatDoor.Sh
open Go.RowKit Go.Maps

/-- a map as a function: 0 where nothing is -/
structure MpF (f : Nat → Nat) (D : DataW Unit) : Prop where
  tidy : Tidy D
  has : ∀ z : Int, Maps.has D (.int .i64 z) = true ↔ ∃ k : Nat, z = k ∧ f k ≠ 0
  at' : ∀ k : Nat, f k ≠ 0 → D.atKey (.int .i64 (k : Int)) (.lit (.int .i64 0)) = .lit (.int .i64 (f k : Int))
  bnd : ∀ k, f k ≠ 0 → k < 15006
  val : ∀ k, f k ≤ 16384
theorem MpF.at_any {f : Nat → Nat} {D : DataW Unit} (h : MpF f D) (k : Nat) : D.atKey (.int .i64 (k : Int)) (.lit (.int .i64 0)) = .lit (.int .i64 (f k : Int)) := by
  by_cases e : f k = 0
  · have hn : Maps.has D (.int .i64 (k : Int)) = false := by
      rw [Bool.eq_false_iff]
      intro q
      obtain ⟨j, hj, hf⟩ := (h.has _).1 q
      obtain rfl : k = j := by omega
      exact hf e
    rw [atKey_of_not_has hn, e]
    rfl
  · exact h.at' k e
theorem MpF.key_of {f : Nat → Nat} {D : DataW Unit} (h : MpF f D) {x c : Int} (hat : ∀ zd, D.atKey (.int .i64 x) zd = .lit (.int .i64 c)) : ∃ k : Nat, x = k ∧ f k ≠ 0 ∧ c = f k := by
  obtain ⟨k, rfl, hf⟩ := (h.has x).1 (has_true_of_atKey hat)
  have h1 := h.at' k hf
  rw [hat] at h1
  injection h1 with h2
  injection h2 with _ h3
  exact ⟨k, rfl, hf, h3⟩
/-- as many tables as go up to the greatest number -/
def IsTbl (f : Nat → Nat) (c : Nat) : Prop := (∀ k, f k ≠ 0 → k / 123 + 1 ≤ c) ∧ (c = 0 ∨ ∃ k, f k ≠ 0 ∧ c = k / 123 + 1)
theorem IsTbl.one {f : Nat → Nat} {a b : Nat} (h : IsTbl f a) (k : IsTbl f b) : a = b := by
  obtain ⟨h1, h2⟩ := h
  obtain ⟨k1, k2⟩ := k
  rcases h2 with rfl | ⟨i, hi, rfl⟩ <;> rcases k2 with rfl | ⟨j, hj, rfl⟩
  · rfl
  · have := h1 j hj; omega
  · have := k1 i hi; omega
  · have := h1 j hj; have := k1 i hi; omega
theorem IsTbl.le {f : Nat → Nat} {D : DataW Unit} (m : MpF f D) {c : Nat} (h : IsTbl f c) : c ≤ 122 := by
  rcases h.2 with rfl | ⟨k, hk, rfl⟩
  · omega
  · have := m.bnd k hk; omega
abbrev lk (k : Nat) : Lit := .int .i64 (k : Int)
def SeenT (f : Nat → Nat) (left : Lit → Bool) (c : Nat) : Prop := (∀ k, f k ≠ 0 → left (lk k) = false → k / 123 + 1 ≤ c) ∧ (c = 0 ∨ ∃ k, f k ≠ 0 ∧ c = k / 123 + 1)
theorem same_lk (j k : Nat) : (lk j).sameKey (lk k) = decide (j = k) := by
  by_cases e : j = k
  · subst e
    rw [WideAt.sameKey_self (keyLit (j : Int)), decide_eq_true rfl]
  · rw [decide_eq_false e]
    cases h : (lk j).sameKey (lk k)
    · rfl
    · have := WideAt.sameKey_eq h
      injection this with _ h2
      exact absurd (by omega) e
theorem SeenT.step {f : Nat → Nat} {left : Lit → Bool} {c k : Nat} (h : SeenT f left c) (hk : f k ≠ 0) : SeenT f (fun z => left z && !z.sameKey (lk k)) (max c (k / 123 + 1)) := by
  refine ⟨fun j hj hl => ?_, ?_⟩
  · simp only [same_lk, Bool.and_eq_false_iff] at hl
    rcases hl with hl | hl
    · have := h.1 j hj hl; omega
    · have : j = k := by simpa using hl
      subst this
      omega
  · right
    rcases h.2 with rfl | ⟨j, hj, rfl⟩
    · exact ⟨k, hk, by omega⟩
    · by_cases e : j / 123 + 1 ≤ k / 123 + 1
      · exact ⟨k, hk, by omega⟩
      · exact ⟨j, hj, by omega⟩
theorem SeenT.done {f : Nat → Nat} {left : Lit → Bool} {c : Nat} (h : SeenT f left c) (hl : ∀ z, left z = false) : IsTbl f c := ⟨fun k hk => h.1 k hk (hl _), h.2⟩
def TblFor (w : World) (f : Nat → Nat) (e : Ending) (w' : World) : Prop := ∃ c : Nat, e = .returned (.int .i64 c) ∧ IsTbl f c ∧ Below w.heap.size w w'
set_option maxRecDepth 100000 in
set_option maxHeartbeats 1000000 in
theorem tablesFor_any (b n : Nat) (f : Nat → Nat) (D : DataW Unit) (w : World) (hown : Owns w b n D) (hf : MpF f D) :
    Calls Tryz.prog 91 #[.map (some b)] w (TblFor w f) := by
  have HO := Lib.hid hown
  have HF := Lib.hid hf
  clear hown hf
  go_enter Tryz.func91, Tryz.ntmps91
  go_wp2_with (at_range; refine wpList_range_own _ rfl _ 100 rfl 3 3 klaw Tryz.underlying100 _ b n _ rfl HO.out ?_; intro w0 hrg0 hg0 hs0)
  go_frame
  have HR0 := Lib.hid hrg0
  have HB0 := Lib.hid ((Below.refl w.heap.size w).grown hg0 (Nat.le_refl _) (fun j hj => by cases hj))
  clear hrg0 hg0 hs0
  go_loopw [3, 4] (fun v _ wr => ∃ (left : Lit → Bool) (cnt c : Nat), v = .int .i64 c ∧ c ≤ 122 ∧ Hid (wr.ranges Tryz.prog 3 (plainElem Tryz.prog 3) b w.heap.size n D left cnt) ∧ Hid (SeenT f left c) ∧ Hid (Below w.heap.size w wr)) (fun _ _ wr => wr.rangeLeft b w.heap.size)
  case atStart => exact ⟨_, _, 0, rfl, by omega, HR0, Lib.hid ⟨fun k hk hl => absurd ((HF.out.has (k : Int)).2 ⟨k, rfl, hk⟩) (by rw [hl]; decide), Or.inl rfl⟩, HB0⟩
  case round =>
    obtain ⟨left, cnt, c, rfl, hc, HR, HS, HB⟩ := hrel
    go_wp2_with (at_next; refine wpList_next_ranges_ii _ rfl _ rfl 3 3 .i64 .i64 klaw Tryz.underlying3 Tryz.underlying3 b w.heap.size n _ _ _ rfl HR.out ?_ ?_)
    · intro hc0 hl0
      have HE := Lib.hid (HS.out.done hl0)
      clear hl0
      go_wp2
      go_ret
      exact ⟨c, rfl, HE.out, HB.out⟩
    · intro x y w1 cnt1 hwx hwy hlx hat hrg1 hlt hg1 hs1 hen
      obtain ⟨k, rfl, hk, rfl⟩ := HF.out.key_of hat
      have hkb := HF.out.bnd k hk
      have HR1 := Lib.hid hrg1
      have HS1 := Lib.hid (HS.out.step hk)
      have HB1 := Lib.hid (HB.out.grown hg1 HB.out.size (fun j hj => by cases hj; exact Nat.le_refl _))
      have HLT := Lib.hid hlt
      have k0 : (0 : Int) ≤ (k : Int) := by omega
      have k1 : (k : Int) ≤ 15006 := by omega
      clear hat hrg1 hlt hg1 hs1 hwx hwy hlx hk
      go_wp2
      exact ⟨⟨_, cnt1, max c (k / 123 + 1), by (congr 1; split <;> omega), by omega, HR1, HS1, HB1⟩, by rw [HR1.out.left_eq, HR.out.left_eq]; exact HLT.out⟩
end Go.Proofs.YtokikeenfpligaaGreatDoor.Sh

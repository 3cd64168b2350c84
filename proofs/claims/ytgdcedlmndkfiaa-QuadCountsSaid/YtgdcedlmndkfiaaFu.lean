/-
  A SQUARE OF ALL CELLS, as plain data: as many as there are, 2^62 at most. Conditions: those that each lemma names.
-/
import Derived.Test.YtgdcedlmndkfiaaQb
namespace Go.Proofs.Ytgdcedlmndkfiaa.Qd
open Ti

def full : T6 := 18446744073709551615#64
def ful (L : List Sq) : Nat → List Sq × Int
  | 0 => (put L (leafQ full), nr L (leafQ full))
  | n + 1 => (put (ful L n).1 (joinQ (ful L n).1 (ful L n).2 (ful L n).2 (ful L n).2 (ful L n).2), nr (ful L n).1 (joinQ (ful L n).1 (ful L n).2 (ful L n).2 (ful L n).2 (ful L n).2))
def cN : Nat → Int
  | 0 => 64
  | n + 1 => cnt4 (cN n) (cN n) (cN n) (cN n)
def wantN (m : Nat) : Int := if m < 31 then 2 ^ (2 * m) else 4611686018427387904
theorem cN_is : ∀ n < 38, cN n = wantN (3 + n) := by decide +kernel
structure FulOk (L : List Sq) (n : Nat) (r : List Sq × Int) : Prop where
  ext : L <+: r.1
  len : r.1.length ≤ L.length + (n + 1)
  inv : Inv r.1
  lv : Lv r.1 n r.2
  cnt : (at' r.1 r.2).cnt = cN n
theorem Lv.four {L : List Sq} {n : Nat} {id : Int} (h : Lv L n id) : Four L id id id id (n + 3) := ⟨h.1, h.1, h.1, h.1, h.2, h.2, h.2, h.2⟩
theorem ful_ok {L : List Sq} (hi : Inv L) : ∀ n, n ≤ 37 → FulOk L n (ful L n)
  | 0, _ => by
    refine ⟨put_ext _ _, (put_len _ _).2, hi.leaf _, ⟨put_ok _ _, ?_⟩, ?_⟩
    · show (at' (put L _) (nr L _)).lev = _
      rw [put_at]
      rfl
    · show (at' (put L _) (nr L _)).cnt = _
      rw [put_at]
      decide +kernel
  | n + 1, hn => by
    have ih := ful_ok hi n (by omega)
    show FulOk L (n + 1) (put (ful L n).1 _, nr _ _)
    generalize ful L n = r at ih ⊢
    have hat := put_at r.1 (joinQ r.1 r.2 r.2 r.2 r.2)
    have hext := put_ext r.1 (joinQ r.1 r.2 r.2 r.2 r.2)
    refine ⟨ih.ext.trans hext, ?_, ih.inv.join ih.lv.four (by omega) (by omega), ⟨put_ok _ _, ?_⟩, ?_⟩
    · have := (put_len r.1 (joinQ r.1 r.2 r.2 r.2 r.2)).2
      have := ih.len
      show (put r.1 _).length ≤ _
      omega
    · show (at' (put r.1 _) (nr r.1 _)).lev = _
      rw [hat]
      show (at' r.1 r.2).lev + 1 = _
      rw [ih.lv.2]
      omega
    · show (at' (put r.1 _) (nr r.1 _)).cnt = _
      rw [hat]
      show cnt4 _ _ _ _ = cnt4 _ _ _ _
      rw [ih.cnt]
theorem ful_ext (L : List Sq) : ∀ k m, (ful L k).1 <+: (ful L (k + m)).1
  | _, 0 => List.prefix_rfl
  | k, m + 1 => (ful_ext L k m).trans (put_ext _ _)
theorem cnt4_small {a b c d : Nat} (ha : a ≤ 64) (hb : b ≤ 64) (hc : c ≤ 64) (hd : d ≤ 64) : cnt4 a b c d = ((a + b + c + d : Nat) : Int) := by
  unfold cnt4 sat
  omega
end Go.Proofs.Ytgdcedlmndkfiaa.Qd

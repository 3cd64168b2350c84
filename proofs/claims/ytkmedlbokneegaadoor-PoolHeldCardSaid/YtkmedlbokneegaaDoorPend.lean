/-
  THE DISK's PENDING. Conditions: those that each lemma names.
-/
import Derived.Test.YtkmedlbokneegaaDoorWa
namespace Go.Proofs.YtkmedlbokneegaaDoor
open Go.RowKit

/-- a slice of whole numbers in new memory -/
def NewInts (w : World) (xs : List Int) (n : Nat) (e : Ending) (w' : World) : Prop :=
  ∃ ao cap, e = .returned (.slice ao n cap) ∧ Ints w' ao xs ∧ n ≤ cap ∧ Below w.heap.size w w'
set_option maxRecDepth 100000 in
theorem cloneI_nil (n c : Nat) (w : World) :
    Calls Tryd.prog 44 #[.slice none n c] w fun e w' => e = .returned (.slice none 0 0) ∧ w = w' := by
  have q : ∀ (w : World) (a : Option Addr) (n c n' c' : Nat), (binOp .eql 33 (.slice a n c) (.slice none n' c')).run Tryd.prog w = .ok (.bool a.isNone) w := fun w a n c n' c' => Lib.run_eql_slice_nil w _ _ a n c n' c' Tryd.underlying33
  go_enter Tryd.func44, Tryd.ntmps44
  go_wp2
  go_ret
  exact ⟨rfl, rfl⟩
set_option maxRecDepth 100000 in
theorem cloneI_at (b n c : Nat) (xs : List Int) (w : World) (hn : xs.length = n) (hx : Ints w (some ⟨b, 0, none⟩) xs) (hm : n ≤ 20000) :
    Calls Tryd.prog 44 #[.slice (some ⟨b, 0, none⟩) n c] w fun e w' => ∃ v', e = .returned v' ∧ w'.ownsRow w.heap.size 3 1 v' n (il xs) ∧ Below w.heap.size w w' := by
  obtain ⟨i0, hi, hz0, hz1, hz2⟩ := info_parts info_i
  have q : ∀ (w : World) (a : Option Addr) (n c n' c' : Nat), (binOp .eql 33 (.slice a n c) (.slice none n' c')).run Tryd.prog w = .ok (.bool a.isNone) w := fun w a n c n' c' => Lib.run_eql_slice_nil w _ _ a n c n' c' Tryd.underlying33
  have HX := Lib.hid hx
  have HN := Lib.hid hn
  clear hx hn
  go_enter Tryd.func44, Tryd.ntmps44
  go_wp2_with (at_builtin; refine wpList_append_own _ rfl _ _ 33 rfl w.heap.size 3 i0 (.int .i64 0) 1 8 Tryd.underlying33 hi hz0 hz1 hz2 rfl (by decide) _ _ _ rfl (World.ownsRow_made w #[] 0 (Nat.le_refl _) (Nat.zero_le _) rfl) ⟨b, 0, none⟩ n c (il xs) rfl ?qc1 ?qc2 ?qc3 ?qc4 ?qc5 ?qc6 ?_)
  case qc1 => simp [il, HN.out]
  case qc2 =>
    intro j u hj
    have hj' : j < xs.length := by
      have := (List.getElem?_eq_some_iff.1 hj).1
      simpa [il] using this
    obtain ⟨b', off', ha, hc⟩ := HX.out j hj'
    obtain ⟨rfl, rfl⟩ : b = b' ∧ 0 = off' := by simpa using ha
    rw [Addr.add_mid]
    refine Lib.cell?_alloc_some _ ?_
    rw [hc]
    simpa [il, hj'] using hj
  case qc3 => intro u hu; obtain ⟨x, _, rfl⟩ := List.mem_map.1 hu; rfl
  case qc4 => unfold maxLen; omega
  case qc5 => omega
  case qc6 => simp
  intro v' w1 hown hgrow hnil
  go_wp2
  go_ret
  refine ⟨v', rfl, by simpa using hown, ?_⟩
  exact ((Below.refl _ w).alloc (Nat.le_refl _) _).grown hgrow (by simp) (by intro k hk; simp [Value.ownBlock] at hk; omega)
set_option maxRecDepth 100000 in
theorem pending_any {B : Nat} (s : St) (w : World) (h : DiskAt B w s) :
    Calls Tryd.prog 24 #[.pointer (some ⟨s.D, 0, none⟩)] w (NewInts w s.ints s.pend.length) := by
  have c2 := h.d2
  have hp := h.p
  have hle := pend_le h.ok
  have hn1 := h.ok.n1
  rw [nats_il] at hp
  rcases hp.2 with ⟨hv, h0⟩ | ⟨g, cap, cur, hv, _, hg, hnc, _, hcs, ht⟩
  · have E : s.ints = [] := List.eq_nil_of_length_eq_zero (by rw [St.ints_len, h0])
    rw [hv] at c2
    rw [E, h0]
    clear h hp hv h0 E hle hn1
    go_enter Tryd.func24, Tryd.ntmps24
    go_wp2_with (go_at_call 44; refine (cloneI_nil _ _ _).mono ?_; rintro e w' ⟨rfl, rfl⟩)
    go_ret
    exact ⟨none, 0, rfl, ints_nil _ _, Nat.le_refl _, Below.refl _ _⟩
  · obtain ⟨ao, cap', hv', hi, _, hl⟩ := own_ints hp
    rw [hv] at hv'
    obtain ⟨rfl, rfl⟩ : some (⟨g, 0, none⟩ : Addr) = ao ∧ cap = cap' := by simpa using hv'
    rw [hv] at c2
    have HI := Lib.hid hi
    have HL := Lib.hid hl
    clear h hp hv hv' hg hnc hcs ht hi hl
    go_enter Tryd.func24, Tryd.ntmps24
    go_wp2_with (go_at_call 44; refine (cloneI_at _ _ _ _ _ HL.out HI.out (by omega)).mono ?_; rintro e w1 ⟨v1, rfl, hown, hb⟩)
    obtain ⟨ao, cap', rfl, hi, hc, hl⟩ := own_ints hown
    go_ret
    exact ⟨ao, cap', rfl, hi, hc, hb⟩
end Go.Proofs.YtkmedlbokneegaaDoor

/-
  THE WALK of the statement on the document's answers. Conditions: what came in could be read.
-/
import Derived.Test.YtnonddjmcjllfaaTnW
import Derived.Deep.MidRow
namespace Go.Proofs.Ytnonddjmcjllfaa
open Go.RowKit Hb

/-- A slice of integers that came in: nil; or it leads to a row of 'cap' cells, the numbers 'zs' (the first 'len' are its elements, the rest its spare room), each fitting its kind. -/
def IsRow (k : IntKind) (w : World) (a : Option Addr) (len cap : Nat) (zs : List Int) : Prop :=
  (a = none ∧ len = 0 ∧ cap = 0 ∧ zs = []) ∨
  ∃ x, a = some x ∧ len ≤ cap ∧ cap ≤ maxLen ∧ zs.length = cap ∧ (∀ i, i < zs.length → w.cell? (x.add i) = some (.int k (zs.getD i 0))) ∧ ∀ n ∈ zs, (Lit.int k n).wf = true
theorem isrow_open {w : World} {a : Option Addr} {len cap : Nat} {zs : List Int} (h : IsRow .u64 w a len cap zs) :
    ∃ xs : List (BitVec 64), xs.length = len ∧ LiesQ w a xs ∧ len ≤ cap ∧ cap ≤ 9223372036854775807 := by
  rcases h with ⟨rfl, rfl, rfl, rfl⟩ | ⟨x, rfl, hl, hm, hz, hc, hw⟩
  · exact ⟨[], rfl, fun i hi => absurd hi (by simp), Nat.le_refl _, by omega⟩
  · unfold maxLen at hm
    refine ⟨(zs.take len).map (BitVec.ofInt 64), by rw [List.length_map, List.length_take]; omega, ?_, hl, hm⟩
    intro i hi
    have hi' : i < len := by rw [List.length_map, List.length_take] at hi; omega
    have hiz : i < zs.length := by omega
    obtain ⟨b, off, spot⟩ := x
    have c := hc i hiz
    have hspot : spot = none := by
      have c0 := hc 0 (by omega)
      simpa [Addr.add] using World.cell?_spot c0
    subst hspot
    have e : zs.getD i 0 = zs[i] := by simp [hiz]
    rw [e, Addr.add_mid] at c
    have hb := bounds_u64 (hw zs[i] (List.getElem_mem hiz))
    refine ⟨b, off, rfl, ?_⟩
    rw [List.getElem_map, List.getElem_take, rg_of _ hb.1 (by omega)]
    exact c
theorem clamp_nat (b : Int) : ∃ m : Nat, min (max b 0) 32 = (m : Int) := ⟨(min (max b 0) 32).toNat, by omega⟩
set_option maxRecDepth 100000 in
theorem mixes_walk (x : Int) (a : Option Addr) (len cap : Nat) (zs : List Int) (b : Int) (w : World) (w0 : (Lit.int .u64 x).wf = true) (w1 : IsRow .u64 w a len cap zs) (w2 : (Lit.int .i64 b).wf = true) :
    Calls Try.prog 3 #[.int .u64 x, .slice a len cap, .int .i64 b] w fun e w' => e = .returned (.bool true) ∧ Below w.heap.size w w' := by
  obtain ⟨X, rfl⟩ := u64_open w0
  obtain ⟨xs, hn, hx, hlc, hcm⟩ := isrow_open w1
  clear w0 w1
  have b2 := (bounds_i64 w2).2
  obtain ⟨m, hm⟩ := clamp_nat b
  have HN := Lib.hid hn
  have HX := Lib.hid hx
  have HM := Lib.hid hm
  clear hn hx hm
  by_cases hbig : 200 < len
  · go_enter Try.func3, Try.ntmps3
    go_wp2_with (go_at_call 9; refine (sure_any _).mono ?_; rintro e w' ⟨rfl, rfl⟩)
    go_ret
    exact ⟨rfl, Below.refl _ _⟩
  · have hl : len ≤ 9223372036854775807 := by omega
    go_enter Try.func3, Try.ntmps3
    go_wp2_with (first | (go_at_call 10; refine (mix_any _ _ rfl _).mono ?_; rintro e w' ⟨rfl, rfl⟩) | (go_at_call 11; refine (refMix_any _ _ rfl _).mono ?_; rintro e w' ⟨rfl, rfl⟩) | (go_at_call 12; refine (of_any _ _ _ _ _ HX.out HN.out hl).mono ?_; rintro e w' ⟨rfl, rfl⟩) | (go_at_call 13; refine (refOf_any _ _ _ _ _ HX.out HN.out hl).mono ?_; rintro e w' ⟨rfl, rfl⟩) | (go_at_call 14; refine (front_any X _ _ m rfl HM.out _).mono ?_; rintro e w' ⟨rfl, rfl⟩) | (go_at_call 15; refine (refFront_any X _ m HM.out b2 _).mono ?_; rintro e w' ⟨rfl, rfl⟩) | (go_at_call 9; refine (sure_any _).mono ?_; rintro e w' ⟨rfl, rfl⟩))
    go_ret
    exact ⟨rfl, Below.refl _ _⟩
end Go.Proofs.Ytnonddjmcjllfaa

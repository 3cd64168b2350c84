/-
  THE WALK of the statement on numbers of which one is another one. Conditions: what came in could be read.
-/
import Derived.Test.YtnonddjmcjllfaaMxW
import Derived.Deep.AppendLies
import Derived.Laws.OwnMore
import Derived.Deep.RegionHeld3
import Derived.Laws.Rows
import Derived.Laws.Tables
import Derived.OneCell
import Derived.WalkSmall
import Derived.Deep.DeepCutAuto
namespace Go.Proofs.Ytnonddjmcjllfaa
open Go.RowKit Hb

theorem info_q : (Try.prog.info? 22).map (fun i => (i.zero, i.size, i.bytes)) = some (some (.int .u64 0), 1, 8) := by kernel_rfl
theorem info_parts {α : Type} {f : α → Option Value × Nat × Nat} {o : Option α} {z : Value} {s b : Nat} (h : o.map f = some (some z, s, b)) : ∃ i, o = some i ∧ (f i).1 = some z ∧ (f i).2.1 = s ∧ (f i).2.2 = b := by
  cases o with
  | none => cases h
  | some i =>
    have e : f i = (some z, s, b) := Option.some.inj h
    exact ⟨i, rfl, by rw [e], by rw [e], by rw [e]⟩
def ql (xs : List (BitVec 64)) : List Value := xs.map fun x => Value.int .u64 (rg x)
theorem ql_len (xs : List (BitVec 64)) : (ql xs).length = xs.length := by simp [ql]
theorem ql_one (xs : List (BitVec 64)) : ∀ v ∈ ql xs, v.oneCell' = true := by
  intro v hv
  simp [ql] at hv
  obtain ⟨x, _, rfl⟩ := hv
  rfl
theorem ql_lies {w : World} {b off : Nat} {xs : List (BitVec 64)} (h : LiesQ w (some ⟨b, off, none⟩) xs) : ∀ j v, (ql xs)[j]? = some v → w.cell? ((⟨b, off, none⟩ : Addr).add j) = some v := by
  intro j v hv
  have hj : j < xs.length := by
    have := (List.getElem?_eq_some_iff.1 hv).1
    simpa [ql] using this
  obtain ⟨b', off', ha, hc⟩ := h j hj
  obtain ⟨rfl, rfl⟩ : b = b' ∧ off = off' := by simpa using ha
  rw [Addr.add_mid, hc]
  simp [ql, hj] at hv
  exact congrArg some hv
theorem cell_of_row' (w : World) (g i : Nat) (cs : Array Value) (t : TypeId) (fr : Nat × Nat) (h : w.heap[g]? = some (.cells cs t fr)) : w.cell? ⟨g, i, none⟩ = cs[i]? := by
  simp [World.cell?, h]
theorem own_q {w : World} {B n g cap : Nat} {xs : List (BitVec 64)} (h : w.ownsRow B 22 1 (.slice (some ⟨g, 0, none⟩) n cap) n (ql xs)) : LiesQ w (some ⟨g, 0, none⟩) xs ∧ n ≤ cap ∧ xs.length = n := by
  obtain ⟨hl, h⟩ := h
  have hn : xs.length = n := by rw [ql_len] at hl; omega
  rcases h with ⟨h0, _⟩ | ⟨g', cap', cur, hv, _, hg, hnc, _, hcs, ht⟩
  · cases h0
  · simp at hv
    obtain ⟨rfl, rfl⟩ := hv
    refine ⟨?_, by omega, hn⟩
    intro i hi
    refine ⟨g, 0, rfl, ?_⟩
    rw [Nat.zero_add, cell_of_row' w g i _ _ _ hg]
    have e : (ql xs)[i]? = some (Value.int .u64 (rg xs[i])) := by simp [ql, hi]
    rw [← ht, List.getElem?_take] at e
    have hi' : i < n * 1 := by omega
    rw [if_pos hi'] at e
    simpa using e
theorem LiesQ.set {w : World} {g off : Nat} {xs : List (BitVec 64)} (h : LiesQ w (some ⟨g, off, none⟩) xs) (k : Nat) (v : BitVec 64) : LiesQ (w.setCell ⟨g, off + k, none⟩ (.int .u64 (rg v))) (some ⟨g, off, none⟩) (xs.set k v) := by
  intro i hi
  have hi' : i < xs.length := by simpa using hi
  obtain ⟨b', off', ha, h1⟩ := h i hi'
  obtain ⟨rfl, rfl⟩ : g = b' ∧ off = off' := by simpa using ha
  refine ⟨g, off, rfl, ?_⟩
  by_cases e : k = i
  · subst e
    rw [World.cell?_setCell_same _ _ _ h1]
    simp
  · rw [World.cell?_setCell_other _ _ _ _ (by intro q; simp only [Addr.mk.injEq] at q; omega), h1]
    simp [e]
theorem LiesQ.cell {w : World} {g k : Nat} {xs : List (BitVec 64)} {x : BitVec 64} (h : LiesQ w (some ⟨g, 0, none⟩) xs) (hx : xs[k]? = some x) : w.cell? ⟨g, k, none⟩ = some (.int .u64 (rg x)) := by
  obtain ⟨hk, rfl⟩ := List.getElem?_eq_some_iff.1 hx
  obtain ⟨b', off', ha, h1⟩ := h k hk
  obtain ⟨rfl, rfl⟩ : g = b' ∧ 0 = off' := by simpa using ha
  rw [Nat.zero_add] at h1
  exact h1
theorem red_len (a : Int) (n : Nat) (hn : 0 < n) (hn2 : n ≤ 200) : ∃ k : Nat, wrap64 ((IntKind.u64.wrap a).tmod n) = k ∧ k < n := by
  obtain ⟨k, h1, h2⟩ := red_nat a n (by omega) (by omega)
  exact ⟨k, h1, by omega⟩
set_option maxRecDepth 100000 in
set_option maxHeartbeats 1000000 in
theorem once_walk (a0 : Option Addr) (len cap : Nat) (zs : List Int) (a1 by' : Int) (w : World) (w0 : IsRow .u64 w a0 len cap zs) (_w1 : (Lit.int .i64 a1).wf = true) (w2 : (Lit.int .u64 by').wf = true) :
    Calls Try.prog 5 #[.slice a0 len cap, .int .i64 a1, .int .u64 by'] w fun e w' => e = .returned (.bool true) ∧ Below w.heap.size w w' := by
  obtain ⟨Y, rfl⟩ := u64_open w2
  obtain ⟨xs, hn, hx, hlc, hcm⟩ := isrow_open w0
  clear w0 w2
  by_cases hbad : len = 0 ∨ 200 < len
  · have HX := hbad
    clear hbad hn hx
    rcases HX with h | h
    · subst h
      go_enter Try.func5, Try.ntmps5
      go_wp2_with (go_at_call 9; refine (sure_any _).mono ?_; rintro e w' ⟨rfl, rfl⟩)
      go_ret
      exact ⟨rfl, Below.refl _ _⟩
    · have h0 : ¬ (len : Int) = 0 := by omega
      have h0' : ¬ len = 0 := by omega
      go_enter Try.func5, Try.ntmps5
      go_wp2_with (go_at_call 9; refine (sure_any _).mono ?_; rintro e w' ⟨rfl, rfl⟩)
      go_ret
      exact ⟨rfl, Below.refl _ _⟩
  · have h0' : ¬ len = 0 := fun e => hbad (.inl e)
    have h2 : ¬ 200 < len := fun e => hbad (.inr e)
    clear hbad
    obtain ⟨k, hk, hkl⟩ := red_len a1 len (by omega) (by omega)
    obtain ⟨b, off, rfl⟩ : ∃ b off, a0 = some ⟨b, off, none⟩ := by
      obtain ⟨b, off, h, _⟩ := hx 0 (by omega)
      exact ⟨b, off, h⟩
    have hkx : k < xs.length := by omega
    obtain ⟨x, hxk⟩ : ∃ x, xs[k] = x := ⟨_, rfl⟩
    have hs : (xs.set k (x ^^^ Y)).length = len := by rw [List.length_set]; exact hn
    have hq : (rg (ofB xs) == rg (ofB (xs.set k (x ^^^ Y)))) = (rg Y == 0) := by
      by_cases e : Y = 0#64
      · subst e
        rw [BitVec.xor_zero, ← hxk, List.set_getElem_self, beq_self_eq_true]; rfl
      · rw [rg_ne (fun q => e (of_once xs k hkx Y (by rw [hxk]; exact q)))]
        exact (rg_ne (Y := 0#64) e).symm
    have HQ := Lib.hid hq
    have HX := Lib.hid hx
    have HN := Lib.hid hn
    have HS := Lib.hid hs
    have HXK := Lib.hid (show xs[k]? = some x by rw [List.getElem?_eq_getElem hkx, hxk])
    have hk0 : (0 : Int) ≤ (k : Int) := by omega
    have hk1 : (k : Int) < (len : Int) := by omega
    obtain ⟨i0, hi, hz0, hz1, hz2⟩ := info_parts info_q
    have HI := Lib.hid hi
    have HI0 := Lib.hid hz0
    have HI1 := Lib.hid hz1
    have HI2 := Lib.hid hz2
    have HK := Lib.hid hk
    clear hx hn hs hxk hkx hi hz0 hz1 hz2 hk hq
    have hz : ((len : Int) == 0) = false := by simp only [beq_eq_false_iff_ne]; omega
    have hz2 : decide (200 < (len : Int)) = false := by simp only [decide_eq_false_iff_not]; omega
    have hz3 : ¬ (200 : Int) < (len : Int) := by omega
    go_enter Try.func5, Try.ntmps5
    go_upto_region 5 with (at_builtin; refine wpList_append_lies _ rfl (.tmp 18) (.tmp 19) 23 rfl w.heap.size 22 i0 (.int .u64 0) 1 8 Try.underlying23 HI.out HI0.out HI1.out HI2.out rfl (by decide) (.slice none 0 0) 0 [] rfl (World.ownsRow_nil _ _ _ _) ⟨b, off, none⟩ len cap (ql xs) rfl (by rw [ql_len, HN.out, Nat.mul_one]) (ql_lies HX.out) (ql_one _) (by omega) (by unfold maxLen; omega) (by omega) (Nat.le_refl _) _ rfl ?_; intro g cp w4 hown hgrow hat hglt; simp only [Nat.zero_add, List.nil_append] at hown)
    have hB4 := (Below.refl w.heap.size w).grown hgrow (Nat.le_refl _) (fun j hj => by cases hj)
    have hl4 := (own_q hown).1
    have hc4 := hl4.cell HXK.out
    have hf4 := hown.frozenAt k
    have hlx := HX.out.below hB4
    have hg0 := (hown.lt g rfl).1
    have hls := hl4.set k (x ^^^ Y)
    rw [Nat.zero_add] at hls
    have hxs : LiesQ (w4.setCell ⟨g, k, none⟩ (.int .u64 (rg (x ^^^ Y)))) (some ⟨b, off, none⟩) xs := by
      intro i hi
      obtain ⟨b', off', ha, h1⟩ := HX.out i hi
      have h2 := (hB4.cell (p := ⟨b', off' + i, none⟩) (World.block_lt_of_cell? w _ h1)).trans h1
      refine ⟨b', off', ha, ?_⟩
      rw [World.cell?_setCell_other _ _ _ _ (by intro q; simp only [Addr.mk.injEq] at q; have := World.block_lt_of_cell? w _ h1; simp at this; omega)]
      exact h2
    have HLS := Lib.hid hls
    have HXS := Lib.hid hxs
    have HB5 := Lib.hid (hB4.setCell (p := ⟨g, k, none⟩) hg0 (.int .u64 (rg (x ^^^ Y))))
    have HO := Lib.hid hown
    clear hl4 hlx hls hxs hB4 hgrow hat hglt hown hg0
    have hwx := xor_rg x Y
    have hred := HK.out
    have hne : ¬ (len : Int) = 0 := by omega
    go_upto_region 6 with (fail)
    simp only [hred]
    clear hred
    go_upto_region 7 with (fail)
    have q : ((rg (ofB xs) == rg (ofB (xs.set k (x ^^^ Y)))) == (rg Y == 0)) = true := beq_iff_eq.2 HQ.out
    have hl : len ≤ 9223372036854775807 := by omega
    go_wp2_with (first | (go_at_call_of 12 (Value.slice (some { block := b, off := off }) len cap); refine (of_any _ _ _ _ _ HXS.out HN.out hl).mono ?_; rintro e w' ⟨rfl, rfl⟩) | (go_at_call 12; refine (of_any _ _ _ _ _ HLS.out HS.out hl).mono ?_; rintro e w' ⟨rfl, rfl⟩) | (go_at_call 9; refine (sure_any _).mono ?_; rintro e w' ⟨rfl, rfl⟩))
    go_ret
    exact ⟨rfl, HB5.out⟩
end Go.Proofs.Ytnonddjmcjllfaa

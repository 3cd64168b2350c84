/-
  A REGION THAT DRAWS ITS ORDER AND STORES AT ITS END WHAT IT LOADED BEFORE: a condition on the world that is asked till one operation (the first such store) has come up, and another one from there on. What is loaded under the first condition is waited for by that store. No program in it.
-/
import Derived.Test.YticnhpddidaaeaaCj
import Derived.OrdersHeld
import Derived.StillTail
namespace Go.Proofs.Yticnhpddidaaeaa
open Go.RowKit

section
variable {P : Program} {ops : Array Oper} {Q : Exit → Act → World → Prop} {md : Region.Mode} {s : Nat} {S : Bool → World → Prop}

/-- whatever order is drawn from here on; behind each operation the condition holds, of the two the one whose turn it is -/
def Till (P : Program) (md : Region.Mode) (ops : Array Oper) (Q : Exit → Act → World → Prop) (s : Nat) (S : Bool → World → Prop) : Nat → Array Bool → Act → World → Prop
  | 0, l, a, w => Region.ready md ops l = [] ∧ Q .normal a w
  | f + 1, l, a, w => (Region.ready md ops l = [] → Q .normal a w) ∧ ∀ i ∈ Region.ready md ops l, wpOp P ops Q i (fun a' w' => S ((l.setIfInBounds i true).getD s false) w' ∧ Till P md ops Q s S f (l.setIfInBounds i true) a' w') a w

theorem Till.any : ∀ (f : Nat) (l : Array Bool) (a : Act) (w : World), Till P md ops Q s S f l a w → wpAny P md ops Q f l a w
  | 0, _, _, _, h => h
  | f + 1, _, _, _, h => ⟨h.1, fun i hi => wpOp_mono (fun _ _ k => Till.any f _ _ _ k.2) (h.2 i hi)⟩

theorem Till.first {i : Nat} {o : Oper} {v : Value} {G : World → Prop} (hi : ops[i]? = some o) (hsel : Region.noSelect ops = true) (hs : s ≠ i) (hQ : ∀ c a w, Q (.panic c) (a.put o.dst v) w → Q (.panic c) a w)
    (hG : ∀ b w, S b w → (Region.waitsFor md ops s i = true → b = false) → G w) :
    ∀ (f : Nat) (l : Array Bool) (a : Act) (w : World), (∀ j oj, ops[j]? = some oj → j ≠ i → l.getD j true = false → (∀ e ∈ oj.after, Region.binds md e = true → e.on ≠ i) → o.apart ops oj = true) →
      i ∈ Region.ready md ops l → (Region.waitsFor md ops s i = true → l.getD s false = false) → YieldsIf P ops G o v a → S (l.getD s false) w →
      Till P md ops Q s S f (l.setIfInBounds i true) (a.put o.dst v) w → Till P md ops Q s S (f + 1) l a w := by
  intro f
  induction f with
  | zero =>
    intro l a w _ hr hb hy hS H
    refine ⟨fun e => (by rw [e] at hr; cases hr), fun j hj => ?_⟩
    by_cases e : j = i
    · subst e
      exact hy.wpOp hi (hG _ _ hS hb) ⟨by rw [getD_set_ne false (Ne.symm hs)]; exact hS, H⟩
    · have := ready_mono hj e
      rw [H.1] at this
      cases this
  | succ f ih =>
    intro l a w hfree hr hb hy hS H
    refine ⟨fun e => (by rw [e] at hr; cases hr), fun j hj => ?_⟩
    by_cases e : j = i
    · subst e
      exact hy.wpOp hi (hG _ _ hS hb) ⟨by rw [getD_set_ne false (Ne.symm hs)]; exact hS, H⟩
    · have hun := (mem_ready.1 hr).1
      obtain ⟨hjun, oj, hoj, hall⟩ := mem_ready.1 hj
      have hno : ∀ k ∈ oj.after, Region.binds md k = true → k.on ≠ i := fun k hk hkb q => by
        have := hall k hk hkb
        rw [q, getD_both hun] at this
        cases this
      have hjs : Region.waitsFor md ops s i = true → j ≠ s := fun hw q => by
        subst q
        obtain ⟨o', ho', k, hk, hkb, hon⟩ := Region.waitsFor_spec hw
        have : o' = oj := Option.some.inj (ho'.symm.trans hoj)
        subst this
        exact hno k hk hkb hon
      have h1 := H.2 j (ready_mono hj e)
      have h2 := wpOp_putIf hoj (hfree j oj hoj e hjun hno) (fun cs b => Region.noSelect_spec hsel i o cs b hi) (fun cs b => Region.noSelect_spec hsel j oj cs b hoj) hQ hy h1
      refine wpOp_mono (fun a' w' k => ?_) h2
      have hf : ((l.setIfInBounds i true).setIfInBounds j true).getD s false = (l.setIfInBounds j true).getD s false := by
        rw [Array.setIfInBounds_comm _ _ (Ne.symm e), getD_set_ne false (Ne.symm hs)]
      have k1 : S ((l.setIfInBounds j true).getD s false) w' := hf ▸ k.2.1
      refine ⟨k1, ih (l.setIfInBounds j true) a' w' (fun k ok hk hki hku hkn => hfree k ok hk hki ?_ hkn) (ready_mono hr (Ne.symm e)) (fun hw => ?_) k.1 k1 ?_⟩
      · by_cases q : j = k
        · subst q; exact hjun
        · rwa [getD_set_ne true q] at hku
      · rw [getD_set_ne false (hjs hw)]; exact hb hw
      · rw [Array.setIfInBounds_comm _ _ e]
        exact k.2.2
/-- one that yields, and that the store waits for -/
theorem Till.load {i : Nat} {d : Tmp} {o : Oper} {v : Value} {f : Nat} {l : Array Bool} {a : Act} {w : World} (hi : ops[i]? = some o) (hd : o.dst = some d) (hsel : Region.noSelect ops = true) (hf : Region.free md ops l i = true) (hr : (Region.ready md ops l).contains i = true)
    (hn : (s != i && Region.waitsFor md ops s i && !(l.getD s false)) = true) (hQ : ∀ c a w, Q (.panic c) (a.put o.dst v) w → Q (.panic c) a w) (hS : S false w) (hy : ∀ w, S false w → (execOp a.eval o).run P w = .ok (.value v) w) (hw : Region.wanted o (yielded ops a.tmps) = true)
    (h : Till P md ops Q s S f (l.setIfInBounds i true) (a.put (some d) v) w) : Till P md ops Q s S (f + 1) l a w := by
  rw [← hd] at h
  simp only [Bool.and_eq_true, bne_iff_ne, ne_eq, Bool.not_eq_true'] at hn
  exact Till.first (G := S false) hi hsel hn.1.1 hQ (fun b w' hb q => q hn.1.2 ▸ hb) f l a w (Region.free_spec hi hf) (by simpa using hr) (fun _ => hn.2) (.inl ⟨hw, hy⟩) (by rw [hn.2]; exact hS) h
/-- one that yields in any world -/
theorem Till.move {i : Nat} {d : Tmp} {o : Oper} {v : Value} {f : Nat} {l : Array Bool} {a : Act} {w : World} (hi : ops[i]? = some o) (hd : o.dst = some d) (hsel : Region.noSelect ops = true) (hf : Region.free md ops l i = true) (hr : (Region.ready md ops l).contains i = true)
    (hn : (s != i) = true) (hQ : ∀ c a w, Q (.panic c) (a.put o.dst v) w → Q (.panic c) a w) (hS : S (l.getD s false) w) (hy : ∀ w, (execOp a.eval o).run P w = .ok (.value v) w) (hw : Region.wanted o (yielded ops a.tmps) = true)
    (hb : (!(l.getD s false) || !(Region.waitsFor md ops s i)) = true) (h : Till P md ops Q s S f (l.setIfInBounds i true) (a.put (some d) v) w) : Till P md ops Q s S (f + 1) l a w := by
  rw [← hd] at h
  refine Till.first (G := fun _ => True) hi hsel (by simpa using hn) hQ (fun _ _ _ _ => trivial) f l a w (Region.free_spec hi hf) (by simpa using hr) (fun q => ?_) (.inl ⟨hw, fun w _ => hy w⟩) hS h
  rw [q] at hb
  simpa using hb
/-- one that yields in any world where either condition holds -/
theorem Till.read {i : Nat} {d : Tmp} {o : Oper} {v : Value} {f : Nat} {l : Array Bool} {a : Act} {w : World} {G : World → Prop} (hG : ∀ b w, S b w → G w) (hi : ops[i]? = some o) (hd : o.dst = some d) (hsel : Region.noSelect ops = true) (hf : Region.free md ops l i = true) (hr : (Region.ready md ops l).contains i = true)
    (hn : (s != i) = true) (hQ : ∀ c a w, Q (.panic c) (a.put o.dst v) w → Q (.panic c) a w) (hS : S (l.getD s false) w) (hy : ∀ w, G w → (execOp a.eval o).run P w = .ok (.value v) w) (hw : Region.wanted o (yielded ops a.tmps) = true)
    (hb : (!(l.getD s false) || !(Region.waitsFor md ops s i)) = true) (h : Till P md ops Q s S f (l.setIfInBounds i true) (a.put (some d) v) w) : Till P md ops Q s S (f + 1) l a w := by
  rw [← hd] at h
  refine Till.first (G := G) hi hsel (by simpa using hn) hQ (fun b w' hb _ => hG b w' hb) f l a w (Region.free_spec hi hf) (by simpa using hr) (fun q => ?_) (.inl ⟨hw, hy⟩) hS h
  rw [q] at hb
  simpa using hb
/-- one that alone may come up -/
theorem Till.only {i : Nat} {o : Oper} {f : Nat} {l : Array Bool} {a : Act} {w : World} (b : Bool) (hi : ops[i]? = some o) (hr : Region.ready md ops l = [i]) (hw : Region.wanted o (yielded ops a.tmps) = true) (hb : (l.setIfInBounds i true).getD s false = b)
    (h : ∀ K : Act → World → Prop, Hid (∀ a' w', S b w' → Till P md ops Q s S f (l.setIfInBounds i true) a' w' → K a' w') → Oper.wp P o a w K Q) : Till P md ops Q s S (f + 1) l a w := by
  refine ⟨fun e => (by rw [e] at hr; cases hr), fun j hj => ?_⟩
  rw [hr] at hj
  have : j = i := by simpa using hj
  subst this
  unfold wpOp
  simp only [hi, hw, if_true]
  exact .inl (h _ (fun a' w' h1 h2 => ⟨hb ▸ h1, h2⟩))
/-- two that may come up, in either order -/
theorem Till.two {i j : Nat} {o o' : Oper} {f : Nat} {l : Array Bool} {a : Act} {w : World} (b b' : Bool) (hi : ops[i]? = some o) (hj : ops[j]? = some o') (hr : Region.ready md ops l = [i, j]) (hw : Region.wanted o (yielded ops a.tmps) = true) (hw' : Region.wanted o' (yielded ops a.tmps) = true)
    (hb : (l.setIfInBounds i true).getD s false = b) (hb' : (l.setIfInBounds j true).getD s false = b')
    (h : ∀ K : Act → World → Prop, Hid (∀ a' w', S b w' → Till P md ops Q s S f (l.setIfInBounds i true) a' w' → K a' w') → Oper.wp P o a w K Q)
    (h' : ∀ K : Act → World → Prop, Hid (∀ a' w', S b' w' → Till P md ops Q s S f (l.setIfInBounds j true) a' w' → K a' w') → Oper.wp P o' a w K Q) : Till P md ops Q s S (f + 1) l a w := by
  refine ⟨fun e => (by rw [e] at hr; cases hr), fun k hk => ?_⟩
  rw [hr] at hk
  have hk2 : k = i ∨ k = j := by simpa using hk
  rcases hk2 with rfl | rfl
  · unfold wpOp
    simp only [hi, hw, if_true]
    exact .inl (h _ (fun a' w' h1 h2 => ⟨hb ▸ h1, h2⟩))
  · unfold wpOp
    simp only [hj, hw', if_true]
    exact .inl (h' _ (fun a' w' h1 h2 => ⟨hb' ▸ h1, h2⟩))
theorem Till.done {l : Array Bool} {a : Act} {w : World} (hr : Region.ready md ops l = []) (h : Q .normal a w) : ∀ f, Till P md ops Q s S f l a w
  | 0 => ⟨hr, h⟩
  | _ + 1 => ⟨fun _ => h, by rw [hr]; simp⟩
/-- one that does not come up, since its guard says so -/
theorem Till.skip {i : Nat} {d : Tmp} {o : Oper} {f : Nat} {l : Array Bool} {a : Act} {w : World} (hi : ops[i]? = some o) (hd : o.dst = some d) (hsel : Region.noSelect ops = true) (hf : Region.free md ops l i = true) (hr : (Region.ready md ops l).contains i = true)
    (hn : (s != i) = true) (hQ : ∀ c a w, Q (.panic c) (a.put o.dst undef) w → Q (.panic c) a w) (hS : S (l.getD s false) w) (hw : Region.wanted o (yielded ops a.tmps) = false)
    (hb : (!(l.getD s false) || !(Region.waitsFor md ops s i)) = true) (h : Till P md ops Q s S f (l.setIfInBounds i true) (a.put (some d) undef) w) : Till P md ops Q s S (f + 1) l a w := by
  rw [← hd] at h
  refine Till.first (G := fun _ => True) hi hsel (by simpa using hn) hQ (fun _ _ _ _ => trivial) f l a w (Region.free_spec hi hf) (by simpa using hr) (fun q => ?_) (.inr ⟨hw, rfl⟩) hS h
  rw [q] at hb
  simpa using hb
theorem Till.region {id : Nat} {a : Act} {w : World} (hm : P.follows .mixedOrders = true) (h : Till P .any ops Q s S ops.size (Array.replicate ops.size false) a w.drew) : (Code.region id ops true).wp P Q a w :=
  wp_region_any hm (Till.any _ _ _ _ h)
end
/-- a condition that is asked till the store has come up -/
def TillS (p : World → Prop) (b : Bool) (w : World) : Prop := b = false → p w
theorem tillS_true (p : World → Prop) (w : World) : TillS p true w := fun h => by cases h
theorem tillS (p : World → Prop) (w : World) (h : p w) : TillS p false w := fun _ => h
end Go.Proofs.Yticnhpddidaaeaa

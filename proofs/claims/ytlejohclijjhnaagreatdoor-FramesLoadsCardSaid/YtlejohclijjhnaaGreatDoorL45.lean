/-
  A REGION THAT DRAWS ITS ORDER AND STORES AT ITS END WHAT IT LOADED BEFORE: a condition on the world that is asked till one operation (the first such store) has come up, and another one from there on. What is loaded under the first condition is waited for by that store. No program in it.
  WALK of canStand, of frames that can be, one upon the other. Conditions: the store and the list lie in memory.
  WALK of Load, of frames that can be loaded. Conditions: nothing is under way; the list lies in memory.
-/
import Derived.OrdersHeld
import Derived.StillTail
import Derived.Test.YtlejohclijjhnaaGreatDoorL35
import Derived.Test.YtlejohclijjhnaaGreatDoorL44
namespace Go.Proofs.YtlejohclijjhnaaGreatDoor
open Go.RowKit

section
variable {P : Program} {ops : Array Oper} {Q : Exit → Act → World → Prop} {md : Region.Mode} {s : Nat} {S : Bool → World → Prop}

/-- whatever order is drawn from here on; behind each operation the condition holds, of the two the one whose turn it is -/
def Till (P : Program) (md : Region.Mode) (ops : Array Oper) (Q : Exit → Act → World → Prop) (s : Nat) (S : Bool → World → Prop) : Nat → Array Bool → Act → World → Prop
  | 0, l, a, w => Region.ready md ops l = [] ∧ Q .normal a w
  | f + 1, l, a, w => (Region.ready md ops l = [] → Q .normal a w) ∧ ∀ i ∈ Region.ready md ops l, wpOp P ops Q i (fun a' w' => S ((l.setIfInBounds i true).getD s false) w' ∧ Till P md ops Q s S f (l.setIfInBounds i true) a' w') a w

theorem Till.any : ∀ (f : Nat) (l : Array Bool) (a : Act) (w : World), Till P md ops Q s S f l a w → wpAny P md ops Q f l a w
  | 0, _, _, _, h => h
  | f + 1, _, _, _, h => ⟨h.1, fun i hi => wpOp_mono (fun _ _ k => Till.any f _ _ _ k.2) (h.2 i hi)⟩

theorem Till.first {i : Nat} {o : Oper} {v : Value} {G : World → Prop} (hi : ops[i]? = some o) (hsel : Region.noSelect ops = true) (hs : s ≠ i) (hQ : ∀ c a w, Q (.panic c) (a.put o.dst v) w → Q (.panic c) a w)
    (hG : ∀ b w, S b w → (Region.waitsFor md ops s i = true → b = false) → G w) :
    ∀ (f : Nat) (l : Array Bool) (a : Act) (w : World), (∀ j oj, ops[j]? = some oj → j ≠ i → l.getD j true = false → (∀ e ∈ oj.after, Region.binds md e = true → e.on ≠ i) → o.apart ops oj = true) →
      i ∈ Region.ready md ops l → (Region.waitsFor md ops s i = true → l.getD s false = false) → YieldsIf P ops G o v a → S (l.getD s false) w →
      Till P md ops Q s S f (l.setIfInBounds i true) (a.put o.dst v) w → Till P md ops Q s S (f + 1) l a w := by
  intro f
  induction f with
  | zero =>
    intro l a w _ hr hb hy hS H
    refine ⟨fun e => (by rw [e] at hr; cases hr), fun j hj => ?_⟩
    by_cases e : j = i
    · subst e
      exact hy.wpOp hi (hG _ _ hS hb) ⟨by rw [getD_set_ne false (Ne.symm hs)]; exact hS, H⟩
    · have := ready_mono hj e
      rw [H.1] at this
      cases this
  | succ f ih =>
    intro l a w hfree hr hb hy hS H
    refine ⟨fun e => (by rw [e] at hr; cases hr), fun j hj => ?_⟩
    by_cases e : j = i
    · subst e
      exact hy.wpOp hi (hG _ _ hS hb) ⟨by rw [getD_set_ne false (Ne.symm hs)]; exact hS, H⟩
    · have hun := (mem_ready.1 hr).1
      obtain ⟨hjun, oj, hoj, hall⟩ := mem_ready.1 hj
      have hno : ∀ k ∈ oj.after, Region.binds md k = true → k.on ≠ i := fun k hk hkb q => by
        have := hall k hk hkb
        rw [q, getD_both hun] at this
        cases this
      have hjs : Region.waitsFor md ops s i = true → j ≠ s := fun hw q => by
        subst q
        obtain ⟨o', ho', k, hk, hkb, hon⟩ := Region.waitsFor_spec hw
        have : o' = oj := Option.some.inj (ho'.symm.trans hoj)
        subst this
        exact hno k hk hkb hon
      have h1 := H.2 j (ready_mono hj e)
      have h2 := wpOp_putIf hoj (hfree j oj hoj e hjun hno) (fun cs b => Region.noSelect_spec hsel i o cs b hi) (fun cs b => Region.noSelect_spec hsel j oj cs b hoj) hQ hy h1
      refine wpOp_mono (fun a' w' k => ?_) h2
      have hf : ((l.setIfInBounds i true).setIfInBounds j true).getD s false = (l.setIfInBounds j true).getD s false := by
        rw [Array.setIfInBounds_comm _ _ (Ne.symm e), getD_set_ne false (Ne.symm hs)]
      have k1 : S ((l.setIfInBounds j true).getD s false) w' := hf ▸ k.2.1
      refine ⟨k1, ih (l.setIfInBounds j true) a' w' (fun k ok hk hki hku hkn => hfree k ok hk hki ?_ hkn) (ready_mono hr (Ne.symm e)) (fun hw => ?_) k.1 k1 ?_⟩
      · by_cases q : j = k
        · subst q; exact hjun
        · rwa [getD_set_ne true q] at hku
      · rw [getD_set_ne false (hjs hw)]; exact hb hw
      · rw [Array.setIfInBounds_comm _ _ e]
        exact k.2.2
/-- one that yields, and that the store waits for -/
theorem Till.load {i : Nat} {d : Tmp} {o : Oper} {v : Value} {f : Nat} {l : Array Bool} {a : Act} {w : World} (hi : ops[i]? = some o) (hd : o.dst = some d) (hsel : Region.noSelect ops = true) (hf : Region.free md ops l i = true) (hr : (Region.ready md ops l).contains i = true)
    (hn : (s != i && Region.waitsFor md ops s i && !(l.getD s false)) = true) (hQ : ∀ c a w, Q (.panic c) (a.put o.dst v) w → Q (.panic c) a w) (hS : S false w) (hy : ∀ w, S false w → (execOp a.eval o).run P w = .ok (.value v) w) (hw : Region.wanted o (yielded ops a.tmps) = true)
    (h : Till P md ops Q s S f (l.setIfInBounds i true) (a.put (some d) v) w) : Till P md ops Q s S (f + 1) l a w := by
  rw [← hd] at h
  simp only [Bool.and_eq_true, bne_iff_ne, ne_eq, Bool.not_eq_true'] at hn
  exact Till.first (G := S false) hi hsel hn.1.1 hQ (fun b w' hb q => q hn.1.2 ▸ hb) f l a w (Region.free_spec hi hf) (by simpa using hr) (fun _ => hn.2) (.inl ⟨hw, hy⟩) (by rw [hn.2]; exact hS) h
/-- one that yields in any world -/
theorem Till.move {i : Nat} {d : Tmp} {o : Oper} {v : Value} {f : Nat} {l : Array Bool} {a : Act} {w : World} (hi : ops[i]? = some o) (hd : o.dst = some d) (hsel : Region.noSelect ops = true) (hf : Region.free md ops l i = true) (hr : (Region.ready md ops l).contains i = true)
    (hn : (s != i) = true) (hQ : ∀ c a w, Q (.panic c) (a.put o.dst v) w → Q (.panic c) a w) (hS : S (l.getD s false) w) (hy : ∀ w, (execOp a.eval o).run P w = .ok (.value v) w) (hw : Region.wanted o (yielded ops a.tmps) = true)
    (hb : (!(l.getD s false) || !(Region.waitsFor md ops s i)) = true) (h : Till P md ops Q s S f (l.setIfInBounds i true) (a.put (some d) v) w) : Till P md ops Q s S (f + 1) l a w := by
  rw [← hd] at h
  refine Till.first (G := fun _ => True) hi hsel (by simpa using hn) hQ (fun _ _ _ _ => trivial) f l a w (Region.free_spec hi hf) (by simpa using hr) (fun q => ?_) (.inl ⟨hw, fun w _ => hy w⟩) hS h
  rw [q] at hb
  simpa using hb
/-- one that yields in any world where either condition holds -/
theorem Till.read {i : Nat} {d : Tmp} {o : Oper} {v : Value} {f : Nat} {l : Array Bool} {a : Act} {w : World} {G : World → Prop} (hG : ∀ b w, S b w → G w) (hi : ops[i]? = some o) (hd : o.dst = some d) (hsel : Region.noSelect ops = true) (hf : Region.free md ops l i = true) (hr : (Region.ready md ops l).contains i = true)
    (hn : (s != i) = true) (hQ : ∀ c a w, Q (.panic c) (a.put o.dst v) w → Q (.panic c) a w) (hS : S (l.getD s false) w) (hy : ∀ w, G w → (execOp a.eval o).run P w = .ok (.value v) w) (hw : Region.wanted o (yielded ops a.tmps) = true)
    (hb : (!(l.getD s false) || !(Region.waitsFor md ops s i)) = true) (h : Till P md ops Q s S f (l.setIfInBounds i true) (a.put (some d) v) w) : Till P md ops Q s S (f + 1) l a w := by
  rw [← hd] at h
  refine Till.first (G := G) hi hsel (by simpa using hn) hQ (fun b w' hb _ => hG b w' hb) f l a w (Region.free_spec hi hf) (by simpa using hr) (fun q => ?_) (.inl ⟨hw, hy⟩) hS h
  rw [q] at hb
  simpa using hb
/-- one that alone may come up -/
theorem Till.only {i : Nat} {o : Oper} {f : Nat} {l : Array Bool} {a : Act} {w : World} (b : Bool) (hi : ops[i]? = some o) (hr : Region.ready md ops l = [i]) (hw : Region.wanted o (yielded ops a.tmps) = true) (hb : (l.setIfInBounds i true).getD s false = b)
    (h : ∀ K : Act → World → Prop, Hid (∀ a' w', S b w' → Till P md ops Q s S f (l.setIfInBounds i true) a' w' → K a' w') → Oper.wp P o a w K Q) : Till P md ops Q s S (f + 1) l a w := by
  refine ⟨fun e => (by rw [e] at hr; cases hr), fun j hj => ?_⟩
  rw [hr] at hj
  have : j = i := by simpa using hj
  subst this
  unfold wpOp
  simp only [hi, hw, if_true]
  exact .inl (h _ (fun a' w' h1 h2 => ⟨hb ▸ h1, h2⟩))
theorem Till.done {l : Array Bool} {a : Act} {w : World} (hr : Region.ready md ops l = []) (h : Q .normal a w) : ∀ f, Till P md ops Q s S f l a w
  | 0 => ⟨hr, h⟩
  | _ + 1 => ⟨fun _ => h, by rw [hr]; simp⟩
/-- one that does not come up, since its guard says so -/
theorem Till.skip {i : Nat} {d : Tmp} {o : Oper} {f : Nat} {l : Array Bool} {a : Act} {w : World} (hi : ops[i]? = some o) (hd : o.dst = some d) (hsel : Region.noSelect ops = true) (hf : Region.free md ops l i = true) (hr : (Region.ready md ops l).contains i = true)
    (hn : (s != i) = true) (hQ : ∀ c a w, Q (.panic c) (a.put o.dst undef) w → Q (.panic c) a w) (hS : S (l.getD s false) w) (hw : Region.wanted o (yielded ops a.tmps) = false)
    (hb : (!(l.getD s false) || !(Region.waitsFor md ops s i)) = true) (h : Till P md ops Q s S f (l.setIfInBounds i true) (a.put (some d) undef) w) : Till P md ops Q s S (f + 1) l a w := by
  rw [← hd] at h
  refine Till.first (G := fun _ => True) hi hsel (by simpa using hn) hQ (fun _ _ _ _ => trivial) f l a w (Region.free_spec hi hf) (by simpa using hr) (fun q => ?_) (.inr ⟨hw, rfl⟩) hS h
  rw [q] at hb
  simpa using hb
theorem Till.region {id : Nat} {a : Act} {w : World} (hm : P.follows .mixedOrders = true) (h : Till P .any ops Q s S ops.size (Array.replicate ops.size false) a w.drew) : (Code.region id ops true).wp P Q a w :=
  wp_region_any hm (Till.any _ _ _ _ h)
end
/-- a condition that is asked till the store has come up -/
def TillS (p : World → Prop) (b : Bool) (w : World) : Prop := b = false → p w
theorem tillS_true (p : World → Prop) (w : World) : TillS p true w := fun h => by cases h
theorem tillS (p : World → Prop) (w : World) (h : p w) : TillS p false w := fun _ => h
end Go.Proofs.YtlejohclijjhnaaGreatDoor
namespace Go.Proofs.YtlejohclijjhnaaGreatDoor.Fm
open Go.RowKit Ti Qd Go.Maps Go.WideMaps Ru

/-- a list of frames that can be loaded -/
structure Ldb (b l : Nat) (L : List Sq) (us : List FH) : Prop where
  pos : 0 < us.length
  le : us.length ≤ 40
  ok : ∀ i (hi : i < us.length), ∃ n, FOk b l L us[i].1 n
  fol : ∀ i (hi : i + 1 < us.length), Fol L us[i].1 us[i + 1].1
theorem liesf_at {w : World} {ao : Option Addr} {us : List FH} (h : LiesF w ao us) (i : Nat) (hi : i < us.length) : ∃ bb off, ao = some ⟨bb, off, none⟩ ∧ w.cell? ⟨bb, off + i * 4, none⟩ = some (.int .i64 us[i].1.id) ∧ w.cell? ⟨bb, off + i * 4 + 1, none⟩ = some (.int .i64 us[i].1.j) ∧ w.cell? ⟨bb, off + i * 4 + 2, none⟩ = some (.int .i64 us[i].1.st) ∧ w.cell? ⟨bb, off + i * 4 + 3, none⟩ = some us[i].2 := by
  obtain ⟨bb, off, e, hc⟩ := h i hi
  exact ⟨bb, off, e, hc 0 (by decide), hc 1 (by decide), hc 2 (by decide), hc 3 (by decide)⟩
set_option maxRecDepth 100000 in
set_option maxHeartbeats 4000000 in
theorem canStand_f {B : Nat} {w : World} {P b l : Nat} {L : List Sq} {room : Nat} {Hs : Nat → Prop} {G : Nat} (hst : St B w P L room Hs) (hc : w.cell? ⟨G, 0, none⟩ = some (.pointer (some ⟨P, 0, none⟩))) (ao : Option Addr) (cap : Nat) (us : List FH) (hl : LiesF w ao us) (hg : ∀ x ∈ us, LiesI w x.2 x.1.got) (hd : Ldb b l L us) :
    Calls Tryz.prog 28 #[.pointer (some ⟨G, 0, none⟩), .slice ao us.length cap] w fun e w' => e = .returned (.bool true) ∧ Below w.heap.size w w' := by
  have HL := Lib.hid hl
  have HCB := Lib.hid (fun (W : World) (hW : Below w.heap.size w W) (i : Nat) (hi : i < us.length) => show Calls Tryz.prog 45 #[.pointer (some ⟨G, 0, none⟩), .agg #[.int .i64 us[i].1.id, .int .i64 us[i].1.j, .int .i64 us[i].1.st, us[i].2]] W fun e w' => e = .returned (.bool true) ∧ Below W.heap.size W w' from by
    obtain ⟨n, hf⟩ := hd.ok i hi
    exact canBe_f (hst.bel hW) (cell_bel hc hW) us[i].1 us[i].2 n hf ((hg _ (List.getElem_mem hi)).bel hW))
  have HFB := Lib.hid (fun (W : World) (hW : Below w.heap.size w W) (i : Nat) (hi : i + 1 < us.length) => show Calls Tryz.prog 46 #[.pointer (some ⟨G, 0, none⟩), .agg #[.int .i64 us[i].1.id, .int .i64 us[i].1.j, .int .i64 us[i].1.st, us[i].2], .agg #[.int .i64 us[i + 1].1.id, .int .i64 us[i + 1].1.j, .int .i64 us[i + 1].1.st, us[i + 1].2]] W fun e w' => e = .returned (.bool true) ∧ Below W.heap.size W w' from by
    obtain ⟨n, hf⟩ := hd.ok i (by omega)
    obtain ⟨m, hf2⟩ := hd.ok (i + 1) hi
    exact follows_f (hst.bel hW) (cell_bel hc hW) us[i].1 us[i + 1].1 us[i].2 us[i + 1].2 n m hf ((hg _ (List.getElem_mem (by omega))).bel hW) ((hg _ (List.getElem_mem hi)).bel hW) (hd.fol i hi) hf2.lv)
  have HSL := Lib.hid (fun i (hi : i < us.length) => show ∃ a n c, us[i].2 = .slice a n c from by
    obtain ⟨a, c, e, _⟩ := hg _ (List.getElem_mem hi)
    exact ⟨a, _, c, e⟩)
  have hp := hd.pos
  have hle := hd.le
  clear hst hc hl hg hd
  have HN := Lib.hid (show us.length = us.length from rfl)
  obtain ⟨n, hn⟩ : ∃ n, n = us.length := ⟨_, rfl⟩
  have HNN := Lib.hid hn
  rw [← hn] at hp hle ⊢
  have hn0 : ((n : Int) == 0) = false := by rw [beq_eq_false_iff_ne]; omega
  have hn1 : decide ((40 : Int) < (n : Int)) = false := decide_eq_false (by omega)
  have hn2 : ¬ (40 : Int) < (n : Int) := by omega
  clear hn HN
  have HB0 := Lib.hid (Below.refl w.heap.size w)
  go_enter Tryz.func28, Tryz.ntmps28
  go_wp2
  go_loopw [17] (fun v wr => ∃ i : Nat, i ≤ n ∧ v = .int .i64 (i : Int) ∧ Hid (Below w.heap.size w wr)) (fun v _ => n - (intOf v).toNat)
  case atStart => exact ⟨0, Nat.zero_le _, rfl, HB0⟩
  case round =>
    clear HB0
    obtain ⟨i, hi, rfl, HR⟩ := hrel
    by_cases hlt : i < n
    · have hiu : i < us.length := by rw [← HNN.out]; exact hlt
      obtain ⟨bb, off, rfl, d0, d1, d2, d3⟩ := liesf_at (HL.out.bel HR.out) i hiu
      obtain ⟨sa, sn, sc, hsl⟩ := HSL.out i hiu
      have hin : (i : Int) < (n : Int) := by omega
      have hi0 : (0 : Int) ≤ (i : Int) := by omega
      have hi64 : (i : Int) ≤ 40 := by omega
      cases i with
      | zero =>
        have HC1 := Lib.hid (fun W hW => HCB.out W hW 0 hiu)
        rw [show ((0 : Nat) : Int) = (0 : Int) from rfl]
        simp only [Nat.zero_mul, Nat.add_zero] at d0 d1 d2 d3
        have hp0 : (0 : Int) < (n : Int) := by omega
        obtain ⟨⟨⟨fid, fj, fst, fgot⟩, fh⟩, hF⟩ : ∃ F, F = us[0] := ⟨_, rfl⟩
        rw [← hF] at d0 d1 d2 d3 HC1 hsl
        clear hF
        simp only at hsl
        subst hsl
        have HW := Lib.hid (show Below w.heap.size w (wr.alloc (.cells #[.int .i64 fid, .int .i64 fj, .int .i64 fst, .slice sa sn sc] 47)) ∧ (wr.alloc (.cells #[.int .i64 fid, .int .i64 fj, .int .i64 fst, .slice sa sn sc] 47)).heap[wr.heap.size]? = some (.cells #[.int .i64 fid, .int .i64 fj, .int .i64 fst, .slice sa sn sc] 47) from ⟨HR.out.trans ((alX wr _).mono HR.out.size), heap_alloc_new wr _⟩)
        have HBD := Lib.hid (show Below w.heap.size w (wr.alloc (.cells #[.int .i64 fid, .int .i64 fj, .int .i64 fst, .slice sa sn sc] 47)).drew from HW.out.1.drew)
        have SK : ∀ (W W' : World), ((W.cell? ⟨wr.heap.size, 0, none⟩ = some (.int .i64 fid) ∧ W.cell? ⟨wr.heap.size, 1, none⟩ = some (.int .i64 fj) ∧ W.cell? ⟨wr.heap.size, 2, none⟩ = some (.int .i64 fst) ∧ W.cell? ⟨wr.heap.size, 3, none⟩ = some (.slice sa sn sc))) → Below W.heap.size W W' → ((W'.cell? ⟨wr.heap.size, 0, none⟩ = some (.int .i64 fid) ∧ W'.cell? ⟨wr.heap.size, 1, none⟩ = some (.int .i64 fj) ∧ W'.cell? ⟨wr.heap.size, 2, none⟩ = some (.int .i64 fst) ∧ W'.cell? ⟨wr.heap.size, 3, none⟩ = some (.slice sa sn sc))) := fun W W' h k => ⟨cell_bel h.1 k, cell_bel h.2.1 k, cell_bel h.2.2.1 k, cell_bel h.2.2.2 k⟩
        have KD := Lib.hid (show ((wr.alloc (.cells #[.int .i64 fid, .int .i64 fj, .int .i64 fst, .slice sa sn sc] 47)).drew.cell? ⟨wr.heap.size, 0, none⟩ = some (.int .i64 fid) ∧ (wr.alloc (.cells #[.int .i64 fid, .int .i64 fj, .int .i64 fst, .slice sa sn sc] 47)).drew.cell? ⟨wr.heap.size, 1, none⟩ = some (.int .i64 fj) ∧ (wr.alloc (.cells #[.int .i64 fid, .int .i64 fj, .int .i64 fst, .slice sa sn sc] 47)).drew.cell? ⟨wr.heap.size, 2, none⟩ = some (.int .i64 fst) ∧ (wr.alloc (.cells #[.int .i64 fid, .int .i64 fj, .int .i64 fst, .slice sa sn sc] 47)).drew.cell? ⟨wr.heap.size, 3, none⟩ = some (.slice sa sn sc)) from row4 HW.out.2)
        have HSK := Lib.hid SK
        clear SK
        go_upto_region 6 with (fail)
        clear d0 d1 d2 d3
        have hS0 := KD.out
        refine Till.region (s := 19) (S := fun _ w' => w'.cell? ⟨wr.heap.size, 0, none⟩ = some (.int .i64 fid) ∧ w'.cell? ⟨wr.heap.size, 1, none⟩ = some (.int .i64 fj) ∧ w'.cell? ⟨wr.heap.size, 2, none⟩ = some (.int .i64 fst) ∧ w'.cell? ⟨wr.heap.size, 3, none⟩ = some (.slice sa sn sc)) (by kernel_rfl) ?_
        simp only [List.size_toArray, List.length_cons, List.length_nil]
        refine Till.move (i := 0) (d := 22) (v := ?_) rfl rfl (by kernel_rfl) (by kernel_rfl) (by kernel_rfl) (by kernel_rfl) (fun _ _ _ h => h) hS0 ?_ (by rfl) (by kernel_rfl) ?_
        rotate_left 1
        · intro w
          go_simp
          try with_reducible rfl
        dsimp only [Act.put]
        simp only [List.setIfInBounds_toArray, List.set_cons_zero, List.set_cons_succ]
        refine Till.read (i := 1) (d := 23) (v := ?_) (G := fun w' => w'.cell? ⟨wr.heap.size, 0, none⟩ = some (.int .i64 fid) ∧ w'.cell? ⟨wr.heap.size, 1, none⟩ = some (.int .i64 fj) ∧ w'.cell? ⟨wr.heap.size, 2, none⟩ = some (.int .i64 fst) ∧ w'.cell? ⟨wr.heap.size, 3, none⟩ = some (.slice sa sn sc)) (fun _ _ h => h) rfl rfl (by kernel_rfl) (by kernel_rfl) (by kernel_rfl) (by kernel_rfl) (fun _ _ _ h => h) hS0 ?_ (by rfl) (by kernel_rfl) ?_
        rotate_left 1
        · intro w' hx
          obtain ⟨x0, x1, x2, x3⟩ := hx
          go_simp
          try with_reducible rfl
        dsimp only [Act.put]
        simp only [List.setIfInBounds_toArray, List.set_cons_zero, List.set_cons_succ]
        refine Till.only false (i := 2) rfl (by kernel_rfl) (by rfl) (by kernel_rfl) fun K hK => ?_
        go_simp
        refine (HC1.out _ HBD.out).mono ?_
        rintro e w2 ⟨rfl, hb⟩
        have hS1 := HSK.out _ _ KD.out hb
        have HR2 := Lib.hid (HBD.out.trans (hb.mono HBD.out.size))
        clear hb
        refine hK.out _ _ hS1 ?_
        clear hK K
        refine Till.move (i := 3) (d := 25) (v := ?_) rfl rfl (by kernel_rfl) (by kernel_rfl) (by kernel_rfl) (by kernel_rfl) (fun _ _ _ h => h) hS1 ?_ (by rfl) (by kernel_rfl) ?_
        rotate_left 1
        · intro w
          go_simp
          try with_reducible rfl
        dsimp only [Act.put]
        simp only [List.setIfInBounds_toArray, List.set_cons_zero, List.set_cons_succ]
        refine Till.move (i := 4) (d := 26) (v := ?_) rfl rfl (by kernel_rfl) (by kernel_rfl) (by kernel_rfl) (by kernel_rfl) (fun _ _ _ h => h) hS1 ?_ (by rfl) (by kernel_rfl) ?_
        rotate_left 1
        · intro w
          go_simp
          try with_reducible rfl
        dsimp only [Act.put]
        simp only [List.setIfInBounds_toArray, List.set_cons_zero, List.set_cons_succ]
        refine Till.move (i := 5) (d := 27) (v := ?_) rfl rfl (by kernel_rfl) (by kernel_rfl) (by kernel_rfl) (by kernel_rfl) (fun _ _ _ h => h) hS1 ?_ (by rfl) (by kernel_rfl) ?_
        rotate_left 1
        · intro w
          go_simp
          try with_reducible rfl
        dsimp only [Act.put]
        simp only [List.setIfInBounds_toArray, List.set_cons_zero, List.set_cons_succ]
        refine Till.move (i := 6) (d := 28) (v := ?_) rfl rfl (by kernel_rfl) (by kernel_rfl) (by kernel_rfl) (by kernel_rfl) (fun _ _ _ h => h) hS1 ?_ (by rfl) (by kernel_rfl) ?_
        rotate_left 1
        · intro w
          go_simp
          try with_reducible rfl
        dsimp only [Act.put]
        simp only [List.setIfInBounds_toArray, List.set_cons_zero, List.set_cons_succ]
        refine Till.move (i := 7) (d := 29) (v := ?_) rfl rfl (by kernel_rfl) (by kernel_rfl) (by kernel_rfl) (by kernel_rfl) (fun _ _ _ h => h) hS1 ?_ (by rfl) (by kernel_rfl) ?_
        rotate_left 1
        · intro w
          go_simp
          try with_reducible rfl
        dsimp only [Act.put]
        simp only [List.setIfInBounds_toArray, List.set_cons_zero, List.set_cons_succ]
        refine Till.skip (i := 8) (d := 30) rfl rfl (by kernel_rfl) (by kernel_rfl) (by kernel_rfl) (by kernel_rfl) (fun _ _ _ h => h) hS1 (by rfl) (by kernel_rfl) ?_
        dsimp only [Act.put]
        simp only [List.setIfInBounds_toArray, List.set_cons_zero, List.set_cons_succ]
        refine Till.skip (i := 9) (d := 31) rfl rfl (by kernel_rfl) (by kernel_rfl) (by kernel_rfl) (by kernel_rfl) (fun _ _ _ h => h) hS1 (by rfl) (by kernel_rfl) ?_
        dsimp only [Act.put]
        simp only [List.setIfInBounds_toArray, List.set_cons_zero, List.set_cons_succ]
        refine Till.skip (i := 10) (d := 32) rfl rfl (by kernel_rfl) (by kernel_rfl) (by kernel_rfl) (by kernel_rfl) (fun _ _ _ h => h) hS1 (by rfl) (by kernel_rfl) ?_
        dsimp only [Act.put]
        simp only [List.setIfInBounds_toArray, List.set_cons_zero, List.set_cons_succ]
        refine Till.skip (i := 11) (d := 33) rfl rfl (by kernel_rfl) (by kernel_rfl) (by kernel_rfl) (by kernel_rfl) (fun _ _ _ h => h) hS1 (by rfl) (by kernel_rfl) ?_
        dsimp only [Act.put]
        simp only [List.setIfInBounds_toArray, List.set_cons_zero, List.set_cons_succ]
        refine Till.skip (i := 12) (d := 34) rfl rfl (by kernel_rfl) (by kernel_rfl) (by kernel_rfl) (by kernel_rfl) (fun _ _ _ h => h) hS1 (by rfl) (by kernel_rfl) ?_
        dsimp only [Act.put]
        simp only [List.setIfInBounds_toArray, List.set_cons_zero, List.set_cons_succ]
        refine Till.skip (i := 13) (d := 35) rfl rfl (by kernel_rfl) (by kernel_rfl) (by kernel_rfl) (by kernel_rfl) (fun _ _ _ h => h) hS1 (by rfl) (by kernel_rfl) ?_
        dsimp only [Act.put]
        simp only [List.setIfInBounds_toArray, List.set_cons_zero, List.set_cons_succ]
        refine Till.skip (i := 14) (d := 36) rfl rfl (by kernel_rfl) (by kernel_rfl) (by kernel_rfl) (by kernel_rfl) (fun _ _ _ h => h) hS1 (by rfl) (by kernel_rfl) ?_
        dsimp only [Act.put]
        simp only [List.setIfInBounds_toArray, List.set_cons_zero, List.set_cons_succ]
        refine Till.skip (i := 15) (d := 37) rfl rfl (by kernel_rfl) (by kernel_rfl) (by kernel_rfl) (by kernel_rfl) (fun _ _ _ h => h) hS1 (by rfl) (by kernel_rfl) ?_
        dsimp only [Act.put]
        simp only [List.setIfInBounds_toArray, List.set_cons_zero, List.set_cons_succ]
        refine Till.skip (i := 16) (d := 38) rfl rfl (by kernel_rfl) (by kernel_rfl) (by kernel_rfl) (by kernel_rfl) (fun _ _ _ h => h) hS1 (by rfl) (by kernel_rfl) ?_
        dsimp only [Act.put]
        simp only [List.setIfInBounds_toArray, List.set_cons_zero, List.set_cons_succ]
        refine Till.move (i := 17) (d := 39) (v := ?_) rfl rfl (by kernel_rfl) (by kernel_rfl) (by kernel_rfl) (by kernel_rfl) (fun _ _ _ h => h) hS1 ?_ (by rfl) (by kernel_rfl) ?_
        rotate_left 1
        · intro w
          go_simp
          try with_reducible rfl
        dsimp only [Act.put]
        simp only [List.setIfInBounds_toArray, List.set_cons_zero, List.set_cons_succ]
        refine Till.move (i := 18) (d := 40) (v := ?_) rfl rfl (by kernel_rfl) (by kernel_rfl) (by kernel_rfl) (by kernel_rfl) (fun _ _ _ h => h) hS1 ?_ (by rfl) (by kernel_rfl) ?_
        rotate_left 1
        · intro w
          go_simp
          try with_reducible rfl
        dsimp only [Act.put]
        simp only [List.setIfInBounds_toArray, List.set_cons_zero, List.set_cons_succ]
        refine Till.done (by kernel_rfl) ?_ _
        go_wp2
        go_roundw
        case rel => exact ⟨0 + 1, by omega, by go_num, HR2⟩
        case measure => simp [intOf]; omega
      | succ q =>
        have HC1 := Lib.hid (fun W hW => HCB.out W hW (q + 1) hiu)
        have hq0 : q < us.length := by omega
        have HF1 := Lib.hid (fun W hW => HFB.out W hW q hiu)
        obtain ⟨b2, of2, eb, c0, c1, c2, c3⟩ := liesf_at (HL.out.bel HR.out) q hq0
        obtain ⟨ta, tn, tc, htl⟩ := HSL.out q hq0
        injection eb with eb
        injection eb with eb1 eb2
        subst eb1 eb2
        obtain ⟨⟨⟨gid, gj, gst, ggot⟩, gh⟩, hG⟩ : ∃ F, F = us[q] := ⟨_, rfl⟩
        rw [← hG] at c0 c1 c2 c3 HF1 htl
        clear hG
        obtain ⟨⟨⟨fid, fj, fst, fgot⟩, fh⟩, hF⟩ : ∃ F, F = us[(q + 1)] := ⟨_, rfl⟩
        rw [← hF] at d0 d1 d2 d3 HC1 hsl
        rw [← hF] at HF1
        simp only at htl
        subst htl
        have e1 : IntKind.i64.wrap (((q + 1 : Nat) : Int) - 1) = (q : Int) := by
          rw [show ((q + 1 : Nat) : Int) - 1 = (q : Int) by omega]
          exact IntWalk.i64_in _ (by omega)
        have e4 : IntKind.i64.wrap (q : Int) = (q : Int) := IntWalk.i64_in _ (by omega)
        have e5 : ((q : Int)).toNat = q := by omega
        have e2 : (0 : Int) ≤ (q : Int) := by omega
        have e3 : (q : Int) < (n : Int) := by omega
        have e6 : (0 : Int) < ((q + 1 : Nat) : Int) := by omega
        clear hF
        simp only at hsl
        subst hsl
        have HW := Lib.hid (show Below w.heap.size w (wr.alloc (.cells #[.int .i64 fid, .int .i64 fj, .int .i64 fst, .slice sa sn sc] 47)) ∧ (wr.alloc (.cells #[.int .i64 fid, .int .i64 fj, .int .i64 fst, .slice sa sn sc] 47)).heap[wr.heap.size]? = some (.cells #[.int .i64 fid, .int .i64 fj, .int .i64 fst, .slice sa sn sc] 47) from ⟨HR.out.trans ((alX wr _).mono HR.out.size), heap_alloc_new wr _⟩)
        have HBD := Lib.hid (show Below w.heap.size w (wr.alloc (.cells #[.int .i64 fid, .int .i64 fj, .int .i64 fst, .slice sa sn sc] 47)).drew from HW.out.1.drew)
        have SK : ∀ (W W' : World), ((W.cell? ⟨wr.heap.size, 0, none⟩ = some (.int .i64 fid) ∧ W.cell? ⟨wr.heap.size, 1, none⟩ = some (.int .i64 fj) ∧ W.cell? ⟨wr.heap.size, 2, none⟩ = some (.int .i64 fst) ∧ W.cell? ⟨wr.heap.size, 3, none⟩ = some (.slice sa sn sc)) ∧ (W.cell? ⟨bb, off + q * 4, none⟩ = some (.int .i64 gid) ∧ W.cell? ⟨bb, off + q * 4 + 1, none⟩ = some (.int .i64 gj) ∧ W.cell? ⟨bb, off + q * 4 + 2, none⟩ = some (.int .i64 gst) ∧ W.cell? ⟨bb, off + q * 4 + 3, none⟩ = some (.slice ta tn tc))) → Below W.heap.size W W' → ((W'.cell? ⟨wr.heap.size, 0, none⟩ = some (.int .i64 fid) ∧ W'.cell? ⟨wr.heap.size, 1, none⟩ = some (.int .i64 fj) ∧ W'.cell? ⟨wr.heap.size, 2, none⟩ = some (.int .i64 fst) ∧ W'.cell? ⟨wr.heap.size, 3, none⟩ = some (.slice sa sn sc)) ∧ (W'.cell? ⟨bb, off + q * 4, none⟩ = some (.int .i64 gid) ∧ W'.cell? ⟨bb, off + q * 4 + 1, none⟩ = some (.int .i64 gj) ∧ W'.cell? ⟨bb, off + q * 4 + 2, none⟩ = some (.int .i64 gst) ∧ W'.cell? ⟨bb, off + q * 4 + 3, none⟩ = some (.slice ta tn tc))) := fun W W' h k => ⟨⟨cell_bel h.1.1 k, cell_bel h.1.2.1 k, cell_bel h.1.2.2.1 k, cell_bel h.1.2.2.2 k⟩, cell_bel h.2.1 k, cell_bel h.2.2.1 k, cell_bel h.2.2.2.1 k, cell_bel h.2.2.2.2 k⟩
        have KD := Lib.hid (show ((wr.alloc (.cells #[.int .i64 fid, .int .i64 fj, .int .i64 fst, .slice sa sn sc] 47)).drew.cell? ⟨wr.heap.size, 0, none⟩ = some (.int .i64 fid) ∧ (wr.alloc (.cells #[.int .i64 fid, .int .i64 fj, .int .i64 fst, .slice sa sn sc] 47)).drew.cell? ⟨wr.heap.size, 1, none⟩ = some (.int .i64 fj) ∧ (wr.alloc (.cells #[.int .i64 fid, .int .i64 fj, .int .i64 fst, .slice sa sn sc] 47)).drew.cell? ⟨wr.heap.size, 2, none⟩ = some (.int .i64 fst) ∧ (wr.alloc (.cells #[.int .i64 fid, .int .i64 fj, .int .i64 fst, .slice sa sn sc] 47)).drew.cell? ⟨wr.heap.size, 3, none⟩ = some (.slice sa sn sc)) ∧ ((wr.alloc (.cells #[.int .i64 fid, .int .i64 fj, .int .i64 fst, .slice sa sn sc] 47)).drew.cell? ⟨bb, off + q * 4, none⟩ = some (.int .i64 gid) ∧ (wr.alloc (.cells #[.int .i64 fid, .int .i64 fj, .int .i64 fst, .slice sa sn sc] 47)).drew.cell? ⟨bb, off + q * 4 + 1, none⟩ = some (.int .i64 gj) ∧ (wr.alloc (.cells #[.int .i64 fid, .int .i64 fj, .int .i64 fst, .slice sa sn sc] 47)).drew.cell? ⟨bb, off + q * 4 + 2, none⟩ = some (.int .i64 gst) ∧ (wr.alloc (.cells #[.int .i64 fid, .int .i64 fj, .int .i64 fst, .slice sa sn sc] 47)).drew.cell? ⟨bb, off + q * 4 + 3, none⟩ = some (.slice ta tn tc)) from ⟨row4 HW.out.2, cell_al _ c0, cell_al _ c1, cell_al _ c2, cell_al _ c3⟩)
        have HSK := Lib.hid SK
        clear SK
        go_upto_region 6 with (fail)
        clear d0 d1 d2 d3 c0 c1 c2 c3
        go_region_held3 (fun w' => (w'.cell? ⟨wr.heap.size, 0, none⟩ = some (.int .i64 fid) ∧ w'.cell? ⟨wr.heap.size, 1, none⟩ = some (.int .i64 fj) ∧ w'.cell? ⟨wr.heap.size, 2, none⟩ = some (.int .i64 fst) ∧ w'.cell? ⟨wr.heap.size, 3, none⟩ = some (.slice sa sn sc)) ∧ (w'.cell? ⟨bb, off + q * 4, none⟩ = some (.int .i64 gid) ∧ w'.cell? ⟨bb, off + q * 4 + 1, none⟩ = some (.int .i64 gj) ∧ w'.cell? ⟨bb, off + q * 4 + 2, none⟩ = some (.int .i64 gst) ∧ w'.cell? ⟨bb, off + q * 4 + 3, none⟩ = some (.slice ta tn tc))) (first | with_reducible exact KD.out | with_reducible exact ks2 | with_reducible exact ks)
          (first
            | (go_at_call 45; refine (HC1.out _ HBD.out).mono ?_; rintro e w2 ⟨rfl, hb⟩; have ks := HSK.out _ _ KD.out hb; have HR2 := Lib.hid (HBD.out.trans (hb.mono HBD.out.size)); clear hb)
            | (go_at_call 46; refine (HF1.out _ HR2.out).mono ?_; rintro e w3 ⟨rfl, hb⟩; have ks2 := HSK.out _ _ ks hb; have HR3 := Lib.hid (HR2.out.trans (hb.mono HR2.out.size)); clear hb))
        go_wp2
        go_roundw
        case rel => exact ⟨(q + 1) + 1, by omega, by go_num, HR3⟩
        case measure => simp [intOf]; omega
    · obtain rfl : i = n := by omega
      go_wp2
      go_ret
      exact ⟨rfl, HR.out⟩
end Go.Proofs.YtlejohclijjhnaaGreatDoor.Fm
namespace Go.Proofs.YtlejohclijjhnaaGreatDoor.Fm
open Go.RowKit Ti Qd Go.Maps Go.WideMaps Ru

set_option maxRecDepth 100000 in
set_option maxHeartbeats 4000000 in
theorem load_f {B P room b l G M : Nat} {s : MS} {w : World} {H : Nat → Prop} (h : Mc B P room b l G M s w H) (hB : B ≤ w.heap.size) (hu : s.U = []) (ao : Option Addr) (cap : Nat) (us : List FH) (hl : LiesF w ao us) (hg : ∀ x ∈ us, LiesI w x.2 x.1.got ∧ x.1.got.length ≤ 1000 ∧ (x.1.got = [] → x.2 = .slice none 0 0)) (hd : Ldb b l s.L us) :
    Calls Tryz.prog 13 #[.pointer (some ⟨G, 0, none⟩), .slice ao us.length cap] w fun e w' => e = .returned .nilIface ∧ Goz (Mc B P room b l G M ⟨s.L, s.K, (us.map Prod.fst).reverse, 0⟩) w H w' := by
  obtain ⟨a3, p3, c3, _, _⟩ := h.under
  rw [hu] at c3
  have c3 : w.cell? ⟨G, 3, none⟩ = some (.slice a3 0 p3) := c3
  obtain ⟨Hs, k1, _⟩ := h.store
  have HCS := Lib.hid (canStand_f k1 h.cells.1 ao cap us hl (fun x hx => (hg x hx).1) hd)
  have HCP := Lib.hid (fun (W : World) (hW : Below w.heap.size w W) => copied_f ao cap us W (hl.bel hW) (fun x hx => ⟨(hg x hx).1.bel hW, (hg x hx).2⟩) (by have := hd.le; omega))
  have HH := Lib.hid h
  have HB := Lib.hid hB
  clear h hB hu k1 hl hg hd
  generalize hn : us.length = n at *
  have HN := Lib.hid hn
  clear hn
  go_enter Tryz.func13, Tryz.ntmps13
  go_wp2_with fail
  refine HCS.out.mono ?_
  rintro e w1 ⟨rfl, hb1⟩
  have HB1 := Lib.hid hb1
  have HC1 := Lib.hid (HCP.out w1 hb1)
  clear hb1 c3 HCS HCP
  go_wp2_with fail
  refine HC1.out.mono ?_
  rintro e w2 ⟨a2, c2, nw, rfl, q1, q2, q3, q4, q5, q6⟩
  have q2' := q2
  rw [HN.out]
  have hlen : nw.length = n := by
    have := congrArg List.length q1
    simp only [List.length_map] at this
    rw [this, HN.out]
  have hST := start_f HH.out (ao := a2) (n := n) (cap := c2) (us' := nw) ((us.map Prod.fst).reverse) (HB1.out.trans (q6.mono HB1.out.size)) (by rw [HN.out] at q2; unfold OwnF at q2 ⊢; rw [hlen] at q2 ⊢; exact own_mono q2 HB1.out.size) (fun x hx => own_mono (q3 x hx) HB1.out.size) (by rw [HN.out] at q4; exact q4) q5 (by rw [q1, List.reverse_reverse]) HB.out
  have HST := Lib.hid hST
  clear hST q1 q2 q2' q3 q4 q5 q6 hlen HC1
  go_wp2_with fail
  refine HST.out.mono ?_
  rintro e w3 ⟨rfl, hg3⟩
  have HG3 := Lib.hid hg3
  clear hg3 HST
  go_wp2
  go_ret
  exact ⟨rfl, HG3.out⟩
end Go.Proofs.YtlejohclijjhnaaGreatDoor.Fm

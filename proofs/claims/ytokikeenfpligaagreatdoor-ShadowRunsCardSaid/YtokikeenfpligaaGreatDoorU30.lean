/-
  WHICH SECTORS ARE FREE, in memory: the walks of the shadow's space. Conditions: those that each lemma names.
  THE DISK's PENDING. Conditions: those that each lemma names.
  WHICH SECTORS ARE FREE, in memory: the walks of lowest, clear and spaceOf. Conditions: those that each lemma names.
-/
import Derived.Lib.SliceRun
import Derived.Laws.IdiomCopy
import Derived.Test.YtokikeenfpligaaGreatDoorU29
import Derived.Test.YtokikeenfpligaaGreatDoorU19
namespace Go.Proofs.YtokikeenfpligaaGreatDoor.Sh
open Go.RowKit Go.Maps

/-- some blocks are written in place -/
structure Wrt (H : Nat → Prop) (w w' : World) : Prop where
  os : w'.os = w.os
  tape : w'.tape = w.tape
  output : w'.output = w.output
  size : w'.heap.size = w.heap.size
  block : ∀ b, ¬ H b → w'.heap[b]? = w.heap[b]?
theorem Wrt.refl (H : Nat → Prop) (w : World) : Wrt H w w := ⟨rfl, rfl, rfl, rfl, fun _ _ => rfl⟩
theorem Wrt.set {H : Nat → Prop} {w w' : World} (h : Wrt H w w') {g : Nat} (hg : H g) (o : Nat) (v : Value) : Wrt H w (w'.setCell ⟨g, o, none⟩ v) :=
  ⟨h.os, h.tape, h.output, by rw [World.size_setCell]; exact h.size, fun b hb => (Below.heap_setCell _ _ _ _ (fun e => hb (by have e2 : b = g := e; rw [e2]; exact hg))).trans (h.block b hb)⟩
theorem Wrt.trans {H : Nat → Prop} {a b c : World} (h : Wrt H a b) (k : Wrt H b c) : Wrt H a c :=
  ⟨k.os.trans h.os, k.tape.trans h.tape, k.output.trans h.output, k.size.trans h.size, fun i hi => (k.block i hi).trans (h.block i hi)⟩
theorem Wrt.stp {H : Nat → Prop} {w w' : World} (h : Wrt H w w') : Stp w H w' H := ⟨h.os, h.tape, h.output, Nat.le_of_eq h.size.symm, fun k _ hk => h.block k hk, fun _ q => .inl q⟩
theorem Wrt.drewN {H : Nat → Prop} {w w' : World} (h : Wrt H w w') (n : Nat) : Wrt H w (w'.drewN n) := ⟨h.os, h.tape, h.output, h.size, h.block⟩
theorem Wrt.drew {H : Nat → Prop} {w w' : World} (h : Wrt H w w') : Wrt H w w'.drew := ⟨h.os, h.tape, h.output, h.size, h.block⟩
def spH (G T b : Nat) : Prop := b = G ∨ b = T
structure SpAt (w : World) (G T : Nat) (S : Spc) : Prop where
  c0 : w.cell? ⟨G, 0, none⟩ = some (.slice (some ⟨T, 0, none⟩) S.n S.n)
  c1 : w.cell? ⟨G, 1, none⟩ = some (.int .i64 (S.free : Int))
  c2 : w.cell? ⟨G, 2, none⟩ = some (.int .i64 (S.lo : Int))
  fG : ∀ i, w.frozen? ⟨G, i, none⟩ = false
  ct : ∀ i, i < S.n → w.cell? ⟨T, i, none⟩ = some (.bool (S.t i))
  fT : ∀ i, w.frozen? ⟨T, i, none⟩ = false
  ne : G ≠ T
  ok : S.Ok
  n1 : S.n ≤ 16384
  n2 : 2 ≤ S.n
theorem SpAt.ltG {w : World} {G T : Nat} {S : Spc} (h : SpAt w G T S) : G < w.heap.size := World.block_lt_of_cell? w _ h.c0
theorem SpAt.ltT {w : World} {G T : Nat} {S : Spc} (h : SpAt w G T S) : T < w.heap.size := World.block_lt_of_cell? w _ (h.ct 0 (by have := h.n2; omega))
theorem SpAt.same {w w' : World} {G T : Nat} {S : Spc} (h : SpAt w G T S) (hG : w'.heap[G]? = w.heap[G]?) (hT : w'.heap[T]? = w.heap[T]?) : SpAt w' G T S :=
  ⟨(World.cell?_of_block hG).trans h.c0, (World.cell?_of_block hG).trans h.c1, (World.cell?_of_block hG).trans h.c2, fun i => (World.frozen?_of_block hG).trans (h.fG i), fun i hi => (World.cell?_of_block hT).trans (h.ct i hi), fun i => (World.frozen?_of_block hT).trans (h.fT i), h.ne, h.ok, h.n1, h.n2⟩
theorem SpAt.below {w w' : World} {G T : Nat} {S : Spc} (h : SpAt w G T S) (hb : Below w.heap.size w w') : SpAt w' G T S := h.same (hb.block G h.ltG) (hb.block T h.ltT)
theorem SpAt.wrt {H : Nat → Prop} {w w' : World} {G T : Nat} {S : Spc} (h : SpAt w G T S) (hw : Wrt H w w') (hG : ¬ H G) (hT : ¬ H T) : SpAt w' G T S := h.same (hw.block G hG) (hw.block T hT)
theorem set_ne {w : World} {g o g2 o2 : Nat} {v u : Value} (h : w.cell? ⟨g, o, none⟩ = some u) (hne : g ≠ g2 ∨ o ≠ o2) : (w.setCell ⟨g2, o2, none⟩ v).cell? ⟨g, o, none⟩ = some u := by
  rw [World.cell?_setCell_other _ _ _ _ (by intro q; simp only [Addr.mk.injEq] at q; omega)]
  exact h
theorem SpAt.setT {w : World} {G T : Nat} {S : Spc} (h : SpAt w G T S) {s : Nat} (hs : s < S.n) (b : Bool) (i : Nat) (hi : i < S.n) : (w.setCell ⟨T, s, none⟩ (.bool b)).cell? ⟨T, i, none⟩ = some (.bool (updB S.t s b i)) := by
  unfold updB
  by_cases e : i = s
  · rw [if_pos e, e]; exact World.cell?_setCell_same _ _ _ (h.ct s hs)
  · rw [if_neg e]; exact set_ne (h.ct i hi) (.inr e)

/-! ### claim -/
theorem claim_no_any (G T : Nat) (S : Spc) (s : Int) (w : World) (h : SpAt w G T S) (hs : s < 0 ∨ (S.n : Int) ≤ s ∨ ∃ i : Nat, s = i ∧ i < S.n ∧ S.t i = true) :
    Calls Tryz.prog 54 #[.pointer (some ⟨G, 0, none⟩), .int .i64 s] w fun e w' => e = .returned (.bool false) ∧ w = w' := by
  have c0 := h.c0
  have n1 := h.n1
  rcases hs with hs | hs | ⟨i, rfl, hi, ht⟩
  · clear h
    go_enter Tryz.func54, Tryz.ntmps54
    go_wp2
    go_ret
    exact ⟨rfl, rfl⟩
  · clear h
    have h0 : ¬ s < 0 := by omega
    go_enter Tryz.func54, Tryz.ntmps54
    go_wp2
    go_ret
    exact ⟨rfl, rfl⟩
  · have h0 : (0 : Int) ≤ (i : Int) := by omega
    have h1 : (i : Int) < (S.n : Int) := by omega
    have c := h.ct i hi
    rw [ht] at c
    clear h ht
    go_enter Tryz.func54, Tryz.ntmps54
    go_wp2
    go_ret
    exact ⟨rfl, rfl⟩
/-- how far the search's beginning is from its end, read off the world -/
def loW (G n : Nat) (w : World) : Nat := match w.cell? ⟨G, 2, none⟩ with | some (.int _ x) => n - x.toNat | _ => 0
theorem loW_eq {G n : Nat} {w : World} {x : Nat} (h : w.cell? ⟨G, 2, none⟩ = some (.int .i64 (x : Int))) : loW G n w = n - x := by
  unfold loW
  rw [h]
  simp
structure ClaimRel (w0 wr : World) (G T n : Nat) (t : Nat → Bool) (free R : Nat) (m : Nat) (f : Nat) : Prop where
  c0 : wr.cell? ⟨G, 0, none⟩ = some (.slice (some ⟨T, 0, none⟩) n n)
  c1 : wr.cell? ⟨G, 1, none⟩ = some (.int .i64 (free : Int))
  c2 : wr.cell? ⟨G, 2, none⟩ = some (.int .i64 (f : Int))
  fG : ∀ i, wr.frozen? ⟨G, i, none⟩ = false
  ct : ∀ i, i < n → wr.cell? ⟨T, i, none⟩ = some (.bool (t i))
  fT : ∀ i, wr.frozen? ⟨T, i, none⟩ = false
  ne : G ≠ T
  wr' : Wrt (spH G T) w0 wr
  le : f ≤ n
  m' : n ≤ f + m
  R' : R = advN t n m f
theorem adv_stop {t : Nat → Bool} {n m f : Nat} (h : ¬ (f < n ∧ t f = true)) : advN t n m f = f := by
  cases m with
  | zero => rfl
  | succ m => unfold advN; rw [if_neg h]
theorem adv_go {t : Nat → Bool} {n m f : Nat} (h : f < n ∧ t f = true) : advN t n (m + 1) f = advN t n m (f + 1) := by
  show (if f < n ∧ t f = true then advN t n m (f + 1) else f) = _
  rw [if_pos h]
def Claimed (w : World) (G T : Nat) (S : Spc) (e : Ending) (w' : World) : Prop := e = .returned (.bool true) ∧ SpAt w' G T S ∧ Wrt (spH G T) w w'
theorem ClaimRel.next {w wr : World} {G T n m f free R : Nat} {t : Nat → Bool} (h : ClaimRel w wr G T n t free R m f) (hf : f < n ∧ t f = true) (q : Nat) : ClaimRel w ((wr.drewN q).setCell ⟨G, 2, none⟩ (.int .i64 ((f : Int) + 1))) G T n t free R (m - 1) (f + 1) := by
  have hm : ∃ k, m = k + 1 := ⟨m - 1, by have := h.m'; omega⟩
  obtain ⟨k, rfl⟩ := hm
  have hR := h.R'
  rw [adv_go hf] at hR
  exact ⟨set_ne h.c0 (.inr (by decide)), set_ne h.c1 (.inr (by decide)), by rw [World.cell?_setCell_same _ _ _ (show (wr.drewN q).cell? ⟨G, 2, none⟩ = some _ from h.c2)]; rfl, fun i => by rw [World.frozen?_setCell]; exact h.fG i, fun i hi => set_ne (h.ct i hi) (.inl (fun e => h.ne e.symm)), fun i => by rw [World.frozen?_setCell]; exact h.fT i, h.ne, (h.wr'.drewN q).set (.inl rfl) _ _, by omega, by have := h.m'; omega, hR⟩
theorem claimed_of {w wr : World} {G T n m f s R : Nat} {t : Nat → Bool} {S : Spc} (h : ClaimRel w wr G T n t (S.free - 1) R m f) (HT : t = updB S.t s true) (HR : R = (S.claim s).1.lo) (HN : n = S.n) (hR : R = f) (hok : (S.claim s).1.Ok) (hcl : (S.claim s).2 = true ∧ (S.claim s).1.t = updB S.t s true ∧ (S.claim s).1.free = S.free - 1 ∧ (S.claim s).1.n = S.n) (n1 : n ≤ 16384) (n2 : 2 ≤ S.n) (q : Nat) : Claimed w G T (S.claim s).1 (.returned (.bool true)) (wr.drewN q) := by
  obtain ⟨_, e1, e2, e3⟩ := hcl
  subst HN
  refine ⟨rfl, ⟨?_, ?_, ?_, h.fG, ?_, h.fT, h.ne, hok, ?_, ?_⟩, h.wr'.drewN q⟩
  · rw [e3]; exact h.c0
  · rw [e2]; exact h.c1
  · rw [← HR, hR]; exact h.c2
  · rw [e3, e1, ← HT]; exact h.ct
  · rw [e3]; exact n1
  · rw [e3]; exact n2
set_option maxRecDepth 100000 in
set_option maxHeartbeats 1000000 in
theorem claim_yes_any (G T : Nat) (S : Spc) (s : Nat) (w : World) (h : SpAt w G T S) (hs : s < S.n) (ht : S.t s = false) :
    Calls Tryz.prog 54 #[.pointer (some ⟨G, 0, none⟩), .int .i64 s] w (Claimed w G T (S.claim s).1) := by
  have c0 := h.c0
  have n1 := h.n1
  have hfree : 1 ≤ S.free := by
    have := cntF_take (t := S.t) (s := s) (m := S.n) hs ht
    have := h.ok.cnt
    omega
  have hfn : S.free ≤ 16384 := by
    have := cntF_le S.t S.n
    have := h.ok.cnt
    omega
  have h0 : (0 : Int) ≤ (s : Int) := by omega
  have h1 : (s : Int) < (S.n : Int) := by omega
  have c := h.ct s hs
  rw [ht] at c
  have fc := h.fT s
  have ne := h.ne
  have hclaim := claim_t hs ht
  have hok := h.ok.claim s
  have H1 := Lib.hid (show ClaimRel w ((w.setCell ⟨T, s, none⟩ (.bool true)).setCell ⟨G, 1, none⟩ (.int .i64 ((S.free : Int) - 1))) G T S.n (updB S.t s true) (S.free - 1) (S.claim s).1.lo (S.n - S.lo) S.lo from
    ⟨set_ne (set_ne h.c0 (.inl ne)) (.inr (by decide)), by
        rw [World.cell?_setCell_same _ _ _ (set_ne (v := .bool true) h.c1 (.inl ne))]
        rw [show ((S.free - 1 : Nat) : Int) = (S.free : Int) - 1 by omega],
      set_ne (set_ne h.c2 (.inl ne)) (.inr (by decide)), fun i => by rw [World.frozen?_setCell, World.frozen?_setCell]; exact h.fG i,
      fun i hi => set_ne (h.setT hs true i hi) (.inl (fun e => ne e.symm)), fun i => by rw [World.frozen?_setCell, World.frozen?_setCell]; exact h.fT i, ne, ((Wrt.refl _ _).set (.inr rfl) _ _).set (.inl rfl) _ _, h.ok.le, by have := h.ok.le; omega, by
        unfold Spc.claim
        rw [if_neg (by rw [Int.toNat_natCast, ht]; simp; omega), Int.toNat_natCast]⟩)
  have c1 := set_ne (v := .bool true) (g2 := T) (o2 := s) h.c1 (.inl ne)
  have c0' := set_ne (v := .bool true) (g2 := T) (o2 := s) h.c0 (.inl ne)
  have f1 : (w.setCell ⟨T, s, none⟩ (.bool true)).frozen? ⟨G, 1, none⟩ = false := by rw [World.frozen?_setCell]; exact h.fG 1
  have n2 := h.n2
  have HOK := Lib.hid hok
  have HCL := Lib.hid hclaim
  have HNE := Lib.hid ne
  clear h ht ne hclaim hok hs
  go_enter Tryz.func54, Tryz.ntmps54
  go_wp2
  generalize (w.setCell ⟨T, s, none⟩ (.bool true)).setCell ⟨G, 1, none⟩ (.int .i64 ((S.free : Int) - 1)) = w2 at H1 ⊢
  clear c0 c c1 c0' f1 fc
  obtain ⟨t, HT⟩ : ∃ t, Hid (t = updB S.t s true) := ⟨_, Lib.hid rfl⟩
  rw [← HT.out] at H1
  obtain ⟨R, HR⟩ : ∃ R, Hid (R = (S.claim s).1.lo) := ⟨_, Lib.hid rfl⟩
  rw [← HR.out] at H1
  obtain ⟨n, HN⟩ : ∃ n, Hid (n = S.n) := ⟨_, Lib.hid rfl⟩
  rw [← HN.out] at H1 n1
  go_loopw [59] (fun _ wr => ∃ m f : Nat, Hid (ClaimRel w wr G T n t (S.free - 1) R m f)) (fun _ wr => loW G n wr)
  case atStart => exact ⟨_, _, H1⟩
  case round =>
    obtain ⟨m, f, HC⟩ := hrel
    have hle := HC.out.le
    have hm := HC.out.m'
    have c0 := HC.out.c0
    have c2 := HC.out.c2
    have f2 := HC.out.fG 2
    have hlo := Lib.hid (loW_eq (n := n) c2)
    have i0 : (0 : Int) ≤ (f : Int) := by omega
    by_cases hlt : f < n
    · have i1 : (f : Int) < (n : Int) := by omega
      have ct := HC.out.ct f hlt
      cases htf : t f
      · rw [htf] at ct
        have HST := Lib.hid (HC.out.R'.trans (adv_stop (by rw [htf]; simp)))
        clear htf hlt
        go_wp2
        go_quiet (fail)
        go_wp2
        go_ret
        exact claimed_of HC.out HT.out HR.out HN.out HST.out HOK.out HCL.out n1 n2 _
      · rw [htf] at ct
        have HST := Lib.hid (show f < n ∧ t f = true from ⟨hlt, htf⟩)
        clear htf hlt
        go_wp2
        go_quiet (fail)
        go_wp2
        have HN2 := HC.out.next HST.out nq
        exact ⟨⟨_, _, Lib.hid HN2⟩, by rw [loW_eq HN2.c2, hlo.out]; have := HST.out; omega⟩
    · have i1 : ¬ (f : Int) < (n : Int) := by omega
      have HST := Lib.hid (HC.out.R'.trans (adv_stop (by omega)))
      have hdec : decide (f < n) = false := decide_eq_false hlt
      clear hlt
      go_wp2
      go_quiet (fail)
      go_wp2
      go_ret
      exact claimed_of HC.out HT.out HR.out HN.out HST.out HOK.out HCL.out n1 n2 _
/-! ### give -/
def Gave (w : World) (G T : Nat) (S : Spc) (e : Ending) (w' : World) : Prop := e = .returned (.tuple #[]) ∧ SpAt w' G T S ∧ Wrt (spH G T) w w'
set_option maxRecDepth 100000 in
theorem give_any (G T : Nat) (S : Spc) (s : Nat) (w : World) (h : SpAt w G T S) (hs : s < S.n) (ht : S.t s = true) :
    Calls Tryz.prog 56 #[.pointer (some ⟨G, 0, none⟩), .int .i64 s] w (Gave w G T (S.give s)) := by
  have c0 := h.c0
  have n1 := h.n1
  have n2 := h.n2
  have hfn : S.free ≤ 16384 := by
    have := cntF_le S.t S.n
    have := h.ok.cnt
    omega
  have h0 : (0 : Int) ≤ (s : Int) := by omega
  have h1 : (s : Int) < (S.n : Int) := by omega
  have c := h.ct s hs
  have fc := h.fT s
  have ne := h.ne
  have c0' := set_ne (v := .bool false) (g2 := T) (o2 := s) h.c0 (.inl ne)
  have c1 := set_ne (v := .bool false) (g2 := T) (o2 := s) h.c1 (.inl ne)
  have c2 := set_ne (v := .int .i64 ((S.free : Int) + 1)) (g2 := G) (o2 := 1) (set_ne (v := .bool false) (g2 := T) (o2 := s) h.c2 (.inl ne)) (.inr (by decide))
  have f1 : (w.setCell ⟨T, s, none⟩ (.bool false)).frozen? ⟨G, 1, none⟩ = false := by rw [World.frozen?_setCell]; exact h.fG 1
  have f2 : ((w.setCell ⟨T, s, none⟩ (.bool false)).setCell ⟨G, 1, none⟩ (.int .i64 ((S.free : Int) + 1))).frozen? ⟨G, 2, none⟩ = false := by rw [World.frozen?_setCell, World.frozen?_setCell]; exact h.fG 2
  have H : Hid (∀ l : Int, l = ((min S.lo s : Nat) : Int) → Gave w G T (S.give s) (.returned (.tuple #[])) (((w.setCell ⟨T, s, none⟩ (.bool false)).setCell ⟨G, 1, none⟩ (.int .i64 ((S.free : Int) + 1))).setCell ⟨G, 2, none⟩ (.int .i64 l))) := by
    refine Lib.hid fun l hl => ?_
    subst hl
    refine ⟨rfl, ⟨set_ne (set_ne c0' (.inr (by decide))) (.inr (by decide)), set_ne ?_ (.inr (by decide)), World.cell?_setCell_same _ _ _ c2, fun i => by rw [World.frozen?_setCell, World.frozen?_setCell, World.frozen?_setCell]; exact h.fG i, fun i hi => set_ne (set_ne (h.setT hs false i hi) (.inl (fun e => ne e.symm))) (.inl (fun e => ne e.symm)), fun i => by rw [World.frozen?_setCell, World.frozen?_setCell, World.frozen?_setCell]; exact h.fT i, ne, h.ok.give hs ht, n1, n2⟩, (((Wrt.refl _ _).set (.inr rfl) _ _).set (.inl rfl) _ _).set (.inl rfl) _ _⟩
    rw [World.cell?_setCell_same _ _ _ c1]
    rfl
  clear h ht
  by_cases hm : S.lo ≤ s
  · have hl : ¬ (s : Int) < (S.lo : Int) := by omega
    have hl2 : ((S.lo : Nat) : Int) = ((min S.lo s : Nat) : Int) := by omega
    have HL := Lib.hid hl2
    clear hl2
    go_enter Tryz.func56, Tryz.ntmps56
    go_wp2
    go_end0
    exact H.out _ HL.out
  · have hl : (s : Int) < (S.lo : Int) := by omega
    have hl2 : (s : Int) = ((min S.lo s : Nat) : Int) := by omega
    have HL := Lib.hid hl2
    clear hl2
    go_enter Tryz.func56, Tryz.ntmps56
    go_wp2
    go_end0
    exact H.out _ HL.out
end Go.Proofs.YtokikeenfpligaaGreatDoor.Sh
namespace Go.Proofs.YtokikeenfpligaaGreatDoor
open Go.RowKit

/-- a slice of whole numbers in new memory -/
def NewInts (w : World) (xs : List Int) (n : Nat) (e : Ending) (w' : World) : Prop :=
  ∃ ao cap, e = .returned (.slice ao n cap) ∧ Ints w' ao xs ∧ n ≤ cap ∧ Below w.heap.size w w'
set_option maxRecDepth 100000 in
theorem cloneI_nil (n c : Nat) (w : World) :
    Calls Tryz.prog 64 #[.slice none n c] w fun e w' => e = .returned (.slice none 0 0) ∧ w = w' := by
  have q : ∀ (w : World) (a : Option Addr) (n c n' c' : Nat), (binOp .eql 59 (.slice a n c) (.slice none n' c')).run Tryz.prog w = .ok (.bool a.isNone) w := fun w a n c n' c' => Lib.run_eql_slice_nil w _ _ a n c n' c' Tryz.underlying59
  go_enter Tryz.func64, Tryz.ntmps64
  go_wp2
  go_ret
  exact ⟨rfl, rfl⟩
set_option maxRecDepth 100000 in
theorem cloneI_at (b n c : Nat) (xs : List Int) (w : World) (hn : xs.length = n) (hx : Ints w (some ⟨b, 0, none⟩) xs) (hm : n ≤ 20000) :
    Calls Tryz.prog 64 #[.slice (some ⟨b, 0, none⟩) n c] w fun e w' => ∃ v', e = .returned v' ∧ w'.ownsRow w.heap.size 3 1 v' n (il xs) ∧ Below w.heap.size w w' := by
  obtain ⟨i0, hi, hz0, hz1, hz2⟩ := info_parts info_i
  have q : ∀ (w : World) (a : Option Addr) (n c n' c' : Nat), (binOp .eql 59 (.slice a n c) (.slice none n' c')).run Tryz.prog w = .ok (.bool a.isNone) w := fun w a n c n' c' => Lib.run_eql_slice_nil w _ _ a n c n' c' Tryz.underlying59
  have HX := Lib.hid hx
  have HN := Lib.hid hn
  clear hx hn
  go_enter Tryz.func64, Tryz.ntmps64
  go_wp2_with (at_builtin; refine wpList_append_own _ rfl _ _ 59 rfl w.heap.size 3 i0 (.int .i64 0) 1 8 Tryz.underlying59 hi hz0 hz1 hz2 rfl (by decide) _ _ _ rfl (World.ownsRow_made w #[] 0 (Nat.le_refl _) (Nat.zero_le _) rfl) ⟨b, 0, none⟩ n c (il xs) rfl ?qc1 ?qc2 ?qc3 ?qc4 ?qc5 ?qc6 ?_)
  case qc1 => simp [il, HN.out]
  case qc2 =>
    intro j u hj
    have hj' : j < xs.length := by
      have := (List.getElem?_eq_some_iff.1 hj).1
      simpa [il] using this
    obtain ⟨b', off', ha, hc⟩ := HX.out j hj'
    obtain ⟨rfl, rfl⟩ : b = b' ∧ 0 = off' := by simpa using ha
    rw [Addr.add_mid]
    refine Lib.cell?_alloc_some _ ?_
    rw [hc]
    simpa [il, hj'] using hj
  case qc3 => intro u hu; obtain ⟨x, _, rfl⟩ := List.mem_map.1 hu; rfl
  case qc4 => unfold maxLen; omega
  case qc5 => omega
  case qc6 => simp
  intro v' w1 hown hgrow hnil
  go_wp2
  go_ret
  refine ⟨v', rfl, by simpa using hown, ?_⟩
  exact ((Below.refl _ w).alloc (Nat.le_refl _) _).grown hgrow (by simp) (by intro k hk; simp [Value.ownBlock] at hk; omega)
set_option maxRecDepth 100000 in
theorem pending_any {B : Nat} (s : St) (w : World) (h : DiskAt B w s) :
    Calls Tryz.prog 29 #[.pointer (some ⟨s.D, 0, none⟩)] w (NewInts w s.ints s.pend.length) := by
  have c2 := h.d2
  have hp := h.p
  have hle := pend_le h.ok
  have hn1 := h.ok.n1
  rw [nats_il] at hp
  rcases hp.2 with ⟨hv, h0⟩ | ⟨g, cap, cur, hv, _, hg, hnc, _, hcs, ht⟩
  · have E : s.ints = [] := List.eq_nil_of_length_eq_zero (by rw [St.ints_len, h0])
    rw [hv] at c2
    rw [E, h0]
    clear h hp hv h0 E hle hn1
    go_enter Tryz.func29, Tryz.ntmps29
    go_wp2_with (go_at_call 64; refine (cloneI_nil _ _ _).mono ?_; rintro e w' ⟨rfl, rfl⟩)
    go_ret
    exact ⟨none, 0, rfl, ints_nil _ _, Nat.le_refl _, Below.refl _ _⟩
  · obtain ⟨ao, cap', hv', hi, _, hl⟩ := own_ints hp
    rw [hv] at hv'
    obtain ⟨rfl, rfl⟩ : some (⟨g, 0, none⟩ : Addr) = ao ∧ cap = cap' := by simpa using hv'
    rw [hv] at c2
    have HI := Lib.hid hi
    have HL := Lib.hid hl
    clear h hp hv hv' hg hnc hcs ht hi hl
    go_enter Tryz.func29, Tryz.ntmps29
    go_wp2_with (go_at_call 64; refine (cloneI_at _ _ _ _ _ HL.out HI.out (by omega)).mono ?_; rintro e w1 ⟨v1, rfl, hown, hb⟩)
    obtain ⟨ao, cap', rfl, hi, hc, hl⟩ := own_ints hown
    go_ret
    exact ⟨ao, cap', rfl, hi, hc, hb⟩
end Go.Proofs.YtokikeenfpligaaGreatDoor
namespace Go.Proofs.YtokikeenfpligaaGreatDoor.Sh
open Go.RowKit Go.Maps

/-! ### lowest -/
def zl (l : List Nat) : List Int := l.map fun (n : Nat) => (n : Int)
theorem zl_len (l : List Nat) : (zl l).length = l.length := by simp [zl]
def lowAt (S : Spc) (k c : Nat) : List Nat := ((List.range k).filter fun i => decide (S.lo ≤ i) && !S.t i).take c
theorem lowAt_lo (S : Spc) (c : Nat) : lowAt S S.lo c = [] := by
  unfold lowAt
  rw [List.filter_eq_nil_iff.2 (fun i hi => by have := List.mem_range.1 hi; simp; omega), List.take_nil]
theorem lowAt_len (S : Spc) (k c : Nat) : (lowAt S k c).length ≤ c := by unfold lowAt; rw [List.length_take]; omega
theorem lowAt_no {S : Spc} {k c : Nat} (h : S.t k = true) : lowAt S (k + 1) c = lowAt S k c := by
  unfold lowAt
  rw [List.range_succ, List.filter_append, List.filter_cons_of_neg (by simp [h]), List.filter_nil, List.append_nil]
theorem lowAt_yes {S : Spc} {k c : Nat} (h : S.t k = false) (hl : S.lo ≤ k) (hc : (lowAt S k c).length < c) : lowAt S (k + 1) c = lowAt S k c ++ [k] := by
  unfold lowAt at *
  rw [List.length_take] at hc
  rw [List.range_succ, List.filter_append, List.filter_cons_of_pos (by simp [h, hl]), List.filter_nil, List.take_of_length_le (by rw [List.length_append, List.length_singleton]; omega), List.take_of_length_le (by omega)]
theorem lowAt_full {S : Spc} {k n c : Nat} (h : c ≤ (lowAt S k c).length) (hk : k ≤ n) : lowAt S n c = lowAt S k c := by
  unfold lowAt at *
  rw [List.length_take] at h
  obtain ⟨d, rfl⟩ : ∃ d, n = k + d := ⟨n - k, by omega⟩
  rw [List.range_add, List.filter_append, List.take_append_of_le_length (by omega)]
theorem lowAt_all (S : Spc) (c : Nat) : lowAt S S.n c = S.lowest c := rfl
theorem il_zl_snoc (l : List Nat) (k : Nat) : il (zl l) ++ [Value.int .i64 (k : Int)] = il (zl (l ++ [k])) := by simp [il, zl]
def LowAt (w : World) (l : List Nat) (e : Ending) (w' : World) : Prop :=
  ∃ ao cap, e = .returned (.slice ao l.length cap) ∧ Ints w' ao (zl l) ∧ l.length ≤ cap ∧ Below w.heap.size w w' ∧ w'.ownsRow w.heap.size 3 1 (.slice ao l.length cap) l.length (il (zl l))
set_option maxRecDepth 100000 in
set_option maxHeartbeats 1000000 in
theorem lowest_any (G T : Nat) (S : Spc) (c : Nat) (w : World) (h : SpAt w G T S) (hc : c ≤ 1000) :
    Calls Tryz.prog 59 #[.pointer (some ⟨G, 0, none⟩), .int .i64 c] w (LowAt w (S.lowest c)) := by
  have c2 := h.c2
  have n1 := h.n1
  have hle := h.ok.le
  have HH := Lib.hid h
  have HL0 := Lib.hid (lowAt_lo S c)
  obtain ⟨i0, hi, hz0, hz1, hz2⟩ := info_parts info_i
  have HI := Lib.hid hi
  have HI0 := Lib.hid hz0
  have HI1 := Lib.hid hz1
  have HI2 := Lib.hid hz2
  clear h hi hz0 hz1 hz2
  go_enter Tryz.func59, Tryz.ntmps59
  go_wp2
  go_loopw [5, 6] (fun v i wr => ∃ k : Nat, S.lo ≤ k ∧ k ≤ S.n ∧ i = .int .i64 k ∧ Hid (wr.ownsRow w.heap.size 3 1 v (lowAt S k c).length (il (zl (lowAt S k c)))) ∧ Hid (Below w.heap.size w wr)) (fun _ i _ => S.n - (intOf i).toNat)
  case atStart => exact ⟨S.lo, by omega, hle, rfl, Lib.hid (by rw [HL0.out]; exact World.ownsRow_nil _ _ _ _), Lib.hid (Below.refl _ _)⟩
  case round =>
    obtain ⟨k, hk0, hk, rfl, HO, HB⟩ := hrel
    have HS := Lib.hid (HH.out.below HB.out)
    have c0 := HS.out.c0
    have hll := lowAt_len S k c
    obtain ⟨ao, cap, rfl, hx, hcp, _⟩ := own_ints HO.out
    have j0 : (0 : Int) ≤ (k : Int) := by omega
    have m1000 : (lowAt S k c).length ≤ 1000 := by omega
    clear hx
    by_cases hlt : k < S.n ∧ (lowAt S k c).length < c
    · obtain ⟨hk1, hc1⟩ := hlt
      have j1 : (k : Int) < (S.n : Int) := by omega
      have ct := HS.out.ct k hk1
      cases ht : S.t k
      · rw [ht] at ct
        have HN := Lib.hid (lowAt_yes ht hk0 hc1)
        have HLN := Lib.hid (show (lowAt S (k + 1) c).length = (lowAt S k c).length + 1 by rw [HN.out, List.length_append]; rfl)
        have HZ := Lib.hid (il_zl_snoc (lowAt S k c) k)
        have j2 : ((lowAt S k c).length : Int) < (c : Int) := by omega
        clear ht hll
        generalize (lowAt S k c).length = m at HO HLN m1000 hcp hc1 j2
        go_wp2_with (at_builtin; refine wpList_append_own _ rfl (.tmp 34) (.tmp 36) 59 rfl w.heap.size 3 i0 (.int .i64 0) 1 8 Tryz.underlying59 HI.out HI0.out HI1.out HI2.out rfl (by decide) (.slice ao m cap) m (il (zl (lowAt S k c))) rfl (HO.out.alloc _) ⟨wr.heap.size, 0, none⟩ 1 1 [Value.int .i64 (k : Int)] rfl rfl (cell_one_new _ _ _) (by simp [Value.oneCell']) (by unfold maxLen; omega) (by omega) (by have := HB.out.size; simp; omega) ?_; intro v2 w2 hown hgrow _)
        have HO2 := Lib.hid hown
        have HB2 := Lib.hid ((HB.out.alloc HB.out.size (.cells #[Value.int .i64 (k : Int)] 3)).grown hgrow (by have := HB.out.size; simp; omega) (fun j hj => (HO.out.lt j hj).1))
        clear hown hgrow
        go_roundw
        case rel => exact ⟨k + 1, by omega, by omega, by go_num, Lib.hid (by rw [HLN.out, HN.out, ← HZ.out]; exact HO2.out), HB2⟩
        case measure => simp [intOf]; omega
      · rw [ht] at ct
        have HN := Lib.hid (lowAt_no (c := c) ht)
        have j2 : ((lowAt S k c).length : Int) < (c : Int) := by omega
        clear ht
        go_wp2
        go_roundw
        case rel => exact ⟨k + 1, by omega, by omega, by go_num, Lib.hid (by rw [HN.out]; exact HO.out), HB⟩
        case measure => simp [intOf]; omega
    · have HE := Lib.hid (show lowAt S k c = S.lowest c by
        rw [← lowAt_all]
        by_cases e : k = S.n
        · rw [e]
        · exact (lowAt_full (by omega) hk).symm)
      have HF := Lib.hid (show LowAt w (S.lowest c) (.returned (.slice ao (lowAt S k c).length cap)) wr by
        rw [← HE.out]
        obtain ⟨ao', cap', hv, hx, hcp, _⟩ := own_ints HO.out
        obtain ⟨rfl, rfl⟩ : ao = ao' ∧ cap = cap' := by simpa using hv
        exact ⟨ao, cap, rfl, hx, hcp, HB.out, HO.out⟩)
      have hcase : (¬ k < S.n) ∨ (k < S.n ∧ ¬ (lowAt S k c).length < c) := by omega
      rcases hcase with e1 | ⟨e1, e2⟩
      · have j1 : ¬ (k : Int) < (S.n : Int) := by omega
        have d1 : decide (k < S.n) = false := decide_eq_false e1
        clear hlt
        go_wp2
        go_ret
        exact HF.out
      · have j1 : (k : Int) < (S.n : Int) := by omega
        have j2 : ¬ ((lowAt S k c).length : Int) < (c : Int) := by omega
        have d2 : decide ((lowAt S k c).length < c) = false := decide_eq_false e2
        clear hlt
        go_wp2
        go_ret
        exact HF.out
end Go.Proofs.YtokikeenfpligaaGreatDoor.Sh

/-
  WHAT A LIST OF ACTS THAT CAME IN GIVES A WALK. Conditions: that it could be read.
-/
import Derived.Test.YtibopcbebcikbaaDoorSu
import Derived.OpenShut
import Derived.Deep.Slices
import Derived.Deep.Fields
import Derived.ChangeSlices
import Derived.ChangeArms
namespace Go.Proofs.YtibopcbebcikbaaDoor
open Go.RowKit Go.ChangeShapes Go.WideShapes Go.Deep

/-- one act's fields -/
structure ActV where
  kind : Int
  i : Int
  b : ByteArray
  ka : Option Addr
  kn : Nat
  kc : Nat
  ks : List Int
  torn : Int
  part : Int
def ActV.cells (A : ActV) : List Value := [.int .i64 A.kind, .int .i64 A.i, .string A.b, .slice A.ka A.kn A.kc, .int .i64 A.torn, .int .i64 A.part]
def I64 (n : Int) : Prop := -9223372036854775808 ≤ n ∧ n ≤ 9223372036854775807
/-- an act that came in -/
structure ActOk (w : World) (A : ActV) : Prop where
  kind : I64 A.kind
  i : I64 A.i
  b : A.b.size ≤ 9223372036854775807
  ints : Ints w A.ka A.ks
  len : A.ks.length = A.kn
  torn : I64 A.torn
  part : I64 A.part
  vals : ∀ k ∈ A.ks, I64 k
  kn : A.kn ≤ 9223372036854775807
def IsActs (w : World) (a : Option Addr) (n : Nat) (l : Nat → ActV) : Prop :=
  n ≤ 9223372036854775807 ∧ ∀ i, i < n → ∃ b o, a = some ⟨b, o, none⟩ ∧ w.rangeAt b (o + i * 6) (l i).cells ∧ ActOk w (l i)

section
variable {H : Type} {enc : TypeId × Value → H} {w : World} {base : Nat} {spare : Nat → Bool} {held : Bool}
theorem ints_of {a : Addr} {cap : Nat} {zs : List Int} (n : Nat) (hn : n ≤ zs.length) (h : ∀ i, i < zs.length → w.cell? (a.add i) = some (.int .i64 (zs.getD i 0))) (_ : cap = zs.length) : Ints w (some a) (zs.take n) := by
  intro i hi
  have hi' : i < n := by rw [List.length_take] at hi; omega
  obtain ⟨b, o, spot⟩ := a
  have c := h i (by omega)
  have hs : spot = none := by
    have c0 := h 0 (by omega)
    simpa [Addr.add] using World.cell?_spot c0
  subst hs
  rw [Addr.add_mid] at c
  refine ⟨b, o, rfl, ?_⟩
  rw [c, List.getElem_take]
  simp [show i < zs.length by omega]
set_option maxRecDepth 100000 in
theorem act_of {fuel : Nat} {cs : List Value} {x : DataW H × List MemPlace} (h : DataW.trod enc Tryd.prog w base spare held fuel 35 cs = some x) :
    ∃ A : ActV, cs = A.cells ∧ ActOk w A := by
  obtain ⟨xs, n, _, _, hlen, hxl, hf⟩ := DataW.trod_struct Tryd.underlying35 h
  have h6 : cs.length = 6 := hlen.trans (by kernel_rfl)
  match cs, h6, hf with
  | [c0, c1, c2, c3, c4, c5], _, hf =>
    have hx6 : xs.length = 6 := hxl
    match xs, hx6, hf with
    | [x0, x1, x2, x3, x4, x5], _, hf =>
      have e1 : Tryd.prog.cellsOf 3 = 1 := by kernel_rfl
      have e2 : Tryd.prog.cellsOf 9 = 1 := by kernel_rfl
      have e3 : Tryd.prog.cellsOf 30 = 1 := by kernel_rfl
      have f0 := hf 0 _ rfl
      have f1 := hf 1 _ rfl
      have f2 := hf 2 _ rfl
      have f3 := hf 3 _ rfl
      have f4 := hf 4 _ rfl
      have f5 := hf 5 _ rfl
      change DataW.trod enc Tryd.prog w base spare held n 3 (List.take (Tryd.prog.cellsOf 3) [c0, c1, c2, c3, c4, c5]) = some x0 at f0
      rw [e1] at f0
      change DataW.trod enc Tryd.prog w base spare held n 3 (List.take (Tryd.prog.cellsOf 3) [c1, c2, c3, c4, c5]) = some x1 at f1
      rw [e1] at f1
      change DataW.trod enc Tryd.prog w base spare held n 9 (List.take (Tryd.prog.cellsOf 9) [c2, c3, c4, c5]) = some x2 at f2
      rw [e2] at f2
      change DataW.trod enc Tryd.prog w base spare held n 30 (List.take (Tryd.prog.cellsOf 30) [c3, c4, c5]) = some x3 at f3
      rw [e3] at f3
      change DataW.trod enc Tryd.prog w base spare held n 3 (List.take (Tryd.prog.cellsOf 3) [c4, c5]) = some x4 at f4
      rw [e1] at f4
      change DataW.trod enc Tryd.prog w base spare held n 3 (List.take (Tryd.prog.cellsOf 3) [c5]) = some x5 at f5
      rw [e1] at f5
      obtain ⟨n0, g0, _, w0⟩ := DataW.trod_int Tryd.underlying3 f0
      obtain ⟨n1, g1, _, w1⟩ := DataW.trod_int Tryd.underlying3 f1
      obtain ⟨s2, g2, _, w2⟩ := DataW.trod_string Tryd.underlying9 f2
      obtain ⟨n4, g4, _, w4⟩ := DataW.trod_int Tryd.underlying3 f4
      obtain ⟨n5, g5, _, w5⟩ := DataW.trod_int Tryd.underlying3 f5
      unfold maxLen at w2
      rcases open_ints Tryd.underlying30 Tryd.underlying3 (by kernel_rfl) f3 with ⟨g3, _⟩ | ⟨a, len, cap, zs, g3, _, hl, hm, hz, _, hcell, hwz⟩
      · refine ⟨⟨n0, n1, s2, none, 0, 0, [], n4, n5⟩, ?_, ⟨bounds_i64 w0, bounds_i64 w1, w2, ints_nil _ _, rfl, bounds_i64 w4, bounds_i64 w5, by simp, by show 0 ≤ _; omega⟩⟩
        simp at g0 g1 g2 g3 g4 g5
        rw [g0, g1, g2, g3, g4, g5]
        rfl
      · have hz' : len ≤ zs.length := by rw [hz]; split <;> omega
        unfold maxLen at hm
        refine ⟨⟨n0, n1, s2, some a, len, cap, zs.take len, n4, n5⟩, ?_, ⟨bounds_i64 w0, bounds_i64 w1, w2, ints_of len hz' hcell rfl, by show (zs.take len).length = len; rw [List.length_take]; omega, bounds_i64 w4, bounds_i64 w5, fun k hk => bounds_i64 (hwz k (List.mem_of_mem_take hk)), by show len ≤ _; omega⟩⟩
        simp at g0 g1 g2 g3 g4 g5
        rw [g0, g1, g2, g3, g4, g5]
        rfl
set_option maxRecDepth 100000 in
theorem acts_of {fuel : Nat} {a : Option Addr} {len cap : Nat} {x : DataW H × List MemPlace} (h : DataW.trod enc Tryd.prog w base spare held fuel 22 [.slice a len cap] = some x) : ∃ l, IsActs w a len l := by
  rcases open_slice Tryd.underlying22 h with ⟨hcs, _⟩ | ⟨ad, len', cap', m, n, D, Pl, hcs, _, hl, hm, hmm, _, hi⟩
  · simp at hcs
    obtain ⟨rfl, rfl, rfl⟩ := hcs
    exact ⟨fun _ => ⟨0, 0, ByteArray.empty, none, 0, 0, [], 0, 0⟩, by omega, fun i hi => absurd hi (by omega)⟩
  · simp at hcs
    obtain ⟨rfl, rfl, rfl⟩ := hcs
    have hlm : len ≤ m := by rw [hmm]; split <;> omega
    have e6 : Tryd.prog.cellsOf 35 = 6 := by kernel_rfl
    have hspot : 0 < len → ad.spot = none := by
      intro h0
      obtain ⟨cs', hc, ht⟩ := hi 0 (by omega)
      rw [e6] at hc
      obtain ⟨A, rfl, _⟩ := act_of ht
      obtain ⟨_, _, hat⟩ := World.cells?_some hc
      have c1 : w.cell? ((ad.add (0 * 6)).add 0) = some (.int .i64 A.kind) := hat 0 (by omega)
      have e : (ad.add (0 * 6)).add 0 = ad := by simp [Addr.add]
      rw [e] at c1
      exact World.cell?_spot c1
    have hA : ∀ i, ∃ A : ActV, i < len → ∃ b o, some ad = some (⟨b, o, none⟩ : Addr) ∧ w.rangeAt b (o + i * 6) A.cells ∧ ActOk w A := by
      intro i
      by_cases hlt : i < len
      · obtain ⟨cs', hc, ht⟩ := hi i (by omega)
        rw [e6] at hc
        obtain ⟨A, rfl, hok⟩ := act_of ht
        obtain ⟨_, hcl, hat⟩ := World.cells?_some hc
        refine ⟨A, fun _ => ?_⟩
        have hs := hspot (by omega)
        obtain ⟨b, o, spot⟩ := ad
        change spot = none at hs
        subst hs
        refine ⟨b, o, rfl, fun j v hv => ?_, hok⟩
        have hj : j < 6 := by
          have := (List.getElem?_eq_some_iff.1 hv).1
          simpa [ActV.cells] using this
        have c := hat j hj
        rw [Addr.add_mid, Addr.add_mid] at c
        rw [c]
        exact hv
      · exact ⟨⟨0, 0, ByteArray.empty, none, 0, 0, [], 0, 0⟩, fun h => absurd h hlt⟩
    unfold maxLen at hm
    exact ⟨fun i => (hA i).choose, by omega, fun i hi => (hA i).choose_spec hi⟩
end
/-! calls in a region that draws its order -/
theorem write_now {W : World} {p : Nat} {w0 w : World} {r s : St} (h : Now W p w0 r w s) (i : Nat) (x : Int) (t : ByteArray) (c : Nat) (ht : t.size = 512) (hx : x = i) (hi : i < s.n) (hl : s.left ≠ 0) (k0 : 0 ≤ s.writes) (k1 : s.writes < 4611686018427387904) :
    Calls Tryd.prog 14 #[.pointer (some ⟨p, 0, none⟩), .int .i64 x, .slice (some ⟨w.heap.size, 0, none⟩) 512 c] (bw w t) fun e w' => e = .returned .nilIface ∧ ∃ s', Now W p w0 r w' s' ∧ Wrote s i (txt t) s' :=
  (write_at s i x w t c ht h.a hx hi hl k0 k1).mono fun _ _ ⟨he, s', ha, hw, hs⟩ => ⟨he, s', ⟨ha, h.s.trans hs⟩, hw⟩
theorem alX (w : World) (o : Obj) : Below w.heap.size w (w.alloc o) := (Below.refl _ _).alloc (Nat.le_refl _) _
theorem new_free {W w : World} {p : Nat} {s : St} (h : At W w p s) : ¬ s.has w.heap.size := fun e => by have := (h.d.lt _ e).2; omega
theorem pend_at {W : World} {p : Nat} (s : St) (w : World) (h : At W w p s) : Calls Tryd.prog 21 #[.pointer (some ⟨p, 0, none⟩)] w fun e w' => ∃ ao cap, e = .returned (.slice ao s.pend.length cap) ∧ Ints w' ao s.ints ∧ At W w' p s ∧ Below w.heap.size w w' := by
  have e := h.e
  subst e
  exact (pending_any s w h.d).mono fun _ _ ⟨ao, cap, he, hi, _, hb⟩ => ⟨ao, cap, he, hi, h.below hb, hb⟩
/-- a crash that can be -/
theorem crash_ok {W : World} {p : Nat} (s : St) (a : Option Addr) (n c : Nat) (ks : List Int) (t x : Int) (part : Nat) (w : World) (h : At W w p s) (hk : Ints w a ks) (hn : ks.length = n) (hm : n ≤ 9223372036854775807) (hkb : ∀ b off, a = some ⟨b, off, none⟩ → ¬ s.has b) (hx : x = part) (hp : part ≤ 512) (hf : fitOk s.pend.length ks t) :
    Calls Tryd.prog 16 #[.pointer (some ⟨p, 0, none⟩), .slice a n c, .int .i64 t, .int .i64 x] w fun e w' => e = .returned .nilIface ∧ At W w' p (s.crash ks t part) ∧ Step w s w' (s.crash ks t part) := by
  have e := h.e
  subst e hx
  exact (crash_any s a n c ks t part w h.d hk hn hm hkb hp hf).mono fun _ _ ⟨he, hd, hs⟩ => ⟨he, h.step hd hs (torn_D _ _ _), hs⟩
/-- an act's fields in a block of the call's own -/
def actObj (A : ActV) : Obj := .cells #[.int .i64 A.kind, .int .i64 A.i, .string A.b, .slice A.ka A.kn A.kc, .int .i64 A.torn, .int .i64 A.part] 35
theorem actObj_cell (w : World) (A : ActV) (j : Nat) (v : Value) (h : A.cells[j]? = some v) : (w.alloc (actObj A)).cell? ⟨w.heap.size, j, none⟩ = some v := by
  rw [cell_of_row _ _ _ _ _ _ (heap_alloc_new w (actObj A))]
  rw [← h]
  simp [ActV.cells]
end Go.Proofs.YtibopcbebcikbaaDoor

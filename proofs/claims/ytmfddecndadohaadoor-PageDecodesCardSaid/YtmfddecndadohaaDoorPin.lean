/-
  WHAT A PAGE THAT CAME IN GIVES A WALK. Conditions: that it could be read.
-/
import Derived.Test.YtmfddecndadohaaDoorSu
import Derived.OpenShut
import Derived.Deep.Slices
import Derived.Deep.Fields
import Derived.ChangeSlices
import Derived.ChangeArms
namespace Go.Proofs.YtmfddecndadohaaDoor
open Go.RowKit Go.ChangeShapes Go.WideShapes Go.Deep

/-- a page that came in -/
structure PageIn (w : World) (ki nu ep si : Int) (a : Option Addr) (n : Nat) (rs : List (List Int)) : Prop where
  k0 : 0 ≤ ki
  k1 : ki < 256
  n0 : 0 ≤ nu
  n1 : nu < 4294967296
  e0 : 0 ≤ ep
  e1 : ep < 18446744073709551616
  s0 : -9223372036854775808 ≤ si
  s1 : si ≤ 9223372036854775807
  recs : Recs w a rs
  len : rs.length = n
  max : n ≤ 9223372036854775807
theorem wf_u32 {x : Int} (h : (Lit.int .u32 x).wf = true) : 0 ≤ x ∧ x < 4294967296 := by
  have h1 : IntKind.u32.min ≤ x ∧ x ≤ IntKind.u32.max := by simpa [Lit.wf] using h
  have e0 : IntKind.u32.min = 0 := rfl
  have e1 : IntKind.u32.max = 4294967295 := rfl
  omega
theorem wf_u64 {x : Int} (h : (Lit.int .u64 x).wf = true) : 0 ≤ x ∧ x < 18446744073709551616 := by
  have h1 : IntKind.u64.min ≤ x ∧ x ≤ IntKind.u64.max := by simpa [Lit.wf] using h
  have e0 : IntKind.u64.min = 0 := rfl
  have e1 : IntKind.u64.max = 18446744073709551615 := rfl
  omega
section
variable {H : Type} {enc : TypeId × Value → H} {w : World} {base : Nat} {spare : Nat → Bool} {held : Bool}
set_option maxRecDepth 100000 in
/-- one record -/
theorem rec_of {fuel : Nat} {cs : List Value} {x : DataW H × List MemPlace} (h : DataW.trod enc Tryd.prog w base spare held fuel 30 cs = some x) :
    ∃ (ra : Option Addr) (rc : Nat) (xs : List Int), cs = [.slice ra xs.length rc] ∧ Lies w ra xs ∧ xs.length ≤ rc ∧ rc ≤ 9223372036854775807 := by
  rcases open_ints Tryd.underlying30 Tryd.underlying5 (by kernel_rfl) h with ⟨hcs, _⟩ | ⟨a, len, cap, zs, hcs, _, hl, hm, hz, _, hcell, hwz⟩
  · exact ⟨none, 0, [], hcs, lies_nil _ _, Nat.le_refl _, by omega⟩
  · unfold maxLen at hm
    have hz' : len ≤ zs.length := by rw [hz]; split <;> omega
    have hlen : (zs.take len).length = len := by rw [List.length_take]; omega
    refine ⟨some a, cap, zs.take len, by rw [hlen]; exact hcs, ?_, by omega, by omega⟩
    intro i hi
    have hi' : i < len := by omega
    have hiz : i < zs.length := by omega
    obtain ⟨b, off, spot⟩ := a
    have c := hcell i hiz
    have hspot : spot = none := by
      have c0 := hcell 0 (by omega)
      simpa [Addr.add] using World.cell?_spot c0
    subst hspot
    have e : zs.getD i 0 = (zs.take len)[i] := by rw [List.getElem_take]; simp [hiz]
    rw [e, Addr.add_mid] at c
    have hb := bounds_u8 (hwz (zs.take len)[i] (List.mem_of_mem_take (List.getElem_mem hi)))
    exact ⟨b, off, rfl, c, hb.1, by omega⟩
set_option maxRecDepth 100000 in
theorem recs_of {fuel : Nat} {cs : List Value} {x : DataW H × List MemPlace} (h : DataW.trod enc Tryd.prog w base spare held fuel 24 cs = some x) :
    ∃ (a : Option Addr) (n c : Nat) (rs : List (List Int)), cs = [.slice a n c] ∧ Recs w a rs ∧ rs.length = n ∧ n ≤ 9223372036854775807 := by
  rcases open_slice Tryd.underlying24 h with ⟨hcs, _⟩ | ⟨ad, len, cap, m, n, D, Pl, hcs, _, hl, hm, hmm, _, hi⟩
  · exact ⟨none, 0, 0, [], hcs, fun i hi => absurd hi (by simp), rfl, by omega⟩
  · have hlm : len ≤ m := by rw [hmm]; split <;> omega
    have e1 : Tryd.prog.cellsOf 30 = 1 := by kernel_rfl
    have hspot : 0 < len → ad.spot = none := by
      intro h0
      obtain ⟨cs', hc, ht⟩ := hi 0 (by omega)
      rw [e1] at hc
      obtain ⟨ra, rc, xs, rfl, _⟩ := rec_of ht
      obtain ⟨_, _, hat⟩ := World.cells?_some hc
      have c := hat 0 (by omega)
      have e : (ad.add (0 * 1)).add 0 = ad := by simp [Addr.add]
      rw [e] at c
      exact World.cell?_spot (v := .slice ra xs.length rc) (by simpa using c)
    have hA : ∀ i, ∃ xs : List Int, i < len → ∃ b off ra rc, ad = (⟨b, off, none⟩ : Addr) ∧ w.cell? ⟨b, off + i, none⟩ = some (.slice ra xs.length rc) ∧ Lies w ra xs ∧ xs.length ≤ rc ∧ rc ≤ 9223372036854775807 := by
      intro i
      by_cases hlt : i < len
      · obtain ⟨cs', hc, ht⟩ := hi i (by omega)
        rw [e1] at hc
        obtain ⟨ra, rc, xs, rfl, h1, h2, h3⟩ := rec_of ht
        obtain ⟨_, hcl, hat⟩ := World.cells?_some hc
        have c := hat 0 (by omega)
        obtain ⟨b, o, spot⟩ := ad
        have e0 : (Addr.add (Addr.add ⟨b, o, spot⟩ (i * 1)) 0) = Addr.add ⟨b, o, spot⟩ i := by simp [Addr.add]
        rw [e0] at c
        have hs := hspot (by omega)
        change spot = none at hs
        subst hs
        rw [Addr.add_mid] at c
        exact ⟨xs, fun _ => ⟨b, o, ra, rc, rfl, by simpa using c, h1, h2, h3⟩⟩
      · exact ⟨[], fun h => absurd h hlt⟩
    unfold maxLen at hm
    refine ⟨some ad, len, cap, (List.range len).map fun i => (hA i).choose, hcs, ?_, by simp, by omega⟩
    intro i hi'
    have hil : i < len := by simpa using hi'
    obtain ⟨b, off, ra, rc, h0, h1, h2, h3, h4⟩ := (hA i).choose_spec hil
    have e : ((List.range len).map fun i => (hA i).choose)[i] = (hA i).choose := by simp
    rw [e]
    exact ⟨b, off, ra, rc, by rw [h0], h1, h2, h3, h4⟩
set_option maxRecDepth 100000 in
theorem page_of {fuel : Nat} {cs : List Value} {x : DataW H × List MemPlace} (h : DataW.trod enc Tryd.prog w base spare held fuel 26 cs = some x) :
    ∃ ki nu ep si a n c rs, cs = [.int .u8 ki, .int .u32 nu, .int .u64 ep, .int .i64 si, .slice a n c] ∧ PageIn w ki nu ep si a n rs := by
  obtain ⟨xs, n, _, _, hlen, hxl, hf⟩ := DataW.trod_struct Tryd.underlying26 h
  have h5 : cs.length = 5 := hlen.trans (by kernel_rfl)
  match cs, h5, hf with
  | [c0, c1, c2, c3, c4], _, hf =>
    have hx5 : xs.length = 5 := hxl
    match xs, hx5, hf with
    | [x0, x1, x2, x3, x4], _, hf =>
      have e1 : Tryd.prog.cellsOf 3 = 1 := by kernel_rfl
      have e2 : Tryd.prog.cellsOf 5 = 1 := by kernel_rfl
      have e3 : Tryd.prog.cellsOf 22 = 1 := by kernel_rfl
      have e4 : Tryd.prog.cellsOf 23 = 1 := by kernel_rfl
      have e5 : Tryd.prog.cellsOf 24 = 1 := by kernel_rfl
      have f0 := hf 0 _ rfl
      have f1 := hf 1 _ rfl
      have f2 := hf 2 _ rfl
      have f3 := hf 3 _ rfl
      have f4 := hf 4 _ rfl
      change DataW.trod enc Tryd.prog w base spare held n 5 (List.take (Tryd.prog.cellsOf 5) [c0, c1, c2, c3, c4]) = some x0 at f0
      rw [e2] at f0
      change DataW.trod enc Tryd.prog w base spare held n 22 (List.take (Tryd.prog.cellsOf 22) [c1, c2, c3, c4]) = some x1 at f1
      rw [e3] at f1
      change DataW.trod enc Tryd.prog w base spare held n 23 (List.take (Tryd.prog.cellsOf 23) [c2, c3, c4]) = some x2 at f2
      rw [e4] at f2
      change DataW.trod enc Tryd.prog w base spare held n 3 (List.take (Tryd.prog.cellsOf 3) [c3, c4]) = some x3 at f3
      rw [e1] at f3
      change DataW.trod enc Tryd.prog w base spare held n 24 (List.take (Tryd.prog.cellsOf 24) [c4]) = some x4 at f4
      rw [e5] at f4
      obtain ⟨n0, g0, _, w0⟩ := DataW.trod_int Tryd.underlying5 f0
      obtain ⟨n1, g1, _, w1⟩ := DataW.trod_int Tryd.underlying22 f1
      obtain ⟨n2, g2, _, w2⟩ := DataW.trod_int Tryd.underlying23 f2
      obtain ⟨n3, g3, _, w3⟩ := DataW.trod_int Tryd.underlying3 f3
      obtain ⟨a, m, c, rs, g4, hr, hl, hm⟩ := recs_of f4
      have b0 := bounds_u8 w0
      have b1 := wf_u32 w1
      have b2 := wf_u64 w2
      have b3 := bounds_i64 w3
      refine ⟨n0, n1, n2, n3, a, m, c, rs, ?_, ⟨b0.1, by omega, b1.1, b1.2, b2.1, b2.2, b3.1, b3.2, hr, hl, hm⟩⟩
      simp at g0 g1 g2 g3 g4
      rw [g0, g1, g2, g3, g4]
set_option maxRecDepth 100000 in
theorem page_open {b0 : Nat} {v : Value} {d : DataW H} {p : List MemPlace} {r : Reach} (hv : Value.okWide Tryd.prog w r b0 26 v) (h : DataW.Trod enc Tryd.prog w base spare held 26 v d p) :
    ∃ ki nu ep si a n c rs, v = .agg #[.int .u8 ki, .int .u32 nu, .int .u64 ep, .int .i64 si, .slice a n c] ∧ PageIn w ki nu ep si a n rs := by
  obtain ⟨cs, rfl, hsz⟩ := okWide_struct Tryd.underlying26 hv
  obtain ⟨fuel, hf⟩ := h
  obtain ⟨ki, nu, ep, si, a, n, c, rs, hcs, hp⟩ := page_of hf
  refine ⟨ki, nu, ep, si, a, n, c, rs, ?_, hp⟩
  have e : cs.toList = [.int .u8 ki, .int .u32 nu, .int .u64 ep, .int .i64 si, .slice a n c] := by simpa [Value.cells] using hcs
  rw [← Array.toArray_toList (xs := cs), e]
end
end Go.Proofs.YtmfddecndadohaaDoor

/-
  RLE: runs: the runs of sorted cells.
-/
import Derived.Test.YtangbokcdgganaaGreatDoorMb
import Derived.Test.YtangbokcdgganaaGreatDoorMc
namespace Go.Proofs.YtangbokcdgganaaGreatDoor
open Go.RowKit Ru Ce

namespace Rl
def runsT (lx : Int) : List Cel → Int → Int → List UInt8 × Nat → List UInt8 × Nat
  | [], _, _, p => p
  | c :: t, ax, ay, p =>
    runsT lx ((c :: t).drop (tog (c :: t))) (c.1 + (tog (c :: t) : Nat)) c.2
      (runT (runT (if ay < c.2 then runT p (c.2 - ay).toNat 36 else p) (c.1 - (if ay < c.2 then lx else ax)).toNat 98) (tog (c :: t)) 111)
termination_by l => l.length
decreasing_by
  have := (tog_le c t).1
  simp only [List.length_drop, List.length_cons]
  omega
structure Nice (lx : Int) (L : List Cel) (ax ay : Int) : Prop where
  srt : Srt L
  lo : ∀ c ∈ L, lx ≤ c.1
  up : ∀ c ∈ L, ay < c.2 ∨ (ay = c.2 ∧ ax ≤ c.1)
  ok : ∀ c ∈ L, okc c = true
theorem tk_at : ∀ (l : List Cel) (x y : Int) (i : Nat) (h : i < l.length), i < tk l x y → l[i] = (x + (i : Int), y)
  | [], _, _, _, h, _ => absurd h (by simp)
  | d :: r, x, y, i, h, k => by
    unfold tk at k
    by_cases e : d = (x, y)
    · rw [if_pos e] at k
      match i, h, k with
      | 0, _, _ => simp [e]
      | i + 1, h, k =>
        have := tk_at r (x + 1) y i (by simpa using h) (by omega)
        rw [List.getElem_cons_succ, this]
        congr 1; push_cast; omega
    · rw [if_neg e] at k; omega
theorem Nice.next {lx : Int} {c : Cel} {t : List Cel} {ax ay : Int} (h : Nice lx (c :: t) ax ay) : Nice lx ((c :: t).drop (tog (c :: t))) (c.1 + (tog (c :: t) : Nat)) c.2 := by
  have hm : ∀ d ∈ (c :: t).drop (tog (c :: t)), d ∈ c :: t := fun d hd => List.mem_of_mem_drop hd
  have ht := tog_le c t
  refine ⟨h.srt.sublist (List.drop_sublist _ _), fun d hd => h.lo d (hm d hd), fun d hd => ?_, fun d hd => h.ok d (hm d hd)⟩
  obtain ⟨j, hj, e⟩ := List.mem_iff_getElem.1 hd
  rw [List.length_drop] at hj
  rw [List.getElem_drop] at e
  have hl : lt ((c :: t)[tog (c :: t) - 1]'(by omega)) d = true := by
    rw [← e]
    exact List.pairwise_iff_getElem.1 h.srt _ _ (by omega) (by omega) (by omega)
  have hk : (c :: t)[tog (c :: t) - 1]'(by omega) = (c.1 + ((tog (c :: t) - 1 : Nat) : Int), c.2) := by
    by_cases h1 : tog (c :: t) - 1 = 0
    · simp [h1]
    · obtain ⟨i, hi⟩ : ∃ i, tog (c :: t) - 1 = i + 1 := ⟨tog (c :: t) - 2, by omega⟩
      have hit : i < tk t (c.1 + 1) c.2 := by
        have : tog (c :: t) = tk t (c.1 + 1) c.2 + 1 := rfl
        omega
      simp only [hi, List.getElem_cons_succ]
      rw [tk_at t (c.1 + 1) c.2 i _ hit]
      congr 1; push_cast; omega
  rw [hk, lt_iff] at hl
  simp only at hl
  omega
set_option maxRecDepth 100000 in
theorem tail_r (b o n c k : Nat) (hk : k ≤ n) (W : World) : (Instr.sliceAt 23 (.slice (some ⟨b, o, none⟩) n c) (some (.int .i64 (k : Int))) none none).run Tryz.prog W = .ok (.slice (some (if c = k then ⟨b, o, none⟩ else ⟨b, o + k * 2, none⟩)) (n - k) (c - k)) W := by
  have e := run_sliceAt_slice (P := Tryz.prog) (w := W) 23 (.slice (some ⟨b, o, none⟩) n c) (some (.int .i64 (k : Int))) none none Tryz.underlying23
  rw [e]
  have i0 : (0 : Int) ≤ (k : Int) := by omega
  have i1 : (k : Int) ≤ (n : Int) := by omega
  have hu := Tryz.underlying23
  have hs : (Tryz.prog.info? 25).map (·.size) = some 2 := by kernel_rfl
  obtain ⟨ie, hie, hsz⟩ := Option.map_eq_some_iff.1 hs
  by_cases h : c = k
  · simp [Instr.slice, Instr.sliceBounds, run_underlying hu, i0, i1, h, sizeOf, typeInfo, hie, hsz, go_sem]
  · simp [Instr.slice, Instr.sliceBounds, run_underlying hu, i0, i1, h, sizeOf, typeInfo, hie, hsz, go_sem]
theorem cls_drop {w : World} {b off : Nat} {L : List Cel} (h : Cls w (some ⟨b, off, none⟩) L) (k : Nat) : Cls w (some ⟨b, off + k * 2, none⟩) (L.drop k) := fun i hi => by
  rw [List.length_drop] at hi
  obtain ⟨b', o', ha, h0, h1⟩ := h (k + i) (by omega)
  obtain ⟨rfl, rfl⟩ : b = b' ∧ off = o' := by simpa using ha
  rw [show off + (k + i) * 2 = off + k * 2 + i * 2 by omega] at h0 h1
  exact ⟨b, _, rfl, by rw [h0, List.getElem_drop], by rw [h1, List.getElem_drop]⟩
theorem cls_tail {w : World} {b o n c : Nat} {L : List Cel} (h : Cls w (some ⟨b, o, none⟩) L) (hn : L.length = n) (hc : n ≤ c) (k : Nat) : Cls w (some (if c = k then ⟨b, o, none⟩ else ⟨b, o + k * 2, none⟩)) (L.drop k) := by
  by_cases e : c = k
  · rw [List.drop_eq_nil_of_le (by omega)]; exact cls_nil _ _
  · rw [if_neg e]; exact cls_drop h k
/-- a block of a cell -/
def Cb (w : World) (g : Nat) (x y : Int) : Prop := w.heap[g]? = some (.cells #[.int .i64 x, .int .i64 y] 25 (0, 0))
/-- what stands between two rounds -/
structure RS (B g : Nat) (w0 : World) (lx ly : Int) (L : List Cel) (ao : Option Addr) (ax ay : Int) (p : List UInt8 × Nat) (w : World) : Prop where
  bl : Below B w0 w
  fr : Fr8 g w0 w
  wt : WtE B w g p
  tb : Tb w
  b5 : Cb w w0.heap.size lx ly
  b6 : Cb w (w0.heap.size + 1) ax ay
  cl : Cls w ao L
  lt : ∀ a, ao = some a → a.block < B
  hB : B ≤ w0.heap.size
  gl : g < w0.heap.size
theorem cls_b {w w' : World} {B : Nat} {ao : Option Addr} {L : List Cel} (h : Cls w ao L) (hlt : ∀ a, ao = some a → a.block < B) (hb : Below B w w') : Cls w' ao L :=
  h.same (fun b _ e => hb.block b (hlt _ e))
theorem u_ne : ¬ 25 = 5 := by decide
theorem RS.wr {B g : Nat} {w0 w w' : World} {lx ly ax ay : Int} {L : List Cel} {ao : Option Addr} {p p' : List UInt8 × Nat} {e : Ending} (h : RS B g w0 lx ly L ao ax ay p w) (k : WtR B g w p' e w') (ht : 2 < B) : RS B g w0 lx ly L ao ax ay p' w' :=
  ⟨h.bl.trans k.2.1, h.fr.trans k.2.2.2, k.2.2.1, by
    have hb := k.2.1
    have h1 := h.tb
    unfold Tb Lib.TabIs World.var? at h1 ⊢
    rw [tb_g] at h1 ⊢
    simp only [Option.bind_some] at h1 ⊢
    rw [hb.block _ ht]
    exact h1, k.2.2.2.2 _ _ _ _ (by have := h.gl; omega) u_ne h.b5, k.2.2.2.2 _ _ _ _ (by have := h.gl; omega) u_ne h.b6, cls_b h.cl h.lt k.2.1, h.lt, h.hB, h.gl⟩
theorem RS.next {B g : Nat} {w0 w w' : World} {lx ly ax ay : Int} {L : List Cel} {ao : Option Addr} {p : List UInt8 × Nat} (h : RS B g w0 lx ly L ao ax ay p w) (k : Below w.heap.size w w') : RS B g w0 lx ly L ao ax ay p w' :=
  have hs : B ≤ w.heap.size := Nat.le_trans h.hB h.fr.1
  ⟨h.bl.trans (k.mono hs), h.fr.trans (Fr8.below k), by obtain ⟨v, hv⟩ := h.wt; exact ⟨v, hv.other k⟩, h.tb.below k, (k.block _ (lt_of_block h.b5)).trans h.b5, (k.block _ (lt_of_block h.b6)).trans h.b6, h.cl.below k (Nat.le_refl _), h.lt, h.hB, h.gl⟩
/-- another cell in the second block -/
theorem RS.at6 {B g : Nat} {w0 w w' : World} {lx ly ax ay ax' ay' : Int} {L : List Cel} {ao : Option Addr} {p : List UInt8 × Nat} (h : RS B g w0 lx ly L ao ax ay p w) (h6 : Cb w' (w0.heap.size + 1) ax' ay') (hs : w'.heap.size = w.heap.size) (ho : w'.os = w.os ∧ w'.tape = w.tape ∧ w'.output = w.output) (hk : ∀ k, k ≠ w0.heap.size + 1 → w'.heap[k]? = w.heap[k]?) : RS B g w0 lx ly L ao ax' ay' p w' := by
  have hB := h.hB
  have hg := h.gl
  refine ⟨⟨ho.1.trans h.bl.os, ho.2.1.trans h.bl.tape, ho.2.2.trans h.bl.output, by rw [hs]; exact h.bl.size, fun k hkB => (hk k (by omega)).trans (h.bl.block k hkB)⟩, ⟨by rw [hs]; exact h.fr.1, fun k cs t f hkg ht hc => (hk k (by have := lt_of_block hc; omega)).trans (h.fr.2 k cs t f hkg ht hc)⟩, ?_, ?_, (hk _ (by omega)).trans h.b5, h6, h.cl.same (fun b o e => hk b (by have := h.lt _ e; simp at this; omega)), h.lt, hB, hg⟩
  · obtain ⟨v, hv⟩ := h.wt
    refine ⟨v, (hk g (by omega)).trans hv.blk, ownb_same hv.own (fun b hb => hk b (fun e => ?_)), hv.le⟩
    rcases hv.own.2 with ⟨rfl, _⟩ | ⟨b2, cap, cur, rfl, _, h4, _⟩
    · cases hb
    · obtain rfl : b2 = b := Option.some.inj hb
      subst e
      have h6' := h.b6
      unfold Cb at h6'
      rw [h6'] at h4
      injection h4 with h4
      injection h4 with _ h4 _
      exact u_ne h4
  · have hlt := h.tb.lt
    have h1 := h.tb
    unfold Tb Lib.TabIs World.var? at h1 ⊢
    rw [tb_g] at h1 ⊢
    simp only [Option.bind_some] at h1 ⊢
    by_cases e : 2 = w0.heap.size + 1
    · rw [e] at h1
      have h6' := h.b6
      unfold Cb at h6'
      rw [h6'] at h1
      simp only [Option.some.injEq] at h1
      have := congrArg Array.size h1
      simp [Lib.pow10Tab] at this
    · rw [hk _ e]; exact h1
end Rl
end Go.Proofs.YtangbokcdgganaaGreatDoor

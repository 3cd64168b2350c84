/-
  WHICH SECTORS ARE FREE, in memory: the walks of clear and spaceOf. Conditions: those that each lemma names.
  PAGES OF SECTORS: the walks of isList and listed. Conditions: those that each lemma names.
  WHAT A PAGE OF SECTORS TELLS: the walk of told. Conditions: those that each lemma names.
-/
import Derived.LoopN
import Derived.Test.YtokikeenfpligaaGreatDoorU30
import Derived.Test.YtokikeenfpligaaGreatDoorU11
namespace Go.Proofs.YtokikeenfpligaaGreatDoor.Sh
open Go.RowKit Go.Maps

structure SpRaw (w : World) (G T n : Nat) (x y : Int) (t : Nat → Bool) : Prop where
  c0 : w.cell? ⟨G, 0, none⟩ = some (.slice (some ⟨T, 0, none⟩) n n)
  c1 : w.cell? ⟨G, 1, none⟩ = some (.int .i64 x)
  c2 : w.cell? ⟨G, 2, none⟩ = some (.int .i64 y)
  fG : ∀ i, w.frozen? ⟨G, i, none⟩ = false
  ct : ∀ i, i < n → w.cell? ⟨T, i, none⟩ = some (.bool (t i))
  fT : ∀ i, w.frozen? ⟨T, i, none⟩ = false
  ne : G ≠ T
  n1 : n ≤ 16384
  n2 : 2 ≤ n
theorem SpAt.raw {w : World} {G T : Nat} {S : Spc} (h : SpAt w G T S) : SpRaw w G T S.n S.free S.lo S.t := ⟨h.c0, h.c1, h.c2, h.fG, h.ct, h.fT, h.ne, h.n1, h.n2⟩
theorem SpRaw.setT {w : World} {G T n : Nat} {x y : Int} {t : Nat → Bool} (h : SpRaw w G T n x y t) {s : Nat} (hs : s < n) (b : Bool) : SpRaw (w.setCell ⟨T, s, none⟩ (.bool b)) G T n x y (updB t s b) :=
  ⟨set_ne h.c0 (.inl h.ne), set_ne h.c1 (.inl h.ne), set_ne h.c2 (.inl h.ne), fun i => by rw [World.frozen?_setCell]; exact h.fG i, fun i hi => by
    unfold updB
    by_cases e : i = s
    · rw [if_pos e, e]; exact World.cell?_setCell_same _ _ _ (h.ct s hs)
    · rw [if_neg e]; exact set_ne (h.ct i hi) (.inr e), fun i => by rw [World.frozen?_setCell]; exact h.fT i, h.ne, h.n1, h.n2⟩
theorem SpRaw.set1 {w : World} {G T n : Nat} {x y : Int} {t : Nat → Bool} (h : SpRaw w G T n x y t) (z : Int) : SpRaw (w.setCell ⟨G, 1, none⟩ (.int .i64 z)) G T n z y t :=
  ⟨set_ne h.c0 (.inr (by decide)), World.cell?_setCell_same _ _ _ h.c1, set_ne h.c2 (.inr (by decide)), fun i => by rw [World.frozen?_setCell]; exact h.fG i, fun i hi => set_ne (h.ct i hi) (.inl (fun e => h.ne e.symm)), fun i => by rw [World.frozen?_setCell]; exact h.fT i, h.ne, h.n1, h.n2⟩
theorem SpRaw.set2 {w : World} {G T n : Nat} {x y : Int} {t : Nat → Bool} (h : SpRaw w G T n x y t) (z : Int) : SpRaw (w.setCell ⟨G, 2, none⟩ (.int .i64 z)) G T n x z t :=
  ⟨set_ne h.c0 (.inr (by decide)), set_ne h.c1 (.inr (by decide)), World.cell?_setCell_same _ _ _ h.c2, fun i => by rw [World.frozen?_setCell]; exact h.fG i, fun i hi => set_ne (h.ct i hi) (.inl (fun e => h.ne e.symm)), fun i => by rw [World.frozen?_setCell]; exact h.fT i, h.ne, h.n1, h.n2⟩
theorem wrt_setCells {H : Nat → Prop} {g : Nat} (hg : H g) : ∀ (vs : List Value) (o : Nat) (w : World), Wrt H w (w.setCells g o vs)
  | [], _, _ => Wrt.refl _ _
  | v :: vs, o, w => ((Wrt.refl H w).set hg o v).trans (wrt_setCells hg vs (o + 1) _)
theorem zero_b (w : World) : (zeroValue 4).run Tryz.prog w = .ok (.bool false) w := by kernel_rfl
theorem cleared_raw {w : World} {G T n : Nat} {x y : Int} {t : Nat → Bool} (h : SpRaw w G T n x y t) : SpRaw (w.setCells T 0 (List.replicate n (.bool false))) G T n x y (fun _ => false) ∧ Wrt (spH G T) w (w.setCells T 0 (List.replicate n (.bool false))) := by
  have hw : Wrt (fun b => b = T) w (w.setCells T 0 (List.replicate n (.bool false))) := wrt_setCells (H := fun b => b = T) rfl _ _ _
  have hG := hw.block G h.ne
  refine ⟨⟨(World.cell?_of_block hG).trans h.c0, (World.cell?_of_block hG).trans h.c1, (World.cell?_of_block hG).trans h.c2, fun i => (World.frozen?_of_block hG).trans (h.fG i), fun i hi => ?_, fun i => by rw [World.frozen?_setCells]; exact h.fT i, h.ne, h.n1, h.n2⟩, wrt_setCells (.inr rfl) _ _ _⟩
  have := World.cell?_setCells_in T (List.replicate n (.bool false)) 0 w (fun j hj => by rw [Nat.zero_add, h.ct j (by simpa using hj)]; rfl) i (by simpa using hi)
  rw [Nat.zero_add] at this
  rw [this, List.getElem_replicate]
theorem SpRaw.done {w : World} {G T n : Nat} (h : SpRaw w G T n ((n : Int) - 2) 2 (updB (updB (fun _ => false) 0 true) 1 true)) : SpAt w G T (Spc.clear n) := by
  have n2 := h.n2
  refine ⟨h.c0, ?_, h.c2, h.fG, fun i hi => ?_, h.fT, h.ne, clear_ok h.n2, h.n1, h.n2⟩
  · show _ = some (Value.int .i64 ((n - 2 : Nat) : Int))
    rw [h.c1, show ((n - 2 : Nat) : Int) = (n : Int) - 2 by omega]
  · rw [h.ct i hi]
    show some (Value.bool (updB (updB (fun _ => false) 0 true) 1 true i)) = some (.bool (decide (i < 2)))
    unfold updB
    by_cases e1 : i = 1
    · subst e1; rfl
    · by_cases e0 : i = 0
      · subst e0; rfl
      · rw [if_neg e1, if_neg e0, decide_eq_false (by omega)]
set_option maxRecDepth 100000 in
set_option maxHeartbeats 1000000 in
theorem clear_any (G T n : Nat) (x y : Int) (t : Nat → Bool) (w : World) (h : SpRaw w G T n x y t) :
    Calls Tryz.prog 78 #[.pointer (some ⟨G, 0, none⟩)] w (Gave w G T (Spc.clear n)) := by
  have c0 := h.c0
  have n1 := h.n1
  have n2 := h.n2
  have hcl : ∀ ty, (Builtin.clear_ #[121] ty #[.slice (some ⟨T, 0, none⟩) n n]).run Tryz.prog w = .ok (.tuple #[]) (w.setCells T 0 (List.replicate n (.bool false))) :=
    fun ty => Lib.run_clear_slice w 121 4 ty (.bool false) Tryz.underlying121 zero_b rfl rfl T 0 n n (by omega) (fun j hj => by rw [Nat.zero_add, h.ct j hj]; rfl) (fun j hj => h.fT _)
  obtain ⟨h1, hw1⟩ := cleared_raw h
  have H1 := Lib.hid h1
  have W1 := Lib.hid hw1
  clear h h1 hw1
  go_enter Tryz.func78, Tryz.ntmps78
  go_wp2
  generalize w.setCells T 0 (List.replicate n (.bool false)) = w1 at H1 W1 ⊢
  clear hcl c0
  have c0 := H1.out.c0
  have f0 := H1.out.fT 0
  have f1 := H1.out.fT 1
  have t0 := H1.out.ct 0 (by omega)
  have t1 := H1.out.ct 1 (by omega)
  have H2 := Lib.hid (H1.out.setT (s := 0) (by omega) true)
  have H3 := Lib.hid (H2.out.setT (s := 1) (by omega) true)
  have H4 := Lib.hid (H3.out.set1 ((n : Int) - 2))
  have H5 := Lib.hid (H4.out.set2 2)
  have W5 := Lib.hid ((((W1.out.set (.inr rfl) 0 (.bool true)).set (.inr rfl) 1 (.bool true)).set (.inl rfl) 1 (.int .i64 ((n : Int) - 2))).set (.inl rfl) 2 (.int .i64 2))
  have a0 := H2.out.c0
  have a1 := H2.out.ct 1 (by omega)
  have a2 := H2.out.fT 1
  have b0 := H3.out.c0
  have b1 := H3.out.c1
  have b2 := H3.out.fG 1
  have d0 := H4.out.c2
  have d1 := H4.out.fG 2
  refine wp_loop_rounds 3 ?_
  rw [rounds_succ]
  go_wp2
  rw [rounds_succ]
  go_wp2
  rw [rounds_succ]
  go_wp2
  go_end0
  exact ⟨rfl, H5.out.done, W5.out⟩
theorem below_wrt {B : Nat} {a w w' : World} {H : Nat → Prop} (h : Below B a w) (hw : Wrt H w w') (hH : ∀ b, H b → B ≤ b) : Below B a w' :=
  ⟨hw.os.trans h.os, hw.tape.trans h.tape, hw.output.trans h.output, by rw [hw.size]; exact h.size, fun k hk => (hw.block k (fun q => by have := hH k q; omega)).trans (h.block k hk)⟩
def NewSp (w : World) (n : Nat) (e : Ending) (w' : World) : Prop := ∃ G T, e = .returned (.pointer (some ⟨G, 0, none⟩)) ∧ SpAt w' G T (Spc.clear n) ∧ w.heap.size ≤ G ∧ w.heap.size ≤ T ∧ Below w.heap.size w w'
set_option maxRecDepth 100000 in
theorem info_bool : (Tryz.prog.info? 4).map (fun i => (i.zero, i.size, i.bytes)) = some (some (.bool false), 1, 1) := by kernel_rfl
set_option maxRecDepth 100000 in
theorem make_bool (n : Nat) (hn : n ≤ 16384) (w : World) : (Instr.makeSlice 121 (.int .i64 n) (.int .i64 n)).run Tryz.prog w = .ok (.slice (some ⟨w.heap.size, 0, none⟩) n n) (w.alloc (.cells (Array.replicate n (.bool false)) 4)) := by
  rw [run_make_row' (P := Tryz.prog) 121 4 (.bool false) 1 Tryz.underlying121 info_bool rfl .i64 .i64 n (by omega) (by omega) w, made_eq]
set_option maxRecDepth 100000 in
theorem spaceOf_any (n : Nat) (w : World) (h1 : n ≤ 16384) (h2 : 2 ≤ n) :
    Calls Tryz.prog 73 #[.int .i64 n] w (NewSp w n) := by
  have hmk := make_bool n h1 w
  have hr : SpRaw ((w.alloc (.cells (Array.replicate n (.bool false)) 4)).alloc (.cells #[.slice (some ⟨w.heap.size, 0, none⟩) n n, .int .i64 0, .int .i64 0] 123)) (w.heap.size + 1) w.heap.size n 0 0 (fun _ => false) := by
    have eN : w.heap.size + 1 = (w.alloc (.cells (Array.replicate n (Value.bool false)) 4)).heap.size := by simp
    have hT := heap_alloc_new w (.cells (Array.replicate n (Value.bool false)) 4)
    have hG := heap_alloc_new (w.alloc (.cells (Array.replicate n (Value.bool false)) 4)) (.cells #[.slice (some ⟨w.heap.size, 0, none⟩) n n, .int .i64 0, .int .i64 0] 123)
    rw [← eN] at hG
    have hT2 := (Go.heap_alloc_old (w.alloc (.cells (Array.replicate n (Value.bool false)) 4)) (.cells #[.slice (some ⟨w.heap.size, 0, none⟩) n n, .int .i64 0, .int .i64 0] 123) (lt_of_block hT)).trans hT
    exact ⟨cell_of_row _ _ _ _ _ _ hG, cell_of_row _ _ _ _ _ _ hG, cell_of_row _ _ _ _ _ _ hG, fun i => frozen_of_row _ _ i _ _ hG, fun i hi => by rw [cell_of_row _ _ _ _ _ _ hT2]; simp [hi], fun i => frozen_of_row _ _ i _ _ hT2, by omega, h1, h2⟩
  have HR := Lib.hid hr
  have HB := Lib.hid (((Below.refl w.heap.size w).alloc (Nat.le_refl _) (.cells (Array.replicate n (.bool false)) 4)).alloc (by simp) (.cells #[.slice (some ⟨w.heap.size, 0, none⟩) n n, .int .i64 0, .int .i64 0] 123))
  clear hr
  go_enter Tryz.func73, Tryz.ntmps73
  go_wp2_with (go_at_call 78; refine (clear_any _ _ _ _ _ _ _ HR.out).mono ?_; rintro e w' ⟨rfl, h, hw⟩; have HS := Lib.hid h; have HW := Lib.hid hw; clear h hw)
  go_ret
  exact ⟨_, _, rfl, HS.out, by omega, Nat.le_refl _, below_wrt HB.out HW.out (by rintro b (rfl | rfl) <;> omega)⟩
end Go.Proofs.YtokikeenfpligaaGreatDoor.Sh
namespace Go.Proofs.YtokikeenfpligaaGreatDoor.Sh
open Go.RowKit Go.Maps

/-- a page as a value -/
def pv (ki nu ep si : Int) (ra : Option Addr) (n cap : Nat) : Value := .agg #[.int .u8 ki, .int .u32 nu, .int .u64 ep, .int .i64 si, .slice ra n cap]
def isL (ki si k : Int) : Bool := ki == k && si == 4
theorem isList_any (ki nu ep si k : Int) (ra : Option Addr) (n cap : Nat) (w : World) :
    Calls Tryz.prog 74 #[.agg #[.int .u8 ki, .int .u32 nu, .int .u64 ep, .int .i64 si, .slice ra n cap], .int .u8 k] w fun e w' => e = .returned (.bool (isL ki si k)) ∧ Below w.heap.size w w' := by
  by_cases h : ki = k
  · subst h
    by_cases h2 : si = 4
    · subst h2
      go_enter Tryz.func74, Tryz.ntmps74
      go_wp2
      go_ret
      exact ⟨by unfold isL; simp, (Below.refl _ _).alloc (Nat.le_refl _) _⟩
    · have h3 : (si == 4) = false := by simpa using h2
      go_enter Tryz.func74, Tryz.ntmps74
      go_wp2
      go_ret
      exact ⟨by unfold isL; simp [h3], (Below.refl _ _).alloc (Nat.le_refl _) _⟩
  · have h3 : (ki == k) = false := by simpa using h
    go_enter Tryz.func74, Tryz.ntmps74
    go_wp2
    go_ret
    exact ⟨by unfold isL; simp [h3], (Below.refl _ _).alloc (Nat.le_refl _) _⟩

def rec4 (x : Nat) : List Int := Sm.be 4 (x : Int)
theorem rec4_len (x : Nat) : (rec4 x).length = 4 := Sm.be_len _ _
theorem rec4_eq (x : Nat) : rec4 x = [(x : Int) / 16777216 % 256, (x : Int) / 65536 % 256, (x : Int) / 256 % 256, (x : Int) % 256] := by
  unfold rec4 Sm.be Sm.be Sm.be Sm.be Sm.be
  have e1 : (x : Int) / 256 / 256 = (x : Int) / 65536 := by omega
  have e2 : (x : Int) / 65536 / 256 = (x : Int) / 16777216 := by omega
  simp [e1, e2]
/-- records of their own, so far -/
structure Rcs (w0 w : World) (v : Value) (k : Nat) (rs : List (List Int)) (vs : List Value) : Prop where
  lr : rs.length = k
  len : vs.length = k
  own : w.ownsRow w0.heap.size 72 1 v k vs
  part : ∀ i (h : i < vs.length) (h' : i < rs.length), Sm.Part w0.heap.size w vs[i] rs[i]
theorem Rcs.below {w0 w w' : World} {v : Value} {k : Nat} {rs : List (List Int)} {vs : List Value} (h : Rcs w0 w v k rs vs) (hb : Below w.heap.size w w') : Rcs w0 w' v k rs vs :=
  ⟨h.lr, h.len, Sm.own_below h.own hb, fun i hi hi' => Sm.own_below (h.part i hi hi') hb⟩
theorem Rcs.other {w0 w w' : World} {v : Value} {k : Nat} {rs : List (List Int)} {vs : List Value} (h : Rcs w0 w v k rs vs) {g : Nat} {cs : Array Value} {t : TypeId} {fr : Nat × Nat} (hg : w.heap[g]? = some (.cells cs t fr)) (h1 : 72 ≠ t) (h2 : 5 ≠ t) (hb : ∀ k, k ≠ g → w'.heap[k]? = w.heap[k]?) : Rcs w0 w' v k rs vs :=
  ⟨h.lr, h.len, Sm.own_other h.own hg h1 hb, fun i hi hi' => Sm.own_other (h.part i hi hi') hg h2 hb⟩
theorem Rcs.recs {w0 w : World} {v : Value} {k : Nat} {rs : List (List Int)} {vs : List Value} (h : Rcs w0 w v k rs vs) (hy : ∀ r ∈ rs, Sm.Byte r) : Sm.OwnRecs w0.heap.size w v k rs :=
  ⟨h.lr, hy, vs, h.len, h.own, h.part⟩
theorem rcs_next {w0 w1 w2 : World} {v v2 : Value} {k : Nat} {rs : List (List Int)} {vs : List Value} (h : Rcs w0 w1 v k rs vs) {u : Value} {r : List Int} (hl : Sm.Part w0.heap.size w1 u r)
    (hown : w2.ownsRow w0.heap.size 72 1 v2 (k + 1) (vs ++ [u])) (hg : (w1.alloc (.cells #[u] 72)).grownBy w2 v.ownBlock) : Rcs w0 w2 v2 (k + 1) (rs ++ [r]) (vs ++ [u]) := by
  have h1 := h.below (Sm.alX w1 (.cells #[u] 72))
  refine ⟨by simp [h.lr], by simp [h.len], hown, ?_⟩
  intro i hi hi'
  have hlen := h.len
  have hlr := h.lr
  by_cases hik : i < vs.length
  · rw [List.getElem_append_left hik, List.getElem_append_left (by omega)]
    exact Sm.own_grown (h1.part i hik _) h1.own hg (by decide)
  · have e : i = k := by simp at hi; omega
    subst e
    rw [List.getElem_append_right (by omega), List.getElem_append_right (by omega)]
    simp only [hlen, hlr, Nat.sub_self, List.getElem_cons_zero]
    exact Sm.own_grown (Sm.own_below hl (Sm.alX _ _)) h1.own hg (by decide)
def pg4 (ki nu ep : Int) (l : List Nat) : Sm.Pg := .mkPg ki nu ep 4 (l.map rec4)
def Listed (w : World) (ki nu ep : Int) (l : List Nat) (e : Ending) (w' : World) : Prop :=
  ∃ ra cap, e = .returned (pv ki nu ep 4 ra l.length cap) ∧ Sm.OwnRecs w.heap.size w' (.slice ra l.length cap) l.length (l.map rec4) ∧ l.length ≤ cap ∧ Below w.heap.size w w'
structure LRel (w wr : World) (ki nu ep : Int) (k : Nat) (rs : List (List Int)) (v : Value) (vs : List Value) : Prop where
  c : wr.heap[w.heap.size + 1]? = some (.cells #[.int .u8 ki, .int .u32 nu, .int .u64 ep, .int .i64 4, v] 47 (0, 0))
  z : ∃ c0 c1 c2 c3 c4, wr.heap[w.heap.size]? = some (.cells #[c0, c1, c2, c3, c4] 47 (0, 0))
  r : Rcs w wr v k rs vs
  b : Below w.heap.size w wr
theorem row_grown {w1 w2 : World} {B : Nat} {e : TypeId} {s : Nat} {v : Value} {n : Nat} {xs : List Value} (h : w1.ownsRow B e s v n xs) (hg : w1.grownBy w2 v.ownBlock) {g : Nat} {cs : Array Value} {t : TypeId} {fr : Nat × Nat} (hc : w1.heap[g]? = some (.cells cs t fr)) (hne : e ≠ t) : w2.heap[g]? = some (.cells cs t fr) := by
  refine (hg.block g (lt_of_block hc) ?_).trans hc
  intro hq
  rcases h.2 with ⟨rfl, _⟩ | ⟨g', cap', cur', rfl, _, c', _⟩
  · cases hq
  · have e1 : g = g' := Option.some.inj hq
    subst e1
    rw [hc] at c'
    have := Option.some.inj c'
    injection this with _ h2 _
    exact hne h2.symm
theorem part_made (w : World) (x : Nat) : Sm.Part w.heap.size (w.alloc (.cells #[.int .u8 ((x : Int) / 16777216 % 256), .int .u8 ((x : Int) / 65536 % 256), .int .u8 ((x : Int) / 256 % 256), .int .u8 ((x : Int) % 256)] 5)) (.slice (some ⟨w.heap.size, 0, none⟩) 4 4) (rec4 x) := by
  refine ⟨by rw [Sm.bl_len, Nat.mul_one], .inr ⟨w.heap.size, 4, _, by rw [rec4_len], Nat.le_refl _, heap_alloc_new _ _, by rw [rec4_len]; decide, by decide, rfl, ?_⟩⟩
  rw [rec4_len, rec4_eq]
  rfl
theorem lrel_next {w wr w2 : World} {ki nu ep : Int} {k : Nat} {rs : List (List Int)} {v v2 : Value} {vs : List Value} {x : Nat} {B4 : Obj} (hx : x ≤ 16384) (h : LRel w wr ki nu ep k rs v vs) (hB4 : B4 = .cells #[.int .u8 ((x : Int) / 16777216), .int .u8 ((x : Int) / 65536), .int .u8 ((x : Int) / 256), .int .u8 ((x : Int) % 256)] 5)
    (hown : w2.ownsRow w.heap.size 72 1 v2 (k + 1) (vs ++ [.slice (some ⟨wr.heap.size, 0, none⟩) 4 4])) (hg : ((wr.alloc B4).alloc (Obj.cells #[.slice (some ⟨wr.heap.size, 0, none⟩) 4 4] 72)).grownBy w2 v.ownBlock) :
    w2.heap[w.heap.size + 1]? = some (.cells #[.int .u8 ki, .int .u32 nu, .int .u64 ep, .int .i64 4, v] 47 (0, 0)) ∧ LRel w (w2.setCell ⟨w.heap.size + 1, 4, none⟩ v2) ki nu ep (k + 1) (rs ++ [rec4 x]) v2 (vs ++ [.slice (some ⟨wr.heap.size, 0, none⟩) 4 4]) := by
  rw [show (x : Int) / 16777216 = (x : Int) / 16777216 % 256 by omega, show (x : Int) / 65536 = (x : Int) / 65536 % 256 by omega, show (x : Int) / 256 = (x : Int) / 256 % 256 by omega] at hB4
  subst hB4
  have hr1 := h.r.below (Sm.alX wr (Obj.cells #[.int .u8 ((x : Int) / 16777216 % 256), .int .u8 ((x : Int) / 65536 % 256), .int .u8 ((x : Int) / 256 % 256), .int .u8 ((x : Int) % 256)] 5))
  have hr2 := hr1.below (Sm.alX _ (Obj.cells #[Value.slice (some ⟨wr.heap.size, 0, none⟩) 4 4] 72))
  have hN := rcs_next hr1 (Sm.own_mono (part_made wr x) h.b.size) hown hg
  have hal : ∀ {g : Nat} {cs : Array Value}, wr.heap[g]? = some (Obj.cells cs 47 (0, 0)) → ((wr.alloc (Obj.cells #[.int .u8 ((x : Int) / 16777216 % 256), .int .u8 ((x : Int) / 65536 % 256), .int .u8 ((x : Int) / 256 % 256), .int .u8 ((x : Int) % 256)] 5)).alloc (Obj.cells #[Value.slice (some ⟨wr.heap.size, 0, none⟩) 4 4] 72)).heap[g]? = some (Obj.cells cs 47 (0, 0)) := fun hq =>
    (Go.heap_alloc_old _ _ (by have := lt_of_block hq; simp; omega)).trans ((Go.heap_alloc_old _ _ (lt_of_block hq)).trans hq)
  have hc2 := row_grown hr2.own hg (hal h.c) (show 72 ≠ 47 by decide)
  obtain ⟨c0, c1, c2, c3, c4, hz⟩ := h.z
  have hz2 := row_grown hr2.own hg (hal hz) (show 72 ≠ 47 by decide)
  refine ⟨hc2, ⟨?_, ⟨c0, c1, c2, c3, c4, (heap_setCell_other _ _ _ _ (by show w.heap.size ≠ w.heap.size + 1; omega)).trans hz2⟩, hN.other hc2 (by decide) (by decide) (fun _ hk => heap_setCell_other _ _ _ _ hk), ?_⟩⟩
  · rw [heap_setCell_same _ _ 4 _ _ v2 hc2]; rfl
  · have hb := h.b.size
    have hb1 : Below w.heap.size w ((wr.alloc (.cells #[.int .u8 ((x : Int) / 16777216 % 256), .int .u8 ((x : Int) / 65536 % 256), .int .u8 ((x : Int) / 256 % 256), .int .u8 ((x : Int) % 256)] 5)).alloc (.cells #[Value.slice (some ⟨wr.heap.size, 0, none⟩) 4 4] 72)) := (h.b.alloc hb _).alloc (by simp; omega) _
    exact (hb1.grown hg (by simp; omega) (fun j hj => (hr2.own.lt j hj).1)).setCell (by show w.heap.size ≤ w.heap.size + 1; omega) _
set_option maxRecDepth 100000 in
set_option maxHeartbeats 1000000 in
theorem listed_any (ki nu ep : Int) (a : Option Addr) (n c : Nat) (l : List Nat) (w : World) (hn : l.length = n) (hx : Ints w a (zl l)) (hl : ∀ x ∈ l, x ≤ 16384) (hm : n ≤ 130) (u0 : 0 ≤ nu) (u1 : nu < 4294967296) (e0 : 0 ≤ ep) (e1 : ep ≤ 9223372036854775807) :
    Calls Tryz.prog 75 #[.int .u8 ki, .int .i64 nu, .int .i64 ep, .slice a n c] w (Listed w ki nu ep l) := by
  have HX := Lib.hid hx
  have HN := Lib.hid hn
  have HLX := Lib.hid hl
  clear hx hn hl
  obtain ⟨i0, hi, hz0, hz1, hz2⟩ := info_parts Sm.info_sl
  have HI := Lib.hid hi
  have HI0 := Lib.hid hz0
  have HI1 := Lib.hid hz1
  have HI2 := Lib.hid hz2
  clear hi hz0 hz1 hz2
  go_enter Tryz.func75, Tryz.ntmps75
  go_wp2
  have H0 : Hid (LRel w ((w.alloc (.cells #[.int .u8 0, .int .u32 0, .int .u64 0, .int .i64 0, .slice none 0 0] 47)).alloc (.cells #[.int .u8 ki, .int .u32 nu, .int .u64 ep, .int .i64 4, .slice none 0 0] 47)) ki nu ep 0 ((l.take 0).map rec4) (.slice none 0 0) []) := by
    have eN : w.heap.size + 1 = (w.alloc (.cells #[.int .u8 0, .int .u32 0, .int .u64 0, .int .i64 0, .slice none 0 0] 47)).heap.size := by simp
    have hT := heap_alloc_new w (.cells #[.int .u8 0, .int .u32 0, .int .u64 0, .int .i64 0, .slice none 0 0] 47)
    have hG := heap_alloc_new (w.alloc (.cells #[.int .u8 0, .int .u32 0, .int .u64 0, .int .i64 0, .slice none 0 0] 47)) (.cells #[.int .u8 ki, .int .u32 nu, .int .u64 ep, .int .i64 4, .slice none 0 0] 47)
    rw [← eN] at hG
    exact Lib.hid ⟨hG, ⟨_, _, _, _, _, (Go.heap_alloc_old _ _ (lt_of_block hT)).trans hT⟩, ⟨rfl, rfl, World.ownsRow_nil _ _ _ _, fun i hi => absurd hi (by simp)⟩, ((Below.refl _ _).alloc (Nat.le_refl _) _).alloc (by simp) _⟩
  generalize (w.alloc (.cells #[.int .u8 0, .int .u32 0, .int .u64 0, .int .i64 0, .slice none 0 0] 47)).alloc (.cells #[.int .u8 ki, .int .u32 nu, .int .u64 ep, .int .i64 4, .slice none 0 0] 47) = w1 at H0 ⊢
  go_loopw [20, 11] (fun i _ wr => ∃ (k : Nat) (v : Value) (vs : List Value), k ≤ n ∧ i = .int .i64 k ∧ Hid (LRel w wr ki nu ep k ((l.take k).map rec4) v vs)) (fun i _ _ => n - (intOf i).toNat)
  case atStart => exact ⟨0, _, _, by omega, rfl, H0⟩
  case round =>
    obtain ⟨k, v, vs, hk, rfl, HR⟩ := hrel
    have HBL := Lib.hid HR.out.b
    have c4 : wr.cell? ⟨w.heap.size + 1, 4, none⟩ = some v := cell_of_row _ _ 4 _ _ _ HR.out.c
    by_cases hlt : k < n
    · have hkl : k < l.length := by rw [HN.out]; exact hlt
      obtain ⟨g, off, rfl, hcx⟩ := HX.out k (by rw [zl_len]; exact hkl)
      have hcx2 := (HBL.out.cell (p := ⟨g, off + k, none⟩) (World.block_lt_of_cell? w _ hcx)).trans hcx
      have hx16 := HLX.out l[k] (List.getElem_mem hkl)
      rw [show (zl l)[k]'(by rw [zl_len]; exact hkl) = (l[k] : Int) by simp [zl]] at hcx2
      have HT := Lib.hid (show (l.take (k + 1)).map rec4 = (l.take k).map rec4 ++ [rec4 l[k]] by rw [List.take_succ_eq_append_getElem hkl, List.map_append]; rfl)
      generalize l[k] = x at hcx2 hx16 HT
      have x0 : (0 : Int) ≤ (x : Int) := by omega
      have x1 : (x : Int) ≤ 16384 := by omega
      have j1 : (k : Int) < (n : Int) := by omega
      obtain ⟨ra, cap, rfl⟩ := Sm.own_slice HR.out.r.own
      clear hcx
      have hk130 : k ≤ 130 := by omega
      go_wp2_with (at_builtin; refine wpList_append_own _ rfl (.tmp 25) (.tmp 38) 41 rfl w.heap.size 72 i0 (.slice none 0 0) 1 24 Tryz.underlying41 HI.out HI0.out HI1.out HI2.out rfl (by decide) (.slice ra k cap) k vs rfl (Sm.own_below (Sm.own_below HR.out.r.own (Sm.alX _ _)) (Sm.alX _ _)) ⟨wr.heap.size + 1, 0, none⟩ 1 1 [.slice (some ⟨wr.heap.size, 0, none⟩) 4 4] (by simp [Act.eval]) rfl (by first | exact cell_one_new _ _ _ | (have := cell_one_new (wr.alloc (Obj.cells #[Value.int .u8 ((x : Int) / 16777216), .int .u8 ((x : Int) / 65536), .int .u8 ((x : Int) / 256), .int .u8 ((x : Int) % 256)] 5)) (Value.slice (some ⟨wr.heap.size, 0, none⟩) 4 4) 72; simpa using this)) (by simp [Value.oneCell']) (by unfold maxLen; omega) (by omega) (by have := HBL.out.size; simp; omega) ?_; intro v2 w2 hown hgrow _; obtain ⟨ra2, cap2, rfl⟩ := Sm.own_slice hown; obtain ⟨hc2, hn2⟩ := lrel_next hx16 HR.out rfl hown hgrow; have HN2 := Lib.hid hn2; have c9 : w2.cell? ⟨w.heap.size + 1, 4, none⟩ = some (.slice ra k cap) := cell_of_row _ _ 4 _ _ _ hc2; have f9 := frozen_of_row _ _ 4 _ _ hc2; clear hown hgrow hc2 hn2)
      go_roundw
      case rel => exact ⟨k + 1, _, _, by omega, by go_num, by rw [HT.out]; exact HN2⟩
      case measure => simp [intOf]; omega
    · obtain rfl : k = n := by omega
      obtain ⟨ra, cap, rfl⟩ := Sm.own_slice HR.out.r.own
      have HT := Lib.hid (show l.take k = l by rw [List.take_of_length_le (by rw [HN.out]; omega)])
      have HC := HR.out.c
      obtain ⟨d0, d1, d2, d3, d4, hz⟩ := HR.out.z
      obtain ⟨⟨x0, x1, x2, x3, x4⟩, y0, y1, y2, y3, y4⟩ := Sm.row_cells HC
      obtain ⟨⟨z0, z1, z2, z3, z4⟩, t0, t1, t2, t3, t4⟩ := Sm.row_cells hz
      have HCC := Lib.hid HC
      have HZZ := Lib.hid hz
      clear HC hz c4
      go_wp2
      refine Sm.post_cell_row Tryz.results75 w.heap.size 47 #[.int .u8 ki, .int .u32 nu, .int .u64 ep, .int .i64 4, .slice ra k cap] (0, 0) _ Tryz.underlying47 rfl Sm.info_pg rfl (Sm.row_set5 HZZ.out _ _ _ _ _) rfl ?_
      have hR := HR.out.r
      rw [HT.out] at hR
      have hcp : k ≤ cap := by
        rcases hR.own.2 with ⟨e, h0⟩ | ⟨g, cap', cur, e, _, _, hq, _⟩
        · omega
        · have : cap = cap' := by simpa using (show (ra = some ⟨g, 0, none⟩ ∧ cap = cap') by simpa using e).2
          omega
      have hby : ∀ r ∈ l.map rec4, Sm.Byte r := by
        intro r hr
        obtain ⟨x, _, rfl⟩ := List.mem_map.1 hr
        exact Sm.be_byte _ _
      refine ⟨ra, cap, by rw [HN.out]; rfl, ?_, by rw [HN.out]; exact hcp, Sm.below_set5 HR.out.b (Nat.le_refl _) _ _ _ _ _⟩
      rw [HN.out]
      exact (hR.recs hby).other HZZ.out (by decide) (by decide) fun j hj => Sm.heap_set5 _ _ j _ _ _ _ _ hj
end Go.Proofs.YtokikeenfpligaaGreatDoor.Sh
namespace Go.Proofs.YtokikeenfpligaaGreatDoor.Sh
open Go.RowKit Go.Maps

theorem or64 (a b : Nat) (ha : a ≤ 16384) (hb : b < 256) : bits .or .i64 ((a : Int) * 256) (b : Int) = ((a * 256 + b : Nat) : Int) := by
  show IntKind.i64.wrap ((BitVec.ofInt 64 ((a : Int) * 256) ||| BitVec.ofInt 64 (b : Int)).toNat : Int) = _
  have e1 : ((a : Int) * 256) = ((a * 256 : Nat) : Int) := by omega
  rw [e1, BitVec.ofInt_natCast, BitVec.ofInt_natCast, BitVec.toNat_or, BitVec.toNat_ofNat, BitVec.toNat_ofNat, Nat.mod_eq_of_lt (by omega), Nat.mod_eq_of_lt (by omega)]
  have e2 : a * 256 ||| b = a * 256 + b := by
    have := Nat.shiftLeft_add_eq_or_of_lt (show b < 2 ^ 8 by omega) a
    have h8 : (2 : Nat) ^ 8 = 256 := rfl
    rw [Nat.shiftLeft_eq, h8] at this
    exact this.symm
  rw [e2]
  exact IntWalk.i64_in _ (by omega)
/-- what stands in the first j of four bytes -/
def frt (x j : Nat) : Nat := x / 256 ^ (4 - j)
theorem frt_le (x j : Nat) (h : x ≤ 16384) : frt x j ≤ 16384 := Nat.le_trans (Nat.div_le_self _ _) h
theorem frt_zero (x : Nat) (h : x ≤ 16384) : frt x 0 = 0 := Nat.div_eq_of_lt (show x < 4294967296 by omega)
theorem rec4_nat (x j : Nat) (hj : j < 4) : ∃ y : Nat, (rec4 x)[j]'(by rw [rec4_len]; exact hj) = (y : Int) ∧ y < 256 ∧ frt x j * 256 + y = frt x (j + 1) := by
  refine ⟨x / 256 ^ (3 - j) % 256, ?_, Nat.mod_lt _ (by decide), ?_⟩
  · simp only [rec4_eq]
    rcases j with _ | _ | _ | _ | j
    · simp
    · simp
    · simp
    · simp
    · omega
  · unfold frt
    rw [show 4 - j = (3 - j) + 1 by omega, show 4 - (j + 1) = 3 - j by omega, Nat.pow_succ, ← Nat.div_div_eq_div_mul]
    generalize x / 256 ^ (3 - j) = z
    omega
theorem zl_snoc (l : List Nat) (x : Nat) : il (zl l) ++ [Value.int .i64 (x : Int)] = il (zl (l ++ [x])) := il_zl_snoc l x
set_option maxRecDepth 100000 in
set_option maxHeartbeats 1000000 in
theorem told_any (ki nu ep si : Int) (ra : Option Addr) (n cap : Nat) (l : List Nat) (w : World) (hn : l.length = n) (hr : Sm.Recs w ra (l.map rec4)) (hl : ∀ x ∈ l, x ≤ 16384) (hm : n ≤ 130) :
    Calls Tryz.prog 90 #[.agg #[.int .u8 ki, .int .u32 nu, .int .u64 ep, .int .i64 si, .slice ra n cap]] w (LowAt w l) := by
  have HR := Lib.hid hr
  have HN := Lib.hid hn
  have HLX := Lib.hid hl
  clear hr hn hl
  obtain ⟨i0, hi, hz0, hz1, hz2⟩ := info_parts info_i
  have HI := Lib.hid hi
  have HI0 := Lib.hid hz0
  have HI1 := Lib.hid hz1
  have HI2 := Lib.hid hz2
  have HB0 := Lib.hid (Sm.alX w (.cells #[.int .u8 ki, .int .u32 nu, .int .u64 ep, .int .i64 si, .slice ra n cap] 47))
  clear hi hz0 hz1 hz2
  go_enter Tryz.func90, Tryz.ntmps90
  go_wp2
  generalize w.alloc (.cells #[.int .u8 ki, .int .u32 nu, .int .u64 ep, .int .i64 si, .slice ra n cap] 47) = w1 at HB0 ⊢
  go_loopw [12, 3, 5, 6, 8, 16, 17, 18] (fun i v _ _ _ _ _ _ wr => ∃ k : Nat, k ≤ n ∧ i = .int .i64 k ∧ Hid (wr.ownsRow w.heap.size 3 1 v k (il (zl (l.take k)))) ∧ Hid (Below w.heap.size w wr)) (fun i _ _ _ _ _ _ _ _ => n - (intOf i).toNat)
  case atStart => exact ⟨0, by omega, rfl, Lib.hid (World.ownsRow_nil _ _ _ _), HB0⟩
  case round =>
    obtain ⟨k, hk, rfl, HO, HB⟩ := hrel
    by_cases hlt : k < n
    · have hkl : k < l.length := by rw [HN.out]; exact hlt
      have hkm : k < (l.map rec4).length := by rw [List.length_map]; exact hkl
      obtain ⟨g, off, ra2, rc, rfl, hcx, hlr, hb1, hb2⟩ := HR.out k hkm
      rw [show (l.map rec4)[k] = rec4 l[k] by simp] at hcx hlr hb1
      rw [rec4_len] at hcx hb1
      have hx16 := HLX.out l[k] (List.getElem_mem hkl)
      have HT := Lib.hid (show l.take (k + 1) = l.take k ++ [l[k]] from List.take_succ_eq_append_getElem hkl)
      generalize l[k] = x at hcx hlr hx16 HT
      have hcx2 := (HB.out.cell (p := ⟨g, off + k, none⟩) (World.block_lt_of_cell? w _ hcx)).trans hcx
      have HLR := Lib.hid (Sm.Lies.below hlr HB.out)
      have j0 : (0 : Int) ≤ (k : Int) := by omega
      have j1 : (k : Int) < (n : Int) := by omega
      have HZ := Lib.hid (zl_snoc (l.take k) x)
      have hk130 : k ≤ 130 := by omega
      clear hcx hlr
      obtain ⟨u, hu⟩ : ∃ u, u = il (zl (l.take k)) := ⟨_, rfl⟩
      rw [← hu] at HO HZ
      clear hu
      go_wp2
      go_loop [18, 6, 8] (fun i s _ => ∃ j : Nat, j ≤ 4 ∧ i = .int .i64 j ∧ s = .int .i64 (frt x j : Int)) (fun i _ _ => 4 - (intOf i).toNat)
      case atStart => exact ⟨0, by omega, rfl, by rw [frt_zero x hx16]; rfl⟩
      case round =>
        obtain ⟨j, hj, rfl, rfl⟩ := hrel
        have hs := frt_le x j hx16
        by_cases hlt4 : j < 4
        · obtain ⟨y, hy, hy256, hnext⟩ := rec4_nat x j hlt4
          obtain ⟨g2, off2, rfl, hcy, _⟩ := HLR.out j (by rw [rec4_len]; exact hlt4)
          rw [hy] at hcy
          have HNX := Lib.hid hnext
          have HOR := Lib.hid (or64 (frt x j) y hs hy256)
          have y0 : (0 : Int) ≤ (y : Int) := by omega
          have y1 : (y : Int) < 256 := by omega
          have j2 : (0 : Int) ≤ (j : Int) := by omega
          have j3 : (j : Int) < 4 := by omega
          clear hy hnext
          go_wp2
          go_round
          case rel => exact ⟨j + 1, by omega, by go_num, by rw [HOR.out, HNX.out]⟩
          case measure => simp [intOf]; omega
        · obtain rfl : j = 4 := by omega
          have h4 : frt x 4 = x := by unfold frt; simp
          rw [h4]
          clear h4 hs
          have x0 : (0 : Int) ≤ (x : Int) := by omega
          go_wp2_with (at_builtin; refine wpList_append_own _ rfl (.tmp 28) (.tmp 30) 59 rfl w.heap.size 3 i0 (.int .i64 0) 1 8 Tryz.underlying59 HI.out HI0.out HI1.out HI2.out rfl (by decide) u3 k u rfl (HO.out.alloc _) ⟨wr.heap.size, 0, none⟩ 1 1 [Value.int .i64 (x : Int)] rfl rfl (cell_one_new _ _ _) (by simp [Value.oneCell']) (by unfold maxLen; omega) (by omega) (by have := HB.out.size; simp; omega) ?_; intro v2 w2 hown hgrow _)
          have HO2 := Lib.hid hown
          have HB2 := Lib.hid ((HB.out.alloc HB.out.size (.cells #[Value.int .i64 (x : Int)] 3)).grown hgrow (by have := HB.out.size; simp; omega) (fun j hj => (HO.out.lt j hj).1))
          clear hown hgrow
          go_roundw
          case rel => exact ⟨k + 1, by omega, by go_num, Lib.hid (by rw [HT.out, ← HZ.out]; exact HO2.out), HB2⟩
          case measure => simp [intOf]; omega
    · obtain rfl : k = n := by omega
      have HT := Lib.hid (show l.take k = l by rw [List.take_of_length_le (by rw [HN.out]; omega)])
      rw [HT.out] at HO
      obtain ⟨ao, cp, rfl, hx, hcp, _⟩ := own_ints HO.out
      have HF := Lib.hid (show LowAt w l (.returned (.slice ao k cp)) wr from ⟨ao, cp, by rw [HN.out], hx, by rw [HN.out]; exact hcp, HB.out, by rw [HN.out]; exact HO.out⟩)
      clear hx hcp
      go_wp2
      go_ret
      exact HF.out
end Go.Proofs.YtokikeenfpligaaGreatDoor.Sh

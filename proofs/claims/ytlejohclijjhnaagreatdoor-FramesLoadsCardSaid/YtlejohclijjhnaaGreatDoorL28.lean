/-
  A MACHINE IN MEMORY: its struct, what is under way with what came of it, what is remembered, what finds middles, beside the store; blocks of one's own beside all that. Conditions: those that each lemma names.
-/
import Derived.WalkSmall
import Derived.Laws.OwnMore
import Derived.Test.YtlejohclijjhnaaGreatDoorL08
import Derived.Test.YtlejohclijjhnaaGreatDoorL18
import Derived.Test.YtlejohclijjhnaaGreatDoorL27
namespace Go.Proofs.YtlejohclijjhnaaGreatDoor.Fm
open Go.RowKit Ti Qd Go.Maps Go.WideMaps Ru

/-- something that lies in some blocks -/
structure Fpt (B : Nat) (T : World → (Nat → Prop) → Prop) : Prop where
  lt : ∀ {w H}, T w H → ∀ x, H x → B ≤ x ∧ x < w.heap.size
  mv : ∀ {w w' H}, T w H → (∀ x, H x → w'.heap[x]? = w.heap[x]?) → T w' H
def Goz (T : World → (Nat → Prop) → Prop) (w : World) (H : Nat → Prop) (w' : World) : Prop := ∃ H', T w' H' ∧ Stp w H w' H'
/-- blocks of one's own beside it -/
structure Bs (T : World → (Nat → Prop) → Prop) (w0 : World) (H0 : Nat → Prop) (bx : List (Nat × Obj)) (w : World) : Prop where
  ex : ∃ H, T w H ∧ Stp w0 H0 w H ∧ ∀ x ∈ bx, w0.heap.size ≤ x.1 ∧ ¬ H x.1 ∧ w.heap[x.1]? = some x.2
  nd : (bx.map Prod.fst).Nodup
section
variable {B : Nat} {T T' : World → (Nat → Prop) → Prop} {w0 w w' : World} {H0 : Nat → Prop} {bx : List (Nat × Obj)}
theorem Bs.start {H : Nat → Prop} (h : T w H) : Bs T w H [] w := ⟨⟨H, h, Stp.refl _ _, fun x hx => by cases hx⟩, List.nodup_nil⟩
theorem Bs.below (hT : Fpt B T) (h : Bs T w0 H0 bx w) (hb : Below w.heap.size w w') : Bs T w0 H0 bx w' := by
  obtain ⟨⟨H, h1, h2, h3⟩, h4⟩ := h
  exact ⟨⟨H, hT.mv h1 fun x hx => hb.block _ (hT.lt h1 x hx).2, h2.trans (.of_below hb), fun x hx => ⟨(h3 x hx).1, (h3 x hx).2.1, (hb.block _ (lt_of_block (h3 x hx).2.2)).trans (h3 x hx).2.2⟩⟩, h4⟩
theorem Bs.made (hT : Fpt B T) {g : Nat} {o : Obj} (h : Bs T w0 H0 bx w) (hb : Below w.heap.size w w') (hg : w'.heap[g]? = some o) (hs : w.heap.size ≤ g) : Bs T w0 H0 ((g, o) :: bx) w' := by
  obtain ⟨⟨H, h1, h2, h3⟩, h4⟩ := h
  refine ⟨⟨H, hT.mv h1 fun x hx => hb.block _ (hT.lt h1 x hx).2, h2.trans (.of_below hb), fun x hx => ?_⟩, List.nodup_cons.2 ⟨fun hm => ?_, h4⟩⟩
  · rcases List.mem_cons.1 hx with rfl | hx
    · exact ⟨Nat.le_trans h2.size hs, fun e => by have := (hT.lt h1 _ e).2; simp only at this; omega, hg⟩
    · exact ⟨(h3 x hx).1, (h3 x hx).2.1, (hb.block _ (lt_of_block (h3 x hx).2.2)).trans (h3 x hx).2.2⟩
  · obtain ⟨y, hy, e⟩ := List.mem_map.1 hm
    have := lt_of_block (h3 y hy).2.2
    omega
theorem Bs.alloc (hT : Fpt B T) {n : Nat} (h : Bs T w0 H0 bx w) (o : Obj) (hn : w.heap.size = n) : Bs T w0 H0 ((n, o) :: bx) (w.alloc o) := by
  subst hn
  exact h.made hT (alX w o) (heap_alloc_new w o) (Nat.le_refl _)
theorem Bs.drew (hT : Fpt B T) (h : Bs T w0 H0 bx w) : Bs T w0 H0 bx w.drew := h.below hT (Below.refl _ _).drew
theorem Bs.box (h : Bs T w0 H0 bx w) {g : Nat} {o : Obj} (hm : (g, o) ∈ bx) : w.heap[g]? = some o := by
  obtain ⟨⟨H, h1, h2, h3⟩, _⟩ := h
  exact (h3 _ hm).2.2
theorem Bs.b0 {g : Nat} {o : Obj} (h : Bs T w0 H0 ((g, o) :: bx) w) : w.heap[g]? = some o := h.box List.mem_cons_self
theorem Bs.b1 {g : Nat} {o : Obj} {x0 : Nat × Obj} (h : Bs T w0 H0 (x0 :: (g, o) :: bx) w) : w.heap[g]? = some o := h.box (by simp)
theorem Bs.b2 {g : Nat} {o : Obj} {x0 x1 : Nat × Obj} (h : Bs T w0 H0 (x0 :: x1 :: (g, o) :: bx) w) : w.heap[g]? = some o := h.box (by simp)
theorem Bs.b3 {g : Nat} {o : Obj} {x0 x1 x2 : Nat × Obj} (h : Bs T w0 H0 (x0 :: x1 :: x2 :: (g, o) :: bx) w) : w.heap[g]? = some o := h.box (by simp)
theorem Bs.sub {by' : List (Nat × Obj)} (h : Bs T w0 H0 bx w) (hs : ∀ x ∈ by', x ∈ bx) (hn : (by'.map Prod.fst).Nodup) : Bs T w0 H0 by' w := by
  obtain ⟨⟨H, h1, h2, h3⟩, h4⟩ := h
  exact ⟨⟨H, h1, h2, fun x hx => h3 x (hs x hx)⟩, hn⟩
theorem Bs.tail {x : Nat × Obj} (h : Bs T w0 H0 (x :: bx) w) : Bs T w0 H0 bx w :=
  h.sub (fun _ hx => List.mem_cons_of_mem _ hx) (by have := h.nd; rw [List.map_cons, List.nodup_cons] at this; exact this.2)
theorem Bs.out (h : Bs T w0 H0 bx w) : Goz T w0 H0 w := by
  obtain ⟨⟨H, h1, h2, _⟩, _⟩ := h
  exact ⟨H, h1, h2⟩
/-- a box is written -/
theorem Bs.put (hT : Fpt B T) {g : Nat} {o o' : Obj} (h : Bs T w0 H0 ((g, o) :: bx) w) (hw : ∀ x, ¬ x = g → w'.heap[x]? = w.heap[x]?) (e : w'.heap[g]? = some o') (eo : w'.os = w.os) (et : w'.tape = w.tape) (eu : w'.output = w.output) (es : w'.heap.size = w.heap.size) : Bs T w0 H0 ((g, o') :: bx) w' := by
  obtain ⟨⟨H, h1, h2, h3⟩, h4⟩ := h
  have hg := h3 _ (List.mem_cons_self)
  rw [List.map_cons, List.nodup_cons] at h4
  refine ⟨⟨H, hT.mv h1 fun x hx => hw x fun e => hg.2.1 (e ▸ hx), ⟨eo.trans h2.os, et.trans h2.tape, eu.trans h2.output, by rw [es]; exact h2.size, fun k hk hn => (hw k fun e => by have := hg.1; simp only at this; omega).trans (h2.block k hk hn), h2.own⟩, fun x hx => ?_⟩, by rw [List.map_cons, List.nodup_cons]; exact h4⟩
  rcases List.mem_cons.1 hx with rfl | hx
  · exact ⟨hg.1, hg.2.1, e⟩
  · exact ⟨(h3 x (List.mem_cons_of_mem _ hx)).1, (h3 x (List.mem_cons_of_mem _ hx)).2.1, (hw _ fun q => h4.1 (List.mem_map.2 ⟨x, hx, q⟩)).trans (h3 x (List.mem_cons_of_mem _ hx)).2.2⟩
theorem Bs.set (hT : Fpt B T) {g i : Nat} {v : Value} {o o' : Obj} (h : Bs T w0 H0 ((g, o) :: bx) w) (e : (w.setCell ⟨g, i, none⟩ v).heap[g]? = some o') : Bs T w0 H0 ((g, o') :: bx) (w.setCell ⟨g, i, none⟩ v) :=
  h.put hT (fun x hx => Go.RowKit.Below.heap_setCell _ _ _ _ hx) e rfl rfl rfl (by simp)
/-- it goes on -/
theorem Bs.call (h : Bs T w0 H0 bx w) : ∃ H, T w H ∧ (∀ x ∈ bx, ¬ H x.1) ∧ ∀ (T' : World → (Nat → Prop) → Prop) (w' : World), Goz T' w H w' → Bs T' w0 H0 bx w' := by
  obtain ⟨⟨H, h1, h2, h3⟩, h4⟩ := h
  refine ⟨H, h1, fun x hx => (h3 x hx).2.1, fun T' w' ⟨H', k1, k2⟩ => ⟨⟨H', k1, h2.trans k2, fun x hx => ⟨(h3 x hx).1, fun e => ?_, (k2.block _ (lt_of_block (h3 x hx).2.2) (h3 x hx).2.1).trans (h3 x hx).2.2⟩⟩, h4⟩⟩
  rcases k2.own _ e with q | q
  · exact (h3 x hx).2.1 q
  · have := lt_of_block (h3 x hx).2.2
    omega
theorem Bs.turn (h : Bs T w0 H0 bx w) (k : ∀ H, T w H → T' w H) : Bs T' w0 H0 bx w := by
  obtain ⟨⟨H, h1, h2, h3⟩, h4⟩ := h
  exact ⟨⟨H, k H h1, h2, h3⟩, h4⟩
end
/-- a frame, and the slice of what came of its parts -/
abbrev FH := Fr × Value
def fcs (x : FH) : List Value := [.int .i64 x.1.id, .int .i64 x.1.j, .int .i64 x.1.st, x.2]
abbrev fv (f : Fr) (h : Value) : Value := .agg #[.int .i64 f.id, .int .i64 f.j, .int .i64 f.st, h]
def fls : List FH → List Value
  | [] => []
  | x :: r => fcs x ++ fls r
theorem fls_len : ∀ r : List FH, (fls r).length = r.length * 4
  | [] => rfl
  | x :: r => by
    show (fcs x ++ fls r).length = _
    rw [List.length_append, fls_len r, List.length_cons]
    show 4 + r.length * 4 = _
    omega
theorem fls_app : ∀ r t : List FH, fls (r ++ t) = fls r ++ fls t
  | [], _ => rfl
  | x :: r, t => by
    show fcs x ++ fls (r ++ t) = fcs x ++ fls r ++ fls t
    rw [fls_app r t, List.append_assoc]
theorem fls_at : ∀ (r : List FH) (i : Nat) (h : i < r.length) (j : Nat), j < 4 → (fls r)[i * 4 + j]? = (fcs r[i])[j]?
  | [], _, h, _, _ => absurd h (Nat.not_lt_zero _)
  | x :: r, 0, _, j, hj => by
    show (fcs x ++ fls r)[0 * 4 + j]? = (fcs x)[j]?
    rw [Nat.zero_mul, Nat.zero_add, List.getElem?_append_left hj]
  | x :: r, i + 1, h, j, hj => by
    have h2 : (fcs x).length = 4 := rfl
    have h3 : i < r.length := by simpa using h
    show (fcs x ++ fls r)[(i + 1) * 4 + j]? = (fcs r[i])[j]?
    rw [List.getElem?_append_right (by rw [h2]; omega), h2, show (i + 1) * 4 + j - 4 = i * 4 + j by omega]
    exact fls_at r i h3 j hj
def ints (l : List Int) : List Value := l.map fun x => .int .i64 x
abbrev OwnI (w : World) (B : Nat) (v : Value) (l : List Int) := w.ownsRow B 3 1 v l.length (ints l)
abbrev OwnF (w : World) (B : Nat) (v : Value) (us : List FH) := w.ownsRow B 47 4 v us.length (fls us)
def ownV (v : Value) : List Nat := v.ownBlock.toList
def grL : Option (Nat × Nat) → List Nat
  | none => []
  | some x => [x.1, x.2]
def ownU (us : List FH) : List Nat := us.flatMap fun x => ownV x.2
def ownL (G M : Nat) (uv : Value) (us : List FH) (gr : Option (Nat × Nat)) : List Nat := G :: M :: (ownV uv ++ (ownU us ++ grL gr))
theorem mem_ownV {v : Value} {x : Nat} : x ∈ ownV v ↔ v.ownBlock = some x := by unfold ownV; simp [Option.mem_toList]
def grP : Option (Nat × Nat) → Option Addr
  | none => none
  | some x => some ⟨x.1, 0, none⟩
def grN : Option (Nat × Nat) → Int
  | none => 0
  | some _ => 1
/-- what finds middles -/
structure GrA (w : World) (P b l : Nat) (x : Nat × Nat) : Prop where
  c0 : w.cell? ⟨x.1, 0, none⟩ = some (.pointer (some ⟨P, 0, none⟩))
  c1 : w.cell? ⟨x.1, 1, none⟩ = some (.int .u16 b)
  c2 : w.cell? ⟨x.1, 2, none⟩ = some (.int .u16 l)
  c3 : w.cell? ⟨x.1, 3, none⟩ = some (.map (some x.2))
  kn : KAt w x.2 K0
structure Mach (B : Nat) (w : World) (P b l G M : Nat) (uv : Value) (us : List FH) (gr : Option (Nat × Nat)) (K : Kn) (out : Int) : Prop where
  c0 : w.cell? ⟨G, 0, none⟩ = some (.pointer (some ⟨P, 0, none⟩))
  c1 : w.cell? ⟨G, 1, none⟩ = some (.int .u16 b)
  c2 : w.cell? ⟨G, 2, none⟩ = some (.int .u16 l)
  c3 : w.cell? ⟨G, 3, none⟩ = some uv
  c4 : w.cell? ⟨G, 4, none⟩ = some (.int .i64 out)
  c5 : w.cell? ⟨G, 5, none⟩ = some (.map (some M))
  c6 : w.cell? ⟨G, 6, none⟩ = some (.int .u32 (grN gr))
  c7 : w.cell? ⟨G, 7, none⟩ = some (.int .i32 0)
  c9 : w.cell? ⟨G, 9, none⟩ = some (.pointer (grP gr))
  fz : ∀ i, w.frozen? ⟨G, i, none⟩ = false
  kn : Fk.KAt w M K
  row : OwnF w B uv us
  got : ∀ x ∈ us, OwnI w B x.2 x.1.got
  gw : ∀ x, gr = some x → GrA w P b l x ∧ B ≤ x.1 ∧ B ≤ x.2
  nd : (ownL G M uv us gr).Nodup
  bG : B ≤ G
  bM : B ≤ M
  gn : ∀ x ∈ us, x.1.got = [] → x.2 = .slice none 0 0
theorem own_moved {w w' : World} {B : Nat} {e : TypeId} {s : Nat} {v : Value} {n : Nat} {xs : List Value} (h : w.ownsRow B e s v n xs) (hb : ∀ b, v.ownBlock = some b → w'.heap[b]? = w.heap[b]?) : w'.ownsRow B e s v n xs := by
  refine ⟨h.1, ?_⟩
  rcases h.2 with hn | ⟨g, cap, cur, rfl, hbg, hgg, rest⟩
  · exact .inl hn
  · exact .inr ⟨g, cap, cur, rfl, hbg, (hb g rfl).trans hgg, rest⟩
theorem GrA.moved {w w' : World} {P b l : Nat} {x : Nat × Nat} (h : GrA w P b l x) (h1 : w'.heap[x.1]? = w.heap[x.1]?) (h2 : w'.heap[x.2]? = w.heap[x.2]?) : GrA w' P b l x :=
  ⟨(World.cell?_of_block h1).trans h.c0, (World.cell?_of_block h1).trans h.c1, (World.cell?_of_block h1).trans h.c2, (World.cell?_of_block h1).trans h.c3, h.kn.moved h2⟩
section
variable {B : Nat} {w w' : World} {P b l G M : Nat} {uv : Value} {us : List FH} {gr : Option (Nat × Nat)} {K : Kn} {out : Int}
theorem own_G : G ∈ ownL G M uv us gr := List.mem_cons_self
theorem own_M : M ∈ ownL G M uv us gr := by simp [ownL]
theorem own_u {x : Nat} (h : uv.ownBlock = some x) : x ∈ ownL G M uv us gr := by simp [ownL, mem_ownV, h]
theorem own_h {y : FH} (hy : y ∈ us) {x : Nat} (h : y.2.ownBlock = some x) : x ∈ ownL G M uv us gr := by
  unfold ownL ownU
  simp only [List.mem_cons, List.mem_append, List.mem_flatMap, mem_ownV]
  exact .inr (.inr (.inr (.inl ⟨y, hy, h⟩)))
theorem own_g {y : Nat × Nat} (h : gr = some y) : y.1 ∈ ownL G M uv us gr ∧ y.2 ∈ ownL G M uv us gr := by
  subst h
  simp [ownL, grL]
theorem own_in {x : Nat} (h : x ∈ ownL G M uv us gr) : x = G ∨ x = M ∨ uv.ownBlock = some x ∨ (∃ y ∈ us, y.2.ownBlock = some x) ∨ ∃ y, gr = some y ∧ (x = y.1 ∨ x = y.2) := by
  unfold ownL ownU at h
  simp only [List.mem_cons, List.mem_append, List.mem_flatMap, mem_ownV] at h
  rcases h with h | h | h | h | h
  · exact .inl h
  · exact .inr (.inl h)
  · exact .inr (.inr (.inl h))
  · exact .inr (.inr (.inr (.inl h)))
  · refine .inr (.inr (.inr (.inr ?_)))
    cases gr with
    | none => simp [grL] at h
    | some y => exact ⟨y, rfl, by simpa [grL] using h⟩
theorem Mach.lt (h : Mach B w P b l G M uv us gr K out) {x : Nat} (hx : x ∈ ownL G M uv us gr) : B ≤ x ∧ x < w.heap.size := by
  rcases own_in hx with rfl | rfl | e | ⟨y, hy, e⟩ | ⟨y, hy, rfl | rfl⟩
  · exact ⟨h.bG, World.block_lt_of_cell? w _ h.c0⟩
  · exact ⟨h.bM, h.kn.lt⟩
  · exact h.row.lt x e
  · exact (h.got y hy).lt x e
  · exact ⟨(h.gw y hy).2.1, World.block_lt_of_cell? w _ (h.gw y hy).1.c0⟩
  · exact ⟨(h.gw y hy).2.2, (h.gw y hy).1.kn.lt⟩
theorem Mach.moved (h : Mach B w P b l G M uv us gr K out) (hb : ∀ x ∈ ownL G M uv us gr, w'.heap[x]? = w.heap[x]?) : Mach B w' P b l G M uv us gr K out := by
  have hG := hb G own_G
  have c := fun i => World.cell?_of_block (w := w) (w' := w') (a := ⟨G, i, none⟩) hG
  exact ⟨(c 0).trans h.c0, (c 1).trans h.c1, (c 2).trans h.c2, (c 3).trans h.c3, (c 4).trans h.c4, (c 5).trans h.c5, (c 6).trans h.c6, (c 7).trans h.c7, (c 9).trans h.c9, fun i => (World.frozen?_of_block hG).trans (h.fz i), h.kn.moved (hb M own_M), own_moved h.row fun x hx => hb x (own_u hx), fun y hy => own_moved (h.got y hy) fun x hx => hb x (own_h hy hx), fun y hy => ⟨(h.gw y hy).1.moved (hb _ (own_g hy).1) (hb _ (own_g hy).2), (h.gw y hy).2⟩, h.nd, h.bG, h.bM, h.gn⟩
end
/-- the machine with its store -/
def Mc (B P room b l G M : Nat) (s : MS) (w : World) (H : Nat → Prop) : Prop :=
  ∃ uv us gr Hs, St B w P s.L room Hs ∧ Mach B w P b l G M uv us gr s.K s.out ∧ us.map Prod.fst = s.U.reverse ∧ (∀ x ∈ ownL G M uv us gr, ¬ Hs x) ∧ H = fun x => x ∈ ownL G M uv us gr ∨ Hs x
theorem mc_fpt (B P room b l G M : Nat) (s : MS) : Fpt B (Mc B P room b l G M s) where
  lt := by
    rintro w H ⟨uv, us, gr, Hs, h1, h2, h3, h4, rfl⟩ x (hx | hx)
    · exact h2.lt hx
    · exact h1.lt x hx
  mv := by
    rintro w w' H ⟨uv, us, gr, Hs, h1, h2, h3, h4, rfl⟩ hb
    exact ⟨uv, us, gr, Hs, h1.moved fun x hx => hb x (.inr hx), h2.moved fun x hx => hb x (.inl hx), h3, h4, rfl⟩
/-- the store's calls -/
theorem Mc.store {B P room b l G M : Nat} {s : MS} {w : World} {H : Nat → Prop} (h : Mc B P room b l G M s w H) : ∃ Hs, St B w P s.L room Hs ∧ ∀ (L' : List Sq) (w' : World), Goes B w P room Hs L' w' → Goz (Mc B P room b l G M ⟨L', s.K, s.U, s.out⟩) w H w' := by
  obtain ⟨uv, us, gr, Hs, h1, h2, h3, h4, rfl⟩ := h
  refine ⟨Hs, h1, fun L' w' ⟨Hs', k1, k2⟩ => ⟨_, ⟨uv, us, gr, Hs', k1, h2.moved fun x hx => k2.block x (h2.lt hx).2 (h4 x hx), h3, fun x hx e => ?_, rfl⟩, ⟨k2.os, k2.tape, k2.output, k2.size, fun k hk hn => k2.block k hk fun e => hn (.inr e), fun k hk => ?_⟩⟩⟩
  · rcases k2.own x e with q | q
    · exact h4 x hx q
    · have := (h2.lt hx).2; omega
  · rcases hk with hk | hk
    · exact .inl (.inl hk)
    · rcases k2.own k hk with q | q
      · exact .inl (.inr q)
      · exact .inr q
/-- what is read of a machine -/
theorem Mc.cells {B P room b l G M : Nat} {s : MS} {w : World} {H : Nat → Prop} (h : Mc B P room b l G M s w H) : w.cell? ⟨G, 0, none⟩ = some (.pointer (some ⟨P, 0, none⟩)) ∧ w.cell? ⟨G, 1, none⟩ = some (.int .u16 b) ∧ w.cell? ⟨G, 2, none⟩ = some (.int .u16 l) ∧ w.cell? ⟨G, 4, none⟩ = some (.int .i64 s.out) ∧ w.cell? ⟨G, 5, none⟩ = some (.map (some M)) ∧ Fk.KAt w M s.K := by
  obtain ⟨uv, us, gr, Hs, h1, h2, h3, h4, rfl⟩ := h
  exact ⟨h2.c0, h2.c1, h2.c2, h2.c4, h2.c5, h2.kn⟩
theorem Bs.store {B P room b l G M : Nat} {s : MS} {w0 w : World} {H0 : Nat → Prop} {bx : List (Nat × Obj)} (h : Bs (Mc B P room b l G M s) w0 H0 bx w) : ∃ Hs, St B w P s.L room Hs ∧ ∀ (L' : List Sq) (w' : World), Goes B w P room Hs L' w' → Bs (Mc B P room b l G M ⟨L', s.K, s.U, s.out⟩) w0 H0 bx w' := by
  obtain ⟨H, h1, _, h3⟩ := h.call
  obtain ⟨Hs, k1, k2⟩ := h1.store
  exact ⟨Hs, k1, fun L' w' hg => h3 _ _ (k2 L' w' hg)⟩
theorem Bs.cells {B P room b l G M : Nat} {s : MS} {w0 w : World} {H0 : Nat → Prop} {bx : List (Nat × Obj)} (h : Bs (Mc B P room b l G M s) w0 H0 bx w) : w.cell? ⟨G, 0, none⟩ = some (.pointer (some ⟨P, 0, none⟩)) ∧ w.cell? ⟨G, 1, none⟩ = some (.int .u16 b) ∧ w.cell? ⟨G, 2, none⟩ = some (.int .u16 l) ∧ w.cell? ⟨G, 4, none⟩ = some (.int .i64 s.out) ∧ w.cell? ⟨G, 5, none⟩ = some (.map (some M)) ∧ Fk.KAt w M s.K := by
  obtain ⟨H, h1, _, _⟩ := h.call
  exact h1.cells
end Go.Proofs.YtlejohclijjhnaaGreatDoor.Fm

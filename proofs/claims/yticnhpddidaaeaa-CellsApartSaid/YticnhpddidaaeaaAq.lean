/-
  THREE ROWS OF CELLS that grow side by side. Conditions: those that each lemma names.
-/

import Derived.Test.YticnhpddidaaeaaCr
import Derived.Test.YticnhpddidaaeaaCq
import Derived.Test.YticnhpddidaaeaaAp
import Derived.Maps.AppendAt
import Derived.Deep.RegionHeld3
namespace Go.Proofs.Yticnhpddidaaeaa
open Go.RowKit Ru Ce

/-- three rows of the call's own, no two in one block -/
structure T3 (w wr : World) (u v z : Value) (X Y Z : List Cel) : Prop where
  ox : OwnC 31 wr w.heap.size u X.length X
  oy : OwnC 31 wr w.heap.size v Y.length Y
  oz : OwnC 31 wr w.heap.size z Z.length Z
  xy : ∀ g, u.ownBlock = some g → v.ownBlock ≠ some g
  xz : ∀ g, u.ownBlock = some g → z.ownBlock ≠ some g
  yz : ∀ g, v.ownBlock = some g → z.ownBlock ≠ some g
  bel : Below w.heap.size w wr
theorem T3.on {w wr w' : World} {u v z : Value} {X Y Z : List Cel} (h : T3 w wr u v z X Y Z) (hb : Below wr.heap.size wr w') : T3 w w' u v z X Y Z :=
  ⟨own_keep h.ox hb (Nat.le_refl _), own_keep h.oy hb (Nat.le_refl _), own_keep h.oz hb (Nat.le_refl _), h.xy, h.xz, h.yz, h.bel.trans (hb.mono h.bel.size)⟩
theorem T3.turn {w wr : World} {u v z : Value} {X Y Z : List Cel} (h : T3 w wr u v z X Y Z) : T3 w wr v z u Y Z X :=
  ⟨h.oy, h.oz, h.ox, h.yz, fun g p q => h.xy g q p, fun g p q => h.xz g q p, h.bel⟩
theorem kept_ne {w w2 : World} {B n : Nat} {v : Value} {L : List Cel} {r : Option Nat} (h : OwnC 31 w B v n L) (hg : w.grownBy w2 r) (hn : ∀ g, v.ownBlock = some g → r ≠ some g) : OwnC 31 w2 B v n L := by
  refine World.ownsRow.kept h hg ?_
  cases hu : v.ownBlock with
  | none => exact .inl rfl
  | some g => exact .inr (fun e => hn g hu e.symm)
/-- the first grows -/
theorem T3.app {w wr w2 : World} {u u2 v z : Value} {X Y Z : List Cel} {c : Cel} (h : T3 w wr u v z X Y Z) (h1 : OwnC 31 w2 w.heap.size u2 (X.length + 1) (X ++ [c])) (hg : wr.grownBy w2 u.ownBlock) (hat : u2.ownBlock = u.ownBlock ∨ u2.ownBlock = some wr.heap.size) : T3 w w2 u2 v z (X ++ [c]) Y Z := by
  refine ⟨by rw [List.length_append]; exact h1, kept_ne h.oy hg (fun g p q => h.xy g q p), kept_ne h.oz hg (fun g p q => h.xz g q p), fun g p q => ?_, fun g p q => ?_, h.yz, h.bel.grown hg h.bel.size (fun j hj => (h.ox.lt j hj).1)⟩
  · rcases hat with e | e
    · exact h.xy g (e.symm.trans p) q
    · have := (h.oy.lt g q).2
      rw [e] at p
      have := Option.some.inj p
      omega
  · rcases hat with e | e
    · exact h.xz g (e.symm.trans p) q
    · have := (h.oz.lt g q).2
      rw [e] at p
      have := Option.some.inj p
      omega
/-- a cell in its box, in none of the rows -/
structure Bz (w wr : World) (gb : Nat) (u v z : Value) (c : Cel) : Prop where
  c0 : wr.cell? ⟨gb, 0, none⟩ = some (.int .i64 c.1)
  c1 : wr.cell? ⟨gb, 1, none⟩ = some (.int .i64 c.2)
  nu : u.ownBlock ≠ some gb
  nv : v.ownBlock ≠ some gb
  nz : z.ownBlock ≠ some gb
theorem Bz.on {w wr w' : World} {gb : Nat} {u v z : Value} {c : Cel} (h : Bz w wr gb u v z c) (hb : Below wr.heap.size wr w') : Bz w w' gb u v z c :=
  ⟨(hb.cell (p := ⟨gb, 0, none⟩) (World.block_lt_of_cell? wr _ h.c0)).trans h.c0, (hb.cell (p := ⟨gb, 1, none⟩) (World.block_lt_of_cell? wr _ h.c1)).trans h.c1, h.nu, h.nv, h.nz⟩
theorem Bz.turn {w wr : World} {gb : Nat} {u v z : Value} {c : Cel} (h : Bz w wr gb u v z c) : Bz w wr gb v z u c := ⟨h.c0, h.c1, h.nv, h.nz, h.nu⟩
theorem Bz.app {w wr w2 : World} {gb : Nat} {u u2 v z : Value} {c : Cel} (h : Bz w wr gb u v z c) (hg : wr.grownBy w2 u.ownBlock) (hat : u2.ownBlock = u.ownBlock ∨ u2.ownBlock = some wr.heap.size) : Bz w w2 gb u2 v z c := by
  have hl := World.block_lt_of_cell? wr _ h.c0
  have e := hg.block gb hl (fun q => h.nu q.symm)
  refine ⟨(World.cell?_of_block e).trans h.c0, (World.cell?_of_block e).trans h.c1, fun q => ?_, h.nv, h.nz⟩
  rcases hat with e2 | e2
  · exact h.nu (e2.symm.trans q)
  · rw [e2] at q
    have := Option.some.inj q
    have h2 : gb < wr.heap.size := hl
    omega
theorem cells_at {w : World} {g : Nat} {x : Cel} {T : TypeId} (h : w.heap[g]? = some (.cells #[.int .i64 x.1, .int .i64 x.2] T (0, 0))) : ∀ j u, (cc x)[j]? = some u → w.cell? ((⟨g, 0, none⟩ : Addr).add j) = some u := by
  intro j u hj
  rw [show (⟨g, 0, none⟩ : Addr).add j = ⟨g, j, none⟩ from by simp [Addr.add]; omega, cell_of_row _ _ j _ _ _ h]
  simpa [cc] using hj
/-- a block made ahead of an append stays -/
theorem blk_app {w w2 : World} {g : Nat} {u : Value} {o : Obj} (h : w.heap[g]? = some o) (hg : w.grownBy w2 u.ownBlock) (hu : ∀ k, u.ownBlock = some k → k < g) : w2.heap[g]? = some o :=
  (hg.block g (lt_of_block h) (fun e => by have := hu g e.symm; omega)).trans h
set_option maxRecDepth 100000 in
/-- append of one cell to a row of the call's own, in a region that draws -/
theorem step_appA {ops : Array Oper} {o : Oper} {a : Act} {w : World} {K : Act → World → Prop} {Q : Exit → Act → World → Prop} {E : Prop} (hgd : o.guard = none) (s x : Operand)
    (ho : o.op = .call { callee := .builtin .append, args := #[s, x], argTypes := #[28, 28] }) (B n : Nat) (v : Value) (L : List Cel) (hs : a.eval s = v) (hown : OwnC 31 w B v n L) (ad : Addr) (c : Cel) (hx : a.eval x = .slice (some ad) 1 1)
    (hc : ∀ j u, (cc c)[j]? = some u → w.cell? (ad.add j) = some u) (hm : n ≤ 1000000) (hbase : B ≤ w.heap.size)
    (h : ∀ v' w', OwnC 31 w' B v' (n + 1) (L ++ [c]) → w.grownBy w' v.ownBlock → (v'.ownBlock = v.ownBlock ∨ v'.ownBlock = some w.heap.size) → K (a.put o.dst v') w') : if Region.wanted o (yielded ops a.tmps) = true then Oper.wp Try.prog o a w K Q else E := by
  have hw : Region.wanted o (yielded ops a.tmps) = true := by simp [Region.wanted, hgd]
  rw [if_pos hw]
  obtain ⟨i, hi, hz0, hz1, hz2⟩ := info_parts info_a
  obtain ⟨v', w', hr, h2, h3, _, h5⟩ := run_append_own_at (P := Try.prog) w B 28 o.type 31 i (cv (0, 0)) 2 16 Try.underlying28 hi hz0 hz1 hz2 rfl (by decide) v n (cl L) hown ad 1 1 (cc c) rfl hc (cc_one c) (by unfold maxLen; omega) (by omega) hbase
  unfold Oper.wp execOp
  simp only [ho, resolve, invoke, builtin, Sem.run_bind, Sem.run_pure, Result.andThen_ok, List.map_toArray, List.map_cons, List.map_nil, hs, hx, hr]
  exact h v' w' (by rw [cl_snoc] at h2; exact h2) h3 h5
end Go.Proofs.Yticnhpddidaaeaa

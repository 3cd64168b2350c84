/-
  THE WALK of disk.New. Conditions: none but the number's range.
  WHAT A WRITE INTO ONE OF THE DISK's BLOCKS MAKES OF THE DISK; append of one number to a list of the call's own, with the block that holds it. Conditions: those that each lemma names.
  A SECTOR BECOMES PENDING; what is sure is written; all is settled: what becomes of the disk in memory. Conditions: those that each lemma names.
-/
import Derived.RegionTactic
import Derived.ChangeAlike
import Derived.Test.YtokikeenfpligaaGreatDoorU19
namespace Go.Proofs.YtokikeenfpligaaGreatDoor
open Go.RowKit

/-- a disk that was made in this call -/
structure Fresh (n : Nat) (w w' : World) (s : St) : Prop where
  at' : DiskAt w.heap.size w' s
  n : s.n = n
  sure : ∀ i j, s.sure i j = 0
  late : ∀ i, s.late i = none
  pend : s.pend = []
  writes : s.writes = 0
  left : s.left = -1
  below : Below w.heap.size w w'
def Made (n : Nat) (w : World) (e : Ending) (w' : World) : Prop :=
  ∃ s, e = .returned (.tuple #[.pointer (some ⟨s.D, 0, none⟩), .nilIface]) ∧ Fresh n w w' s

set_option maxRecDepth 100000 in
theorem info_s : (Tryz.prog.info? 136).map (fun i => (i.zero, i.size, i.bytes)) = some (some (.agg (Array.replicate 512 (.int .u8 0))), 512, 512) := by kernel_rfl
set_option maxRecDepth 100000 in
theorem info_p : (Tryz.prog.info? 134).map (fun i => (i.zero, i.size, i.bytes)) = some (some (.pointer none), 1, 8) := by kernel_rfl
set_option maxRecDepth 100000 in
theorem make_s (n : Nat) (hn : n ≤ 16384) (w : World) : (Instr.makeSlice 79 (.int .i64 (n : Int)) (.int .i64 (n : Int))).run Tryz.prog w = .ok (.slice (some ⟨w.heap.size, 0, none⟩) n n) (w.alloc (.cells (Array.replicate (n * 512) (.int .u8 0)) 136)) := by
  obtain ⟨i, hi, hzz⟩ := Option.map_eq_some_iff.1 info_s
  simp only [Prod.mk.injEq] at hzz
  obtain ⟨hz, hs, hb⟩ := hzz
  have hr := run_make (P := Tryz.prog) w 79 136 i _ Tryz.underlying79 hi hz .i64 .i64 (n : Int) (n : Int) (by omega) (Int.le_refl _) (by rw [hb]; omega) (by omega)
  rw [hs] at hr
  simp only [Int.toNat_natCast] at hr
  rw [hr]
  congr 3
  show madeCells (Array.replicate 512 (Value.int .u8 0)) (n * 512) = _
  apply Array.ext
  · simp [madeCells]
  · intro i h1 h2
    simp [madeCells]
    rw [getElem!_pos _ _ (by simp; omega)]
    simp
set_option maxRecDepth 100000 in
theorem make_p (n : Nat) (hn : n ≤ 16384) (w : World) : (Instr.makeSlice 80 (.int .i64 (n : Int)) (.int .i64 (n : Int))).run Tryz.prog w = .ok (.slice (some ⟨w.heap.size, 0, none⟩) n n) (w.alloc (.cells (Array.replicate n (.pointer none)) 134)) := by
  rw [run_make_row' (P := Tryz.prog) 80 134 (.pointer none) 8 Tryz.underlying80 info_p rfl .i64 .i64 n (by omega) (by omega) w, made_eq]

set_option maxRecDepth 100000 in
theorem new_no (n : Int) (w : World) (hn : n < 1 ∨ 16384 < n) :
    Calls Tryz.prog 10 #[.int .i64 n] w fun e w' => e = .returned (.tuple #[.pointer none, .iface 78 (.int .i64 1)]) ∧ w = w' := by
  rcases hn with h | h
  · go_enter Tryz.func10, Tryz.ntmps10
    go_wp2
    go_ret2
    exact ⟨rfl, rfl⟩
  · have h1 : ¬ n < 1 := by omega
    go_enter Tryz.func10, Tryz.ntmps10
    go_wp2
    go_ret2
    exact ⟨rfl, rfl⟩
/-- the three blocks of a new disk, in whatever order the first two were made -/
theorem fresh_of (n : Nat) (hn : n ≤ 16384) (w w' : World) (S L : Nat) (hS : w.heap.size ≤ S) (hL : w.heap.size ≤ L) (hSL : S ≠ L) (hSD : S < w.heap.size + 2) (hLD : L < w.heap.size + 2) (hsz : w'.heap.size = w.heap.size + 3) (hb : Below w.heap.size w w')
    (cS : w'.heap[S]? = some (.cells (Array.replicate (n * 512) (.int .u8 0)) 136 (0, 0)))
    (cL : w'.heap[L]? = some (.cells (Array.replicate n (.pointer none)) 134 (0, 0)))
    (cD : w'.heap[w.heap.size + 2]? = some (.cells #[.slice (some ⟨S, 0, none⟩) n n, .slice (some ⟨L, 0, none⟩) n n, .slice none 0 0, .int .i64 0, .int .i64 (-1)] 87 (0, 0))) :
    Fresh n w w' ⟨n, w.heap.size + 2, S, L, fun _ _ => 0, fun _ _ => 0, fun _ => none, .slice none 0 0, [], 0, -1⟩ := by
  refine ⟨⟨⟨hn, by show w.heap.size ≤ w.heap.size + 2; omega, hS, hL, by show w.heap.size + 2 ≠ S; omega, by show w.heap.size + 2 ≠ L; omega, hSL, ?_, ?_, ?_, ?_, ?_, ?_, ?_, ?_, ?_, ?_, ?_, ?_⟩, ?_, ?_, ?_, ?_, ?_, ?_, ?_, ?_, ?_, ?_, ?_, ?_, ?_, ?_, ?_⟩, rfl, fun _ _ => rfl, fun _ => rfl, rfl, rfl, rfl, hb⟩
  · intro i b h; cases h
  · intro i j b h; cases h
  · simp [Value.ownBlock]
  · simp [Value.ownBlock]
  · simp [Value.ownBlock]
  · exact List.nodup_nil
  · intro i; simp
  · intro i h; exact absurd rfl h
  · show (-9223372036854775808 : Int) ≤ -1; omega
  · show (-1 : Int) ≤ 9223372036854775807; omega
  · intro i j; exact ⟨Int.le_refl _, (by decide : (0 : Int) < 256)⟩
  · intro i j; exact ⟨Int.le_refl _, (by decide : (0 : Int) < 256)⟩
  · exact cell_of_row _ _ _ _ _ _ cD
  · exact cell_of_row _ _ _ _ _ _ cD
  · exact cell_of_row _ _ _ _ _ _ cD
  · exact cell_of_row _ _ _ _ _ _ cD
  · exact cell_of_row _ _ _ _ _ _ cD
  · show S < w'.heap.size; omega
  · show L < w'.heap.size; omega
  · intro i; exact frozen_of_row _ _ _ _ _ cD
  · intro i j hi hj
    have hi' : i < n := hi
    show w'.cell? ⟨S, i * 512 + j, none⟩ = _
    rw [cell_of_row _ _ _ _ _ _ cS, Array.getElem?_eq_getElem (by rw [Array.size_replicate]; omega)]
    simp
  · intro i; exact frozen_of_row _ _ _ _ _ cS
  · intro i hi
    have hi' : i < n := hi
    show w'.cell? ⟨L, i, none⟩ = _
    rw [cell_of_row _ _ _ _ _ _ cL, Array.getElem?_eq_getElem (by rw [Array.size_replicate]; omega)]
    simp [ptr]
  · intro i; exact frozen_of_row _ _ _ _ _ cL
  · exact World.ownsRow_nil _ _ _ _
  · intro i b h; cases h
  · intro i b h; cases h
theorem al3 (w : World) (A B C : Obj) : (((w.alloc A).alloc B).alloc C).heap[w.heap.size]? = some A ∧ (((w.alloc A).alloc B).alloc C).heap[w.heap.size + 1]? = some B ∧ (((w.alloc A).alloc B).alloc C).heap[w.heap.size + 2]? = some C ∧ (((w.alloc A).alloc B).alloc C).heap.size = w.heap.size + 3 ∧ Below w.heap.size w (((w.alloc A).alloc B).alloc C) := by
  refine ⟨?_, ?_, ?_, ?_, ?_⟩
  · rw [Below.heap_alloc _ _ _ (by simp; omega), heap_alloc2_old]
  · rw [Below.heap_alloc _ _ _ (by simp), heap_alloc2_new]
  · have := heap_alloc_new ((w.alloc A).alloc B) C
    simpa using this
  · simp
  · exact (((Below.refl _ _).alloc (Nat.le_refl _) _).alloc (by simp) _).alloc (by simp; omega) _
set_option maxRecDepth 100000 in
theorem new_any (n : Nat) (w : World) (h1 : 1 ≤ n) (h2 : n ≤ 16384) :
    Calls Tryz.prog 10 #[.int .i64 n] w (Made n w) := by
  have m1 := make_s n h2
  have m2 := make_p n h2
  have a1 : ¬ (n : Int) < 1 := by omega
  have a2 : ¬ (16384 : Int) < (n : Int) := by omega
  go_enter Tryz.func10, Tryz.ntmps10
  go_wp2
  go_region
  all_goals go_wp2
  all_goals go_ret2
  · have A := al3 w (.cells (Array.replicate (n * 512) (.int .u8 0)) 136) (.cells (Array.replicate n (.pointer none)) 134) (.cells #[.slice (some ⟨w.heap.size, 0, none⟩) n n, .slice (some ⟨w.heap.size + 1, 0, none⟩) n n, .slice none 0 0, .int .i64 0, .int .i64 (-1)] 87)
    exact ⟨_, rfl, fresh_of n h2 w _ w.heap.size (w.heap.size + 1) (by omega) (by omega) (by omega) (by omega) (by omega) A.2.2.2.1 A.2.2.2.2.drew A.1 A.2.1 A.2.2.1⟩
  · have A := al3 w (.cells (Array.replicate n (.pointer none)) 134) (.cells (Array.replicate (n * 512) (.int .u8 0)) 136) (.cells #[.slice (some ⟨w.heap.size + 1, 0, none⟩) n n, .slice (some ⟨w.heap.size, 0, none⟩) n n, .slice none 0 0, .int .i64 0, .int .i64 (-1)] 87)
    exact ⟨_, rfl, fresh_of n h2 w _ (w.heap.size + 1) w.heap.size (by omega) (by omega) (by omega) (by omega) (by omega) A.2.2.2.1 A.2.2.2.2.drew A.2.1 A.1 A.2.2.1⟩
end Go.Proofs.YtokikeenfpligaaGreatDoor
namespace Go.Proofs.YtokikeenfpligaaGreatDoor
open Go.RowKit

set_option maxRecDepth 100000 in
theorem run_push (w : World) (ty : TypeId) (B n : Nat) (v : Value) (xs : List Value) (hown : w.ownsRow B 3 1 v n xs) (ab ao : Nat) (y : Int) (hc : w.cell? ⟨ab, ao, none⟩ = some (.int .i64 y)) (h63 : n < 1000000) (hbase : B ≤ w.heap.size) :
    ∃ v' w', (Builtin.append_ #[59, 59] ty #[v, .slice (some ⟨ab, ao, none⟩) 1 1]).run Tryz.prog w = .ok v' w' ∧ w'.ownsRow B 3 1 v' (n + 1) (xs ++ [.int .i64 y]) ∧ w.grownBy w' v.ownBlock ∧ (∀ k, v'.ownBlock = some k → v.ownBlock = some k ∨ w.heap.size ≤ k) := by
  obtain ⟨i, hi, hz0, hz1, hz2⟩ := info_parts info_i
  have hnews : ∀ j u, [Value.int .i64 y][j]? = some u → w.cell? ((⟨ab, ao, none⟩ : Addr).add j) = some u := by
    intro j u hj
    have hj0 : j < 1 := by simpa using (List.getElem?_eq_some_iff.1 hj).1
    obtain rfl : j = 0 := by omega
    rw [Addr.add_mid, Nat.add_zero, hc]
    simpa using hj
  have h1 : ∀ u ∈ [Value.int .i64 y], u.oneCell' = true := by intro u hu; simp at hu; subst hu; rfl
  obtain ⟨v', w', hr, h2, h3, h4⟩ := run_append_own (P := Tryz.prog) w B 59 ty 3 i (.int .i64 0) 1 8 Tryz.underlying59 hi hz0 hz1 hz2 rfl (by decide) v n xs hown ⟨ab, ao, none⟩ 1 1 [.int .i64 y] rfl hnews h1 (by unfold maxLen; omega) (by omega) hbase
  refine ⟨v', w', hr, h2, h3, ?_⟩
  rcases hown.2 with ⟨rfl, rfl⟩ | ⟨g, cap, cur, rfl, hbg, hg, hnc, hcm, hcs, htake⟩
  · have hr2 := run_append_nil (P := Tryz.prog) w 59 ty 3 i _ Tryz.underlying59 hi hz0 ⟨ab, ao, none⟩ 1 1 [.int .i64 y] (by rw [hz1]; rfl) hnews (by omega) (by omega) (by rw [hz2]; omega)
    rw [hr2] at hr
    injection hr with e1 e2
    intro k hk
    rw [← e1] at hk
    simp [Value.ownBlock] at hk
    exact .inr (by omega)
  · by_cases hroom : n + 1 ≤ cap
    · have hr2 := run_append_room (P := Tryz.prog) w 59 ty 3 i Tryz.underlying59 hi g n cap cur hg ⟨ab, ao, none⟩ 1 1 [.int .i64 y] (by rw [hz1]; rfl) hnews h1 hroom (by rw [hz1]; simp; omega)
      rw [hr2] at hr
      injection hr with e1 e2
      intro k hk
      rw [← e1] at hk
      exact .inl hk
    · have hr2 := run_append_grow (P := Tryz.prog) w 59 ty 3 i _ Tryz.underlying59 hi hz0 ⟨g, 0, none⟩ n cap xs (by rw [hz1]; exact hown.1) (hown.cells (g := g) rfl) ⟨ab, ao, none⟩ 1 1 [.int .i64 y] (by rw [hz1]; rfl) hnews (by omega) (by omega) (growslice_fits (by omega) (by rw [hz2]; omega))
      rw [hr2] at hr
      injection hr with e1 e2
      intro k hk
      rw [← e1] at hk
      simp [Value.ownBlock] at hk
      exact .inr (by omega)
set_option maxRecDepth 100000 in
theorem wpList_push {w : World} {ops : Array Oper} {rest : List Oper} {o : Oper} {a : Act} {Q : Exit → Act → World → Prop} (hgd : o.guard = none) (s x : Operand)
    (ho : o.op = .call { callee := .builtin .append, args := #[s, x], argTypes := #[59, 59] }) (B n : Nat) (v : Value) (xs : List Value) (hs : a.eval s = v) (hown : w.ownsRow B 3 1 v n xs) (ab ao : Nat) (y : Int) (hx : a.eval x = .slice (some ⟨ab, ao, none⟩) 1 1) (hc : w.cell? ⟨ab, ao, none⟩ = some (.int .i64 y)) (h63 : n < 1000000) (hbase : B ≤ w.heap.size)
    (h : ∀ v' w', w'.ownsRow B 3 1 v' (n + 1) (xs ++ [.int .i64 y]) → w.grownBy w' v.ownBlock → (∀ k, v'.ownBlock = some k → v.ownBlock = some k ∨ w.heap.size ≤ k) → wpList Tryz.prog ops Q rest (a.put o.dst v') w') : wpList Tryz.prog ops Q (o :: rest) a w := by
  refine wpList_plain hgd fun _ hK => ?_
  obtain ⟨v', w', hr, h2, h3, h4⟩ := run_push w o.type B n v xs hown ab ao y hc h63 hbase
  unfold Oper.wp execOp
  simp only [ho, resolve, invoke, builtin, Sem.run_bind, Sem.run_pure, Result.andThen_ok, List.map_toArray, List.map_cons, List.map_nil, hs, hx, hr]
  exact hK _ _ (h v' w' h2 h3 h4)

theorem own_setCell {w : World} {B : Nat} {e : TypeId} {size : Nat} {v : Value} {n : Nat} {xs : List Value} (h : w.ownsRow B e size v n xs) (a : Addr) (ha : v.ownBlock ≠ some a.block) (u : Value) : (w.setCell a u).ownsRow B e size v n xs := by
  refine ⟨h.1, ?_⟩
  rcases h.2 with hn | ⟨g, cap, cur, rfl, hb, hgg, rest⟩
  · exact .inl hn
  · refine .inr ⟨g, cap, cur, rfl, hb, ?_, rest⟩
    rw [Below.heap_setCell _ _ _ _ (fun e => ha (by simp [Value.ownBlock, e]))]
    exact hgg
theorem cell_of_block {w w' : World} {b o : Nat} (h : w'.heap[b]? = w.heap[b]?) : w'.cell? ⟨b, o, none⟩ = w.cell? ⟨b, o, none⟩ := World.cell?_of_block (w := w) h
theorem frozen_of_block {w w' : World} {b o : Nat} (h : w'.heap[b]? = w.heap[b]?) : w'.frozen? ⟨b, o, none⟩ = w.frozen? ⟨b, o, none⟩ := World.frozen?_of_block (w := w) h

/-- how many writes may still be done is set -/
theorem DiskAt.setLeft {B : Nat} {w : World} {s : St} (h : DiskAt B w s) (x : Int) (h0 : -9223372036854775808 ≤ x) (h1 : x ≤ 9223372036854775807) : DiskAt B (w.setCell ⟨s.D, 4, none⟩ (.int .i64 x)) { s with left := x } := by
  have hb : ∀ k, k ≠ s.D → (w.setCell ⟨s.D, 4, none⟩ (.int .i64 x)).heap[k]? = w.heap[k]? := fun k hk => Below.heap_setCell _ _ _ _ hk
  have o := h.ok
  have ho : ∀ i, i ≠ 4 → (w.setCell ⟨s.D, 4, none⟩ (.int .i64 x)).cell? ⟨s.D, i, none⟩ = w.cell? ⟨s.D, i, none⟩ := fun i hi => World.cell?_setCell_other _ _ _ _ (by intro q; simp only [Addr.mk.injEq] at q; omega)
  refine ⟨⟨o.n1, o.bD, o.bS, o.bL, o.DS, o.DL, o.SL, o.lt, o.inj, o.pD, o.pS, o.pL, o.nd, o.mem, o.lim, h0, h1, o.us, o.un⟩, ?_, ?_, ?_, ?_, ?_, by simpa using h.dS, by simpa using h.dL, ?_, ?_, ?_, ?_, ?_, ?_, ?_, ?_⟩
  · rw [ho _ (by omega)]; exact h.d0
  · rw [ho _ (by omega)]; exact h.d1
  · rw [ho _ (by omega)]; exact h.d2
  · rw [ho _ (by omega)]; exact h.d3
  · exact World.cell?_setCell_same _ _ _ h.d4
  · intro i; rw [World.frozen?_setCell]; exact h.fD i
  · intro i j hi hj; rw [cell_of_block (hb _ (Ne.symm o.DS))]; exact h.cS i j hi hj
  · intro i; rw [World.frozen?_setCell]; exact h.fS i
  · intro i hi; rw [cell_of_block (hb _ (Ne.symm o.DL))]; exact h.cL i hi
  · intro i; rw [World.frozen?_setCell]; exact h.fL i
  · exact own_setCell h.p _ o.pD _
  · intro i b hi j hj; rw [cell_of_block (hb _ (o.lt i b hi).2.1)]; exact h.cT i b hi j hj
  · intro i b hi j; rw [World.frozen?_setCell]; exact h.fT i b hi j
theorem DiskAt.setWrites {B : Nat} {w : World} {s : St} (h : DiskAt B w s) (x : Int) : DiskAt B (w.setCell ⟨s.D, 3, none⟩ (.int .i64 x)) { s with writes := x } := by
  have hb : ∀ k, k ≠ s.D → (w.setCell ⟨s.D, 3, none⟩ (.int .i64 x)).heap[k]? = w.heap[k]? := fun k hk => Below.heap_setCell _ _ _ _ hk
  have o := h.ok
  have ho : ∀ i, i ≠ 3 → (w.setCell ⟨s.D, 3, none⟩ (.int .i64 x)).cell? ⟨s.D, i, none⟩ = w.cell? ⟨s.D, i, none⟩ := fun i hi => World.cell?_setCell_other _ _ _ _ (by intro q; simp only [Addr.mk.injEq] at q; omega)
  refine ⟨⟨o.n1, o.bD, o.bS, o.bL, o.DS, o.DL, o.SL, o.lt, o.inj, o.pD, o.pS, o.pL, o.nd, o.mem, o.lim, o.l0, o.l1, o.us, o.un⟩, ?_, ?_, ?_, ?_, ?_, by simpa using h.dS, by simpa using h.dL, ?_, ?_, ?_, ?_, ?_, ?_, ?_, ?_⟩
  · rw [ho _ (by omega)]; exact h.d0
  · rw [ho _ (by omega)]; exact h.d1
  · rw [ho _ (by omega)]; exact h.d2
  · exact World.cell?_setCell_same _ _ _ h.d3
  · rw [ho _ (by omega)]; exact h.d4
  · intro i; rw [World.frozen?_setCell]; exact h.fD i
  · intro i j hi hj; rw [cell_of_block (hb _ (Ne.symm o.DS))]; exact h.cS i j hi hj
  · intro i; rw [World.frozen?_setCell]; exact h.fS i
  · intro i hi; rw [cell_of_block (hb _ (Ne.symm o.DL))]; exact h.cL i hi
  · intro i; rw [World.frozen?_setCell]; exact h.fL i
  · exact own_setCell h.p _ o.pD _
  · intro i b hi j hj; rw [cell_of_block (hb _ (o.lt i b hi).2.1)]; exact h.cT i b hi j hj
  · intro i b hi j; rw [World.frozen?_setCell]; exact h.fT i b hi j
/-- a store into the disk's struct -/
theorem Step.setD {w : World} {s s' : St} (p : Nat) (v : Value) (own : ∀ k, s'.has k → s.has k ∨ w.heap.size ≤ k) : Step w s (w.setCell ⟨s.D, p, none⟩ v) s' :=
  .write s.D (.inl rfl) rfl rfl rfl (by simp) (fun k _ hk => Below.heap_setCell _ _ _ _ hk) own

/-- many cells of one block are written -/
theorem setCells_heap (b : Nat) : ∀ (vs : List Value) (o : Nat) (w : World) (k : Nat), k ≠ b → (w.setCells b o vs).heap[k]? = w.heap[k]?
  | [], _, _, _, _ => rfl
  | v :: r, o, w, k, hk => by rw [World.setCells, setCells_heap b r _ _ k hk, Below.heap_setCell _ _ _ _ hk]
theorem setCells_rest (b : Nat) : ∀ (vs : List Value) (o : Nat) (w : World), (w.setCells b o vs).os = w.os ∧ (w.setCells b o vs).tape = w.tape ∧ (w.setCells b o vs).output = w.output ∧ (w.setCells b o vs).heap.size = w.heap.size
  | [], _, _ => ⟨rfl, rfl, rfl, rfl⟩
  | v :: r, o, w => by
    obtain ⟨h1, h2, h3, h4⟩ := setCells_rest b r (o + 1) (w.setCell ⟨b, o, none⟩ v)
    rw [World.setCells]
    exact ⟨h1, h2, h3, by rw [h4]; simp⟩
theorem Step.setCells {w : World} {s s' : St} (b : Nat) (hb : s.has b) (o : Nat) (vs : List Value) (own : ∀ k, s'.has k → s.has k ∨ w.heap.size ≤ k) : Step w s (w.setCells b o vs) s' :=
  .write b hb (setCells_rest b vs o w).1 (setCells_rest b vs o w).2.1 (setCells_rest b vs o w).2.2.1 (by rw [(setCells_rest b vs o w).2.2.2]; exact Nat.le_refl _) (fun k _ hk => setCells_heap b vs o w k hk) own

def upd (f : Nat → Nat → Int) (i : Nat) (g : Nat → Int) : Nat → Nat → Int := fun k j => if k = i then g j else f k j
/-- a pending sector's bytes are written, from its head on -/
theorem DiskAt.setNow {B : Nat} {w : World} {s : St} (h : DiskAt B w s) (i T : Nat) (hT : s.late i = some T) (g : Nat → Int) (hg : ∀ j, 0 ≤ g j ∧ g j < 256) (vs : List Value) (o : Nat) (hfit : o + vs.length ≤ 512) (ho : ∀ j, j < vs.length → vs[j]? = some (.int .u8 (g (o + j)))) (hq : ∀ j, j < 512 → (j < o ∨ o + vs.length ≤ j) → g j = s.now i j) : DiskAt B (w.setCells T o vs) { s with now := upd s.now i g } := by
  have ok := h.ok
  have lt := ok.lt i T hT
  have hb : ∀ k, k ≠ T → (w.setCells T o vs).heap[k]? = w.heap[k]? := fun k hk => setCells_heap T vs o w k hk
  have hs := (setCells_rest T vs o w).2.2.2
  refine ⟨⟨ok.n1, ok.bD, ok.bS, ok.bL, ok.DS, ok.DL, ok.SL, ok.lt, ok.inj, ok.pD, ok.pS, ok.pL, ok.nd, ok.mem, ok.lim, ok.l0, ok.l1, ok.us, ?_⟩, ?_, ?_, ?_, ?_, ?_, by rw [hs]; exact h.dS, by rw [hs]; exact h.dL, ?_, ?_, ?_, ?_, ?_, ?_, ?_, ?_⟩
  · intro k j
    show 0 ≤ upd s.now i g k j ∧ upd s.now i g k j < 256
    unfold upd
    by_cases e : k = i
    · rw [if_pos e]; exact hg j
    · rw [if_neg e]; exact ok.un k j
  · rw [cell_of_block (hb _ (Ne.symm lt.2.1))]; exact h.d0
  · rw [cell_of_block (hb _ (Ne.symm lt.2.1))]; exact h.d1
  · rw [cell_of_block (hb _ (Ne.symm lt.2.1))]; exact h.d2
  · rw [cell_of_block (hb _ (Ne.symm lt.2.1))]; exact h.d3
  · rw [cell_of_block (hb _ (Ne.symm lt.2.1))]; exact h.d4
  · intro k; rw [World.frozen?_setCells]; exact h.fD k
  · intro k j hk hj; rw [cell_of_block (hb _ (Ne.symm lt.2.2.1))]; exact h.cS k j hk hj
  · intro k; rw [World.frozen?_setCells]; exact h.fS k
  · intro k hk; rw [cell_of_block (hb _ (Ne.symm lt.2.2.2.1))]; exact h.cL k hk
  · intro k; rw [World.frozen?_setCells]; exact h.fL k
  · refine ⟨h.p.1, ?_⟩
    rcases h.p.2 with hn | ⟨g', cap, cur, hv, hgb, hgg, r⟩
    · exact .inl hn
    · refine .inr ⟨g', cap, cur, hv, hgb, ?_, r⟩
      rw [hb g' (fun e => lt.2.2.2.2 (by rw [hv]; simp [Value.ownBlock, e]))]
      exact hgg
  · intro k b hk j hj
    show _ = some (Value.int .u8 (upd s.now i g k j))
    unfold upd
    by_cases e : k = i
    · subst e
      obtain rfl : T = b := by rw [hT] at hk; exact Option.some.inj hk
      rw [if_pos rfl]
      by_cases hin : o ≤ j ∧ j < o + vs.length
      · obtain ⟨t, rfl⟩ : ∃ t, j = o + t := ⟨j - o, by omega⟩
        have := World.cell?_setCells_in T vs o w (fun m hm => by rw [h.cT k T hT _ (by omega)]; rfl) t (by omega)
        rw [this]
        have e2 := ho t (by omega)
        rw [List.getElem?_eq_getElem (by omega)] at e2
        exact e2
      · rw [World.cell?_setCells_out T vs o w ⟨T, j, none⟩ (fun _ _ => by show j < o ∨ o + vs.length ≤ j; omega), h.cT k T hT j hj, hq j hj (by omega)]
    · rw [if_neg e, cell_of_block (hb _ (fun e2 => e (ok.inj k i T (by rw [← e2]; exact hk) hT)))]
      exact h.cT k b hk j hj
  · intro k b hk j; rw [World.frozen?_setCells]; exact h.fT k b hk j
end Go.Proofs.YtokikeenfpligaaGreatDoor
namespace Go.Proofs.YtokikeenfpligaaGreatDoor
open Go.RowKit

def St.mark (s : St) (i T : Nat) (v : Value) : St := { s with late := fun k => if k = i then some T else s.late k, now := upd s.now i (fun _ => 0), pv := v, pend := s.pend ++ [i] }
def markW (w : World) (s : St) (i : Nat) : World :=
  ((w.setCell ⟨s.L, i, none⟩ (.pointer (some ⟨w.heap.size, 0, none⟩))).alloc (.cells (Array.replicate 512 (.int .u8 0)) 136)).alloc (.cells #[.int .i64 (i : Int)] 3)
theorem markW_size (w : World) (s : St) (i : Nat) : (markW w s i).heap.size = w.heap.size + 2 := by simp [markW]
theorem markW_old (w : World) (s : St) (i k : Nat) (hk : k < w.heap.size) (hL : k ≠ s.L) : (markW w s i).heap[k]? = w.heap[k]? := by
  unfold markW
  rw [Below.heap_alloc _ _ _ (by simp; omega), Below.heap_alloc _ _ _ (by simpa using hk), Below.heap_setCell _ _ _ _ hL]
theorem markW_L (w : World) (s : St) (i : Nat) (hL : s.L < w.heap.size) : (markW w s i).heap[s.L]? = (w.setCell ⟨s.L, i, none⟩ (.pointer (some ⟨w.heap.size, 0, none⟩))).heap[s.L]? := by
  unfold markW
  rw [Below.heap_alloc _ _ _ (by simp; omega), Below.heap_alloc _ _ _ (by simpa using hL)]
theorem markW_T (w : World) (s : St) (i : Nat) : (markW w s i).heap[w.heap.size]? = some (.cells (Array.replicate 512 (.int .u8 0)) 136 (0, 0)) := by
  unfold markW
  have := heap_alloc_new (w.setCell ⟨s.L, i, none⟩ (.pointer (some ⟨w.heap.size, 0, none⟩))) (.cells (Array.replicate 512 (.int .u8 0)) 136)
  rw [Below.heap_alloc _ _ _ (by simp)]
  simpa using this
theorem own_markW {B : Nat} {w : World} {s : St} (h : DiskAt B w s) (i : Nat) : (markW w s i).ownsRow B 3 1 s.pv s.pend.length (nats s.pend) :=
  ((own_setCell h.p ⟨s.L, i, none⟩ h.ok.pL _).alloc _).alloc _

theorem DiskAt.mark {B : Nat} {w w4 : World} {s : St} (h : DiskAt B w s) (i : Nat) (hi : i < s.n) (hlt : s.late i = none) (v : Value)
    (hown : w4.ownsRow B 3 1 v (s.pend.length + 1) (nats s.pend ++ [.int .i64 (i : Int)])) (hg : (markW w s i).grownBy w4 s.pv.ownBlock) (hv : ∀ k, v.ownBlock = some k → s.pv.ownBlock = some k ∨ w.heap.size + 2 ≤ k) :
    DiskAt B (w4.setCell ⟨s.D, 2, none⟩ v) (s.mark i w.heap.size v) ∧ Step w s (w4.setCell ⟨s.D, 2, none⟩ v) (s.mark i w.heap.size v) := by
  have o := h.ok
  have hsz := markW_size w s i
  have hBw : B ≤ w.heap.size := Nat.le_trans o.bS (Nat.le_of_lt h.dS)
  have lD := (h.lt s.D (.inl rfl)).2
  have hT : ∀ k b, s.late k = some b → b < w.heap.size := fun k b hk => (h.lt b (.inr (.inr (.inr (.inr ⟨k, hk⟩))))).2
  have hpv : ∀ k, s.pv.ownBlock = some k → k < w.heap.size := fun k hk => (h.lt k (.inr (.inr (.inr (.inl hk))))).2
  have hvn : ∀ k, k < w.heap.size → s.pv.ownBlock ≠ some k → v.ownBlock ≠ some k := fun k hk hn e => by
    rcases hv k e with e2 | e2
    · exact hn e2
    · omega
  have hvT : v.ownBlock ≠ some w.heap.size := fun e => by
    rcases hv _ e with e2 | e2
    · have := hpv _ e2; omega
    · omega
  have old : ∀ k, k < w.heap.size → k ≠ s.L → k ≠ s.D → s.pv.ownBlock ≠ some k → (w4.setCell ⟨s.D, 2, none⟩ v).heap[k]? = w.heap[k]? := fun k hk hL hD hp => by
    rw [Below.heap_setCell _ _ _ _ hD, hg.block k (by omega) (fun e => hp e.symm), markW_old w s i k hk hL]
  have hD4 : w4.heap[s.D]? = w.heap[s.D]? := by
    rw [hg.block s.D (by omega) (fun e => o.pD e.symm), markW_old w s i s.D lD o.DL]
  have hL4 : (w4.setCell ⟨s.D, 2, none⟩ v).heap[s.L]? = (w.setCell ⟨s.L, i, none⟩ (.pointer (some ⟨w.heap.size, 0, none⟩))).heap[s.L]? := by
    rw [Below.heap_setCell _ _ _ _ (Ne.symm o.DL), hg.block s.L (by have := h.dL; omega) (fun e => o.pL e.symm), markW_L w s i h.dL]
  have hT4 : (w4.setCell ⟨s.D, 2, none⟩ v).heap[w.heap.size]? = some (.cells (Array.replicate 512 (.int .u8 0)) 136 (0, 0)) := by
    rw [Below.heap_setCell _ _ _ _ (by show w.heap.size ≠ s.D; omega), hg.block w.heap.size (by omega) (fun e => by have := hpv _ e.symm; omega), markW_T w s i]
  have cD : ∀ q, q ≠ 2 → (w4.setCell ⟨s.D, 2, none⟩ v).cell? ⟨s.D, q, none⟩ = w.cell? ⟨s.D, q, none⟩ := fun q hq => by
    rw [World.cell?_setCell_other _ _ _ _ (by intro e; simp only [Addr.mk.injEq] at e; omega)]
    exact cell_of_block hD4
  have size4 : w.heap.size + 2 ≤ (w4.setCell ⟨s.D, 2, none⟩ v).heap.size := by have := hg.size; simp; omega
  have lL := h.dL
  have lS := h.dS
  refine ⟨⟨⟨o.n1, o.bD, o.bS, o.bL, o.DS, o.DL, o.SL, ?_, ?_, hvn _ lD o.pD, hvn _ lS o.pS, hvn _ lL o.pL, ?_, ?_, ?_, o.l0, o.l1, o.us, ?_⟩, ?_, ?_, ?_, ?_, ?_, Nat.lt_of_lt_of_le lS (by omega), Nat.lt_of_lt_of_le lL (by omega), ?_, ?_, ?_, ?_, ?_, ?_, ?_, ?_⟩, ⟨?_, ?_, ?_, by omega, ?_, ?_⟩⟩
  · intro k b hk
    change (if k = i then some w.heap.size else s.late k) = some b at hk
    by_cases e : k = i
    · rw [if_pos e] at hk
      obtain rfl := Option.some.inj hk
      exact ⟨hBw, by show w.heap.size ≠ s.D; omega, by show w.heap.size ≠ s.S; omega, by show w.heap.size ≠ s.L; omega, hvT⟩
    · rw [if_neg e] at hk
      have := o.lt k b hk
      exact ⟨this.1, this.2.1, this.2.2.1, this.2.2.2.1, hvn b (hT k b hk) this.2.2.2.2⟩
  · intro k j b hk hj
    change (if k = i then some w.heap.size else s.late k) = some b at hk
    change (if j = i then some w.heap.size else s.late j) = some b at hj
    by_cases e : k = i <;> by_cases f : j = i
    · omega
    · rw [if_pos e] at hk; rw [if_neg f] at hj
      have := hT j b hj
      have := Option.some.inj hk
      omega
    · rw [if_neg e] at hk; rw [if_pos f] at hj
      have := hT k b hk
      have := Option.some.inj hj
      omega
    · rw [if_neg e] at hk; rw [if_neg f] at hj
      exact o.inj k j b hk hj
  · show (s.pend ++ [i]).Nodup
    rw [List.nodup_append]
    exact ⟨o.nd, by simp, fun a ha b hb e => by
      obtain rfl : b = i := by simpa using hb
      subst e
      exact (o.mem a).1 ha hlt⟩
  · intro k
    show k ∈ s.pend ++ [i] ↔ (if k = i then some w.heap.size else s.late k) ≠ none
    by_cases e : k = i
    · simp [e]
    · rw [if_neg e, List.mem_append, ← o.mem k]
      simp [e]
  · intro k hk
    change (if k = i then some w.heap.size else s.late k) ≠ none at hk
    by_cases e : k = i
    · rw [e]; exact hi
    · rw [if_neg e] at hk
      exact o.lim k hk
  · intro k j
    show 0 ≤ upd s.now i (fun _ => 0) k j ∧ upd s.now i (fun _ => 0) k j < 256
    unfold upd
    by_cases e : k = i
    · rw [if_pos e]; exact ⟨Int.le_refl _, (by decide : (0 : Int) < 256)⟩
    · rw [if_neg e]; exact o.un k j
  · exact (cD 0 (by omega)).trans h.d0
  · exact (cD 1 (by omega)).trans h.d1
  · exact World.cell?_setCell_same _ _ _ (by rw [cell_of_block hD4]; exact h.d2)
  · exact (cD 3 (by omega)).trans h.d3
  · exact (cD 4 (by omega)).trans h.d4
  · intro q; exact (World.frozen?_setCell _ _ _ _).trans ((frozen_of_block hD4).trans (h.fD q))
  · intro k j hk hj; exact (cell_of_block (old s.S lS o.SL (Ne.symm o.DS) o.pS)).trans (h.cS k j hk hj)
  · intro q; exact (frozen_of_block (old s.S lS o.SL (Ne.symm o.DS) o.pS)).trans (h.fS q)
  · intro k hk
    show (w4.setCell ⟨s.D, 2, none⟩ v).cell? ⟨s.L, k, none⟩ = some (ptr (if k = i then some w.heap.size else s.late k))
    rw [cell_of_block hL4]
    by_cases e : k = i
    · rw [if_pos e, e]
      exact World.cell?_setCell_same _ _ _ (h.cL i hi)
    · rw [if_neg e, World.cell?_setCell_other _ _ _ _ (by intro q; simp only [Addr.mk.injEq] at q; omega)]
      exact h.cL k hk
  · intro q
    exact (frozen_of_block hL4).trans ((World.frozen?_setCell _ _ _ _).trans (h.fL q))
  · show (w4.setCell ⟨s.D, 2, none⟩ v).ownsRow B 3 1 v (s.pend ++ [i]).length (nats (s.pend ++ [i]))
    have e : nats (s.pend ++ [i]) = nats s.pend ++ [.int .i64 (i : Int)] := by simp [nats]
    rw [e, List.length_append]
    exact own_setCell hown _ (hvn _ lD o.pD) _
  · intro k b hk j hj
    change (if k = i then some w.heap.size else s.late k) = some b at hk
    show _ = some (Value.int .u8 (upd s.now i (fun _ => 0) k j))
    unfold upd
    by_cases e : k = i
    · rw [if_pos e] at hk
      obtain rfl := Option.some.inj hk
      rw [if_pos e, cell_of_row _ _ _ _ _ _ hT4, Array.getElem?_eq_getElem (by simpa using hj)]
      simp
    · rw [if_neg e] at hk
      have q := o.lt k b hk
      rw [if_neg e, cell_of_block (old b (hT k b hk) q.2.2.2.1 q.2.1 q.2.2.2.2)]
      exact h.cT k b hk j hj
  · intro k b hk j
    change (if k = i then some w.heap.size else s.late k) = some b at hk
    by_cases e : k = i
    · rw [if_pos e] at hk
      obtain rfl := Option.some.inj hk
      exact frozen_of_row _ _ _ _ _ hT4
    · rw [if_neg e] at hk
      have q := o.lt k b hk
      rw [frozen_of_block (old b (hT k b hk) q.2.2.2.1 q.2.1 q.2.2.2.2)]
      exact h.fT k b hk j
  · exact hg.os
  · exact hg.tape
  · exact hg.output
  · intro k hk hn
    exact old k hk (fun e => hn (.inr (.inr (.inl e)))) (fun e => hn (.inl e)) (fun e => hn (.inr (.inr (.inr (.inl e)))))
  · intro k hk
    rcases hk with rfl | rfl | rfl | hp | ⟨j, hj⟩
    · exact .inl (.inl rfl)
    · exact .inl (.inr (.inl rfl))
    · exact .inl (.inr (.inr (.inl rfl)))
    · rcases hv k hp with e | e
      · exact .inl (.inr (.inr (.inr (.inl e))))
      · exact .inr (by omega)
    · change (if j = i then some w.heap.size else s.late j) = some k at hj
      by_cases e : j = i
      · rw [if_pos e] at hj
        exact .inr (by have := Option.some.inj hj; omega)
      · rw [if_neg e] at hj
        exact .inl (.inr (.inr (.inr (.inr ⟨j, hj⟩))))

/-- what is sure of a sector is written, from some byte of it on -/
theorem DiskAt.setSure {B : Nat} {w : World} {s : St} (h : DiskAt B w s) (i : Nat) (hi : i < s.n) (g : Nat → Int) (hg : ∀ j, 0 ≤ g j ∧ g j < 256) (vs : List Value) (o : Nat) (hfit : o + vs.length ≤ 512) (ho : ∀ j, j < vs.length → vs[j]? = some (.int .u8 (g (o + j)))) (hq : ∀ j, j < 512 → (j < o ∨ o + vs.length ≤ j) → g j = s.sure i j) : DiskAt B (w.setCells s.S (i * 512 + o) vs) { s with sure := upd s.sure i g } := by
  have ok := h.ok
  have hb : ∀ k, k ≠ s.S → (w.setCells s.S (i * 512 + o) vs).heap[k]? = w.heap[k]? := fun k hk => setCells_heap s.S vs _ w k hk
  have hs := (setCells_rest s.S vs (i * 512 + o) w).2.2.2
  refine ⟨⟨ok.n1, ok.bD, ok.bS, ok.bL, ok.DS, ok.DL, ok.SL, ok.lt, ok.inj, ok.pD, ok.pS, ok.pL, ok.nd, ok.mem, ok.lim, ok.l0, ok.l1, ?_, ok.un⟩, ?_, ?_, ?_, ?_, ?_, by rw [hs]; exact h.dS, by rw [hs]; exact h.dL, ?_, ?_, ?_, ?_, ?_, ?_, ?_, ?_⟩
  · intro k j
    show 0 ≤ upd s.sure i g k j ∧ upd s.sure i g k j < 256
    unfold upd
    by_cases e : k = i
    · rw [if_pos e]; exact hg j
    · rw [if_neg e]; exact ok.us k j
  · rw [cell_of_block (hb _ ok.DS)]; exact h.d0
  · rw [cell_of_block (hb _ ok.DS)]; exact h.d1
  · rw [cell_of_block (hb _ ok.DS)]; exact h.d2
  · rw [cell_of_block (hb _ ok.DS)]; exact h.d3
  · rw [cell_of_block (hb _ ok.DS)]; exact h.d4
  · intro k; rw [World.frozen?_setCells]; exact h.fD k
  · intro k j hk hj
    show _ = some (Value.int .u8 (upd s.sure i g k j))
    unfold upd
    by_cases e : k = i
    · subst e
      rw [if_pos rfl]
      by_cases hin : o ≤ j ∧ j < o + vs.length
      · obtain ⟨t, rfl⟩ : ∃ t, j = o + t := ⟨j - o, by omega⟩
        have := World.cell?_setCells_in s.S vs (k * 512 + o) w (fun m hm => by rw [Nat.add_assoc, h.cS k (o + m) hk (by omega)]; rfl) t (by omega)
        rw [← Nat.add_assoc, this]
        have e2 := ho t (by omega)
        rw [List.getElem?_eq_getElem (by omega)] at e2
        exact e2
      · rw [World.cell?_setCells_out s.S vs _ w ⟨s.S, k * 512 + j, none⟩ (fun _ _ => by show k * 512 + j < k * 512 + o ∨ k * 512 + o + vs.length ≤ k * 512 + j; omega), h.cS k j hk hj, hq j hj (by omega)]
    · rw [if_neg e, World.cell?_setCells_out s.S vs _ w ⟨s.S, k * 512 + j, none⟩ (fun _ _ => by show k * 512 + j < i * 512 + o ∨ i * 512 + o + vs.length ≤ k * 512 + j; omega)]
      exact h.cS k j hk hj
  · intro k; rw [World.frozen?_setCells]; exact h.fS k
  · intro k hk; rw [cell_of_block (hb _ (Ne.symm ok.SL))]; exact h.cL k hk
  · intro k; rw [World.frozen?_setCells]; exact h.fL k
  · refine ⟨h.p.1, ?_⟩
    rcases h.p.2 with hn | ⟨g', cap, cur, hv, hgb, hgg, r⟩
    · exact .inl hn
    · refine .inr ⟨g', cap, cur, hv, hgb, ?_, r⟩
      rw [hb g' (fun e => ok.pS (by rw [hv]; simp [Value.ownBlock, e]))]
      exact hgg
  · intro k b hk j hj; rw [cell_of_block (hb _ (ok.lt k b hk).2.2.1)]; exact h.cT k b hk j hj
  · intro k b hk j; rw [World.frozen?_setCells]; exact h.fT k b hk j

def St.settle (s : St) : St := { s with late := fun _ => none, pv := .slice none 0 0, pend := [] }
/-- no sector is pending any more -/
theorem DiskAt.settled {B : Nat} {w wr : World} {s : St} (h : DiskAt B w s) (hb : ∀ k, k ≠ s.L → wr.heap[k]? = w.heap[k]?) (hs : wr.heap.size = w.heap.size) (cL : ∀ i, i < s.n → wr.cell? ⟨s.L, i, none⟩ = some (.pointer none)) (fL : ∀ i, wr.frozen? ⟨s.L, i, none⟩ = false) : DiskAt B (wr.setCell ⟨s.D, 2, none⟩ (.slice none 0 0)) s.settle := by
  have o := h.ok
  have hb2 : ∀ k, k ≠ s.D → (wr.setCell ⟨s.D, 2, none⟩ (.slice none 0 0)).heap[k]? = wr.heap[k]? := fun k hk => Below.heap_setCell _ _ _ _ hk
  have cD : ∀ q, q ≠ 2 → (wr.setCell ⟨s.D, 2, none⟩ (.slice none 0 0)).cell? ⟨s.D, q, none⟩ = w.cell? ⟨s.D, q, none⟩ := fun q hq => by
    rw [World.cell?_setCell_other _ _ _ _ (by intro e; simp only [Addr.mk.injEq] at e; omega)]
    exact cell_of_block (hb _ o.DL)
  refine ⟨⟨o.n1, o.bD, o.bS, o.bL, o.DS, o.DL, o.SL, ?_, ?_, ?_, ?_, ?_, ?_, ?_, ?_, o.l0, o.l1, o.us, o.un⟩, ?_, ?_, ?_, ?_, ?_, ?_, ?_, ?_, ?_, ?_, ?_, ?_, ?_, ?_, ?_⟩
  · intro k b e; cases e
  · intro k j b e; cases e
  · simp [St.settle, Value.ownBlock]
  · simp [St.settle, Value.ownBlock]
  · simp [St.settle, Value.ownBlock]
  · exact List.nodup_nil
  · intro k; simp [St.settle]
  · intro k e; exact absurd rfl e
  · exact (cD 0 (by omega)).trans h.d0
  · exact (cD 1 (by omega)).trans h.d1
  · exact World.cell?_setCell_same _ _ _ (by rw [cell_of_block (hb _ o.DL)]; exact h.d2)
  · exact (cD 3 (by omega)).trans h.d3
  · exact (cD 4 (by omega)).trans h.d4
  · show s.S < _; have := h.dS; simp; omega
  · show s.L < _; have := h.dL; simp; omega
  · intro q; show (wr.setCell _ _).frozen? ⟨s.D, q, none⟩ = false; rw [World.frozen?_setCell, frozen_of_block (hb _ o.DL)]; exact h.fD q
  · intro i j hi hj; show (wr.setCell _ _).cell? ⟨s.S, i * 512 + j, none⟩ = _; rw [cell_of_block (hb2 _ (Ne.symm o.DS)), cell_of_block (hb _ o.SL)]; exact h.cS i j hi hj
  · intro q; show (wr.setCell _ _).frozen? ⟨s.S, q, none⟩ = false; rw [World.frozen?_setCell, frozen_of_block (hb _ o.SL)]; exact h.fS q
  · intro i hi; show (wr.setCell _ _).cell? ⟨s.L, i, none⟩ = _; rw [cell_of_block (hb2 _ (Ne.symm o.DL))]; exact cL i hi
  · intro q; show (wr.setCell _ _).frozen? ⟨s.L, q, none⟩ = false; rw [World.frozen?_setCell]; exact fL q
  · exact World.ownsRow_nil _ _ _ _
  · intro k b e; cases e
  · intro k b e; cases e
end Go.Proofs.YtokikeenfpligaaGreatDoor

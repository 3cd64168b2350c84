/-
  THE WALK of number: of a square that is there, of a new one, of a new one where there is no room. Conditions: the store lies in memory.
-/
import Derived.Deep.DeepCutAuto
import Derived.Deep.RegionLaw
import Derived.BigQuiet
import Derived.Test.YtlejohclijjhnaaGreatDoorL13
namespace Go.Proofs.YtlejohclijjhnaaGreatDoor
open Go.RowKit Ti Qd Go.Maps Go.WideMaps

/-- what becomes of a store -/
def Goes (B : Nat) (w : World) (P : Nat) (room : Nat) (H : Nat → Prop) (L : List Sq) (w' : World) : Prop := ∃ H', St B w' P L room H' ∧ Stp w H w' H'
theorem Goes.same {B : Nat} {w w' : World} {P : Nat} {L : List Sq} {room : Nat} {H : Nat → Prop} (h : St B w P L room H) (hb : Below w.heap.size w w') : Goes B w P room H L w' := ⟨H, h.below hb (Nat.le_refl _), .of_below hb⟩
theorem Goes.trans {B : Nat} {w w1 w2 : World} {P : Nat} {L : List Sq} {room : Nat} {H H1 : Nat → Prop} (h : Stp w H w1 H1) (k : Goes B w1 P room H1 L w2) : Goes B w P room H L w2 := by
  obtain ⟨H2, h1, h2⟩ := k
  exact ⟨H2, h1, h.trans h2⟩
theorem Goes.below {B : Nat} {w w1 w2 : World} {P : Nat} {L : List Sq} {room : Nat} {H : Nat → Prop} (k : Goes B w P room H L w1) (hb : Below w1.heap.size w1 w2) : Goes B w P room H L w2 := by
  obtain ⟨H2, h1, h2⟩ := k
  exact ⟨H2, h1.below hb (Nat.le_refl _), h2.trans (.of_below hb)⟩
abbrev bq (q : Sq) : Obj := .cells #[.int .i64 q.lev, .int .i64 q.cnt, .int .u64 (rg q.til), .int .i64 q.k0, .int .i64 q.k1, .int .i64 q.k2, .int .i64 q.k3] 95
theorem nr_in {L : List Sq} {q : Sq} (h : q ∈ L) : put L q = L := if_pos h
theorem nr_lo (L : List Sq) (q : Sq) : 1 ≤ nr L q ∧ nr L q ≤ L.length + 1 := by
  have h1 := put_ok L q
  have h2 := (put_len L q).2
  unfold Ok at h1
  omega
set_option maxRecDepth 100000 in
set_option maxHeartbeats 1000000 in
theorem number_in {B : Nat} {w : World} {P : Nat} {L : List Sq} {room : Nat} {H : Nat → Prop} (h : St B w P L room H) (q : Sq) (hq : I7 q) (hm : q ∈ L) :
    Calls Tryz.prog 57 #[.pointer (some ⟨P, 0, none⟩), qv q] w fun e w' => e = .returned (.tuple #[.int .i64 (nr L q), .nilIface]) ∧ Below w.heap.size w w' := by
  obtain ⟨M, sv, hs, rfl⟩ := h
  obtain ⟨D, ho, hf⟩ := hs.mp
  have l0 := look_in (w := (w.alloc (bq q)).drew) (ho.alloc (bq q)).drew hf hq hm
  have c2 := cell_al (bq q) hs.c2
  obtain ⟨⟨b0, b1, b2, b3, b4, b5, b6⟩, f0, f1, f2, f3, f4, f5, f6⟩ := row7 (heap_alloc_new w (bq q))
  have HB := Lib.hid (alX w (bq q))
  have hn := nr_lo L q
  have hL := hs.rm
  have hL2 := hs.r6
  clear hs ho hf hm
  unfold qv bq at *
  generalize nr L q = k at *
  go_enter Tryz.func57, Tryz.ntmps57
  go_upto_region 1 with (fail)
  generalize w.alloc (.cells #[.int .i64 q.lev, .int .i64 q.cnt, .int .u64 (rg q.til), .int .i64 q.k0, .int .i64 q.k1, .int .i64 q.k2, .int .i64 q.k3] 95) = W at l0 c2 b0 b1 b2 b3 b4 b5 b6 f0 f1 f2 f3 f4 f5 f6 HB ⊢
  go_region
  go_wp2
  go_ret2
  exact ⟨rfl, HB.out.drew⟩
/-- append whose run is known, in a region that draws its order -/
theorem step_append_runI {P : Program} {ops : Array Oper} {o : Oper} {a : Act} {w : World} {K : Act → World → Prop} {Q : Exit → Act → World → Prop} {E : Prop} (hgd : o.guard = none) (s x : Operand) (t tn : TypeId)
    (ho : o.op = .call { callee := .builtin .append, args := #[s, x], argTypes := #[t, tn] }) (v u : Value) (hs : a.eval s = v) (hx : a.eval x = u) {v' : Value} {w' : World} (hr : (Builtin.append_ #[t, tn] o.type #[v, u]).run P w = .ok v' w') (h : K (a.put o.dst v') w') :
    if Region.wanted o (yielded ops a.tmps) = true then Oper.wp P o a w K Q else E := by
  have hw : Region.wanted o (yielded ops a.tmps) = true := by simp [Region.wanted, hgd]
  rw [if_pos hw]
  unfold Oper.wp execOp
  simp only [ho, resolve, invoke, builtin, Sem.run_bind, Sem.run_pure, Result.andThen_ok, List.map_toArray, List.map_cons, List.map_nil, hs, hx, hr]
  exact h
theorem size_q : ∀ i : TypeInfo, Tryz.prog.info? 95 = some i → i.zero = some (qv dead) ∧ i.size = 7 ∧ i.bytes = 56 := by
  intro i hi
  have h := info_q
  rw [hi] at h
  simpa using h
theorem has_info : ∃ i, Tryz.prog.info? 95 = some i := by
  have h := info_q
  cases hi : Tryz.prog.info? 95 with
  | none => rw [hi] at h; cases h
  | some i => exact ⟨i, rfl⟩
/-- the row with one more, in the store's memory or in new -/
theorem app_run {B : Nat} {w : World} {P M : Nat} {sv : Value} {L : List Sq} {room : Nat} (h : Sto B w P M sv L room) (q : Sq) (hr : L.length < room) (hB : B ≤ w.heap.size) {W : World} (hW : W = w.alloc (bq q)) :
    ∃ v' w', (Builtin.append_ #[84, 84] 84 #[sv, .slice (some ⟨w.heap.size, 0, none⟩) 1 1]).run Tryz.prog W = .ok v' w' ∧ OwnS w' B v' (L.length + 1) (L ++ [q]) ∧ w.grownBy w' sv.ownBlock ∧ (v'.ownBlock = sv.ownBlock ∨ ∃ b, v'.ownBlock = some b ∧ w.heap.size ≤ b) := by
  subst hW
  obtain ⟨i, hi⟩ := has_info
  obtain ⟨z0, z1, z2⟩ := size_q i hi
  have h6 := h.r6
  have hown : (w.alloc (bq q)).ownsRow B 95 7 sv L.length (sl L) := own_of_block (w := w) (w' := w.alloc (bq q)) h.row fun b hb => heap_alloc_old w _ (h.row.lt b hb).2
  obtain ⟨v', w', h1, h2, h3, _, h5⟩ := run_append_own_at (w.alloc (bq q)) B 84 84 95 i (qv dead) 7 56 Tryz.underlying84 hi z0 z1 z2 rfl (by decide) sv L.length (sl L) hown ⟨w.heap.size, 0, none⟩ 1 1 (qc q) rfl (cells7 95 w q) (qc_one q) (by unfold maxLen; omega) (by omega) (by simp; omega)
  rw [sl_snoc] at h2
  refine ⟨v', w', h1, h2, ⟨h3.os, h3.tape, h3.output, Nat.le_trans (by simp) h3.size, fun k hk hn => (h3.block k (Nat.lt_of_lt_of_le hk (by simp)) hn).trans (heap_alloc_old w _ hk)⟩, ?_⟩
  rcases h5 with e | e
  · exact .inl e
  · exact .inr ⟨_, e, by simp⟩
/-- behind the append and the store of its slice -/
structure Mid (B : Nat) (w : World) (P M : Nat) (sv v' : Value) (L : List Sq) (q : Sq) (room : Nat) (D : DataW Unit) (Y : World) : Prop where
  c0 : Y.cell? ⟨P, 0, none⟩ = some (.int .i64 room)
  c1 : Y.cell? ⟨P, 1, none⟩ = some v'
  c2 : Y.cell? ⟨P, 2, none⟩ = some (.map (some M))
  fz : ∀ i, Y.frozen? ⟨P, i, none⟩ = false
  row : OwnS Y B v' (L.length + 1) (L ++ [q])
  mp : OwnsQ Y M L.length D
  os : Y.os = w.os
  tape : Y.tape = w.tape
  output : Y.output = w.output
  size : w.heap.size ≤ Y.heap.size
  block : ∀ k, k < w.heap.size → ¬ Hs P M sv k → Y.heap[k]? = w.heap[k]?
  own : v'.ownBlock = sv.ownBlock ∨ ∃ b, v'.ownBlock = some b ∧ w.heap.size ≤ b
theorem own_blk_ne {B : Nat} {w : World} {v : Value} {n : Nat} {L : List Sq} (h : OwnS w B v n L) {P : Nat} {u : Value} (hP : ¬ v.ownBlock = some P) : OwnS (w.setCell ⟨P, 1, none⟩ u) B v n L :=
  own_of_block h fun b hb => heap_setCell_other w ⟨P, 1, none⟩ b u (fun e => hP (by rw [hb, e]))
theorem mid_of {B : Nat} {w w1 : World} {P M : Nat} {sv v' : Value} {L : List Sq} {q : Sq} {room : Nat} {D : DataW Unit} (hs : Sto B w P M sv L room) (ho : OwnsQ w M L.length D) (h1 : OwnS w1 B v' (L.length + 1) (L ++ [q])) (h2 : w.grownBy w1 sv.ownBlock) (h3 : v'.ownBlock = sv.ownBlock ∨ ∃ b, v'.ownBlock = some b ∧ w.heap.size ≤ b) :
    Mid B w P M sv v' L q room D (w1.setCell ⟨P, 1, none⟩ v') ∧ w1.frozen? ⟨P, 1, none⟩ = false ∧ w1.cell? ⟨P, 1, none⟩ = some sv := by
  have hP := (hs.lt P (.inl rfl)).2
  have hM := (hs.lt M (.inr (.inl rfl))).2
  have eP : w1.heap[P]? = w.heap[P]? := h2.block P hP (fun e => hs.rP e.symm)
  have eM : w1.heap[M]? = w.heap[M]? := h2.block M hM (fun e => hs.rM e.symm)
  have nP : ¬ v'.ownBlock = some P := by
    rcases h3 with e | ⟨b, e, hb⟩
    · rw [e]; exact hs.rP
    · rw [e]; intro q; injection q with q; omega
  have k1 : w1.cell? ⟨P, 1, none⟩ = some sv := (World.cell?_of_block eP).trans hs.c1
  have f1 : ∀ i, w1.frozen? ⟨P, i, none⟩ = false := fun i => (World.frozen?_of_block eP).trans (hs.fz i)
  refine ⟨⟨?_, ?_, ?_, fun i => ?_, own_blk_ne h1 nP, ?_, h2.os, h2.tape, h2.output, ?_, fun k hk hn => ?_, h3⟩, f1 1, k1⟩
  · rw [World.cell?_setCell_other _ _ _ _ (by simp)]
    exact (World.cell?_of_block eP).trans hs.c0
  · exact World.cell?_setCell_same _ _ _ k1
  · rw [World.cell?_setCell_other _ _ _ _ (by simp)]
    exact (World.cell?_of_block eP).trans hs.c2
  · rw [World.frozen?_setCell]
    exact f1 i
  · exact owns_same ho ((heap_setCell_other w1 ⟨P, 1, none⟩ M v' (fun e => hs.PM e.symm)).trans eM)
  · exact Nat.le_trans h2.size (by simp)
  · have hkP : k ≠ P := fun e => hn (.inl e)
    exact (heap_setCell_other w1 ⟨P, 1, none⟩ k v' hkP).trans (h2.block k hk (fun e => hn (.inr (.inr e.symm))))
theorem mid_end {B : Nat} {w Y Z : World} {P M : Nat} {sv v' : Value} {L : List Sq} {q : Sq} {room : Nat} {D D' : DataW Unit} (hs : Sto B w P M sv L room) (h : Mid B w P M sv v' L q room D Y) (ho : OwnsQ Z M (L.length + 1) D') (hf : MpQ (L ++ [q]) D') (hg : Y.grownBy Z (some M)) (hi : Inv (L ++ [q])) (hr : L.length < room) :
    St B Z P (L ++ [q]) room (Hs P M v') ∧ Stp w (Hs P M sv) Z (Hs P M v') := by
  have hP : P < Y.heap.size := World.block_lt_of_cell? Y _ h.c0
  have eP : Z.heap[P]? = Y.heap[P]? := hg.block P hP (fun e => hs.PM (by injection e))
  have nP : ¬ v'.ownBlock = some P := by
    have := (hs.lt P (.inl rfl)).2
    rcases h.own with e | ⟨b, e, hb⟩
    · rw [e]; exact hs.rP
    · rw [e]; intro q; injection q with q; omega
  have nM : ¬ v'.ownBlock = some M := by
    have := (hs.lt M (.inr (.inl rfl))).2
    rcases h.own with e | ⟨b, e, hb⟩
    · rw [e]; exact hs.rM
    · rw [e]; intro q; injection q with q; omega
  have hl : (L ++ [q]).length = L.length + 1 := by simp
  refine ⟨⟨M, v', ⟨(World.cell?_of_block eP).trans h.c0, (World.cell?_of_block eP).trans h.c1, (World.cell?_of_block eP).trans h.c2, fun i => (World.frozen?_of_block eP).trans (h.fz i), ?_, ⟨D', by rw [hl]; exact ho, hf⟩, hs.bP, hs.bM, hs.PM, nP, nM, hi, by omega, hs.r6⟩, rfl⟩, ⟨hg.os.trans h.os, hg.tape.trans h.tape, hg.output.trans h.output, Nat.le_trans h.size hg.size, fun k hk hn => ?_, fun k hk => ?_⟩⟩
  · rw [hl]
    exact own_of_block h.row fun b hb => hg.block b (h.row.lt b hb).2 (fun e => nM (by rw [hb, e]))
  · exact (hg.block k (Nat.lt_of_lt_of_le hk h.size) (fun e => hn (.inr (.inl (by injection e))))).trans (h.block k hk hn)
  · rcases hk with e | e | e
    · exact .inl (.inl e)
    · exact .inl (.inr (.inl e))
    · rcases h.own with e2 | ⟨b, e2, hb⟩
      · exact .inl (.inr (.inr (by rw [← e2]; exact e)))
      · rw [e2] at e
        injection e with e
        exact .inr (by omega)
set_option maxRecDepth 100000 in
set_option maxHeartbeats 1000000 in
theorem number_new {B : Nat} {w : World} {P : Nat} {L : List Sq} {room : Nat} {H : Nat → Prop} (h : St B w P L room H) (q : Sq) (hq : Bd L q) (hg : Gd L (L.length + 1) q) (hm : ¬ q ∈ L) (hr : L.length < room) :
    Calls Tryz.prog 57 #[.pointer (some ⟨P, 0, none⟩), qv q] w fun e w' => e = .returned (.tuple #[.int .i64 (L.length + 1), .nilIface]) ∧ Goes B w P room H (L ++ [q]) w' := by
  obtain ⟨M, sv, hs, rfl⟩ := h
  have hL2 := hs.r6
  have hq7 := hq.i7 (by omega)
  obtain ⟨D, ho, hf⟩ := hs.mp
  obtain ⟨x0, l0⟩ := look_out (w := (w.alloc (bq q)).drew) (ho.alloc (bq q)).drew hf hq7 hm
  have hlt := hs.lt
  have hs1 : Sto B (w.alloc (bq q)) P M sv L room := hs.moved fun b hb => heap_alloc_old w _ (hlt b hb).2
  have hbx := heap_alloc_new w (bq q)
  have HX := Lib.hid hbx
  obtain ⟨⟨b0, b1, b2, b3, b4, b5, b6⟩, f0, f1, f2, f3, f4, f5, f6⟩ := row7 hbx
  have HB := Lib.hid (alX w (bq q))
  have HS := Lib.hid hs1
  have HO := Lib.hid (ho.alloc (bq q))
  have HF := Lib.hid hf
  have HQ := Lib.hid (And.intro hq7 hm)
  have HI := Lib.hid (show Inv (L ++ [q]) by
    have := hs.inv.put hg
    rw [show put L q = L ++ [q] from if_neg hm] at this
    exact this)
  have c0 := hs1.c0
  have c1 := hs1.c1
  have c2 := hs1.c2
  have HNB := Lib.hid (show ¬ Hs P M sv w.heap.size from fun e => by have := (hlt _ e).2; omega)
  obtain ⟨ao, cap, rfl, hc, hcm, e1, e2, e3⟩ := own_sq hs.row
  have HBS := Lib.hid (show B ≤ (w.alloc (bq q)).heap.size by have := hs.bP; have := (hlt P (.inl rfl)).2; simp; omega)
  clear hs ho hf hq7 hm hlt hs1 hbx e1 e2 e3 hq hg
  unfold qv bq at *
  generalize hn : L.length = n at *
  have HN := Lib.hid hn
  clear hn
  have r1 : ¬ (room : Int) ≤ (n : Int) := by omega
  go_enter Tryz.func57, Tryz.ntmps57
  go_upto_region 1 with (fail)
  generalize w.alloc (.cells #[.int .i64 q.lev, .int .i64 q.cnt, .int .u64 (rg q.til), .int .i64 q.k0, .int .i64 q.k1, .int .i64 q.k2, .int .i64 q.k3] 95) = W at l0 c0 c1 c2 b0 b1 b2 b3 b4 b5 b6 f0 f1 f2 f3 f4 f5 f6 HB HX HS HO HBS ⊢
  go_region
  clear l0
  go_upto_region 4 with (fail)
  go_region
  go_upto_region 6 with (fail)
  have HSX := Lib.hid (show Sto B W.drew.drew.drew P M (.slice ao n cap) L room from HS.out.moved fun _ _ => rfl)
  obtain ⟨v', w1, ha, ho1, hg1, hv⟩ := app_run HSX.out q (by rw [HN.out]; exact hr) (by exact HBS.out) (W := W.drew.drew.drew.alloc (.cells #[.int .i64 q.lev, .int .i64 q.cnt, .int .u64 (rg q.til), .int .i64 q.k0, .int .i64 q.k1, .int .i64 q.k2, .int .i64 q.k3] 95)) rfl
  obtain ⟨hmid, y0, y1⟩ := mid_of HSX.out (D := D) (by rw [HN.out]; exact HO.out) ho1 hg1 hv
  have HM := Lib.hid hmid
  obtain ⟨m, hm⟩ : ∃ m, m = L.length + 1 := ⟨_, rfl⟩
  obtain ⟨ao', cap', rfl, hc', hcm', e1, e2, e3⟩ := own_sq (show OwnS w1 B v' m (L ++ [q]) by rw [hm]; exact ho1)
  have HMM := Lib.hid hm
  have m3 : m ≤ 65536 := by have := HN.out; omega
  clear ho1 hg1 hv c0 c1 c2 e1 e2 e3 hm
  have c1 : W.cell? ⟨P, 1, none⟩ = some (.slice ao n cap) := HS.out.c1
  have cA := cell_al (.cells #[.int .i64 q.lev, .int .i64 q.cnt, .int .u64 (rg q.til), .int .i64 q.k0, .int .i64 q.k1, .int .i64 q.k2, .int .i64 q.k3] 95) c1
  go_region_law (refine step_append_runI rfl (.tmp 34) (.tmp 36) 84 84 rfl (.slice ao n cap) (.slice (some ⟨W.heap.size, 0, none⟩) 1 1) (by simp [Act.eval]) (by simp [Act.eval]) ha ?_)
  all_goals
    clear c1 cA ha y0 y1 b0 b1 b2 b3 b4 b5 b6 f0 f1 f2 f3 f4 f5 f6
    generalize w1.setCell ⟨P, 1, none⟩ (.slice ao' m cap') = Y at HM ⊢
    have hbY : Y.heap[w.heap.size]? = some (.cells #[.int .i64 q.lev, .int .i64 q.cnt, .int .u64 (rg q.til), .int .i64 q.k0, .int .i64 q.k1, .int .i64 q.k2, .int .i64 q.k3] 95 (0, 0)) := (HM.out.block _ (lt_of_block HX.out) HNB.out).trans HX.out
    obtain ⟨⟨b0, b1, b2, b3, b4, b5, b6⟩, f0, f1, f2, f3, f4, f5, f6⟩ := row7 hbY
    have c1 := HM.out.c1
    have c2 := HM.out.c2
    obtain ⟨Z, D', hu, ho2, hf2, hg2⟩ := note_run (w := Y.drew) HM.out.mp.drew HF.out HQ.out.1 HQ.out.2 (by unfold maxLen; have := HN.out; omega) (by have := HN.out; omega) (x := (m : Int)) (by have := HMM.out; omega)
    have hg2 : Y.grownBy Z (some M) := ⟨hg2.os, hg2.tape, hg2.output, hg2.size, hg2.block⟩
    unfold qv at hu
    have HE := Lib.hid (mid_end HSX.out HM.out ho2 hf2 hg2 HI.out (by rw [HN.out]; exact hr))
    have cZ : Z.cell? ⟨P, 1, none⟩ = some (.slice ao' m cap') := (World.cell?_of_block (hg2.block P (World.block_lt_of_cell? Y _ c1) (fun e => HSX.out.PM (by injection e)))).trans c1
    clear ho2 hf2 hg2 hbY
    go_upto_region 7 with (fail)
    go_region
    go_wp2
    go_ret2
    have HE2 : Stp W _ Z _ := ⟨HE.out.2.os, HE.out.2.tape, HE.out.2.output, HE.out.2.size, HE.out.2.block, HE.out.2.own⟩
    refine ⟨?_, _, HE.out.1, (Stp.of_below HB.out).trans HE2⟩
    show Ending.returned (.tuple #[.int .i64 (m : Int), .nilIface]) = _
    rw [show ((m : Nat) : Int) = (n : Int) + 1 by have := HMM.out; have := HN.out; omega]
end Go.Proofs.YtlejohclijjhnaaGreatDoor

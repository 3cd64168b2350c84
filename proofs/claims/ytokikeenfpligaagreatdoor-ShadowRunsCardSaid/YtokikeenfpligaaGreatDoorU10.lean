/-
  THE WALKS of slices.Clone and page.parted. Conditions: the bytes lie in memory.
  THE WALKS of page.Decode. Conditions: the bytes lie in memory.
-/
import Derived.Test.YtokikeenfpligaaGreatDoorU09
namespace Go.Proofs.YtokikeenfpligaaGreatDoor.Sm
open Go.RowKit Crc

theorem alX (w : World) (o : Obj) : Below w.heap.size w (w.alloc o) := (Below.refl _ _).alloc (Nat.le_refl _) _
theorem own_slice {w : World} {B : Nat} {e : TypeId} {size : Nat} {v : Value} {n : Nat} {xs : List Value} (h : w.ownsRow B e size v n xs) : ∃ ao cap, v = .slice ao n cap := by
  rcases h.2 with ⟨rfl, rfl⟩ | ⟨g, cap, cur, rfl, _⟩
  · exact ⟨_, _, rfl⟩
  · exact ⟨_, _, rfl⟩
theorem own_base {w : World} {B : Nat} {e : TypeId} {size : Nat} {v : Value} {n : Nat} {xs : List Value} (h : w.ownsRow B e size v n xs) : w.ownsRow 0 e size v n xs := by
  refine ⟨h.1, ?_⟩
  rcases h.2 with h1 | ⟨g, cap, cur, a, _, c⟩
  · exact .inl h1
  · exact .inr ⟨g, cap, cur, a, Nat.zero_le _, c⟩
theorem own_lies2 {w : World} {B n : Nat} {v : Value} {xs : List Int} (h : w.ownsRow B 5 1 v n (bl xs)) (hb : Byte xs) : ∃ ao cap, v = .slice ao n cap ∧ Lies w ao xs ∧ n ≤ cap ∧ cap ≤ 9223372036854775807 := by
  obtain ⟨ao, cap, rfl, hl, hc, _⟩ := own_lies h hb
  refine ⟨ao, cap, rfl, hl, hc, ?_⟩
  rcases h.2 with ⟨h1, _⟩ | ⟨g, cap', cur, h1, _, _, _, h2, _⟩
  · simp at h1; omega
  · simp at h1
    unfold maxLen at h2
    omega
set_option maxRecDepth 100000 in
theorem clone_any (b off n c : Nat) (xs : List Int) (w : World) (hn : xs.length = n) (hm : n ≤ 512) (hx : Lies w (some ⟨b, off, none⟩) xs) :
    Calls Tryz.prog 70 #[.slice (some ⟨b, off, none⟩) n c] w fun e w' => ∃ ao cap, e = .returned (.slice ao n cap) ∧ w'.ownsRow w.heap.size 5 1 (.slice ao n cap) n (bl xs) ∧ Below w.heap.size w w' := by
  obtain ⟨i0, hi, hz0, hz1, hz2⟩ := info_parts info_b
  have HI := Lib.hid hi
  have HI0 := Lib.hid hz0
  have HI1 := Lib.hid hz1
  have HI2 := Lib.hid hz2
  have HX := Lib.hid hx
  have HN := Lib.hid hn
  have q : ∀ (w : World) (a : Option Addr) (n c n' c' : Nat), (binOp .eql 72 (.slice a n c) (.slice none n' c')).run Tryz.prog w = .ok (.bool a.isNone) w := fun w a n c n' c' => Lib.run_eql_slice_nil w _ _ a n c n' c' Tryz.underlying72
  clear hi hz0 hz1 hz2 hx hn
  go_enter Tryz.func70, Tryz.ntmps70
  go_wp2_with (at_builtin; refine wpList_append_own _ rfl (.tmp 5) (.tmp 6) 72 rfl w.heap.size 5 i0 (.int .u8 0) 1 1 Tryz.underlying72 HI.out HI0.out HI1.out HI2.out rfl (by decide) (.slice (some ⟨w.heap.size, 0, none⟩) 0 0) 0 [] rfl (World.ownsRow_made w #[] 0 (Nat.le_refl _) (Nat.zero_le _) rfl) ⟨b, off, none⟩ n c (bl xs) rfl (by rw [bl_len, HN.out, Nat.mul_one]) (bl_lies (HX.out.below (alX _ _))) (bl_one _) (by unfold maxLen; omega) (by omega) (by simp) ?_; intro v1 w1 hown hgrow _)
  have hb : Below w.heap.size w w1 := ((Below.refl _ w).alloc (Nat.le_refl _) _).grown hgrow (by simp) (by intro k hk; have e : w.heap.size = k := Option.some.inj hk; omega)
  have e1 : 0 + n = n := Nat.zero_add n
  rw [e1] at hown
  obtain ⟨ao, cap, rfl⟩ := own_slice hown
  have HL := Lib.hid (show w1.ownsRow w.heap.size 5 1 (.slice ao n cap) n (bl xs) by simpa using hown)
  have HB := Lib.hid hb
  clear hown hgrow hb e1 q
  go_wp2
  go_ret
  exact ⟨ao, cap, rfl, HL.out, HB.out⟩
set_option maxRecDepth 100000 in
theorem info_sl : (Tryz.prog.info? 72).map (fun i => (i.zero, i.size, i.bytes)) = some (some (.slice none 0 0), 1, 24) := by kernel_rfl
theorem own_below {w w' : World} {B : Nat} {e : TypeId} {s : Nat} {v : Value} {n : Nat} {xs : List Value} (h : w.ownsRow B e s v n xs) (hb : Below w.heap.size w w') : w'.ownsRow B e s v n xs := by
  refine ⟨h.1, ?_⟩
  rcases h.2 with h1 | ⟨g, cap, cur, a, b, c, d⟩
  · exact .inl h1
  · exact .inr ⟨g, cap, cur, a, b, (hb.block g (lt_of_block c)).trans c, d⟩
/-- what an own row holds stays where another row, of another kind, has grown -/
theorem own_grown {w w' : World} {B B' : Nat} {e e' : TypeId} {s s' : Nat} {v v' : Value} {n n' : Nat} {xs xs' : List Value} (h : w.ownsRow B e s v n xs) (h' : w.ownsRow B' e' s' v' n' xs') (hg : w.grownBy w' v'.ownBlock) (hne : e ≠ e') : w'.ownsRow B e s v n xs := by
  refine ⟨h.1, ?_⟩
  rcases h.2 with h1 | ⟨g, cap, cur, a, b, c, d⟩
  · exact .inl h1
  · refine .inr ⟨g, cap, cur, a, b, (hg.block g (lt_of_block c) ?_).trans c, d⟩
    intro hq
    rcases h'.2 with ⟨rfl, _⟩ | ⟨g', cap', cur', rfl, _, c', _⟩
    · cases hq
    · have e1 : g = g' := Option.some.inj hq
      subst e1
      rw [c] at c'
      have := Option.some.inj c'
      injection this with _ h2 _
      exact hne h2
/-- a value is a slice of these bytes -/
def Part (B : Nat) (w : World) (v : Value) (x : List Int) : Prop := w.ownsRow B 5 1 v x.length (bl x)
/-- the bytes' i-th part -/
def prt (ys : List Int) (s i : Nat) : List Int := (ys.drop (i * s)).take s
def prts (ys : List Int) (s n : Nat) : List (List Int) := (List.range n).map (prt ys s)
theorem prt_byte {ys : List Int} (h : Byte ys) (s i : Nat) : Byte (prt ys s i) := by
  intro j hj
  have hj' : j < s ∧ i * s + j < ys.length := by unfold prt at hj; rw [List.length_take, List.length_drop] at hj; omega
  have e : (prt ys s i)[j] = ys[i * s + j]'hj'.2 := by simp only [prt, List.getElem_take, List.getElem_drop]
  rw [e]
  exact h _ hj'.2
/-- as many parts as there are so far stand in an own slice -/
structure Parts (w0 w : World) (v : Value) (ys : List Int) (s k : Nat) (vs : List Value) : Prop where
  len : vs.length = k
  own : w.ownsRow w0.heap.size 72 1 v k vs
  part : ∀ i (h : i < vs.length), Part w0.heap.size w vs[i] (prt ys s i)
  bel : Below w0.heap.size w0 w
/-- records in memory of their own -/
def OwnRecs (B : Nat) (w : World) (v : Value) (n : Nat) (rs : List (List Int)) : Prop :=
  rs.length = n ∧ (∀ r ∈ rs, Byte r) ∧ ∃ vs : List Value, vs.length = n ∧ w.ownsRow B 72 1 v n vs ∧ ∀ i (h : i < vs.length) (h' : i < rs.length), Part B w vs[i] rs[i]
theorem prts_len (ys : List Int) (s k : Nat) : (prts ys s k).length = k := by simp [prts]
theorem prts_get (ys : List Int) (s k i : Nat) (h : i < (prts ys s k).length) : (prts ys s k)[i] = prt ys s i := by simp [prts]
theorem Parts.recs {w0 w : World} {v : Value} {ys : List Int} {s k : Nat} {vs : List Value} (h : Parts w0 w v ys s k vs) (hy : Byte ys) : OwnRecs w0.heap.size w v k (prts ys s k) := by
  refine ⟨prts_len _ _ _, ?_, vs, h.len, h.own, fun i hi hi' => by rw [prts_get]; exact h.part i hi⟩
  intro r hr
  simp only [prts, List.mem_map] at hr
  obtain ⟨i, _, rfl⟩ := hr
  exact prt_byte hy s i
theorem own_mono {w : World} {B B' : Nat} {e : TypeId} {size : Nat} {v : Value} {n : Nat} {xs : List Value} (h : w.ownsRow B e size v n xs) (hB : B' ≤ B) : w.ownsRow B' e size v n xs := by
  refine ⟨h.1, ?_⟩
  rcases h.2 with h1 | ⟨g, cap, cur, a, b, c⟩
  · exact .inl h1
  · exact .inr ⟨g, cap, cur, a, Nat.le_trans hB b, c⟩
theorem OwnRecs.mono {B B' : Nat} {w : World} {v : Value} {n : Nat} {rs : List (List Int)} (h : OwnRecs B w v n rs) (hB : B' ≤ B) : OwnRecs B' w v n rs := by
  obtain ⟨a, b, vs, c, d, e⟩ := h
  exact ⟨a, b, vs, c, own_mono d hB, fun i hi hi' => own_mono (e i hi hi') hB⟩
theorem OwnRecs.recs {B : Nat} {w : World} {v : Value} {k : Nat} {rs : List (List Int)} (h : OwnRecs B w v k rs) : ∃ ra cap, v = .slice ra k cap ∧ Recs w ra rs ∧ k ≤ cap ∧ cap ≤ 9223372036854775807 := by
  obtain ⟨hl, hy, vs, hvl, hown, hp⟩ := h
  rcases hown.2 with ⟨rfl, rfl⟩ | ⟨g, cap, cur, rfl, _, hg, hk, hm, hs, ht⟩
  · exact ⟨none, 0, rfl, fun i hi => absurd hi (by omega), by omega, by omega⟩
  · unfold maxLen at hm
    refine ⟨_, cap, rfl, ?_, hk, by omega⟩
    intro i hi
    have hik : i < k := by omega
    have hiv : i < vs.length := by omega
    obtain ⟨ra, rc, hv, hl, h1, h2⟩ := own_lies2 (hp i hiv hi) (hy _ (List.getElem_mem hi))
    refine ⟨g, 0, ra, rc, rfl, ?_, hl, h1, h2⟩
    rw [Nat.zero_add, cell_of_row w g i _ _ _ hg, ← hv]
    have e2 : vs[i]? = some vs[i] := List.getElem?_eq_getElem hiv
    rw [← e2, ← ht, List.getElem?_take, if_pos (by omega)]
    simp
/-- a row stays where another block, of another kind, is written -/
theorem own_other {w w' : World} {B : Nat} {e : TypeId} {s : Nat} {v : Value} {n : Nat} {xs : List Value} (h : w.ownsRow B e s v n xs) {g : Nat} {cs : Array Value} {t : TypeId} {fr : Nat × Nat} (hg : w.heap[g]? = some (.cells cs t fr)) (hne : e ≠ t) (hb : ∀ k, k ≠ g → w'.heap[k]? = w.heap[k]?) : w'.ownsRow B e s v n xs := by
  refine ⟨h.1, ?_⟩
  rcases h.2 with h1 | ⟨g', cap, cur, a, b, c, d⟩
  · exact .inl h1
  · refine .inr ⟨g', cap, cur, a, b, (hb g' ?_).trans c, d⟩
    intro e1
    subst e1
    rw [hg] at c
    have := Option.some.inj c
    injection this with _ h2 _
    exact hne h2.symm
theorem OwnRecs.other {B : Nat} {w w' : World} {v : Value} {n : Nat} {rs : List (List Int)} (h : OwnRecs B w v n rs) {g : Nat} {cs : Array Value} {t : TypeId} {fr : Nat × Nat} (hg : w.heap[g]? = some (.cells cs t fr)) (h1 : 72 ≠ t) (h2 : 5 ≠ t) (hb : ∀ k, k ≠ g → w'.heap[k]? = w.heap[k]?) : OwnRecs B w' v n rs := by
  obtain ⟨a, b, vs, c, d, e⟩ := h
  exact ⟨a, b, vs, c, own_other d hg h1 hb, fun i hi hi' => own_other (e i hi hi') hg h2 hb⟩
theorem OwnRecs.below {B : Nat} {w w' : World} {v : Value} {n : Nat} {rs : List (List Int)} (h : OwnRecs B w v n rs) (hb : Below w.heap.size w w') : OwnRecs B w' v n rs := by
  obtain ⟨a, b, vs, c, d, e⟩ := h
  exact ⟨a, b, vs, c, own_below d hb, fun i hi hi' => own_below (e i hi hi') hb⟩
theorem parts_next {w0 w w1 w2 : World} {v v2 : Value} {ys : List Int} {s k : Nat} {vs : List Value} (h : Parts w0 w v ys s k vs) {ao : Option Addr} {cap : Nat} (hb : Below w.heap.size w w1) (hl : w1.ownsRow w.heap.size 5 1 (.slice ao s cap) s (bl (prt ys s k))) (hs : (prt ys s k).length = s)
    (hown : w2.ownsRow w0.heap.size 72 1 v2 (k + 1) (vs ++ [.slice ao s cap])) (hg : (w1.alloc (.cells #[.slice ao s cap] 72)).grownBy w2 v.ownBlock) : Parts w0 w2 v2 ys s (k + 1) (vs ++ [.slice ao s cap]) := by
  have hB := h.bel.size
  have hB1 := hb.size
  have hbel : Below w0.heap.size w0 (w1.alloc (.cells #[.slice ao s cap] 72)) := (h.bel.trans (hb.mono hB)).alloc (by omega) _
  have hv : (w1.alloc (.cells #[.slice ao s cap] 72)).ownsRow w0.heap.size 72 1 v k vs := own_below (own_below h.own hb) (alX _ _)
  refine ⟨by simp [h.len], hown, ?_, hbel.grown hg (by rw [World.size_alloc]; omega) (fun j hj => (hv.lt j hj).1)⟩
  intro i hi
  by_cases hik : i < vs.length
  · rw [List.getElem_append_left hik]
    exact own_grown (own_below (own_below (h.part i hik) hb) (alX _ _)) hv hg (by decide)
  · have e : i = k := by simp at hi; have := h.len; omega
    subst e
    rw [List.getElem_append_right (by omega)]
    simp only [h.len, Nat.sub_self, List.getElem_cons_zero]
    unfold Part
    rw [hs]
    exact own_grown (own_below (own_mono hl hB) (alX _ _)) hv hg (by decide)
set_option maxRecDepth 100000 in
set_option maxHeartbeats 1000000 in
theorem parted_any (b off m c s n : Nat) (ys : List Int) (w : World) (hm : ys.length = m) (hms : n * s ≤ m) (hm5 : m ≤ 512) (hmc : m ≤ c) (h1 : 1 ≤ s) (hs : s ≤ 512) (hn : n ≤ 512) (hy : Lies w (some ⟨b, off, none⟩) ys) :
    Calls Tryz.prog 111 #[.slice (some ⟨b, off, none⟩) m c, .int .i64 s, .int .i64 n] w fun e w' => ∃ ra cap, e = .returned (.slice ra n cap) ∧ OwnRecs w.heap.size w' (.slice ra n cap) n (prts ys s n) ∧ Below w.heap.size w w' := by
  obtain ⟨i0, hi, hz0, hz1, hz2⟩ := info_parts info_sl
  have HI := Lib.hid hi
  have HI0 := Lib.hid hz0
  have HI1 := Lib.hid hz1
  have HI2 := Lib.hid hz2
  have HM := Lib.hid hm
  have HMS := Lib.hid hms
  have HY := Lib.hid hy
  clear hi hz0 hz1 hz2 hm hms hy
  go_enter Tryz.func111, Tryz.ntmps111
  go_wp2
  go_loopw [7, 10, 8] (fun v i _ wr => ∃ (k : Nat) (vs : List Value), k ≤ n ∧ i = .int .i64 k ∧ Hid (Parts w wr v ys s k vs)) (fun _ i _ _ => n - (intOf i).toNat)
  case atStart => exact ⟨0, [], by omega, rfl, Lib.hid ⟨rfl, World.ownsRow_nil _ _ _ _, fun i hi => absurd hi (by simp), Below.refl _ _⟩⟩
  case round =>
    obtain ⟨k, vs, hk, rfl, HP⟩ := hrel
    by_cases hlt : k < n
    · have hks : k * s + s ≤ m := by
        have h1 : (k + 1) * s ≤ n * s := Nat.mul_le_mul_right s (by omega)
        have h2 := HMS.out
        rw [Nat.succ_mul] at h1
        omega
      have hpl : (prt ys s k).length = s := by unfold prt; rw [List.length_take, List.length_drop, HM.out]; omega
      have hpy : Lies wr (some ⟨b, off + k * s, none⟩) (prt ys s k) := ((HY.out.below HP.out.bel).drop (k * s)).take s
      obtain ⟨P, hP⟩ : ∃ P, P = k * s := ⟨_, rfl⟩
      rw [← hP] at hpy hks
      have hPI : (k : Int) * (s : Int) = (P : Int) := by rw [hP]; exact (Int.natCast_mul _ _).symm
      have hPJ : ((k : Int) + 1) * (s : Int) = (P : Int) + s := by rw [Int.add_mul, hPI, Int.one_mul]
      have HPL := Lib.hid hpl
      have HPY := Lib.hid hpy
      have j1 : ((P : Int) + s).toNat = P + s := by omega
      clear hP hpl hpy
      go_wp2_with (first | (go_at_call 70; refine (clone_any _ _ _ _ _ _ HPL.out hs HPY.out).mono ?_; rintro e w1 ⟨ao, cap, rfl, hl, hb⟩; have HL := Lib.hid hl; have HB := Lib.hid hb; clear hl hb) | (at_builtin; refine wpList_append_own _ rfl (.tmp 13) (.tmp 24) 41 rfl w.heap.size 72 i0 (.slice none 0 0) 1 24 Tryz.underlying41 HI.out HI0.out HI1.out HI2.out rfl (by decide) u7 k vs rfl (own_below (own_below HP.out.own HB.out) (alX _ _)) ⟨w1.heap.size, 0, none⟩ 1 1 [.slice ao s cap] rfl rfl (cell_one_new _ _ _) (by simp [Value.oneCell']) (by unfold maxLen; omega) (by omega) (by have := HP.out.bel.size; have := HB.out.size; simp; omega) ?_; intro v2 w2 hown hgrow _))
      have HP2 := Lib.hid (parts_next HP.out HB.out HL.out HPL.out hown hgrow)
      clear hown hgrow HB HL
      go_roundw
      case rel => exact ⟨k + 1, _, by omega, by go_num, HP2⟩
      case measure => simp [intOf]; omega
    · obtain rfl : k = n := by omega
      obtain ⟨ra, cap, rfl⟩ := own_slice HP.out.own
      have HR := Lib.hid (HP.out.recs HY.out.byte)
      go_wp2
      go_ret
      exact ⟨ra, cap, rfl, HR.out, HP.out.bel⟩
end Go.Proofs.YtokikeenfpligaaGreatDoor.Sm
namespace Go.Proofs.YtokikeenfpligaaGreatDoor.Sm
open Go.RowKit Crc

/-- bytes from i on, m of them -/
def cutb (xs : List Int) (i m : Nat) : List Int := (xs.drop i).take m
theorem cutb_len {xs : List Int} {i m : Nat} (h : i + m ≤ xs.length) : (cutb xs i m).length = m := by unfold cutb; rw [List.length_take, List.length_drop]; omega
theorem Lies.cutb {w : World} {b off : Nat} {xs : List Int} (h : Lies w (some ⟨b, off, none⟩) xs) (i m : Nat) : Lies w (some ⟨b, off + i, none⟩) (cutb xs i m) := (h.drop i).take m
theorem Byte.cutb {xs : List Int} (h : Byte xs) (i m : Nat) : Byte (cutb xs i m) := by
  intro j hj
  have hj' : i + j < xs.length := by unfold Go.Proofs.YtokikeenfpligaaGreatDoor.Sm.cutb at hj; rw [List.length_take, List.length_drop] at hj; omega
  have e : (Go.Proofs.YtokikeenfpligaaGreatDoor.Sm.cutb xs i m)[j] = xs[i + j] := by simp only [Go.Proofs.YtokikeenfpligaaGreatDoor.Sm.cutb, List.getElem_take, List.getElem_drop]
  rw [e]
  exact h _ hj'
theorem num_cutb {xs : List Int} (h : Byte xs) (i m : Nat) (hl : i + m ≤ xs.length) : 0 ≤ num256 (cutb xs i m) ∧ num256 (cutb xs i m) < 256 ^ m := by
  have := num256_bd _ (h.cutb i m)
  rwa [cutb_len hl] at this
theorem lies_at {w : World} {b off k : Nat} {xs : List Int} {x : Int} (h : Lies w (some ⟨b, off, none⟩) xs) (hx : xs[k]? = some x) : w.cell? ⟨b, off + k, none⟩ = some (.int .u8 x) := by
  obtain ⟨hk, rfl⟩ := List.getElem?_eq_some_iff.1 hx
  obtain ⟨b', off', ha, h1, _⟩ := h k hk
  obtain ⟨rfl, rfl⟩ : b = b' ∧ off = off' := by simpa using ha
  exact h1
theorem row_cells {w : World} {g : Nat} {v0 v1 v2 v3 v4 : Value} {t : TypeId} (h : w.heap[g]? = some (.cells #[v0, v1, v2, v3, v4] t (0, 0))) :
    (w.cell? ⟨g, 0, none⟩ = some v0 ∧ w.cell? ⟨g, 1, none⟩ = some v1 ∧ w.cell? ⟨g, 2, none⟩ = some v2 ∧ w.cell? ⟨g, 3, none⟩ = some v3 ∧ w.cell? ⟨g, 4, none⟩ = some v4) ∧ w.frozen? ⟨g, 0, none⟩ = false ∧ w.frozen? ⟨g, 1, none⟩ = false ∧ w.frozen? ⟨g, 2, none⟩ = false ∧ w.frozen? ⟨g, 3, none⟩ = false ∧ w.frozen? ⟨g, 4, none⟩ = false := by
  refine ⟨⟨?_, ?_, ?_, ?_, ?_⟩, frozen_of_row w g 0 _ _ h, frozen_of_row w g 1 _ _ h, frozen_of_row w g 2 _ _ h, frozen_of_row w g 3 _ _ h, frozen_of_row w g 4 _ _ h⟩ <;> (rw [cell_of_row w g _ _ _ _ h]; rfl)
theorem row_set5 {w : World} {g : Nat} {a0 a1 a2 a3 a4 : Value} {t : TypeId} (h : w.heap[g]? = some (.cells #[a0, a1, a2, a3, a4] t (0, 0))) (v0 v1 v2 v3 v4 : Value) :
    (((((w.setCell ⟨g, 0, none⟩ v0).setCell ⟨g, 1, none⟩ v1).setCell ⟨g, 2, none⟩ v2).setCell ⟨g, 3, none⟩ v3).setCell ⟨g, 4, none⟩ v4).heap[g]? = some (.cells #[v0, v1, v2, v3, v4] t (0, 0)) := by
  have h0 := heap_setCell_same w g 0 _ _ v0 h
  have h1 := heap_setCell_same _ g 1 _ _ v1 h0
  have h2 := heap_setCell_same _ g 2 _ _ v2 h1
  have h3 := heap_setCell_same _ g 3 _ _ v3 h2
  have h4 := heap_setCell_same _ g 4 _ _ v4 h3
  rw [h4]
  rfl
theorem cell_set5 {w : World} {g b o : Nat} {v : Value} (h : w.cell? ⟨b, o, none⟩ = some v) (hne : b ≠ g) (v0 v1 v2 v3 v4 : Value) :
    (((((w.setCell ⟨g, 0, none⟩ v0).setCell ⟨g, 1, none⟩ v1).setCell ⟨g, 2, none⟩ v2).setCell ⟨g, 3, none⟩ v3).setCell ⟨g, 4, none⟩ v4).cell? ⟨b, o, none⟩ = some v := by
  have e : ∀ (W : World) (i : Nat) (x : Value), (W.setCell ⟨g, i, none⟩ x).cell? ⟨b, o, none⟩ = W.cell? ⟨b, o, none⟩ := fun W i x => World.cell?_setCell_other _ _ _ _ (by intro q; simp only [Addr.mk.injEq] at q; exact hne q.1.symm)
  rw [e, e, e, e, e]
  exact h
theorem below_set5 {B : Nat} {a w : World} (h : Below B a w) {g : Nat} (hg : B ≤ g) (v0 v1 v2 v3 v4 : Value) : Below B a (((((w.setCell ⟨g, 0, none⟩ v0).setCell ⟨g, 1, none⟩ v1).setCell ⟨g, 2, none⟩ v2).setCell ⟨g, 3, none⟩ v3).setCell ⟨g, 4, none⟩ v4) :=
  ((((h.setCell hg _).setCell hg _).setCell hg _).setCell hg _).setCell hg _
/-- two results: a whole variable, and a slot -/
theorem results_row_tmp {P : Program} {fn : Func} {p q : Tmp} {ty : TypeId} (h : fn.results = #[.cell p ty, .tmp q]) (tmps : Array Value) (w : World) (g : Nat) (t : TypeId) (cs : Array Value) (fr : Nat × Nat) (d : TypeDesc) (v : Value)
    (hp : tmps.getD p undef = .pointer (some ⟨g, 0, none⟩)) (hv : tmps.getD q undef = v) (hg : w.heap[g]? = some (.cells cs t fr))
    (hu : P.underlying ty = some d) (hd : (match d with | .struct _ | .array _ _ => true | _ => false) = true) (hi : (P.info? ty).map (·.size) = some cs.size) :
    (results fn tmps).run P w = .ok (.tuple #[.agg cs, v]) w := by
  have hp' : tmps[p]?.getD undef = .pointer (some ⟨g, 0, none⟩) := by simpa using hp
  have hv' : tmps[q]?.getD undef = v := by simpa using hv
  simp [results, h, hp', hv', asAddr, run_loadVar_row w g t ty cs fr d hg hu hd hi]
theorem post_row_tmp {P : Program} {fn : Func} {R : Ending → World → Prop} {a : Act} {w : World} {p q : Tmp} {ty : TypeId} (h : fn.results = #[.cell p ty, .tmp q]) (g : Nat) (t : TypeId) (cs : Array Value) (fr : Nat × Nat) (d : TypeDesc) (v : Value)
    (hu : P.underlying ty = some d) (hd : (match d with | .struct _ | .array _ _ => true | _ => false) = true) (hi : (P.info? ty).map (·.size) = some cs.size)
    (hp : a.tmps.getD p undef = .pointer (some ⟨g, 0, none⟩)) (hv : a.tmps.getD q undef = v) (hg : w.heap[g]? = some (.cells cs t fr)) (hdf : a.defers = []) (hR : R (.returned (.tuple #[.agg cs, v])) w) : bodyPost P fn R .ret a w :=
  bodyPost_ret (results_row_tmp h a.tmps w g t cs fr d v hp hv hg hu hd hi) hdf hR
abbrev zpg : Array Value := #[.int .u8 0, .int .u32 0, .int .u64 0, .int .i64 0, .slice none 0 0]
set_option maxRecDepth 100000 in
theorem info_pg : (Tryz.prog.info? 47).map (·.size) = some 5 := by kernel_rfl
set_option maxRecDepth 100000 in
theorem decode_long (a : Option Addr) (n c : Nat) (w : World) (hn : n ≠ 512) :
    Calls Tryz.prog 83 #[.slice a n c] w fun e w' => e = .returned (.tuple #[.agg #[.int .u8 0, .int .u32 0, .int .u64 0, .int .i64 0, .slice none 0 0], .iface 78 (.int .i64 2)]) ∧ Below w.heap.size w w' := by
  have hb : ((n : Int) != 512) = true := by rw [bne_iff_ne]; omega
  go_enter Tryz.func83, Tryz.ntmps83
  go_wp2
  refine bodyPost_ret (v := .tuple #[.agg #[.int .u8 0, .int .u32 0, .int .u64 0, .int .i64 0, .slice none 0 0], .iface 78 (.int .i64 2)]) (by simp [results, Tryz.results83, go_sem]) rfl ⟨rfl, ?_⟩
  exact (Below.refl _ _).alloc (Nat.le_refl _) _
set_option maxRecDepth 100000 in
theorem decode_sum (b off c : Nat) (xs : List Int) (w : World) (hn : xs.length = 512) (hx : Lies w (some ⟨b, off, none⟩) xs) (hc : 512 ≤ c) (hg : isGood xs = false) :
    Calls Tryz.prog 83 #[.slice (some ⟨b, off, none⟩) 512 c] w fun e w' => e = .returned (.tuple #[.agg #[.int .u8 0, .int .u32 0, .int .u64 0, .int .i64 0, .slice none 0 0], .iface 78 (.int .i64 7)]) ∧ Below w.heap.size w w' := by
  have HX := Lib.hid (hx.below (alX w (.cells #[.int .u8 0, .int .u32 0, .int .u64 0, .int .i64 0, .slice none 0 0] 47)))
  have HN := Lib.hid hn
  clear hx hn
  go_enter Tryz.func83, Tryz.ntmps83
  go_upto_region 4 with (go_at_call 108; refine (good_n _ _ _ _ _ HN.out (by omega) HX.out (by omega) hc).mono ?_; rintro e w1 ⟨rfl, hb⟩; have HB := Lib.hid hb; have HZ := Lib.hid ((hb.block w.heap.size (by simp)).trans (heap_alloc_new w _)); clear hb)
  obtain ⟨⟨c0, c1, c2, c3, c4⟩, f0, f1, f2, f3, f4⟩ := row_cells HZ.out
  go_wp2
  refine post_row_tmp Tryz.results83 w.heap.size 47 zpg (0, 0) _ (.iface 78 (.int .i64 7)) Tryz.underlying47 rfl info_pg ?_ ?_ (row_set5 HZ.out _ _ _ _ _) ?_ ?_
  · rfl
  · rfl
  · rfl
  exact ⟨rfl, below_set5 (((Below.refl _ _).alloc (Nat.le_refl _) _).trans (HB.out.mono (by simp))) (Nat.le_refl _) _ _ _ _ _⟩
/-- is what stands in a sector's bytes a page's? -/
def formOk (xs : List Int) (s n : Nat) : Bool := fitsB s n && !((cutb xs (16 + n * s) (508 - (16 + n * s))).any badN)
set_option maxRecDepth 100000 in
theorem quiet_taken {w : World} {b off c k : Nat} {xs : List Int} {v : Int} (i n : Nat) (hx : Lies w (some ⟨b, off, none⟩) xs) (hn : i + n ≤ xs.length) (h8 : n ≤ 8) (hv : num256 (cutb xs i n) = v) :
    Calls Tryz.prog 109 #[.slice (some ⟨b, off + i, none⟩) n c] (w.drewN k) fun e w'' => e = .returned (.int .u64 v) ∧ ∃ m, w'' = w.drewN m := by
  subst hv
  exact Calls.quiet_of_same ((taken_any _ n c (cutb xs i n) (w.drewN k) (cutb_len hn) h8 ((hx.cutb i n).drewN k)).mono fun _ _ ⟨h, e⟩ => ⟨h, e.symm⟩)
theorem fits_mul {s n : Nat} (h : fitsB s n = true) : 1 ≤ s ∧ s ≤ 492 ∧ n ≤ 255 ∧ n * s ≤ 492 := by
  rw [fits_iff] at h
  have h1 := room_size h.1
  have h2 := room_mul h1.1
  have h3 := room_bd s
  have h4 : (n : Int) * (s : Int) ≤ room s * s := Int.mul_le_mul_of_nonneg_right h.2 (by omega)
  have h5 : ((n * s : Nat) : Int) = (n : Int) * (s : Int) := Int.natCast_mul _ _
  omega
theorem Below.drewN' {B : Nat} {a w : World} (h : Below B a w) (n : Nat) : Below B a (w.drewN n) := ⟨h.os, h.tape, h.output, h.size, h.block⟩
set_option maxRecDepth 100000 in
theorem decode_form (b off c : Nat) (xs : List Int) (s n : Nat) (w : World) (hn : xs.length = 512) (hx : Lies w (some ⟨b, off, none⟩) xs) (hc : 512 ≤ c) (hg : isGood xs = true) (hs : num256 (cutb xs 13 2) = s) (hk : xs[15]? = some (n : Int)) (hf : formOk xs s n = false) :
    Calls Tryz.prog 83 #[.slice (some ⟨b, off, none⟩) 512 c] w fun e w' => e = .returned (.tuple #[.agg #[.int .u8 0, .int .u32 0, .int .u64 0, .int .i64 0, .slice none 0 0], .iface 78 (.int .i64 3)]) ∧ Below w.heap.size w w' := by
  have HX0 := Lib.hid hx
  have HX := Lib.hid (hx.below (alX w (.cells #[.int .u8 0, .int .u32 0, .int .u64 0, .int .i64 0, .slice none 0 0] 47)))
  have HN := Lib.hid hn
  have HG := Lib.hid hg
  have HS := Lib.hid hs
  have HF := Lib.hid hf
  have HK := Lib.hid hk
  clear hx hn hg hs hf hk
  go_enter Tryz.func83, Tryz.ntmps83
  go_wp2_with (go_at_call 108; refine (good_n _ _ _ _ _ HN.out (by omega) HX.out (by omega) hc).mono ?_; rintro e w1 ⟨rfl, hb⟩; have HB := Lib.hid hb; have HZ := Lib.hid ((hb.block w.heap.size (by simp)).trans (heap_alloc_new w _)); have hg := HG.out; clear hb)
  clear hg
  have HX1 := Lib.hid (HX0.out.below ((alX w _).trans (HB.out.mono (by simp))))
  have HBY := Lib.hid HX0.out.byte
  have hcell := lies_at HX1.out HK.out
  have hc15 : (15 : Int) ≤ (c : Int) := by omega
  have n256 : (n : Int) < 256 := by
    obtain ⟨h15, e15⟩ := List.getElem?_eq_some_iff.1 HK.out
    have := (HBY.out 15 h15).2
    omega
  have sb := num_cutb HBY.out 13 2 (by rw [HN.out]; omega)
  rw [HS.out] at sb
  have sb1 : (s : Int) < 65536 := sb.2
  clear sb
  go_quiet ((go_at_call 109; exact quiet_taken 13 2 HX1.out (by rw [HN.out]; omega) (by omega) HS.out))
  have HZ1 : Hid ((w1.drewN nq).heap[w.heap.size]? = some (.cells zpg 47 (0, 0))) := HZ
  have HB1 : Hid (Below w.heap.size w (w1.drewN nq)) := Lib.hid (Below.drewN' ((alX w _).trans (HB.out.mono (by simp))) nq)
  have HX2 : Hid (Lies (w1.drewN nq) (some ⟨b, off, none⟩) xs) := HX1
  generalize w1.drewN nq = w2 at HZ1 HB1 HX2 ⊢
  clear hcell HZ HX1 HB HX
  obtain ⟨⟨c0, c1, c2, c3, c4⟩, f0, f1, f2, f3, f4⟩ := row_cells HZ1.out
  have hf := HF.out
  unfold formOk at hf
  cases hfit : fitsB s n
  · clear hf
    go_wp2_with (go_at_call 93; refine (fits_any _ _ _ (by omega)).mono ?_; rintro e w' ⟨rfl, rfl⟩)
    refine post_row_tmp Tryz.results83 w.heap.size 47 zpg (0, 0) _ (.iface 78 (.int .i64 3)) Tryz.underlying47 rfl info_pg ?_ ?_ (row_set5 HZ1.out _ _ _ _ _) ?_ ?_
    · rfl
    · rfl
    · rfl
    exact ⟨rfl, below_set5 HB1.out (Nat.le_refl _) _ _ _ _ _⟩
  · rw [hfit, Bool.true_and, Bool.not_eq_false'] at hf
    have HF2 := Lib.hid hf
    obtain ⟨m1, m2, m3, m4⟩ := fits_mul hfit
    obtain ⟨P, hP⟩ : ∃ P, P = n * s := ⟨_, rfl⟩
    rw [← hP] at m4 HF2
    have hPI : (n : Int) * (s : Int) = (P : Int) := by rw [hP]; exact (Int.natCast_mul _ _).symm
    have i0 : (0 : Int) ≤ 16 + (P : Int) := by omega
    have i1 : (16 + (P : Int)).toNat = 16 + P := by omega
    have i2 : 16 + (P : Int) ≤ 508 := by omega
    have i3 : (508 : Int) ≤ (c : Int) := by omega
    have hl := cutb_len (xs := xs) (i := 16 + P) (m := 508 - (16 + P)) (by rw [HN.out]; omega)
    have HL := Lib.hid hl
    clear hP hl hf
    go_wp2_with (first | (go_at_call 93; refine (fits_any _ _ _ (by omega)).mono ?_; rintro e w' ⟨rfl, rfl⟩) | (go_at_call 110; refine (noughts_any _ _ _ _ _ HL.out (by omega) (HX2.out.cutb _ _)).mono ?_; rintro e w' ⟨rfl, rfl⟩; have hq := HF2.out))
    refine post_row_tmp Tryz.results83 w.heap.size 47 zpg (0, 0) _ (.iface 78 (.int .i64 3)) Tryz.underlying47 rfl info_pg ?_ ?_ (row_set5 HZ1.out _ _ _ _ _) ?_ ?_
    · rfl
    · rfl
    · rfl
    exact ⟨rfl, below_set5 HB1.out (Nat.le_refl _) _ _ _ _ _⟩
theorem below_of_drew {B : Nat} {w0 w w' : World} (h : Below B w0 w) (hB : B ≤ w.drew.heap.size) (h' : Below w.drew.heap.size w.drew w') : Below B w0 w' := h.drew.trans (h'.mono hB)
/-- records stay where a page's variable is written -/
theorem heap_set5 (w : World) (g k : Nat) (v0 v1 v2 v3 v4 : Value) (hk : k ≠ g) : (((((w.setCell ⟨g, 0, none⟩ v0).setCell ⟨g, 1, none⟩ v1).setCell ⟨g, 2, none⟩ v2).setCell ⟨g, 3, none⟩ v3).setCell ⟨g, 4, none⟩ v4).heap[k]? = w.heap[k]? := by
  rw [heap_setCell_other _ _ k _ hk, heap_setCell_other _ _ k _ hk, heap_setCell_other _ _ k _ hk, heap_setCell_other _ _ k _ hk, heap_setCell_other _ _ k _ hk]
/-- the page of a sector's bytes -/
def pgOf (xs : List Int) (s n : Nat) : Pg := .mkPg (xs.getD 0 0) (num256 (cutb xs 1 4)) (num256 (cutb xs 5 8)) s (prts (xs.drop 16) s n)
/-- a page as a call hands it back -/
def Read (w : World) (p : Pg) (n : Nat) (e : Ending) (w' : World) : Prop :=
  ∃ ra cap, e = .returned (.tuple #[.agg #[.int .u8 p.kind, .int .u32 p.number, .int .u64 p.epoch, .int .i64 p.size, .slice ra n cap], .nilIface]) ∧ OwnRecs w.heap.size w' (.slice ra n cap) n p.recs ∧ Below w.heap.size w w'
set_option maxRecDepth 100000 in
theorem taken_at {w : World} {b off c : Nat} {xs : List Int} {i n : Nat} (hx : Lies w (some ⟨b, off, none⟩) xs) (hn : i + n ≤ xs.length) (h8 : n ≤ 8) :
    Calls Tryz.prog 109 #[.slice (some ⟨b, off + i, none⟩) n c] w fun e w' => e = .returned (.int .u64 (num256 (cutb xs i n))) ∧ w = w' :=
  taken_any _ n c (cutb xs i n) w (cutb_len hn) h8 (hx.cutb i n)
set_option maxRecDepth 100000 in
set_option maxHeartbeats 1000000 in
theorem decode_ok (b off c : Nat) (xs : List Int) (s n : Nat) (w : World) (hn : xs.length = 512) (hx : Lies w (some ⟨b, off, none⟩) xs) (hc : 512 ≤ c) (hg : isGood xs = true) (hs : num256 (cutb xs 13 2) = s) (hk : xs[15]? = some (n : Int)) (hf : formOk xs s n = true) :
    Calls Tryz.prog 83 #[.slice (some ⟨b, off, none⟩) 512 c] w (Read w (pgOf xs s n) n) := by
  have HX0 := Lib.hid hx
  have HX := Lib.hid (hx.below (alX w (.cells #[.int .u8 0, .int .u32 0, .int .u64 0, .int .i64 0, .slice none 0 0] 47)))
  have HN := Lib.hid hn
  have HG := Lib.hid hg
  have HS := Lib.hid hs
  have HF := Lib.hid hf
  have HK := Lib.hid hk
  clear hx hn hg hs hf hk
  go_enter Tryz.func83, Tryz.ntmps83
  go_wp2_with (go_at_call 108; refine (good_n _ _ _ _ _ HN.out (by omega) HX.out (by omega) hc).mono ?_; rintro e w1 ⟨rfl, hb⟩; have HB := Lib.hid hb; have HZ := Lib.hid ((hb.block w.heap.size (by simp)).trans (heap_alloc_new w _)); have hg := HG.out; clear hb)
  clear hg
  have HX1 := Lib.hid (HX0.out.below ((alX w _).trans (HB.out.mono (by simp))))
  have HBY := Lib.hid HX0.out.byte
  have hcell := lies_at HX1.out HK.out
  have hc15 : (15 : Int) ≤ (c : Int) := by omega
  have n256 : (n : Int) < 256 := by
    obtain ⟨h15, e15⟩ := List.getElem?_eq_some_iff.1 HK.out
    have := (HBY.out 15 h15).2
    omega
  have sb := num_cutb HBY.out 13 2 (by rw [HN.out]; omega)
  rw [HS.out] at sb
  have sb1 : (s : Int) < 65536 := sb.2
  clear sb
  go_quiet ((go_at_call 109; exact quiet_taken 13 2 HX1.out (by rw [HN.out]; omega) (by omega) HS.out))
  have HZ1 : Hid ((w1.drewN nq).heap[w.heap.size]? = some (.cells zpg 47 (0, 0))) := HZ
  have HB1 : Hid (Below w.heap.size w (w1.drewN nq)) := Lib.hid (Below.drewN' ((alX w _).trans (HB.out.mono (by simp))) nq)
  have HX2 : Hid (Lies (w1.drewN nq) (some ⟨b, off, none⟩) xs) := HX1
  generalize w1.drewN nq = w2 at HZ1 HB1 HX2 ⊢
  clear hcell HZ HX1 HB HX
  have hf := HF.out
  unfold formOk at hf
  rw [Bool.and_eq_true, Bool.not_eq_true'] at hf
  have hfit := hf.1
  have HF2 := Lib.hid hf.2
  obtain ⟨m1, m2, m3, m4⟩ := fits_mul hfit
  obtain ⟨P, hP⟩ : ∃ P, P = n * s := ⟨_, rfl⟩
  rw [← hP] at m4 HF2
  have HP := Lib.hid hP
  have hPI : (n : Int) * (s : Int) = (P : Int) := by rw [hP]; exact (Int.natCast_mul _ _).symm
  have i0 : (0 : Int) ≤ 16 + (P : Int) := by omega
  have i1 : (16 + (P : Int)).toNat = 16 + P := by omega
  have i2 : 16 + (P : Int) ≤ 508 := by omega
  have i3 : (508 : Int) ≤ (c : Int) := by omega
  have hl := cutb_len (xs := xs) (i := 16 + P) (m := 508 - (16 + P)) (by rw [HN.out]; omega)
  have HL := Lib.hid hl
  clear hP hl hf
  go_upto_region 8 with (first | (go_at_call 93; refine (fits_any _ _ _ (by omega)).mono ?_; rintro e w' ⟨rfl, rfl⟩) | (go_at_call 110; refine (noughts_any _ _ _ _ _ HL.out (by omega) (HX2.out.cutb _ _)).mono ?_; rintro e w' ⟨rfl, rfl⟩; have hq := HF2.out))
  have hms : n * s ≤ 496 := by have := HP.out; omega
  clear hfit i0 i1 i2 hPI m4 m3
  obtain ⟨k0, k0b⟩ : (∃ x, xs[0]? = some x) ∧ True := ⟨⟨_, List.getElem?_eq_getElem (by rw [HN.out]; omega)⟩, trivial⟩
  obtain ⟨x0, hx0⟩ := k0
  have HX0' := Lib.hid hx0
  have K0 := Lib.hid (show w2.cell? ⟨b, off, none⟩ = some (.int .u8 x0) from lies_at HX2.out hx0)
  have nb := num_cutb HBY.out 1 4 (by rw [HN.out]; omega)
  have nb0 := nb.1
  have nb1 : num256 (cutb xs 1 4) < 4294967296 := nb.2
  have HYS := Lib.hid (show Lies w2 (some ⟨b, off + 16, none⟩) (xs.drop 16) from HX2.out.drop 16)
  have HYL := Lib.hid (show (xs.drop 16).length = 496 by rw [List.length_drop, HN.out])
  have hlt : w.heap.size < w2.heap.size := lt_of_block HZ1.out
  have hbl := World.block_lt_of_cell? w2 _ K0.out
  have hbl' : b < w2.heap.size := hbl
  have HMS := Lib.hid hms
  clear nb hx0 hbl hms k0b
  have hc16 : (16 : Int) ≤ (c : Int) := by omega
  have hc13 : (13 : Int) ≤ (c : Int) := by omega
  have hc5 : (5 : Int) ≤ (c : Int) := by omega
  have hwu : IntKind.u32.wrap (num256 (cutb xs 1 4)) = num256 (cutb xs 1 4) := by rw [IntKind.wrap_u32']; omega
  have HNE := Lib.hid (show b ≠ w.heap.size from Nat.ne_of_lt (World.block_lt_of_cell? w _ (lies_at HX0.out HX0'.out)))
  have hn1 : ¬ c = 1 := by omega
  have hn5 : ¬ c = 5 := by omega
  have hn16 : ¬ c = 16 := by omega
  have KD : Hid (w2.drew.cell? ⟨b, off, none⟩ = some (.int .u8 x0)) := K0
  have HXD : Hid (Lies w2.drew (some ⟨b, off, none⟩) xs) := HX2
  have HYD : Hid (Lies w2.drew (some ⟨b, off + 16, none⟩) (xs.drop 16)) := HYS
  have HZD : Hid (w2.drew.heap[w.heap.size]? = some (.cells zpg 47 (0, 0))) := HZ1
  have hltD : Hid (w.heap.size < w2.drew.heap.size) := Lib.hid hlt
  have hblD : Hid (b < w2.drew.heap.size) := Lib.hid hbl'
  clear hlt hbl'
  go_region_held3 (fun w' => w'.cell? ⟨b, off, none⟩ = some (.int .u8 x0)) (first | with_reducible exact KD.out | with_reducible exact k3 | exact cell_set5 k3 HNE.out _ _ _ _ _) (first | (go_at_call 109; refine (taken_at (b := b) (off := off) (xs := xs) (by first | with_reducible exact HXD.out | with_reducible exact HX3.out) (by rw [HN.out]; omega) (by omega)).mono ?_; rintro e w' ⟨rfl, rfl⟩) | (go_at_call 111; refine (parted_any _ _ 496 _ s n (xs.drop 16) _ HYL.out HMS.out (by omega) (by omega) m1 (by omega) (by omega) (by with_reducible exact HYD.out)).mono ?_; rintro e w3 ⟨ra, cap, rfl, hr3, hb3⟩; have HR3 := Lib.hid hr3; have HX3 := Lib.hid (HXD.out.below hb3); have k3 := ((hb3.cell (p := ⟨b, off, none⟩) hblD.out).trans KD.out); have HZ3 := Lib.hid ((hb3.block w.heap.size hltD.out).trans HZD.out); obtain ⟨⟨d0, d1, d2, d3, d4⟩, g0, g1, g2, g3, g4⟩ := row_cells HZ3.out; clear hr3))
  go_wp2
  refine post_row_tmp Tryz.results83 w.heap.size 47 #[.int .u8 x0, .int .u32 (num256 (cutb xs 1 4)), .int .u64 (num256 (cutb xs 5 8)), .int .i64 s, .slice ra n cap] (0, 0) _ .nilIface Tryz.underlying47 rfl info_pg ?_ ?_ (row_set5 HZ3.out _ _ _ _ _) ?_ ?_
  · rfl
  · rfl
  · rfl
  have hb5 := below_set5 (below_of_drew HB1.out (Nat.le_of_lt hltD.out) hb3) (Nat.le_refl _) (.int .u8 x0) (.int .u32 (num256 (cutb xs 1 4))) (.int .u64 (num256 (cutb xs 5 8))) (.int .i64 s) (.slice ra n cap)
  have e0 : (pgOf xs s n).kind = x0 := by show xs.getD 0 0 = x0; rw [List.getD_eq_getElem?_getD, HX0'.out]; rfl
  refine ⟨ra, cap, ?_, ?_, hb5⟩
  · rw [e0]
    rfl
  · exact (HR3.out.mono (Nat.le_of_lt hltD.out)).other HZ3.out (by decide) (by decide) fun k hk => heap_set5 _ _ k _ _ _ _ _ hk
end Go.Proofs.YtokikeenfpligaaGreatDoor.Sm

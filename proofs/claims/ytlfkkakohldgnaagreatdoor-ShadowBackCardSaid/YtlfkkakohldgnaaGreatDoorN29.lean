/-
  THE WALKS of page.taken, page.noughts, slices.Clone and page.parted: what page.Decode asks. Conditions: the bytes lie in memory.
  THE WALKS of slices.Clone and page.parted. Conditions: the bytes lie in memory.
-/
import Derived.Test.YtlfkkakohldgnaaGreatDoorN27
namespace Go.Proofs.YtlfkkakohldgnaaGreatDoor.Sm
open Go.RowKit Crc

theorem or_byte (v x : Int) (v0 : 0 ≤ v) (x0 : 0 ≤ x) (x1 : x < 256) (h : v * 256 + x < 18446744073709551616) : bits .or .u64 (v * 256) x = 256 * v + x := by
  obtain ⟨a, rfl⟩ := Int.eq_ofNat_of_zero_le v0
  obtain ⟨b, rfl⟩ := Int.eq_ofNat_of_zero_le x0
  show IntKind.u64.wrap ((BitVec.ofInt 64 ((a : Int) * 256) ||| BitVec.ofInt 64 (b : Int)).toNat : Int) = _
  have e1 : ((a : Int) * 256) = ((a * 256 : Nat) : Int) := by omega
  rw [e1, BitVec.ofInt_natCast, BitVec.ofInt_natCast, BitVec.toNat_or, BitVec.toNat_ofNat, BitVec.toNat_ofNat, Nat.mod_eq_of_lt (by omega), Nat.mod_eq_of_lt (by omega)]
  have e2 : a * 256 ||| b = a * 256 + b := by
    have := Nat.shiftLeft_add_eq_or_of_lt (show b < 2 ^ 8 by omega) a
    have h8 : (2 : Nat) ^ 8 = 256 := rfl
    rw [Nat.shiftLeft_eq, h8] at this
    exact this.symm
  rw [e2, IntKind.wrap_u64]
  omega
set_option maxRecDepth 100000 in
theorem taken_any (a : Option Addr) (n c : Nat) (xs : List Int) (w : World) (hn : xs.length = n) (h8 : n ≤ 8) (hx : Lies w a xs) :
    Calls Tryz.prog 109 #[.slice a n c] w fun e w' => e = .returned (.int .u64 (num256 xs)) ∧ w = w' := by
  have HX := Lib.hid hx
  have HN := Lib.hid hn
  clear hx hn
  go_enter Tryz.func109, Tryz.ntmps109
  go_wp2
  go_loop [3, 8, 5] (fun v i _ => ∃ k : Nat, k ≤ n ∧ i = .int .i64 k ∧ v = .int .u64 (num256 (xs.take k))) (fun _ i _ => n - (intOf i).toNat)
  case atStart => exact ⟨0, by omega, rfl, rfl⟩
  case round =>
    obtain ⟨k, hk, rfl, rfl⟩ := hrel
    by_cases hlt : k < n
    · have hlt' : k < xs.length := by rw [HN.out]; exact hlt
      obtain ⟨b, off, rfl, hc, c0, c1⟩ := HX.out k hlt'
      have hb := num256_bd (xs.take k) (HX.out.take k).byte
      have hl : (xs.take k).length = k := by rw [List.length_take]; omega
      rw [hl] at hb
      have hp : (256 : Int) ^ k ≤ 256 ^ 7 := by exact_mod_cast Nat.pow_le_pow_right (show 0 < 256 by decide) (show k ≤ 7 by omega)
      have H : num256 (xs.take (k + 1)) = 256 * num256 (xs.take k) + xs[k] := by rw [List.take_succ_eq_append_getElem hlt', num256_snoc]
      have HH := Lib.hid H
      have v0 := hb.1
      have v1 : num256 (xs.take k) < 72057594037927936 := by omega
      have HO := Lib.hid (or_byte (num256 (xs.take k)) xs[k] v0 c0 c1 (by omega))
      clear H hp hb hl
      generalize num256 (xs.take k) = v at HO HH v0 v1 ⊢
      generalize xs[k] = x at hc c0 c1 HO HH
      go_wp2
      go_round
      case rel => exact ⟨k + 1, by omega, by go_num, by rw [HH.out, ← HO.out]⟩
      case measure => simp [intOf]; omega
    · obtain rfl : k = n := by omega
      go_wp2
      go_ret
      exact ⟨ret_int (by rw [List.take_of_length_le (by rw [HN.out]; exact Nat.le_refl _)]), rfl⟩
/-- is a byte not nought? -/
def badN (x : Int) : Bool := x != 0
set_option maxRecDepth 100000 in
theorem clon_any (x : Int) (w : World) :
    Calls Tryz.prog 129 #[.int .u8 x] w fun e w' => e = .returned (.bool (badN x)) ∧ w = w' := by
  go_enter Tryz.func129, Tryz.ntmps129
  go_wp2
  go_ret
  exact ⟨rfl, rfl⟩
def FirstNot (xs : List Int) (w : World) (e : Ending) (w' : World) : Prop :=
  ∃ k : Int, e = .returned (.int .i64 k) ∧ decide (0 ≤ k) = xs.any badN ∧ w = w'
set_option maxRecDepth 100000 in
theorem idxn_any (a : Option Addr) (c n : Nat) (xs : List Int) (w : World) (hn : xs.length = n) (hm : n ≤ 9223372036854775807) (hr : Lies w a xs) :
    Calls Tryz.prog 147 #[.slice a n c, .func (.func 129) #[] #[]] w (FirstNot xs w) := by
  have HR := Lib.hid hr
  have HN := Lib.hid hn
  clear hr hn
  go_enter Tryz.func147, Tryz.ntmps147
  go_wp2
  go_loop [8, 5] (fun i _ => ∃ k : Nat, k ≤ n ∧ i = .int .i64 k ∧ Hid ((xs.take k).any badN = false)) (fun i _ => n - (intOf i).toNat)
  case atStart => exact ⟨0, by omega, rfl, Lib.hid (by simp)⟩
  case round =>
    obtain ⟨k, hk, rfl, HA⟩ := hrel
    by_cases hlt : k < n
    · have hlt' : k < xs.length := by rw [HN.out]; exact hlt
      obtain ⟨b, off, rfl, hc, c0, c1⟩ := HR.out k hlt'
      generalize hr : xs[k] = x at hc c0 c1
      have HRK := Lib.hid hr
      clear hr
      cases hb : badN x
      · have HB := Lib.hid hb
        clear hb
        go_wp2_with (go_at_call 129; refine (clon_any x _).mono ?_; rintro e w' ⟨rfl, rfl⟩; have hb := HB.out)
        go_round
        case rel => exact ⟨k + 1, by omega, by go_num, Lib.hid (any_take _ _ _ hlt' HA.out (by rw [HRK.out]; exact HB.out))⟩
        case measure => simp [intOf]; omega
      · have HB := Lib.hid hb
        clear hb
        go_wp2_with (go_at_call 129; refine (clon_any x _).mono ?_; rintro e w' ⟨rfl, rfl⟩; have hb := HB.out)
        go_ret
        exact ⟨k, rfl, by rw [any_at badN xs k hlt' (by rw [HRK.out]; exact HB.out)]; exact decide_eq_true (by omega), rfl⟩
    · obtain rfl : k = n := by omega
      go_wp2
      go_ret
      exact ⟨-1, rfl, by have := HA.out; rw [List.take_of_length_le (by rw [HN.out]; exact Nat.le_refl _)] at this; rw [this]; rfl, rfl⟩
set_option maxRecDepth 100000 in
theorem hasn_any (a : Option Addr) (c n : Nat) (xs : List Int) (w : World) (hn : xs.length = n) (hm : n ≤ 9223372036854775807) (hr : Lies w a xs) :
    Calls Tryz.prog 128 #[.slice a n c, .func (.func 129) #[] #[]] w fun e w' => e = .returned (.bool (xs.any badN)) ∧ w = w' := by
  have HR := Lib.hid hr
  have HN := Lib.hid hn
  clear hr hn
  go_enter Tryz.func128, Tryz.ntmps128
  go_wp2_with (go_at_call 147; refine (idxn_any _ _ _ xs _ HN.out hm HR.out).mono ?_; rintro e w' ⟨k, rfl, hk, rfl⟩; have HK := Lib.hid hk; clear hk)
  go_ret
  exact ⟨ret_bool (by rw [← HK.out]), rfl⟩
set_option maxRecDepth 100000 in
theorem noughts_any (a : Option Addr) (c n : Nat) (xs : List Int) (w : World) (hn : xs.length = n) (hm : n ≤ 9223372036854775807) (hr : Lies w a xs) :
    Calls Tryz.prog 110 #[.slice a n c] w fun e w' => e = .returned (.bool (!(xs.any badN))) ∧ w = w' := by
  have HR := Lib.hid hr
  have HN := Lib.hid hn
  clear hr hn
  cases hb : xs.any badN
  all_goals
    go_enter Tryz.func110, Tryz.ntmps110
    go_wp2_with (go_at_call 128; refine (hasn_any _ _ _ xs _ HN.out hm HR.out).mono ?_; rintro e w' ⟨rfl, rfl⟩)
    go_ret
    exact ⟨rfl, rfl⟩
end Go.Proofs.YtlfkkakohldgnaaGreatDoor.Sm
namespace Go.Proofs.YtlfkkakohldgnaaGreatDoor.Sm
open Go.RowKit Crc

theorem alX (w : World) (o : Obj) : Below w.heap.size w (w.alloc o) := (Below.refl _ _).alloc (Nat.le_refl _) _
theorem own_slice {w : World} {B : Nat} {e : TypeId} {size : Nat} {v : Value} {n : Nat} {xs : List Value} (h : w.ownsRow B e size v n xs) : ∃ ao cap, v = .slice ao n cap := by
  rcases h.2 with ⟨rfl, rfl⟩ | ⟨g, cap, cur, rfl, _⟩
  · exact ⟨_, _, rfl⟩
  · exact ⟨_, _, rfl⟩
theorem own_base {w : World} {B : Nat} {e : TypeId} {size : Nat} {v : Value} {n : Nat} {xs : List Value} (h : w.ownsRow B e size v n xs) : w.ownsRow 0 e size v n xs := by
  refine ⟨h.1, ?_⟩
  rcases h.2 with h1 | ⟨g, cap, cur, a, _, c⟩
  · exact .inl h1
  · exact .inr ⟨g, cap, cur, a, Nat.zero_le _, c⟩
theorem own_lies2 {w : World} {B n : Nat} {v : Value} {xs : List Int} (h : w.ownsRow B 5 1 v n (bl xs)) (hb : Byte xs) : ∃ ao cap, v = .slice ao n cap ∧ Lies w ao xs ∧ n ≤ cap ∧ cap ≤ 9223372036854775807 := by
  obtain ⟨ao, cap, rfl, hl, hc, _⟩ := own_lies h hb
  refine ⟨ao, cap, rfl, hl, hc, ?_⟩
  rcases h.2 with ⟨h1, _⟩ | ⟨g, cap', cur, h1, _, _, _, h2, _⟩
  · simp at h1; omega
  · simp at h1
    unfold maxLen at h2
    omega
set_option maxRecDepth 100000 in
theorem clone_any (b off n c : Nat) (xs : List Int) (w : World) (hn : xs.length = n) (hm : n ≤ 512) (hx : Lies w (some ⟨b, off, none⟩) xs) :
    Calls Tryz.prog 70 #[.slice (some ⟨b, off, none⟩) n c] w fun e w' => ∃ ao cap, e = .returned (.slice ao n cap) ∧ w'.ownsRow w.heap.size 5 1 (.slice ao n cap) n (bl xs) ∧ Below w.heap.size w w' := by
  obtain ⟨i0, hi, hz0, hz1, hz2⟩ := info_parts info_b
  have HI := Lib.hid hi
  have HI0 := Lib.hid hz0
  have HI1 := Lib.hid hz1
  have HI2 := Lib.hid hz2
  have HX := Lib.hid hx
  have HN := Lib.hid hn
  have q : ∀ (w : World) (a : Option Addr) (n c n' c' : Nat), (binOp .eql 72 (.slice a n c) (.slice none n' c')).run Tryz.prog w = .ok (.bool a.isNone) w := fun w a n c n' c' => Lib.run_eql_slice_nil w _ _ a n c n' c' Tryz.underlying72
  clear hi hz0 hz1 hz2 hx hn
  go_enter Tryz.func70, Tryz.ntmps70
  go_wp2_with (at_builtin; refine wpList_append_own _ rfl (.tmp 5) (.tmp 6) 72 rfl w.heap.size 5 i0 (.int .u8 0) 1 1 Tryz.underlying72 HI.out HI0.out HI1.out HI2.out rfl (by decide) (.slice (some ⟨w.heap.size, 0, none⟩) 0 0) 0 [] rfl (World.ownsRow_made w #[] 0 (Nat.le_refl _) (Nat.zero_le _) rfl) ⟨b, off, none⟩ n c (bl xs) rfl (by rw [bl_len, HN.out, Nat.mul_one]) (bl_lies (HX.out.below (alX _ _))) (bl_one _) (by unfold maxLen; omega) (by omega) (by simp) ?_; intro v1 w1 hown hgrow _)
  have hb : Below w.heap.size w w1 := ((Below.refl _ w).alloc (Nat.le_refl _) _).grown hgrow (by simp) (by intro k hk; have e : w.heap.size = k := Option.some.inj hk; omega)
  have e1 : 0 + n = n := Nat.zero_add n
  rw [e1] at hown
  obtain ⟨ao, cap, rfl⟩ := own_slice hown
  have HL := Lib.hid (show w1.ownsRow w.heap.size 5 1 (.slice ao n cap) n (bl xs) by simpa using hown)
  have HB := Lib.hid hb
  clear hown hgrow hb e1 q
  go_wp2
  go_ret
  exact ⟨ao, cap, rfl, HL.out, HB.out⟩
set_option maxRecDepth 100000 in
theorem info_sl : (Tryz.prog.info? 72).map (fun i => (i.zero, i.size, i.bytes)) = some (some (.slice none 0 0), 1, 24) := by kernel_rfl
theorem own_below {w w' : World} {B : Nat} {e : TypeId} {s : Nat} {v : Value} {n : Nat} {xs : List Value} (h : w.ownsRow B e s v n xs) (hb : Below w.heap.size w w') : w'.ownsRow B e s v n xs := by
  refine ⟨h.1, ?_⟩
  rcases h.2 with h1 | ⟨g, cap, cur, a, b, c, d⟩
  · exact .inl h1
  · exact .inr ⟨g, cap, cur, a, b, (hb.block g (lt_of_block c)).trans c, d⟩
/-- what an own row holds stays where another row, of another kind, has grown -/
theorem own_grown {w w' : World} {B B' : Nat} {e e' : TypeId} {s s' : Nat} {v v' : Value} {n n' : Nat} {xs xs' : List Value} (h : w.ownsRow B e s v n xs) (h' : w.ownsRow B' e' s' v' n' xs') (hg : w.grownBy w' v'.ownBlock) (hne : e ≠ e') : w'.ownsRow B e s v n xs := by
  refine ⟨h.1, ?_⟩
  rcases h.2 with h1 | ⟨g, cap, cur, a, b, c, d⟩
  · exact .inl h1
  · refine .inr ⟨g, cap, cur, a, b, (hg.block g (lt_of_block c) ?_).trans c, d⟩
    intro hq
    rcases h'.2 with ⟨rfl, _⟩ | ⟨g', cap', cur', rfl, _, c', _⟩
    · cases hq
    · have e1 : g = g' := Option.some.inj hq
      subst e1
      rw [c] at c'
      have := Option.some.inj c'
      injection this with _ h2 _
      exact hne h2
/-- a value is a slice of these bytes -/
def Part (B : Nat) (w : World) (v : Value) (x : List Int) : Prop := w.ownsRow B 5 1 v x.length (bl x)
/-- the bytes' i-th part -/
def prt (ys : List Int) (s i : Nat) : List Int := (ys.drop (i * s)).take s
def prts (ys : List Int) (s n : Nat) : List (List Int) := (List.range n).map (prt ys s)
theorem prt_byte {ys : List Int} (h : Byte ys) (s i : Nat) : Byte (prt ys s i) := by
  intro j hj
  have hj' : j < s ∧ i * s + j < ys.length := by unfold prt at hj; rw [List.length_take, List.length_drop] at hj; omega
  have e : (prt ys s i)[j] = ys[i * s + j]'hj'.2 := by simp only [prt, List.getElem_take, List.getElem_drop]
  rw [e]
  exact h _ hj'.2
/-- as many parts as there are so far stand in an own slice -/
structure Parts (w0 w : World) (v : Value) (ys : List Int) (s k : Nat) (vs : List Value) : Prop where
  len : vs.length = k
  own : w.ownsRow w0.heap.size 72 1 v k vs
  part : ∀ i (h : i < vs.length), Part w0.heap.size w vs[i] (prt ys s i)
  bel : Below w0.heap.size w0 w
/-- records in memory of their own -/
def OwnRecs (B : Nat) (w : World) (v : Value) (n : Nat) (rs : List (List Int)) : Prop :=
  rs.length = n ∧ (∀ r ∈ rs, Byte r) ∧ ∃ vs : List Value, vs.length = n ∧ w.ownsRow B 72 1 v n vs ∧ ∀ i (h : i < vs.length) (h' : i < rs.length), Part B w vs[i] rs[i]
theorem prts_len (ys : List Int) (s k : Nat) : (prts ys s k).length = k := by simp [prts]
theorem prts_get (ys : List Int) (s k i : Nat) (h : i < (prts ys s k).length) : (prts ys s k)[i] = prt ys s i := by simp [prts]
theorem Parts.recs {w0 w : World} {v : Value} {ys : List Int} {s k : Nat} {vs : List Value} (h : Parts w0 w v ys s k vs) (hy : Byte ys) : OwnRecs w0.heap.size w v k (prts ys s k) := by
  refine ⟨prts_len _ _ _, ?_, vs, h.len, h.own, fun i hi hi' => by rw [prts_get]; exact h.part i hi⟩
  intro r hr
  simp only [prts, List.mem_map] at hr
  obtain ⟨i, _, rfl⟩ := hr
  exact prt_byte hy s i
theorem own_mono {w : World} {B B' : Nat} {e : TypeId} {size : Nat} {v : Value} {n : Nat} {xs : List Value} (h : w.ownsRow B e size v n xs) (hB : B' ≤ B) : w.ownsRow B' e size v n xs := by
  refine ⟨h.1, ?_⟩
  rcases h.2 with h1 | ⟨g, cap, cur, a, b, c⟩
  · exact .inl h1
  · exact .inr ⟨g, cap, cur, a, Nat.le_trans hB b, c⟩
theorem OwnRecs.mono {B B' : Nat} {w : World} {v : Value} {n : Nat} {rs : List (List Int)} (h : OwnRecs B w v n rs) (hB : B' ≤ B) : OwnRecs B' w v n rs := by
  obtain ⟨a, b, vs, c, d, e⟩ := h
  exact ⟨a, b, vs, c, own_mono d hB, fun i hi hi' => own_mono (e i hi hi') hB⟩
theorem OwnRecs.recs {B : Nat} {w : World} {v : Value} {k : Nat} {rs : List (List Int)} (h : OwnRecs B w v k rs) : ∃ ra cap, v = .slice ra k cap ∧ Recs w ra rs ∧ k ≤ cap ∧ cap ≤ 9223372036854775807 := by
  obtain ⟨hl, hy, vs, hvl, hown, hp⟩ := h
  rcases hown.2 with ⟨rfl, rfl⟩ | ⟨g, cap, cur, rfl, _, hg, hk, hm, hs, ht⟩
  · exact ⟨none, 0, rfl, fun i hi => absurd hi (by omega), by omega, by omega⟩
  · unfold maxLen at hm
    refine ⟨_, cap, rfl, ?_, hk, by omega⟩
    intro i hi
    have hik : i < k := by omega
    have hiv : i < vs.length := by omega
    obtain ⟨ra, rc, hv, hl, h1, h2⟩ := own_lies2 (hp i hiv hi) (hy _ (List.getElem_mem hi))
    refine ⟨g, 0, ra, rc, rfl, ?_, hl, h1, h2⟩
    rw [Nat.zero_add, cell_of_row w g i _ _ _ hg, ← hv]
    have e2 : vs[i]? = some vs[i] := List.getElem?_eq_getElem hiv
    rw [← e2, ← ht, List.getElem?_take, if_pos (by omega)]
    simp
/-- a row stays where another block, of another kind, is written -/
theorem own_other {w w' : World} {B : Nat} {e : TypeId} {s : Nat} {v : Value} {n : Nat} {xs : List Value} (h : w.ownsRow B e s v n xs) {g : Nat} {cs : Array Value} {t : TypeId} {fr : Nat × Nat} (hg : w.heap[g]? = some (.cells cs t fr)) (hne : e ≠ t) (hb : ∀ k, k ≠ g → w'.heap[k]? = w.heap[k]?) : w'.ownsRow B e s v n xs := by
  refine ⟨h.1, ?_⟩
  rcases h.2 with h1 | ⟨g', cap, cur, a, b, c, d⟩
  · exact .inl h1
  · refine .inr ⟨g', cap, cur, a, b, (hb g' ?_).trans c, d⟩
    intro e1
    subst e1
    rw [hg] at c
    have := Option.some.inj c
    injection this with _ h2 _
    exact hne h2.symm
theorem OwnRecs.other {B : Nat} {w w' : World} {v : Value} {n : Nat} {rs : List (List Int)} (h : OwnRecs B w v n rs) {g : Nat} {cs : Array Value} {t : TypeId} {fr : Nat × Nat} (hg : w.heap[g]? = some (.cells cs t fr)) (h1 : 72 ≠ t) (h2 : 5 ≠ t) (hb : ∀ k, k ≠ g → w'.heap[k]? = w.heap[k]?) : OwnRecs B w' v n rs := by
  obtain ⟨a, b, vs, c, d, e⟩ := h
  exact ⟨a, b, vs, c, own_other d hg h1 hb, fun i hi hi' => own_other (e i hi hi') hg h2 hb⟩
theorem OwnRecs.below {B : Nat} {w w' : World} {v : Value} {n : Nat} {rs : List (List Int)} (h : OwnRecs B w v n rs) (hb : Below w.heap.size w w') : OwnRecs B w' v n rs := by
  obtain ⟨a, b, vs, c, d, e⟩ := h
  exact ⟨a, b, vs, c, own_below d hb, fun i hi hi' => own_below (e i hi hi') hb⟩
theorem parts_next {w0 w w1 w2 : World} {v v2 : Value} {ys : List Int} {s k : Nat} {vs : List Value} (h : Parts w0 w v ys s k vs) {ao : Option Addr} {cap : Nat} (hb : Below w.heap.size w w1) (hl : w1.ownsRow w.heap.size 5 1 (.slice ao s cap) s (bl (prt ys s k))) (hs : (prt ys s k).length = s)
    (hown : w2.ownsRow w0.heap.size 72 1 v2 (k + 1) (vs ++ [.slice ao s cap])) (hg : (w1.alloc (.cells #[.slice ao s cap] 72)).grownBy w2 v.ownBlock) : Parts w0 w2 v2 ys s (k + 1) (vs ++ [.slice ao s cap]) := by
  have hB := h.bel.size
  have hB1 := hb.size
  have hbel : Below w0.heap.size w0 (w1.alloc (.cells #[.slice ao s cap] 72)) := (h.bel.trans (hb.mono hB)).alloc (by omega) _
  have hv : (w1.alloc (.cells #[.slice ao s cap] 72)).ownsRow w0.heap.size 72 1 v k vs := own_below (own_below h.own hb) (alX _ _)
  refine ⟨by simp [h.len], hown, ?_, hbel.grown hg (by rw [World.size_alloc]; omega) (fun j hj => (hv.lt j hj).1)⟩
  intro i hi
  by_cases hik : i < vs.length
  · rw [List.getElem_append_left hik]
    exact own_grown (own_below (own_below (h.part i hik) hb) (alX _ _)) hv hg (by decide)
  · have e : i = k := by simp at hi; have := h.len; omega
    subst e
    rw [List.getElem_append_right (by omega)]
    simp only [h.len, Nat.sub_self, List.getElem_cons_zero]
    unfold Part
    rw [hs]
    exact own_grown (own_below (own_mono hl hB) (alX _ _)) hv hg (by decide)
set_option maxRecDepth 100000 in
set_option maxHeartbeats 1000000 in
theorem parted_any (b off m c s n : Nat) (ys : List Int) (w : World) (hm : ys.length = m) (hms : n * s ≤ m) (hm5 : m ≤ 512) (hmc : m ≤ c) (h1 : 1 ≤ s) (hs : s ≤ 512) (hn : n ≤ 512) (hy : Lies w (some ⟨b, off, none⟩) ys) :
    Calls Tryz.prog 111 #[.slice (some ⟨b, off, none⟩) m c, .int .i64 s, .int .i64 n] w fun e w' => ∃ ra cap, e = .returned (.slice ra n cap) ∧ OwnRecs w.heap.size w' (.slice ra n cap) n (prts ys s n) ∧ Below w.heap.size w w' := by
  obtain ⟨i0, hi, hz0, hz1, hz2⟩ := info_parts info_sl
  have HI := Lib.hid hi
  have HI0 := Lib.hid hz0
  have HI1 := Lib.hid hz1
  have HI2 := Lib.hid hz2
  have HM := Lib.hid hm
  have HMS := Lib.hid hms
  have HY := Lib.hid hy
  clear hi hz0 hz1 hz2 hm hms hy
  go_enter Tryz.func111, Tryz.ntmps111
  go_wp2
  go_loopw [7, 10, 8] (fun v i _ wr => ∃ (k : Nat) (vs : List Value), k ≤ n ∧ i = .int .i64 k ∧ Hid (Parts w wr v ys s k vs)) (fun _ i _ _ => n - (intOf i).toNat)
  case atStart => exact ⟨0, [], by omega, rfl, Lib.hid ⟨rfl, World.ownsRow_nil _ _ _ _, fun i hi => absurd hi (by simp), Below.refl _ _⟩⟩
  case round =>
    obtain ⟨k, vs, hk, rfl, HP⟩ := hrel
    by_cases hlt : k < n
    · have hks : k * s + s ≤ m := by
        have h1 : (k + 1) * s ≤ n * s := Nat.mul_le_mul_right s (by omega)
        have h2 := HMS.out
        rw [Nat.succ_mul] at h1
        omega
      have hpl : (prt ys s k).length = s := by unfold prt; rw [List.length_take, List.length_drop, HM.out]; omega
      have hpy : Lies wr (some ⟨b, off + k * s, none⟩) (prt ys s k) := ((HY.out.below HP.out.bel).drop (k * s)).take s
      obtain ⟨P, hP⟩ : ∃ P, P = k * s := ⟨_, rfl⟩
      rw [← hP] at hpy hks
      have hPI : (k : Int) * (s : Int) = (P : Int) := by rw [hP]; exact (Int.natCast_mul _ _).symm
      have hPJ : ((k : Int) + 1) * (s : Int) = (P : Int) + s := by rw [Int.add_mul, hPI, Int.one_mul]
      have HPL := Lib.hid hpl
      have HPY := Lib.hid hpy
      have j1 : ((P : Int) + s).toNat = P + s := by omega
      clear hP hpl hpy
      go_wp2_with (first | (go_at_call 70; refine (clone_any _ _ _ _ _ _ HPL.out hs HPY.out).mono ?_; rintro e w1 ⟨ao, cap, rfl, hl, hb⟩; have HL := Lib.hid hl; have HB := Lib.hid hb; clear hl hb) | (at_builtin; refine wpList_append_own _ rfl (.tmp 13) (.tmp 24) 41 rfl w.heap.size 72 i0 (.slice none 0 0) 1 24 Tryz.underlying41 HI.out HI0.out HI1.out HI2.out rfl (by decide) u7 k vs rfl (own_below (own_below HP.out.own HB.out) (alX _ _)) ⟨w1.heap.size, 0, none⟩ 1 1 [.slice ao s cap] rfl rfl (cell_one_new _ _ _) (by simp [Value.oneCell']) (by unfold maxLen; omega) (by omega) (by have := HP.out.bel.size; have := HB.out.size; simp; omega) ?_; intro v2 w2 hown hgrow _))
      have HP2 := Lib.hid (parts_next HP.out HB.out HL.out HPL.out hown hgrow)
      clear hown hgrow HB HL
      go_roundw
      case rel => exact ⟨k + 1, _, by omega, by go_num, HP2⟩
      case measure => simp [intOf]; omega
    · obtain rfl : k = n := by omega
      obtain ⟨ra, cap, rfl⟩ := own_slice HP.out.own
      have HR := Lib.hid (HP.out.recs HY.out.byte)
      go_wp2
      go_ret
      exact ⟨ra, cap, rfl, HR.out, HP.out.bel⟩
end Go.Proofs.YtlfkkakohldgnaaGreatDoor.Sm

/-
  WHAT FindErrors ASKS BESIDE: a list of noughts that was made, the square of one cell again and again, too many cells handed in. Conditions: those that each lemma names.
-/
import Derived.Test.YtifkhmcdgmnipaaGreatDoorR47
import Derived.Test.YtifkhmcdgmnipaaGreatDoorR48
namespace Go.Proofs.YtifkhmcdgmnipaaGreatDoor.Qd
open Ti Ce
theorem zer_len {L : List Sq} (hi : Inv L) {n : Nat} (hn : n ≤ 37) (m k : Nat) : (ofL n ((List.replicate m ((0 : Int), (0 : Int))).take k) (emp L n)).1.length ≤ L.length + (n + 1) + (n + 1) := by
  have he := emp_ok hi n hn
  rw [List.take_replicate]
  cases hk : min k m with
  | zero =>
    have := he.len
    show (emp L n).1.length ≤ _
    omega
  | succ j =>
    have hp : (0 : Int) < ((2 ^ (n + 3) : Nat) : Int) := by have := Nat.two_pow_pos (n + 3); omega
    have h0 : InS n ((0 : Int), (0 : Int)) := ⟨Int.le_refl _, hp, Int.le_refl _, hp⟩
    have h1 := ofL_same he.inv hn he.lv h0 j
    have e0 : ofL n (List.replicate (j + 1) ((0 : Int), (0 : Int))) ((emp L n).1, (emp L n).2) = ofL n (List.replicate (j + 1) ((0 : Int), (0 : Int))) (emp L n) := rfl
    rw [e0] at h1
    rw [h1]
    have h2 := (set_ok he.inv n (emp L n).2 0 0 true he.lv hn (Nat.two_pow_pos _) (Nat.two_pow_pos _)).len
    have h3 := he.len
    show (setQ (emp L n).1 n (emp L n).2 0 0 true).1.length ≤ _
    omega
theorem zer_in (n m : Nat) : ∀ c ∈ List.replicate m ((0 : Int), (0 : Int)), InS n c := fun c hc => by
  have hp : (0 : Int) < ((2 ^ (n + 3) : Nat) : Int) := by have := Nat.two_pow_pos (n + 3); omega
  obtain rfl := List.eq_of_mem_replicate hc
  exact ⟨Int.le_refl _, hp, Int.le_refl _, hp⟩
theorem ful_six {L : List Sq} (hi : Inv L) : (at' (ful L 3).1 (ful L 3).2).cnt = 4096 := by
  rw [(ful_ok hi 3 (by decide)).cnt]
  decide +kernel
theorem ful_seven {L : List Sq} (hi : Inv L) : 4096 < (at' (ful L 4).1 (ful L 4).2).cnt := by
  rw [(ful_ok hi 4 (by decide)).cnt]
  decide +kernel
theorem ful_many {L : List Sq} (hi : Inv L) : (srt (lst (ful L 3).1 3 (ful L 3).2)).length = 4096 := by
  have hf := ful_ok hi 3 (by decide)
  have h1 := cnt_few hf.inv hf.lv (by rw [ful_six hi]; unfold big; omega)
  rw [ful_six hi] at h1
  rw [((List.perm_ext_iff_of_nodup (srt_srt _).nodup (lst_nodup hf.inv 3 _ hf.lv)).2 fun c => srt_mem _ c).length_eq]
  omega
end Go.Proofs.YtifkhmcdgmnipaaGreatDoor.Qd
namespace Go.Proofs.YtifkhmcdgmnipaaGreatDoor
open Go.RowKit Ti Qd Ce Cl Go.Maps Go.WideMaps

set_option maxRecDepth 100000 in
theorem makeL (n : Nat) (hn : n ≤ 5000) (w : World) : (Instr.makeSlice 26 (.int .i64 (n : Int)) (.int .i64 (n : Int))).run Tryz.prog w = .ok (.slice (some ⟨w.heap.size, 0, none⟩) n n) (w.alloc (.cells (madeCells #[.int .i64 0, .int .i64 0] (n * 2)) 30)) := by
  obtain ⟨i, hi, hzz⟩ := Option.map_eq_some_iff.1 info_a
  simp only [Prod.mk.injEq] at hzz
  obtain ⟨hz, hs, hb⟩ := hzz
  have hr := run_make (P := Tryz.prog) w 26 30 i _ Tryz.underlying26 hi hz .i64 .i64 (n : Int) (n : Int) (by omega) (by omega) (by rw [hb]; omega) (by omega)
  rw [hs] at hr
  simp only [Int.toNat_natCast] at hr
  exact hr
theorem made_at (n t : Nat) (h : t < n) : (madeCells #[.int .i64 0, .int .i64 0] n)[t]? = some (.int .i64 0) := by
  unfold madeCells
  rw [Array.getElem?_map, Array.getElem?_range, if_pos h]
  show some ((#[Value.int .i64 0, Value.int .i64 0] : Array Value)[t % 2]!) = _
  have : t % 2 = 0 ∨ t % 2 = 1 := by omega
  rcases this with e | e <;> rw [e] <;> rfl
theorem lyc_made {w : World} {g n : Nat} (h : w.heap[g]? = some (.cells (madeCells #[.int .i64 0, .int .i64 0] (n * 2)) 30)) : Lyc w (some ⟨g, 0, none⟩) (List.replicate n ((0 : Int), (0 : Int))) := fun i c hc => by
  obtain ⟨hi, rfl⟩ := List.getElem?_eq_some_iff.1 hc
  rw [List.length_replicate] at hi
  rw [List.getElem_replicate]
  refine ⟨g, 0, rfl, ?_, ?_⟩
  · exact cell_of_row w g _ _ _ _ h |>.trans (made_at _ _ (by omega))
  · exact cell_of_row w g _ _ _ _ h |>.trans (made_at _ _ (by omega))
/-- a store beside what was there -/
def Sx (w0 : World) (B P : Nat) (L : List Sq) (W : World) : Prop := ∃ H, St B W P L 900 H ∧ Below w0.heap.size w0 W ∧ w0.heap.size ≤ B
theorem Sx.on {w0 W W' : World} {B P : Nat} {L : List Sq} (h : Sx w0 B P L W) (hb : Below W.heap.size W W') : Sx w0 B P L W' := by
  obtain ⟨H, h1, h2, h3⟩ := h
  exact ⟨H, h1.below hb (Nat.le_refl _), h2.trans (hb.mono h2.size), h3⟩
theorem Sx.bel {w0 W : World} {B P : Nat} {L : List Sq} (h : Sx w0 B P L W) : Below w0.heap.size w0 W := by
  obtain ⟨H, _, h2, _⟩ := h
  exact h2
theorem Sx.goes {w0 W W' : World} {B P : Nat} {L L' : List Sq} {H : Nat → Prop} (h1 : St B W P L 900 H) (h2 : Below w0.heap.size w0 W) (h3 : w0.heap.size ≤ B) (g : Goes B W P 900 H L' W') : Sx w0 B P L' W' := by
  obtain ⟨H', k1, k2, _⟩ := goes_bel (n := w0.heap.size) h1 h3 h2.size g
  exact ⟨H', k1, h2.trans k2, h3⟩
theorem Sx.lk {w0 W : World} {B P : Nat} (h : Sx w0 B P [] W) (id : Int) : LkBad (some ⟨P, 0, none⟩) id 8 W := by
  obtain ⟨H, h1, _, _⟩ := h
  exact look_none h1 id (by unfold Ok; simp; omega)
theorem leaf_l {B : Nat} {w : World} {P : Nat} {L : List Sq} {room : Nat} {H : Nat → Prop} (h : St B w P L room H) (t : T6) (k : Int) (e : rg t = k) (hr : (put L (leafQ t)).length ≤ room) :
    Calls Tryz.prog 11 #[.pointer (some ⟨P, 0, none⟩), .int .u64 k] w fun e w' => e = .returned (.tuple #[.int .i64 (nr L (leafQ t)), .nilIface]) ∧ Goes B w P room H (put L (leafQ t)) w' := by
  subst e
  exact leaf_ok h t hr
def erK (K : Nat) : Value := if 4096 < K then .iface 54 (.int .i64 2) else .nilIface
theorem long4 (P g K : Nat) (h : 4096 < K) (w : World) : Calls Tryz.prog 14 #[.pointer (some ⟨P, 0, none⟩), .int .i64 4, .slice (some ⟨g, 0, none⟩) K K] w fun e w' => e = .returned (.iface 54 (.int .i64 2)) ∧ Below w.heap.size w w' :=
  check_long ⟨P, 0, none⟩ 1 (by decide) (some ⟨g, 0, none⟩) K K h w
/-- Of so many noughts -/
theorem of_made {w0 w : World} {B P g K : Nat} {H : Nat → Prop} (hs : St B w P [] 900 H) (h2 : Below w0.heap.size w0 w) (h3 : w0.heap.size ≤ B) (hg : w.heap[g]? = some (.cells (madeCells #[.int .i64 0, .int .i64 0] (K * 2)) 30)) (hn : ¬ H g) :
    Calls Tryz.prog 5 #[.pointer (some ⟨P, 0, none⟩), .int .i64 4, .slice (some ⟨g, 0, none⟩) K K] w fun e w' => ∃ (i : Int) (L : List Sq), e = .returned (.tuple #[.int .i64 i, erK K]) ∧ L.length ≤ 4 ∧ Inv L ∧ Sx w0 B P L w' := by
  unfold erK
  by_cases h : 4096 < K
  · rw [if_pos h]
    refine (of_bad (some ⟨P, 0, none⟩) 4 (.slice (some ⟨g, 0, none⟩) K K) 2 w (long4 P g K h w)).mono ?_
    rintro e w' ⟨rfl, hb⟩
    exact ⟨0, [], rfl, Nat.zero_le _, hs.inv, Sx.on ⟨H, hs, h2, h3⟩ hb⟩
  · rw [if_neg h]
    refine (of_lit hs 1 (by decide) 4 rfl (some ⟨g, 0, none⟩) (List.replicate K ((0 : Int), (0 : Int))) K K (List.length_replicate ..) (by omega) (lyc_made hg) (fun b o e hh => by cases e; exact hn hh) (zer_in 1 K) (fun k _ => Nat.le_trans (zer_len hs.inv (by decide) K k) (by simp))).mono ?_
    rintro e w' ⟨rfl, hgo⟩
    have hl := zer_len (n := 1) hs.inv (by decide) K K
    rw [show (List.replicate K ((0 : Int), (0 : Int))).take K = List.replicate K ((0 : Int), (0 : Int)) from List.take_of_length_le (by simp)] at hl
    exact ⟨_, _, rfl, by simpa using hl, (of_of hs.inv (by decide) _ (zer_in 1 K)).inv, Sx.goes hs h2 h3 hgo⟩
theorem err_k {n : Nat} (h : n < 12) : wrap64 (4090 + (n : Int)) = ((4090 + n : Nat) : Int) := by unfold wrap64; omega
end Go.Proofs.YtifkhmcdgmnipaaGreatDoor

/-
  WALKS of slices.Clone and copied: frames that share nothing. Conditions: what is copied lies in memory, and is short.
-/
import Derived.Test.YtkefjkfknegogaaA41
namespace Go.Proofs.Ytkefjkfknegogaa.Fm
open Go.RowKit Ti Qd Go.Maps Go.WideMaps Ru

theorem own_zero (T : TypeId) (s : Nat) (w : World) : (w.alloc (.cells #[] T)).ownsRow w.heap.size T s (.slice (some ⟨w.heap.size, 0, none⟩) 0 0) 0 [] :=
  ⟨by simp, .inr ⟨w.heap.size, 0, #[], rfl, Nat.le_refl _, heap_alloc_new w _, Nat.le_refl _, by unfold maxLen; omega, by simp, by simp⟩⟩
def CloneI (w : World) (h : Value) (got : List Int) (e : Ending) (w' : World) : Prop := ∃ ao n cap, e = .returned (.slice ao n cap) ∧ OwnI w' w.heap.size (.slice ao n cap) got ∧ (h = nilS → (.slice ao n cap : Value) = nilS) ∧ Below w.heap.size w w'
theorem lies_cells {w : World} {ad : Addr} {c : Nat} {l : List Int} (h : LiesI w (.slice (some ad) l.length c) l) : ∀ j u, (ints l)[j]? = some u → w.cell? (ad.add j) = some u := by
  intro j u hu
  obtain ⟨ao, cap, e, _, _, h4⟩ := h
  injection e with e
  have hj : j < l.length := by
    have := (List.getElem?_eq_some_iff.1 hu).1
    rwa [ints_len] at this
  obtain ⟨b, off, e2, hc⟩ := h4 j hj
  rw [← e] at e2
  injection e2 with e2
  subst e2
  unfold ints at hu
  simp [hj] at hu
  rw [← hu, Addr.add_mid]
  exact hc
set_option maxRecDepth 100000 in
theorem clone_i (h : Value) (got : List Int) (w : World) (hl : LiesI w h got) (hm : got.length ≤ 1000) :
    Calls Try.prog 39 #[h] w (CloneI w h got) := by
  have hl0 := hl
  obtain ⟨ao, c, rfl, h1, h2, h4⟩ := hl
  cases ao with
  | none =>
    have h0 : got = [] := by
      cases got with
      | nil => rfl
      | cons a t => obtain ⟨b, off, e, _⟩ := h4 0 (by simp); cases e
    subst h0
    clear h4 hl0 hm
    have he : ∀ W : World, (binOp .eql 75 (.slice none 0 c) (.slice none 0 0)).run Try.prog W = .ok (.bool true) W := fun _ => rfl
    have he : ∀ W : World, (binOp .eql 75 (.slice none (List.length ([] : List Int)) c) (.slice none 0 0)).run Try.prog W = .ok (.bool true) W := fun _ => rfl
    show Calls _ _ #[.slice none 0 c] w _
    have he : ∀ W : World, (binOp .eql 75 (.slice none 0 c) (.slice none 0 0)).run Try.prog W = .ok (.bool true) W := fun _ => rfl
    go_enter Try.func39, Try.ntmps39
    go_wp2
    go_ret
    exact ⟨none, 0, 0, rfl, World.ownsRow_nil _ _ _ _, fun _ => rfl, Below.refl _ _⟩
  | some ad =>
    have HC : Hid (∀ j u, (ints got)[j]? = some u → (w.alloc (.cells #[] 3)).cell? (ad.add j) = some u) := Lib.hid lies_cells (hl0.bel (alX w _))
    have HL := Lib.hid (show (ints got).length = got.length * 1 by rw [ints_len, Nat.mul_one])
    have HM := Lib.hid hm
    obtain ⟨i0, hi, z0, z1, z2⟩ := info_of info_i
    have HI := Lib.hid (And.intro hi (And.intro z0 (And.intro z1 z2)))
    clear hi z0 z1 z2 h4 hl0 hm
    generalize hn : got.length = n at *
    have HN := Lib.hid hn
    clear hn
    have he : ∀ W : World, (binOp .eql 75 (.slice (some ad) n c) (.slice none 0 0)).run Try.prog W = .ok (.bool false) W := fun _ => rfl
    go_enter Try.func39, Try.ntmps39
    go_wp2_with (at_builtin; refine wpList_append_own _ rfl (.tmp 5) (.tmp 6) 75 rfl w.heap.size 3 i0 (.int .i64 0) 1 8 Try.underlying75 HI.out.1 HI.out.2.1 HI.out.2.2.1 HI.out.2.2.2 rfl (by decide) _ 0 [] rfl (own_zero _ _ _) ad n c (ints got) rfl HL.out HC.out (ints_one got) (by have := HM.out; unfold maxLen; omega) (by have := HM.out; omega) (by simp) ?_; intro v2 w5 hown hgrow _; obtain ⟨a2, c2, rfl⟩ := own_form hown; have HO := Lib.hid hown; have HB := Lib.hid ((alX w (.cells #[] 3)).grown hgrow (by simp) (fun j hj => by cases hj; exact Nat.le_refl _)); clear hown hgrow)
    go_ret
    refine ⟨_, _, _, rfl, ?_, ?_, HB.out⟩
    · have := HO.out
      unfold OwnI
      rw [HN.out]
      simpa using this
    · intro h
      injection h with h
      cases h
/-- frames that lie in a row -/
def LiesF (w : World) (ao : Option Addr) (us : List FH) : Prop := ∀ i (hi : i < us.length), ∃ b off, ao = some ⟨b, off, none⟩ ∧ ∀ j, j < 4 → w.cell? ⟨b, off + i * 4 + j, none⟩ = (fcs us[i])[j]?
theorem LiesF.bel {w w' : World} {ao : Option Addr} {us : List FH} (h : LiesF w ao us) (hb : Below w.heap.size w w') : LiesF w' ao us := fun i hi => by
  obtain ⟨b, off, e, hc⟩ := h i hi
  refine ⟨b, off, e, fun j hj => ?_⟩
  have h0 := hc 0 (by decide)
  have hl : b < w.heap.size := World.block_lt_of_cell? w ⟨b, off + i * 4 + 0, none⟩ h0
  exact (World.cell?_of_block (a := ⟨b, off + i * 4 + j, none⟩) (hb.block b hl)).trans (hc j hj)
theorem liesf_cells {w : World} {ad : Addr} {us : List FH} (h : LiesF w (some ad) us) : ∀ j u, (fls us)[j]? = some u → w.cell? (ad.add j) = some u := by
  intro j u hu
  have hj : j < us.length * 4 := by
    have := (List.getElem?_eq_some_iff.1 hu).1
    rwa [fls_len] at this
  have e := fls_at us (j / 4) (by omega) (j % 4) (by omega)
  rw [show j / 4 * 4 + j % 4 = j by omega, hu] at e
  obtain ⟨b, off, ha, hc⟩ := h (j / 4) (by omega)
  obtain rfl : ad = ⟨b, off, none⟩ := by simpa using ha
  rw [Addr.add_mid]
  have := hc (j % 4) (by omega)
  rw [show off + j / 4 * 4 + j % 4 = off + j by omega] at this
  rw [this, ← e]
theorem fls_one (us : List FH) (h : ∀ x ∈ us, ∃ a n c, x.2 = .slice a n c) : ∀ u ∈ fls us, u.oneCell' = true := by
  induction us with
  | nil => intro u hu; cases hu
  | cons x r ih =>
    intro u hu
    rcases List.mem_append.1 (show u ∈ fcs x ++ fls r from hu) with q | q
    · exact fcs_one x (h x List.mem_cons_self) u q
    · exact ih (fun y hy => h y (List.mem_cons_of_mem _ hy)) u q
def CloneF (w : World) (us : List FH) (e : Ending) (w' : World) : Prop := ∃ ao cap, e = .returned (.slice ao us.length cap) ∧ OwnF w' w.heap.size (.slice ao us.length cap) us ∧ Below w.heap.size w w'
set_option maxRecDepth 100000 in
theorem clone_f (ao : Option Addr) (c : Nat) (us : List FH) (w : World) (hl : LiesF w ao us) (hs : ∀ x ∈ us, ∃ a n c, x.2 = .slice a n c) (hm : us.length ≤ 1000) :
    Calls Try.prog 38 #[.slice ao us.length c] w (CloneF w us) := by
  cases ao with
  | none =>
    have h0 : us = [] := by
      cases us with
      | nil => rfl
      | cons a t => obtain ⟨b, off, e, _⟩ := hl 0 (by simp); cases e
    subst h0
    clear hl hs hm
    show Calls _ _ #[.slice none 0 c] w _
    have he : ∀ W : World, (binOp .eql 51 (.slice none 0 c) (.slice none 0 0)).run Try.prog W = .ok (.bool true) W := fun _ => rfl
    go_enter Try.func38, Try.ntmps38
    go_wp2
    go_ret
    exact ⟨none, 0, rfl, World.ownsRow_nil _ _ _ _, Below.refl _ _⟩
  | some ad =>
    have HC := Lib.hid (liesf_cells (hl.bel (alX w (.cells #[] 77))))
    have HL := Lib.hid (fls_len us)
    have HO1 := Lib.hid (fls_one us hs)
    have HM := Lib.hid hm
    obtain ⟨i0, hi, z0, z1, z2⟩ := info_of info_f
    have HI := Lib.hid (And.intro hi (And.intro z0 (And.intro z1 z2)))
    clear hi z0 z1 z2 hl hs hm
    generalize hn : us.length = n at *
    have HN := Lib.hid hn
    clear hn
    have he : ∀ W : World, (binOp .eql 51 (.slice (some ad) n c) (.slice none 0 0)).run Try.prog W = .ok (.bool false) W := fun _ => rfl
    go_enter Try.func38, Try.ntmps38
    go_wp2_with (at_builtin; refine wpList_append_own _ rfl (.tmp 5) (.tmp 6) 51 rfl w.heap.size 77 i0 (.agg #[.int .i64 0, .int .i64 0, .int .i64 0, .slice none 0 0]) 4 48 Try.underlying51 HI.out.1 HI.out.2.1 HI.out.2.2.1 HI.out.2.2.2 rfl (by decide) _ 0 [] rfl (own_zero _ _ _) ad n c (fls us) rfl HL.out HC.out HO1.out (by have := HM.out; unfold maxLen; omega) (by have := HM.out; omega) (by simp) ?_; intro v2 w5 hown hgrow _; obtain ⟨a2, c2, rfl⟩ := own_form hown; have HO := Lib.hid hown; have HB := Lib.hid ((alX w (.cells #[] 77)).grown hgrow (by simp) (fun j hj => by cases hj; exact Nat.le_refl _)); clear hown hgrow)
    go_ret
    refine ⟨a2, c2, ?_, ?_, HB.out⟩
    · rw [HN.out]
      simp
    · have := HO.out
      unfold OwnF
      rw [HN.out]
      simpa using this
theorem fls_mid (nw : List FH) (x : Fr) (h h' : Value) (r : List FH) : (fls (nw ++ (x, h) :: r)).set (nw.length * 4 + 3) h' = fls (nw ++ (x, h') :: r) := by
  rw [fls_app, fls_app, List.set_append_right _ _ (by rw [fls_len]; omega), fls_len, Nat.add_sub_cancel_left]
  rfl
/-- copies, one behind the other -/
structure Cpd (w : World) (v : Value) (us : List FH) (k : Nat) (wr : World) (nw : List FH) : Prop where
  len : nw.length = k
  fst : nw.map Prod.fst = (us.take k).map Prod.fst
  row : wr.ownsRow w.heap.size 77 4 v us.length (fls (nw ++ us.drop k))
  got : ∀ x ∈ nw, OwnI wr w.heap.size x.2 x.1.got
  nd : (ownV v ++ ownU nw).Nodup
  gn : ∀ x ∈ nw, x.1.got = [] → x.2 = .slice none 0 0
  bel : Below w.heap.size w wr
theorem own_mono {w : World} {B C : Nat} {e : TypeId} {s : Nat} {v : Value} {n : Nat} {xs : List Value} (h : w.ownsRow C e s v n xs) (hB : B ≤ C) : w.ownsRow B e s v n xs := by
  refine ⟨h.1, h.2.imp id ?_⟩
  rintro ⟨g, cap, cur, e1, e2, e3⟩
  exact ⟨g, cap, cur, e1, Nat.le_trans hB e2, e3⟩
theorem Cpd.next {w : World} {g cap : Nat} {us : List FH} {k : Nat} {wr w1 : World} {nw : List FH} (h : Cpd w (.slice (some ⟨g, 0, none⟩) us.length cap) us k wr nw) (hk : k < us.length) {h' : Value} (hb : Below wr.heap.size wr w1) (ho : OwnI w1 wr.heap.size h' us[k].1.got) (hn : us[k].1.got = [] → h' = .slice none 0 0) :
    Cpd w (.slice (some ⟨g, 0, none⟩) us.length cap) us (k + 1) (w1.setCell ⟨g, k * 4 + 3, none⟩ h') (nw ++ [(us[k].1, h')]) := by
  have hs := h.bel.size
  have hg : g < wr.heap.size := (h.row.lt g rfl).2
  have hd : us.drop k = us[k] :: us.drop (k + 1) := List.drop_eq_getElem_cons hk
  have hrow := h.row
  rw [hd] at hrow
  have hr1 := own_moved (w' := w1) hrow fun x hx => by
    have : g = x := by simpa [Value.ownBlock] using hx
    subst this
    exact hb.block g hg
  have hst := (hr1.stored (k * 4 + 3) h').1
  have hmid := fls_mid nw us[k].1 us[k].2 h' (us.drop (k + 1))
  rw [h.len] at hmid
  rw [show nw ++ us[k] :: us.drop (k + 1) = nw ++ (us[k].1, us[k].2) :: us.drop (k + 1) from rfl, hmid] at hst
  have h'g : ¬ h'.ownBlock = some g := fun e => by have := (ho.lt g e).1; omega
  have hnd := h.nd
  refine ⟨by simp [h.len], ?_, by rw [List.append_assoc]; exact hst, fun x hx => ?_, ?_, fun x hx he => ?_, (h.bel.trans (hb.mono hs)).setCell (h.row.lt g rfl).1 _⟩
  · rw [List.map_append, h.fst, List.take_succ_eq_append_getElem hk, List.map_append]
    rfl
  · rcases List.mem_append.1 hx with hx | hx
    · have ho2 := h.got x hx
      refine own_moved ho2 fun y hy => ?_
      have hyg : ¬ y = g := fun e => by
        rw [List.nodup_append] at hnd
        refine hnd.2.2 g (mem_ownV.2 rfl) y ?_ e.symm
        unfold ownU
        rw [List.mem_flatMap]
        exact ⟨x, hx, mem_ownV.2 hy⟩
      exact (Go.RowKit.Below.heap_setCell _ _ _ _ hyg).trans (hb.block y (ho2.lt y hy).2)
    · rw [List.mem_singleton] at hx
      subst hx
      exact own_mono (own_moved ho fun y hy => Go.RowKit.Below.heap_setCell _ _ _ _ fun e => h'g (by rw [hy, e])) hs
  · rw [ownU_snoc, ← List.append_assoc, List.nodup_append]
    refine ⟨hnd, by unfold ownV; cases h'.ownBlock <;> simp, fun a ha c hc e => ?_⟩
    subst e
    have h1 := (ho.lt a (mem_ownV.1 hc)).1
    have h2 : a < wr.heap.size := by
      rcases List.mem_append.1 ha with q | q
      · exact (h.row.lt a (mem_ownV.1 q)).2
      · unfold ownU at q
        rw [List.mem_flatMap] at q
        obtain ⟨z, hz, q⟩ := q
        exact ((h.got z hz).lt a (mem_ownV.1 q)).2
    omega
  · rcases List.mem_append.1 hx with hx | hx
    · exact h.gn x hx he
    · rw [List.mem_singleton] at hx
      subst hx
      exact hn he
def Copied (w : World) (us : List FH) (e : Ending) (w' : World) : Prop := ∃ ao cap nw, e = .returned (.slice ao us.length cap) ∧ nw.map Prod.fst = us.map Prod.fst ∧ OwnF w' w.heap.size (.slice ao us.length cap) nw ∧ (∀ x ∈ nw, OwnI w' w.heap.size x.2 x.1.got) ∧ (ownV (.slice ao us.length cap) ++ ownU nw).Nodup ∧ (∀ x ∈ nw, x.1.got = [] → x.2 = .slice none 0 0) ∧ Below w.heap.size w w'
end Go.Proofs.Ytkefjkfknegogaa.Fm

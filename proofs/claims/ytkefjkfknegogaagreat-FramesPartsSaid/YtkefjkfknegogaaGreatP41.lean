/-
  WALKS of slices.Clone and copied: frames that share nothing. Conditions: what is copied lies in memory, and is short.
  WALKS of copied and Frames: frames that share nothing. Conditions: what is copied lies in memory, and is short.
-/
import Derived.Test.YtkefjkfknegogaaGreatP40
namespace Go.Proofs.YtkefjkfknegogaaGreat.Fm
open Go.RowKit Ti Qd Go.Maps Go.WideMaps Ru

theorem own_zero (T : TypeId) (s : Nat) (w : World) : (w.alloc (.cells #[] T)).ownsRow w.heap.size T s (.slice (some ⟨w.heap.size, 0, none⟩) 0 0) 0 [] :=
  ⟨by simp, .inr ⟨w.heap.size, 0, #[], rfl, Nat.le_refl _, heap_alloc_new w _, Nat.le_refl _, by unfold maxLen; omega, by simp, by simp⟩⟩
def CloneI (w : World) (h : Value) (got : List Int) (e : Ending) (w' : World) : Prop := ∃ ao n cap, e = .returned (.slice ao n cap) ∧ OwnI w' w.heap.size (.slice ao n cap) got ∧ (h = nilS → (.slice ao n cap : Value) = nilS) ∧ Below w.heap.size w w'
theorem lies_cells {w : World} {ad : Addr} {c : Nat} {l : List Int} (h : LiesI w (.slice (some ad) l.length c) l) : ∀ j u, (ints l)[j]? = some u → w.cell? (ad.add j) = some u := by
  intro j u hu
  obtain ⟨ao, cap, e, _, _, h4⟩ := h
  injection e with e
  have hj : j < l.length := by
    have := (List.getElem?_eq_some_iff.1 hu).1
    rwa [ints_len] at this
  obtain ⟨b, off, e2, hc⟩ := h4 j hj
  rw [← e] at e2
  injection e2 with e2
  subst e2
  unfold ints at hu
  simp [hj] at hu
  rw [← hu, Addr.add_mid]
  exact hc
set_option maxRecDepth 100000 in
theorem clone_i (h : Value) (got : List Int) (w : World) (hl : LiesI w h got) (hm : got.length ≤ 1000) :
    Calls Tryz.prog 35 #[h] w (CloneI w h got) := by
  have hl0 := hl
  obtain ⟨ao, c, rfl, h1, h2, h4⟩ := hl
  cases ao with
  | none =>
    have h0 : got = [] := by
      cases got with
      | nil => rfl
      | cons a t => obtain ⟨b, off, e, _⟩ := h4 0 (by simp); cases e
    subst h0
    clear h4 hl0 hm
    have he : ∀ W : World, (binOp .eql 77 (.slice none 0 c) (.slice none 0 0)).run Tryz.prog W = .ok (.bool true) W := fun _ => rfl
    have he : ∀ W : World, (binOp .eql 77 (.slice none (List.length ([] : List Int)) c) (.slice none 0 0)).run Tryz.prog W = .ok (.bool true) W := fun _ => rfl
    show Calls _ _ #[.slice none 0 c] w _
    have he : ∀ W : World, (binOp .eql 77 (.slice none 0 c) (.slice none 0 0)).run Tryz.prog W = .ok (.bool true) W := fun _ => rfl
    go_enter Tryz.func35, Tryz.ntmps35
    go_wp2
    go_ret
    exact ⟨none, 0, 0, rfl, World.ownsRow_nil _ _ _ _, fun _ => rfl, Below.refl _ _⟩
  | some ad =>
    have HC : Hid (∀ j u, (ints got)[j]? = some u → (w.alloc (.cells #[] 3)).cell? (ad.add j) = some u) := Lib.hid lies_cells (hl0.bel (alX w _))
    have HL := Lib.hid (show (ints got).length = got.length * 1 by rw [ints_len, Nat.mul_one])
    have HM := Lib.hid hm
    obtain ⟨i0, hi, z0, z1, z2⟩ := info_of info_i
    have HI := Lib.hid (And.intro hi (And.intro z0 (And.intro z1 z2)))
    clear hi z0 z1 z2 h4 hl0 hm
    generalize hn : got.length = n at *
    have HN := Lib.hid hn
    clear hn
    have he : ∀ W : World, (binOp .eql 77 (.slice (some ad) n c) (.slice none 0 0)).run Tryz.prog W = .ok (.bool false) W := fun _ => rfl
    go_enter Tryz.func35, Tryz.ntmps35
    go_wp2_with (at_builtin; refine wpList_append_own _ rfl (.tmp 5) (.tmp 6) 77 rfl w.heap.size 3 i0 (.int .i64 0) 1 8 Tryz.underlying77 HI.out.1 HI.out.2.1 HI.out.2.2.1 HI.out.2.2.2 rfl (by decide) _ 0 [] rfl (own_zero _ _ _) ad n c (ints got) rfl HL.out HC.out (ints_one got) (by have := HM.out; unfold maxLen; omega) (by have := HM.out; omega) (by simp) ?_; intro v2 w5 hown hgrow _; obtain ⟨a2, c2, rfl⟩ := own_form hown; have HO := Lib.hid hown; have HB := Lib.hid ((alX w (.cells #[] 3)).grown hgrow (by simp) (fun j hj => by cases hj; exact Nat.le_refl _)); clear hown hgrow)
    go_ret
    refine ⟨_, _, _, rfl, ?_, ?_, HB.out⟩
    · have := HO.out
      unfold OwnI
      rw [HN.out]
      simpa using this
    · intro h
      injection h with h
      cases h
/-- frames that lie in a row -/
def LiesF (w : World) (ao : Option Addr) (us : List FH) : Prop := ∀ i (hi : i < us.length), ∃ b off, ao = some ⟨b, off, none⟩ ∧ ∀ j, j < 4 → w.cell? ⟨b, off + i * 4 + j, none⟩ = (fcs us[i])[j]?
theorem LiesF.bel {w w' : World} {ao : Option Addr} {us : List FH} (h : LiesF w ao us) (hb : Below w.heap.size w w') : LiesF w' ao us := fun i hi => by
  obtain ⟨b, off, e, hc⟩ := h i hi
  refine ⟨b, off, e, fun j hj => ?_⟩
  have h0 := hc 0 (by decide)
  have hl : b < w.heap.size := World.block_lt_of_cell? w ⟨b, off + i * 4 + 0, none⟩ h0
  exact (World.cell?_of_block (a := ⟨b, off + i * 4 + j, none⟩) (hb.block b hl)).trans (hc j hj)
theorem liesf_cells {w : World} {ad : Addr} {us : List FH} (h : LiesF w (some ad) us) : ∀ j u, (fls us)[j]? = some u → w.cell? (ad.add j) = some u := by
  intro j u hu
  have hj : j < us.length * 4 := by
    have := (List.getElem?_eq_some_iff.1 hu).1
    rwa [fls_len] at this
  have e := fls_at us (j / 4) (by omega) (j % 4) (by omega)
  rw [show j / 4 * 4 + j % 4 = j by omega, hu] at e
  obtain ⟨b, off, ha, hc⟩ := h (j / 4) (by omega)
  obtain rfl : ad = ⟨b, off, none⟩ := by simpa using ha
  rw [Addr.add_mid]
  have := hc (j % 4) (by omega)
  rw [show off + j / 4 * 4 + j % 4 = off + j by omega] at this
  rw [this, ← e]
theorem fls_one (us : List FH) (h : ∀ x ∈ us, ∃ a n c, x.2 = .slice a n c) : ∀ u ∈ fls us, u.oneCell' = true := by
  induction us with
  | nil => intro u hu; cases hu
  | cons x r ih =>
    intro u hu
    rcases List.mem_append.1 (show u ∈ fcs x ++ fls r from hu) with q | q
    · exact fcs_one x (h x List.mem_cons_self) u q
    · exact ih (fun y hy => h y (List.mem_cons_of_mem _ hy)) u q
def CloneF (w : World) (us : List FH) (e : Ending) (w' : World) : Prop := ∃ ao cap, e = .returned (.slice ao us.length cap) ∧ OwnF w' w.heap.size (.slice ao us.length cap) us ∧ Below w.heap.size w w'
set_option maxRecDepth 100000 in
theorem clone_f (ao : Option Addr) (c : Nat) (us : List FH) (w : World) (hl : LiesF w ao us) (hs : ∀ x ∈ us, ∃ a n c, x.2 = .slice a n c) (hm : us.length ≤ 1000) :
    Calls Tryz.prog 34 #[.slice ao us.length c] w (CloneF w us) := by
  cases ao with
  | none =>
    have h0 : us = [] := by
      cases us with
      | nil => rfl
      | cons a t => obtain ⟨b, off, e, _⟩ := hl 0 (by simp); cases e
    subst h0
    clear hl hs hm
    show Calls _ _ #[.slice none 0 c] w _
    have he : ∀ W : World, (binOp .eql 38 (.slice none 0 c) (.slice none 0 0)).run Tryz.prog W = .ok (.bool true) W := fun _ => rfl
    go_enter Tryz.func34, Tryz.ntmps34
    go_wp2
    go_ret
    exact ⟨none, 0, rfl, World.ownsRow_nil _ _ _ _, Below.refl _ _⟩
  | some ad =>
    have HC := Lib.hid (liesf_cells (hl.bel (alX w (.cells #[] 79))))
    have HL := Lib.hid (fls_len us)
    have HO1 := Lib.hid (fls_one us hs)
    have HM := Lib.hid hm
    obtain ⟨i0, hi, z0, z1, z2⟩ := info_of info_f
    have HI := Lib.hid (And.intro hi (And.intro z0 (And.intro z1 z2)))
    clear hi z0 z1 z2 hl hs hm
    generalize hn : us.length = n at *
    have HN := Lib.hid hn
    clear hn
    have he : ∀ W : World, (binOp .eql 38 (.slice (some ad) n c) (.slice none 0 0)).run Tryz.prog W = .ok (.bool false) W := fun _ => rfl
    go_enter Tryz.func34, Tryz.ntmps34
    go_wp2_with (at_builtin; refine wpList_append_own _ rfl (.tmp 5) (.tmp 6) 38 rfl w.heap.size 79 i0 (.agg #[.int .i64 0, .int .i64 0, .int .i64 0, .slice none 0 0]) 4 48 Tryz.underlying38 HI.out.1 HI.out.2.1 HI.out.2.2.1 HI.out.2.2.2 rfl (by decide) _ 0 [] rfl (own_zero _ _ _) ad n c (fls us) rfl HL.out HC.out HO1.out (by have := HM.out; unfold maxLen; omega) (by have := HM.out; omega) (by simp) ?_; intro v2 w5 hown hgrow _; obtain ⟨a2, c2, rfl⟩ := own_form hown; have HO := Lib.hid hown; have HB := Lib.hid ((alX w (.cells #[] 79)).grown hgrow (by simp) (fun j hj => by cases hj; exact Nat.le_refl _)); clear hown hgrow)
    go_ret
    refine ⟨a2, c2, ?_, ?_, HB.out⟩
    · rw [HN.out]
      simp
    · have := HO.out
      unfold OwnF
      rw [HN.out]
      simpa using this
theorem fls_mid (nw : List FH) (x : Fr) (h h' : Value) (r : List FH) : (fls (nw ++ (x, h) :: r)).set (nw.length * 4 + 3) h' = fls (nw ++ (x, h') :: r) := by
  rw [fls_app, fls_app, List.set_append_right _ _ (by rw [fls_len]; omega), fls_len, Nat.add_sub_cancel_left]
  rfl
/-- copies, one behind the other -/
structure Cpd (w : World) (v : Value) (us : List FH) (k : Nat) (wr : World) (nw : List FH) : Prop where
  len : nw.length = k
  fst : nw.map Prod.fst = (us.take k).map Prod.fst
  row : wr.ownsRow w.heap.size 79 4 v us.length (fls (nw ++ us.drop k))
  got : ∀ x ∈ nw, OwnI wr w.heap.size x.2 x.1.got
  nd : (ownV v ++ ownU nw).Nodup
  gn : ∀ x ∈ nw, x.1.got = [] → x.2 = .slice none 0 0
  bel : Below w.heap.size w wr
theorem own_mono {w : World} {B C : Nat} {e : TypeId} {s : Nat} {v : Value} {n : Nat} {xs : List Value} (h : w.ownsRow C e s v n xs) (hB : B ≤ C) : w.ownsRow B e s v n xs := by
  refine ⟨h.1, h.2.imp id ?_⟩
  rintro ⟨g, cap, cur, e1, e2, e3⟩
  exact ⟨g, cap, cur, e1, Nat.le_trans hB e2, e3⟩
theorem Cpd.next {w : World} {g cap : Nat} {us : List FH} {k : Nat} {wr w1 : World} {nw : List FH} (h : Cpd w (.slice (some ⟨g, 0, none⟩) us.length cap) us k wr nw) (hk : k < us.length) {h' : Value} (hb : Below wr.heap.size wr w1) (ho : OwnI w1 wr.heap.size h' us[k].1.got) (hn : us[k].1.got = [] → h' = .slice none 0 0) :
    Cpd w (.slice (some ⟨g, 0, none⟩) us.length cap) us (k + 1) (w1.setCell ⟨g, k * 4 + 3, none⟩ h') (nw ++ [(us[k].1, h')]) := by
  have hs := h.bel.size
  have hg : g < wr.heap.size := (h.row.lt g rfl).2
  have hd : us.drop k = us[k] :: us.drop (k + 1) := List.drop_eq_getElem_cons hk
  have hrow := h.row
  rw [hd] at hrow
  have hr1 := own_moved (w' := w1) hrow fun x hx => by
    have : g = x := by simpa [Value.ownBlock] using hx
    subst this
    exact hb.block g hg
  have hst := (hr1.stored (k * 4 + 3) h').1
  have hmid := fls_mid nw us[k].1 us[k].2 h' (us.drop (k + 1))
  rw [h.len] at hmid
  rw [show nw ++ us[k] :: us.drop (k + 1) = nw ++ (us[k].1, us[k].2) :: us.drop (k + 1) from rfl, hmid] at hst
  have h'g : ¬ h'.ownBlock = some g := fun e => by have := (ho.lt g e).1; omega
  have hnd := h.nd
  refine ⟨by simp [h.len], ?_, by rw [List.append_assoc]; exact hst, fun x hx => ?_, ?_, fun x hx he => ?_, (h.bel.trans (hb.mono hs)).setCell (h.row.lt g rfl).1 _⟩
  · rw [List.map_append, h.fst, List.take_succ_eq_append_getElem hk, List.map_append]
    rfl
  · rcases List.mem_append.1 hx with hx | hx
    · have ho2 := h.got x hx
      refine own_moved ho2 fun y hy => ?_
      have hyg : ¬ y = g := fun e => by
        rw [List.nodup_append] at hnd
        refine hnd.2.2 g (mem_ownV.2 rfl) y ?_ e.symm
        unfold ownU
        rw [List.mem_flatMap]
        exact ⟨x, hx, mem_ownV.2 hy⟩
      exact (Go.RowKit.Below.heap_setCell _ _ _ _ hyg).trans (hb.block y (ho2.lt y hy).2)
    · rw [List.mem_singleton] at hx
      subst hx
      exact own_mono (own_moved ho fun y hy => Go.RowKit.Below.heap_setCell _ _ _ _ fun e => h'g (by rw [hy, e])) hs
  · rw [ownU_snoc, ← List.append_assoc, List.nodup_append]
    refine ⟨hnd, by unfold ownV; cases h'.ownBlock <;> simp, fun a ha c hc e => ?_⟩
    subst e
    have h1 := (ho.lt a (mem_ownV.1 hc)).1
    have h2 : a < wr.heap.size := by
      rcases List.mem_append.1 ha with q | q
      · exact (h.row.lt a (mem_ownV.1 q)).2
      · unfold ownU at q
        rw [List.mem_flatMap] at q
        obtain ⟨z, hz, q⟩ := q
        exact ((h.got z hz).lt a (mem_ownV.1 q)).2
    omega
  · rcases List.mem_append.1 hx with hx | hx
    · exact h.gn x hx he
    · rw [List.mem_singleton] at hx
      subst hx
      exact hn he
def Copied (w : World) (us : List FH) (e : Ending) (w' : World) : Prop := ∃ ao cap nw, e = .returned (.slice ao us.length cap) ∧ nw.map Prod.fst = us.map Prod.fst ∧ OwnF w' w.heap.size (.slice ao us.length cap) nw ∧ (∀ x ∈ nw, OwnI w' w.heap.size x.2 x.1.got) ∧ (ownV (.slice ao us.length cap) ++ ownU nw).Nodup ∧ (∀ x ∈ nw, x.1.got = [] → x.2 = .slice none 0 0) ∧ Below w.heap.size w w'
end Go.Proofs.YtkefjkfknegogaaGreat.Fm
namespace Go.Proofs.YtkefjkfknegogaaGreat.Fm
open Go.RowKit Ti Qd Go.Maps Go.WideMaps Ru

set_option maxRecDepth 100000 in
set_option maxHeartbeats 4000000 in
theorem copied_f (ao : Option Addr) (c : Nat) (us : List FH) (w : World) (hl : LiesF w ao us) (hh : ∀ x ∈ us, LiesI w x.2 x.1.got ∧ x.1.got.length ≤ 1000 ∧ (x.1.got = [] → x.2 = .slice none 0 0)) (hm : us.length ≤ 1000) :
    Calls Tryz.prog 23 #[.slice ao us.length c] w (Copied w us) := by
  have HCL := Lib.hid (clone_f ao c us w hl (fun x hx => by obtain ⟨a, p, e, _⟩ := (hh x hx).1; exact ⟨_, _, _, e⟩) hm)
  have HH := Lib.hid hh
  have HM := Lib.hid hm
  clear hl hh hm
  generalize hn : us.length = n at *
  have HN := Lib.hid hn
  clear hn
  go_enter Tryz.func23, Tryz.ntmps23
  go_wp2_with fail
  refine HCL.out.mono ?_
  rintro e w1 ⟨a2, c2, rfl, ho, hb⟩
  rw [HN.out]
  rw [HN.out] at ho
  have HP : Hid (∃ nw, Cpd w (.slice a2 n c2) us 0 w1 nw) := Lib.hid ⟨[], rfl, rfl, by rw [HN.out]; unfold OwnF at ho; rw [HN.out] at ho; exact ho, (fun x hx => by cases hx), by unfold ownV ownU; cases (Value.slice a2 n c2).ownBlock <;> simp, (fun x hx => by cases hx), hb⟩
  have HSH := Lib.hid (show a2 = none → n = 0 from fun e => by
    subst e
    rcases ho.2 with ⟨e1, e2⟩ | ⟨g, cap, cur, e1, _⟩
    · rw [← HN.out]; exact e2
    · injection e1 with e1; cases e1)
  have HSG := Lib.hid (show ∀ a, a2 = some a → ∃ g, a = ⟨g, 0, none⟩ from fun a e => by
    subst e
    rcases ho.2 with ⟨e1, e2⟩ | ⟨g, cap, cur, e1, _⟩
    · injection e1 with e1; cases e1
    · injection e1 with e1; injection e1 with e1; exact ⟨g, e1⟩)
  clear ho hb HCL
  go_wp2
  go_loopw [9] (fun i wr => ∃ k : Nat, k ≤ n ∧ i = .int .i64 k ∧ Hid (∃ nw, Cpd w (.slice a2 n c2) us k wr nw)) (fun i _ => n - (intOf i).toNat)
  case atStart => exact ⟨0, Nat.zero_le _, rfl, HP⟩
  case round =>
    clear HP
    obtain ⟨k, hk, rfl, HR⟩ := hrel
    by_cases hlt : k < n
    · have hku : k < us.length := by rw [HN.out]; exact hlt
      cases a2 with
      | none => exact absurd (HSH.out rfl) (by omega)
      | some a =>
        obtain ⟨g, rfl⟩ := HSG.out a rfl
        obtain ⟨nw, hc⟩ := HR.out
        have hrow := hc.row
        rw [HN.out] at hrow
        have hd : us.drop k = us[k] :: us.drop (k + 1) := List.drop_eq_getElem_cons hku
        have hcell : wr.cell? ⟨g, k * 4 + 3, none⟩ = some us[k].2 := by
          rw [hrow.cellAt _ (by omega), hd, fls_app, List.getElem?_append_right (by rw [fls_len, hc.len]; omega), fls_len, hc.len, Nat.add_sub_cancel_left]
          rfl
        have hfr := hrow.frozenAt (k * 4 + 3)
        have hx := HH.out us[k] (List.getElem_mem hku)
        have HCI := Lib.hid (clone_i us[k].2 us[k].1.got wr (hx.1.bel hc.bel) hx.2.1)
        have hc2 : Cpd w (.slice (some ⟨g, 0, none⟩) us.length c2) us k wr nw := by rw [HN.out]; exact hc
        have HX := Lib.hid (fun (w1 : World) (h' : Value) (hb : Below wr.heap.size wr w1) (ho : OwnI w1 wr.heap.size h' us[k].1.got) (hn : us[k].2 = nilS → h' = .slice none 0 0) => hc2.next hku hb ho fun he => hn (hx.2.2 he))
        have HG := Lib.hid (show g < wr.heap.size from World.block_lt_of_cell? wr _ hcell)
        have k0 : (0 : Int) ≤ (k : Int) := by omega
        have k1 : (k : Int) < (n : Int) := by omega
        have k2 : (k : Int) ≤ 1000 := by have := HM.out; omega
        have HLT := Lib.hid hlt
        obtain ⟨ah, ph, hsl, _⟩ := hx.1
        have HSL := Lib.hid hsl
        rw [hsl] at hcell
        clear hrow hd hx hc hc2 hsl HR hlt
        have HCF := Lib.hid (And.intro hcell hfr)
        go_wp2_with fail
        rw [← HSL.out]
        refine HCI.out.mono ?_
        rintro e w2 ⟨a3, n3, p3, rfl, ho, hnil, hb⟩
        have HY := Lib.hid (HX.out w2 _ hb ho hnil)
        have hcell2 : w2.cell? ⟨g, k * 4 + 3, none⟩ = some (.slice ah us[k].1.got.length ph) := (World.cell?_of_block (a := ⟨g, k * 4 + 3, none⟩) (hb.block g HG.out)).trans HCF.out.1
        have hfr2 : w2.frozen? ⟨g, k * 4 + 3, none⟩ = false := (World.frozen?_of_block (a := ⟨g, k * 4 + 3, none⟩) (hb.block g HG.out)).trans HCF.out.2
        clear ho hnil hb hcell hfr
        go_wp2
        go_roundw
        case rel => exact ⟨k + 1, by have := HLT.out; omega, by go_num, Lib.hid ⟨_, by have := HY.out; rw [HN.out] at this; exact this⟩⟩
        case measure => have := HLT.out; simp [intOf]; omega
    · obtain rfl : k = n := by omega
      have HE := Lib.hid HR.out
      clear HR
      go_wp2
      go_ret
      obtain ⟨nw, hc⟩ := HE.out
      have hlen : nw.length = us.length := by rw [HN.out]; exact hc.len
      have hrow := hc.row
      rw [List.drop_of_length_le (by rw [HN.out]; exact Nat.le_refl _), List.append_nil] at hrow
      have hf := hc.fst
      rw [List.take_of_length_le (by rw [HN.out]; exact Nat.le_refl _)] at hf
      refine ⟨a2, c2, nw, (by show Ending.returned (Value.slice a2 k c2) = _; rw [HN.out]), hf, ?_, hc.got, by rw [HN.out]; exact hc.nd, hc.gn, hc.bel⟩
      unfold OwnF
      rw [hlen]
      rw [HN.out] at hrow ⊢
      exact hrow
/-- what is told of what is under way -/
def Told (w : World) (U : List Fr) (e : Ending) (w' : World) : Prop := ∃ ao cap nw, e = .returned (.slice ao U.length cap) ∧ nw.map Prod.fst = U.reverse ∧ LiesF w' ao nw ∧ (∀ x ∈ nw, LiesI w' x.2 x.1.got ∧ (x.1.got = [] → x.2 = .slice none 0 0)) ∧ U.length ≤ cap ∧ cap ≤ 9223372036854775807 ∧ Below w.heap.size w w'
theorem own_lies {w : World} {B : Nat} {v : Value} {l : List Int} (h : OwnI w B v l) : LiesI w v l := by
  rcases h.2 with ⟨rfl, h0⟩ | ⟨g, cap, cur, rfl, hb, hg, hc, hm, _⟩
  · exact ⟨none, 0, by rw [h0], by omega, by omega, fun i hi => by omega⟩
  · refine ⟨_, cap, rfl, hc, hm, fun i hi => ⟨g, 0, rfl, ?_⟩⟩
    rw [Nat.zero_add]
    have := World.ownsRow.cellAt h i (by omega)
    rw [this]
    unfold ints
    simp [hi]
theorem own_liesf {w : World} {B : Nat} {v : Value} {us : List FH} (h : OwnF w B v us) : ∃ ao cap, v = .slice ao us.length cap ∧ LiesF w ao us ∧ us.length ≤ cap ∧ cap ≤ 9223372036854775807 := by
  rcases h.2 with ⟨rfl, h0⟩ | ⟨g, cap, cur, rfl, hb, hg, hc, hm, _⟩
  · exact ⟨none, 0, by rw [h0], (fun i hi => by omega), by omega, by omega⟩
  · refine ⟨_, cap, rfl, fun i hi => ⟨g, 0, rfl, fun j hj => ?_⟩, hc, hm⟩
    rw [Nat.zero_add, World.ownsRow.cellAt h _ (by omega)]
    exact fls_at us i hi j hj
set_option maxRecDepth 100000 in
theorem frames_f {B P room b l G M : Nat} {s : MS} {w : World} {H : Nat → Prop} (h : Mc B P room b l G M s w H) (hs : ∀ g ∈ s.U, g.got.length ≤ 1000) (hm : s.U.length ≤ 1000) :
    Calls Tryz.prog 8 #[.pointer (some ⟨G, 0, none⟩)] w (Told w s.U) := by
  obtain ⟨uv, us, gr, Hs, k1, k2, k3, k4, rfl⟩ := h
  have hl : us.length = s.U.length := by
    have := congrArg List.length k3
    simpa using this
  obtain ⟨ao, cap, rfl, hlf, hc1, hc2⟩ := own_liesf k2.row
  have hmem : ∀ x ∈ us, x.1 ∈ s.U := fun x hx => by
    have : x.1 ∈ us.map Prod.fst := List.mem_map.2 ⟨x, hx, rfl⟩
    rw [k3] at this
    exact List.mem_reverse.1 this
  have HC := Lib.hid (copied_f ao cap us w hlf (fun x hx => ⟨own_lies (k2.got x hx), hs _ (hmem x hx), k2.gn x hx⟩) (by omega))
  have c3 := k2.c3
  have HK := Lib.hid (And.intro k3 hl)
  clear k1 k2 k3 k4 hlf hc1 hc2 hmem hs hm hl
  generalize hn : us.length = n at *
  have HN := Lib.hid hn
  clear hn
  go_enter Tryz.func8, Tryz.ntmps8
  go_wp2_with fail
  refine HC.out.mono ?_
  rintro e w1 ⟨a2, c2, nw, rfl, n1, n2, n3, n4, n5, n6⟩
  have HE := Lib.hid (And.intro n1 (And.intro n2 (And.intro n3 (And.intro n5 n6))))
  rw [HN.out]
  clear n1 n2 n3 n4 n5 n6
  go_wp2
  go_ret
  obtain ⟨n1, n2, n3, n5, n6⟩ := HE.out
  have hlen : nw.length = us.length := by
    have := congrArg List.length n1
    simpa using this
  obtain ⟨a4, c4, e4, l4, b4, d4⟩ := own_liesf n2
  rw [HN.out] at e4 hlen
  rw [hlen] at e4 b4
  injection e4 with q1 q2 q3
  subst q1 q3
  refine ⟨a2, c2, nw, (by show Ending.returned (Value.slice a2 n c2) = _; rw [← HK.out.2]), n1.trans HK.out.1, l4, fun x hx => ⟨own_lies (n3 x hx), n5 x hx⟩, by rw [← HK.out.2]; exact b4, d4, n6⟩
end Go.Proofs.YtkefjkfknegogaaGreat.Fm

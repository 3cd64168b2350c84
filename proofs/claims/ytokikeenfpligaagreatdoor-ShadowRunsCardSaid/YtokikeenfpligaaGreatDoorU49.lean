/-
  BOTH SIDES' LISTS: the document's list of pages is that of the program's map, ascending. Conditions: those that each lemma names.
  BOTH SIDES STAY ALIKE, whatever act. Conditions: those that each lemma names.
  THE WALK of the statements' own `samePage` over two pages that are the same. Conditions: the records lie in memory.
-/
import Derived.Test.YtokikeenfpligaaGreatDoorU48
import Derived.Test.YtokikeenfpligaaGreatDoorU15
namespace Go.Proofs.YtokikeenfpligaaGreatDoor.Sh
open Go.RowKit Go.Maps

/-- ascending lists with the same members are the same -/
theorem asc_ext {a b : List Int} (ha : a.Pairwise (fun x y => x < y)) (hb : b.Pairwise (fun x y => x < y)) (h : ∀ x, x ∈ a ↔ x ∈ b) : a = b := by
  have na : a.Nodup := ha.imp (fun {x y} (h : x < y) => by omega)
  have nb : b.Nodup := hb.imp (fun {x y} (h : x < y) => by omega)
  exact ((List.perm_ext_iff_of_nodup na nb).2 h).eq_of_pairwise (fun x y _ _ h1 h2 => by omega) ha hb
theorem zk_asc (f : Nat → Nat) : (zl (kl f)).Pairwise (fun x y => x < y) := by
  unfold zl kl
  rw [List.pairwise_map]
  exact (List.pairwise_lt_range.filter _).imp (fun {a b} (h : a < b) => by omega)
theorem zk_mem {f : Nat → Nat} (hb : ∀ k, f k ≠ 0 → k < 15006) (x : Int) : x ∈ zl (kl f) ↔ 0 ≤ x ∧ f x.toNat ≠ 0 := by
  unfold zl
  rw [List.mem_map]
  constructor
  · rintro ⟨k, hk, rfl⟩
    exact ⟨by omega, by rw [Int.toNat_natCast]; exact (kl_mem hb k).1 hk⟩
  · rintro ⟨h0, h1⟩
    exact ⟨x.toNat, (kl_mem hb _).2 h1, by omega⟩
/-- a list of the document's, and a map of the program's with its pages -/
structure LisR (W : World) (L : List Ent) (f : Nat → Nat) (p : Nat → Sm.Pg) : Prop where
  ns : nums5 L = zl (kl f)
  pg : ∀ x ∈ L, ∃ rs, Sm.Recs W x.a rs ∧ rs.length = x.q ∧ x.q ≤ 9223372036854775807 ∧ p x.n.toNat = Sm.Pg.mkPg x.ki x.nu x.ep x.si rs
structure Rel (W : World) (σ : Sd) (pk pn : Nat → Sm.Pg) (r : Rf) : Prop where
  su : LisR W r.su σ.kp pk
  nw : LisR W r.nw σ.nw pn
  ls : ∀ x ∈ r.su, x.late = false
  ln : ∀ x ∈ r.nw, x.late = decide (σ.nw x.n.toNat ≠ σ.kp x.n.toNat)
  sz : r.size = (σ.n : Int)
  ep : r.ep = (σ.ep : Int)
theorem lis_len {W : World} {L : List Ent} {f : Nat → Nat} {p : Nat → Sm.Pg} (h : LisR W L f p) : L.length = (kl f).length := by
  have := congrArg List.length h.ns
  rw [zl_len] at this
  unfold nums5 at this
  rw [List.length_map] at this
  exact this
theorem lis_mem {W : World} {L : List Ent} {f : Nat → Nat} {p : Nat → Sm.Pg} (h : LisR W L f p) (hb : ∀ k, f k ≠ 0 → k < 15006) (x : Int) : x ∈ nums5 L ↔ 0 ≤ x ∧ f x.toNat ≠ 0 := by
  rw [h.ns]; exact zk_mem hb x
/-- as many tables -/
theorem tbls_of {L : List Ent} {f : Nat → Nat} {c : Nat} (h : nums5 L = zl (kl f)) (hb : ∀ k, f k ≠ 0 → k < 15006) (ht : IsTbl f c) : tblsE L = (c : Int) := by
  have hm := fun x => (h ▸ zk_mem hb x : x ∈ nums5 L ↔ _)
  rcases List.eq_nil_or_concat L with rfl | ⟨I, x, rfl⟩
  rotate_left
  rw [List.concat_eq_append] at h hm ⊢
  rotate_left
  · have h0 : ∀ k, f k = 0 := fun k => by
      by_cases q : f k = 0
      · exact q
      · exact absurd ((hm (k : Int)).2 ⟨by omega, by rw [Int.toNat_natCast]; exact q⟩) (by simp [nums5])
    rcases ht.2 with rfl | ⟨k, hk, _⟩
    · rfl
    · exact absurd (h0 k) hk
  · have ha : (nums5 (I ++ [x])).Pairwise (fun x y => x < y) := by rw [h]; exact zk_asc f
    have e : nums5 (I ++ [x]) = nums5 I ++ [x.n] := by simp [nums5]
    rw [e] at ha hm
    have hx := (hm x.n).1 (by simp)
    have h2 : IsTbl f (x.n.toNat / 123 + 1) := by
      refine ⟨fun k hk => ?_, .inr ⟨x.n.toNat, hx.2, rfl⟩⟩
      have hk2 := (hm (k : Int)).2 ⟨by omega, by rw [Int.toNat_natCast]; exact hk⟩
      have hle : (k : Int) ≤ x.n := by
        rcases List.mem_append.1 hk2 with q | q
        · have := (List.pairwise_append.1 ha).2.2 _ q x.n (List.mem_singleton.2 rfl)
          omega
        · rw [List.mem_singleton.1 q]; omega
      have : k ≤ x.n.toNat := by omega
      have := Nat.div_le_div_right (c := 123) this
      omega
    have hc := ht.one h2
    unfold tblsE
    rw [show (I ++ [x]).getLast? = some x by simp]
    show x.n / 123 + 1 = (c : Int)
    rw [hc]
    have hx0 := hx.1
    omega
/-- as many free sectors -/
theorem rel_late {W : World} {σ : Sd} {pk pn : Nat → Sm.Pg} {r : Rf} (h : Rel W σ pk pn r) : lateN r.nw r.nw.length = (lateL σ.kp σ.nw).length := by
  unfold lateN lateL
  rw [List.take_length, ← List.countP_eq_length_filter, ← List.countP_eq_length_filter]
  have e1 : r.nw.countP (fun x => x.late) = r.nw.countP ((fun z : Int => decide (σ.nw z.toNat ≠ σ.kp z.toNat)) ∘ Ent.n) := by
    apply List.countP_congr
    intro x hx
    rw [h.ln x hx]
    rfl
  rw [e1, ← List.countP_map]
  have e2 : r.nw.map Ent.n = zl (kl σ.nw) := h.nw.ns
  rw [e2]
  unfold zl
  rw [List.countP_map]
  apply List.countP_congr
  intro k _
  simp
theorem rel_free {W w : World} {N : Nat} {σ : Sd} {pk pn : Nat → Sm.Pg} {r : Rf} (hs : Ss W N w σ pk pn) (h : Rel W σ pk pn r) : freeR r = (σ.S.free : Int) := by
  have hf := hs.free
  have ht := tbls_of h.su.ns hs.sh.kf.bnd hs.iv.it
  have hl := rel_late h
  have hn := lis_len h.su
  unfold freeR
  rw [ht, h.sz, hn, hl]
  omega
/-- the errors are the same -/
theorem rel_dr {W w : World} {N : Nat} {σ : Sd} {pk pn : Nat → Sm.Pg} {r : Rf} (hs : Ss W N w σ pk pn) (h : Rel W σ pk pn r) (k : Int) : drC σ k = drR r k := by
  have hm := lis_mem h.nw hs.sh.vf.bnd k
  unfold drC drR
  by_cases q : k < 0 ∨ 15006 ≤ k
  · rw [if_pos q, if_pos q]
  · rw [if_neg q, if_neg q]
    by_cases e : σ.nw k.toNat = 0
    · rw [if_pos e, if_neg (fun c => (hm.1 c).2 e)]
    · rw [if_neg e, if_pos (hm.2 ⟨by omega, e⟩)]
theorem rel_rd {W w : World} {N : Nat} {σ : Sd} {pk pn : Nat → Sm.Pg} {r : Rf} (hs : Ss W N w σ pk pn) (h : Rel W σ pk pn r) (k : Int) : rdC σ k = rdR r k := rel_dr hs h k
theorem rel_cm {W w : World} {N : Nat} {σ : Sd} {pk pn : Nat → Sm.Pg} {r : Rf} (hs : Ss W N w σ pk pn) (h : Rel W σ pk pn r) (t : Nat) (ht : IsTbl σ.nw t) : cmS σ t = cmR r := by
  unfold cmS cmR
  rw [rel_free hs h, tbls_of h.nw.ns hs.sh.vf.bnd ht]
  by_cases q : σ.S.free < t
  · rw [if_pos q, if_pos (by omega)]
  · rw [if_neg q, if_neg (by omega)]
theorem late_of {W : World} {σ : Sd} {pk pn : Nat → Sm.Pg} {r : Rf} (h : Rel W σ pk pn r) (k : Int) (hk : k ∈ nums5 r.nw) : lateAt r.nw k = decide (σ.nw k.toNat ≠ σ.kp k.toNat) := by
  obtain ⟨i, hi, hp, hl⟩ := plc_at hk
  rw [hl hi, h.ln _ (List.getElem_mem hi)]
  have e : r.nw[i].n = k := by
    unfold plc at hp
    rw [if_pos hk] at hp
    have hi2 : (nums5 r.nw).idxOf k = i := by omega
    have e2 : (nums5 r.nw)[i]? = some k := by
      rw [← hi2]
      rw [List.getElem?_eq_getElem (List.idxOf_lt_length_of_mem hk), List.getElem_idxOf]
    have e3 : (nums5 r.nw)[i]? = some (r.nw[i].n) := by
      unfold nums5
      rw [List.getElem?_map, List.getElem?_eq_getElem hi]
      rfl
    exact Option.some.inj (e3.symm.trans e2)
  rw [e]
theorem rel_wr {W w : World} {N : Nat} {σ : Sd} {pk pn : Nat → Sm.Pg} {r : Rf} (hs : Ss W N w σ pk pn) (h : Rel W σ pk pn r) (k : Int) (m : Bool) : wrC σ k m = wrR r k m := by
  unfold wrC wrR
  by_cases q : k < 0 ∨ 15006 ≤ k
  · rw [if_pos q, if_pos q]
  · rw [if_neg q, if_neg q]
    cases m
    · rfl
    · rw [if_neg (show ¬ (true = false) by decide), if_neg (show ¬ (true = false) by decide), rel_free hs h]
      have hm := lis_mem h.nw hs.sh.vf.bnd k
      have hw : (k ∈ nums5 r.nw ∧ lateAt r.nw k = true) ↔ wrt σ.kp σ.nw k.toNat = true := by
        unfold wrt
        rw [Bool.and_eq_true, decide_eq_true_eq]
        constructor
        · rintro ⟨h1, h2⟩
          rw [late_of h k h1] at h2
          exact ⟨(hm.1 h1).2, h2⟩
        · rintro ⟨h1, h2⟩
          have hk := hm.2 ⟨by omega, h1⟩
          exact ⟨hk, by rw [late_of h k hk]; exact h2⟩
      by_cases c : wrt σ.kp σ.nw k.toNat = true ∨ 1 ≤ σ.S.free
      · rw [if_pos c, if_pos (by rcases c with c | c; exact .inl (hw.2 c); exact .inr (by omega))]
      · rw [if_neg c, if_neg (fun d => c (by rcases d with d | d; exact .inl (hw.1 d); exact .inr (by omega)))]
end Go.Proofs.YtokikeenfpligaaGreatDoor.Sh
namespace Go.Proofs.YtokikeenfpligaaGreatDoor.Sh
open Go.RowKit Go.Maps

theorem nums_wo (L : List Ent) (k x : Int) : x ∈ nums5 (wo L k) ↔ x ∈ nums5 L ∧ x ≠ k := by
  unfold nums5 wo
  rw [List.mem_map, List.mem_map]
  constructor
  · rintro ⟨y, hy, rfl⟩
    have := List.mem_filter.1 hy
    exact ⟨⟨y, this.1, rfl⟩, of_decide_eq_true this.2⟩
  · rintro ⟨⟨y, hy, rfl⟩, hne⟩
    exact ⟨y, List.mem_filter.2 ⟨hy, decide_eq_true hne⟩, rfl⟩
theorem bnd_upd {f : Nat → Nat} (hb : ∀ k, f k ≠ 0 → k < 15006) (j : Nat) : ∀ k, updN f j 0 k ≠ 0 → k < 15006 := fun k hk => by
  by_cases e : k = j
  · rw [e, updN_same] at hk; exact absurd rfl hk
  · rw [updN_ne e] at hk; exact hb k hk
theorem lis_wo {W : World} {L : List Ent} {f : Nat → Nat} {p : Nat → Sm.Pg} (h : LisR W L f p) (hb : ∀ k, f k ≠ 0 → k < 15006) (k : Int) (hk : 0 ≤ k) : LisR W (wo L k) (updN f k.toNat 0) p := by
  refine ⟨asc_ext ?_ (zk_asc _) fun x => ?_, fun x hx => h.pg x (List.mem_filter.1 hx).1⟩
  · have ha : (nums5 L).Pairwise (fun x y => x < y) := h.ns ▸ zk_asc f
    exact ha.sublist (List.filter_sublist.map _)
  · rw [nums_wo, lis_mem h hb, zk_mem (bnd_upd hb _)]
    by_cases e : x = k
    · subst e; simp [updN_same]
    · constructor
      · rintro ⟨⟨h0, h1⟩, _⟩
        exact ⟨h0, by rw [updN_ne (by omega)]; exact h1⟩
      · rintro ⟨h0, h1⟩
        rw [updN_ne (by omega)] at h1
        exact ⟨⟨h0, h1⟩, e⟩
theorem ins_nil (e : Ent) : ins [] e = [e] := rfl
theorem ins_cons (y : Ent) (M : List Ent) (e : Ent) : ins (y :: M) e = if y.n < e.n then y :: ins M e else e :: y :: M := by
  unfold ins
  by_cases h : y.n < e.n
  · rw [if_pos h, List.takeWhile_cons_of_pos (by exact decide_eq_true h), List.dropWhile_cons_of_pos (by exact decide_eq_true h)]
    rfl
  · rw [if_neg h, List.takeWhile_cons_of_neg (by simpa using h), List.dropWhile_cons_of_neg (by simpa using h)]
    rfl
theorem nums_ins (e : Ent) (x : Int) : ∀ M : List Ent, x ∈ nums5 (ins M e) ↔ x = e.n ∨ x ∈ nums5 M
  | [] => by rw [ins_nil]; simp [nums5]
  | y :: M => by
    rw [ins_cons]
    have ih := nums_ins e x M
    unfold nums5 at ih ⊢
    by_cases h : y.n < e.n
    · rw [if_pos h, List.map_cons, List.mem_cons, ih, List.map_cons, List.mem_cons]
      constructor
      · rintro (a | a | a)
        · exact .inr (.inl a)
        · exact .inl a
        · exact .inr (.inr a)
      · rintro (a | a | a)
        · exact .inr (.inl a)
        · exact .inl a
        · exact .inr (.inr a)
    · rw [if_neg h, List.map_cons, List.mem_cons]
theorem ins_asc (e : Ent) : ∀ M : List Ent, (nums5 M).Pairwise (fun x y => x < y) → e.n ∉ nums5 M → (nums5 (ins M e)).Pairwise (fun x y => x < y)
  | [], _, _ => by rw [ins_nil]; simp [nums5]
  | y :: M, ha, hn => by
    have hc : nums5 (y :: M) = y.n :: nums5 M := rfl
    rw [hc] at ha hn
    rw [List.pairwise_cons] at ha
    rw [List.mem_cons, not_or] at hn
    rw [ins_cons]
    by_cases h : y.n < e.n
    · rw [if_pos h]
      show (y.n :: nums5 (ins M e)).Pairwise _
      rw [List.pairwise_cons]
      refine ⟨fun x hx => ?_, ins_asc e M ha.2 hn.2⟩
      rcases (nums_ins e x M).1 hx with rfl | q
      · exact h
      · exact ha.1 x q
    · rw [if_neg h]
      show (e.n :: y.n :: nums5 M).Pairwise _
      rw [List.pairwise_cons, List.pairwise_cons]
      refine ⟨fun x hx => ?_, ha⟩
      have hne := hn.1
      rcases List.mem_cons.1 hx with rfl | q
      · omega
      · have := ha.1 x q; omega
theorem lis_ins {W : World} {M : List Ent} {f f' : Nat → Nat} {p p' : Nat → Sm.Pg} {e : Ent} {j : Nat} (h : LisR W M f p) (hb : ∀ k, f k ≠ 0 → k < 15006) (hb' : ∀ k, f' k ≠ 0 → k < 15006) (he : e.n = (j : Int)) (hf0 : f j = 0) (hf : ∀ i, i ≠ j → f' i = f i) (hj : f' j ≠ 0) (hp : ∀ i, i ≠ j → p' i = p i)
    (hpg : ∃ rs, Sm.Recs W e.a rs ∧ rs.length = e.q ∧ e.q ≤ 9223372036854775807 ∧ p' j = Sm.Pg.mkPg e.ki e.nu e.ep e.si rs) : LisR W (ins M e) f' p' := by
  have hm := lis_mem h hb
  have ha : (nums5 M).Pairwise (fun x y => x < y) := h.ns ▸ zk_asc f
  have hn : e.n ∉ nums5 M := fun q => by
    have := (hm _).1 q
    rw [he, Int.toNat_natCast] at this
    exact this.2 hf0
  refine ⟨asc_ext (ins_asc e M ha hn) (zk_asc _) fun x => ?_, fun x hx => ?_⟩
  · rw [nums_ins, hm, zk_mem hb', he]
    by_cases q : x = (j : Int)
    · subst q
      rw [Int.toNat_natCast]
      exact ⟨fun _ => ⟨by omega, hj⟩, fun _ => .inl rfl⟩
    · constructor
      · rintro (c | ⟨c, d⟩)
        · exact absurd c q
        · exact ⟨c, by rw [hf _ (by omega)]; exact d⟩
      · rintro ⟨c, d⟩
        rw [hf _ (by omega)] at d
        exact .inr ⟨c, d⟩
  · rcases ins_mem hx with rfl | hx
    · rw [he, Int.toNat_natCast]; exact hpg
    · obtain ⟨rs, a, b, c, d⟩ := h.pg x hx
      have hxn : x.n ∈ nums5 M := List.mem_map.2 ⟨x, hx, rfl⟩
      have h0 := (hm _).1 hxn
      refine ⟨rs, a, b, c, ?_⟩
      rw [hp _ (fun q => ?_)]
      · exact d
      · exact hn (by rw [he]; have : x.n = (j : Int) := by omega
                     rw [← this]; exact hxn)
theorem lis_cl {W : World} {L : List Ent} {f : Nat → Nat} {p : Nat → Sm.Pg} (h : LisR W L f p) : LisR W (cl L) f p := by
  refine ⟨?_, fun x hx => ?_⟩
  · rw [← h.ns]
    unfold nums5 cl
    rw [List.map_map]
    rfl
  · obtain ⟨y, hy, rfl⟩ := List.mem_map.1 hx
    exact h.pg y hy
theorem rel_drop {W w : World} {N : Nat} {σ σ' : Sd} {pk pn : Nat → Sm.Pg} {r r' : Rf} {k : Int} (hs : Ss W N w σ pk pn) (h : Rel W σ pk pn r) (he : Eqs σ σ') (hk : SameS σ σ') (c1 : drC σ k ≠ 0 → σ' = σ) (c0 : drC σ k = 0 → 0 ≤ k ∧ k < 15006 ∧ σ'.nw = updN σ.nw k.toNat 0)
    (hsu : r'.su = r.su) (hsz : r'.size = r.size) (hep : r'.ep = r.ep) (n1 : drR r k ≠ 0 → r'.nw = r.nw) (n0 : drR r k = 0 → r'.nw = wo r.nw k) : Rel W σ' pk pn r' := by
  have hd := rel_dr hs h k
  have hkp := hk.1
  refine ⟨?_, ?_, ?_, ?_, ?_, ?_⟩
  · rw [hsu, hkp]; exact h.su
  · by_cases c : drC σ k = 0
    · rw [n0 (hd ▸ c), (c0 c).2.2]
      exact lis_wo h.nw hs.sh.vf.bnd k (c0 c).1
    · rw [n1 (fun q => c (hd.trans q)), c1 c]; exact h.nw
  · rw [hsu]; exact h.ls
  · intro x hx
    by_cases c : drC σ k = 0
    · rw [n0 (hd ▸ c)] at hx
      have hf := List.mem_filter.1 hx
      have hne : x.n ≠ k := of_decide_eq_true hf.2
      have h0 := (lis_mem h.nw hs.sh.vf.bnd x.n).1 (List.mem_map.2 ⟨x, hf.1, rfl⟩)
      have hk0 := (c0 c).1
      rw [h.ln x hf.1, (c0 c).2.2, hkp, updN_ne (by omega)]
    · rw [n1 (fun q => c (hd.trans q))] at hx
      rw [h.ln x hx, c1 c]
  · rw [hsz, h.sz, he.2.2.1]
  · rw [hep, h.ep, hk.2.2.1]
theorem rel_abort {W : World} {σ σ' : Sd} {pk pn : Nat → Sm.Pg} {r : Rf} (h : Rel W σ pk pn r) (he : Eqs σ σ') (hkp : σ'.kp = σ.kp) (hnw : σ'.nw = σ.kp) (hep : σ'.ep = σ.ep) : Rel W σ' pk pk (abR r) := by
  refine ⟨by rw [hkp]; exact h.su, by rw [hnw]; exact h.su, h.ls, fun x hx => ?_, ?_, ?_⟩
  · rw [hnw, hkp, h.ls x hx]; simp
  · show r.size = _
    rw [h.sz, he.2.2.1]
  · show r.ep = _
    rw [h.ep, hep]
theorem rel_commit {W w : World} {N : Nat} {σ σ' : Sd} {pk pn : Nat → Sm.Pg} {r r' : Rf} {t : Nat} (hs : Ss W N w σ pk pn) (h : Rel W σ pk pn r) (ht : IsTbl σ.nw t) (he : Eqs σ σ') (c1 : σ.S.free < t → σ' = σ) (c0 : ¬ σ.S.free < t → σ'.kp = σ.nw ∧ σ'.nw = σ.nw ∧ σ'.ep = σ.ep + 1 ∧ σ'.tb.length = t)
    (hsz : r'.size = r.size) (n1 : cmR r ≠ 0 → r'.nw = r.nw ∧ r'.su = r.su ∧ r'.ep = r.ep) (n0 : cmR r = 0 → r'.nw = cl r.nw ∧ r'.su = cl r.nw ∧ r'.ep = r.ep + 1) : Rel W σ' (if σ.S.free < t then pk else pn) pn r' := by
  have hd := rel_cm hs h t ht
  by_cases c : σ.S.free < t
  · have hc : cmR r ≠ 0 := by rw [← hd]; unfold cmS; rw [if_pos c]; decide
    obtain ⟨q1, q2, q3⟩ := n1 hc
    rw [if_pos c]
    obtain rfl := c1 c
    exact ⟨by rw [q2]; exact h.su, by rw [q1]; exact h.nw, by rw [q2]; exact h.ls, by rw [q1]; exact h.ln, by rw [hsz]; exact h.sz, by rw [q3]; exact h.ep⟩
  · have hc : cmR r = 0 := by rw [← hd]; unfold cmS; rw [if_neg c]
    obtain ⟨q1, q2, q3⟩ := n0 hc
    obtain ⟨d1, d2, d3, _⟩ := c0 c
    rw [if_neg c]
    have hl : ∀ x ∈ cl r.nw, x.late = false := fun x hx => by
      obtain ⟨y, _, rfl⟩ := List.mem_map.1 hx
      rfl
    refine ⟨by rw [q2, d1]; exact lis_cl h.nw, by rw [q1, d2]; exact lis_cl h.nw, by rw [q2]; exact hl, fun x hx => ?_, by rw [hsz, h.sz, he.2.2.1], by rw [q3, h.ep, d3]; omega⟩
    rw [q1] at hx
    rw [hl x hx, d1, d2]; simp
theorem rel_write {W w w' : World} {N M : Nat} {σ σ' : Sd} {pk pn pn' : Nat → Sm.Pg} {r r' : Rf} {A : ActV} {m : Bool} (hs : Ss W N w σ pk pn) (hs' : Ss W M w' σ' pk pn') (h : Rel W σ pk pn r) (hin : PageIn W A.ki A.nu A.ep A.si A.a A.q A.rs) (he : Eqs σ σ') (hk : SameS σ σ') (c1 : wrC σ A.n m ≠ 0 → σ' = σ ∧ pn' = pn) (c0 : wrC σ A.n m = 0 → Put1 σ σ' pn pn' A.n A.ki A.si A.rs)
    (hsu : r'.su = r.su) (hsz : r'.size = r.size) (hep : r'.ep = r.ep) (n1 : wrR r A.n m ≠ 0 → r'.nw = r.nw) (n0 : wrR r A.n m = 0 → r'.nw = ins (wo r.nw A.n) (wEnt r A.n A.ki A.si A.a A.q A.c)) : Rel W σ' pk pn' r' := by
  have hd := rel_wr hs h A.n m
  have hkp := hk.1
  by_cases c : wrC σ A.n m = 0
  · obtain ⟨j, hj, hj2, hpn, ho, hs1, hs2⟩ := c0 c
    have hr := n0 (hd ▸ c)
    have hw := lis_wo h.nw hs.sh.vf.bnd A.n (by omega)
    have hjn : A.n.toNat = j := by omega
    rw [hjn] at hw
    refine ⟨by rw [hsu, hkp]; exact h.su, ?_, by rw [hsu]; exact h.ls, fun x hx => ?_, by rw [hsz, h.sz, he.2.2.1], by rw [hep, h.ep, hk.2.2.1]⟩
    · rw [hr]
      refine lis_ins hw (bnd_upd hs.sh.vf.bnd j) hs'.sh.vf.bnd (j := j) hj (updN_same _ _ _) (fun i hi => (ho i hi).trans (updN_ne hi).symm) hs1 (fun i hi => by rw [hpn, updP_ne hi]) ⟨A.rs, hin.recs, hin.len, hin.max, ?_⟩
      rw [hpn, updP_same]
      unfold npg wEnt
      rw [h.ep, hj]
    · rw [hr] at hx
      rcases ins_mem hx with rfl | hx
      · show true = decide (σ'.nw A.n.toNat ≠ σ'.kp A.n.toNat)
        rw [hjn, hkp]
        exact (decide_eq_true hs2).symm
      · have hf := List.mem_filter.1 hx
        have hne : x.n ≠ A.n := of_decide_eq_true hf.2
        have h0 := (lis_mem h.nw hs.sh.vf.bnd x.n).1 (List.mem_map.2 ⟨x, hf.1, rfl⟩)
        rw [h.ln x hf.1, hkp, ho _ (by omega)]
  · obtain ⟨rfl, rfl⟩ := c1 c
    have hr := n1 (fun q => c (hd.trans q))
    exact ⟨by rw [hsu]; exact h.su, by rw [hr]; exact h.nw, by rw [hsu]; exact h.ls, by rw [hr]; exact h.ln, by rw [hsz]; exact h.sz, by rw [hep]; exact h.ep⟩
end Go.Proofs.YtokikeenfpligaaGreatDoor.Sh
namespace Go.Proofs.YtokikeenfpligaaGreatDoor.Sm
open Go.RowKit Crc

set_option maxRecDepth 100000 in
set_option maxHeartbeats 1000000 in
theorem same_any (ki nu ep si : Int) (a a2 : Option Addr) (n c c2 : Nat) (rs : List (List Int)) (w : World) (hn : rs.length = n) (hm : n ≤ 9223372036854775807) (hr : Recs w a rs) (hr2 : Recs w a2 rs) :
    Calls Tryz.prog 42 #[.agg #[.int .u8 ki, .int .u32 nu, .int .u64 ep, .int .i64 si, .slice a n c], .agg #[.int .u8 ki, .int .u32 nu, .int .u64 ep, .int .i64 si, .slice a2 n c2]] w fun e w' => e = .returned (.bool true) ∧ Below w.heap.size w w' := by
  have b1 := alX w (.cells #[.int .u8 ki, .int .u32 nu, .int .u64 ep, .int .i64 si, .slice a n c] 47)
  have b2 := b1.alloc b1.size (inPg ki nu ep si a2 n c2)
  have HR := Lib.hid (hr.below b2)
  have HR2 := Lib.hid (hr2.below b2)
  have HB := Lib.hid b2
  have HN := Lib.hid hn
  clear hr hr2 hn b1 b2
  go_enter Tryz.func42, Tryz.ntmps42
  go_wp2
  have HK1 := Lib.hid (show ((w.alloc (.cells #[.int .u8 ki, .int .u32 nu, .int .u64 ep, .int .i64 si, .slice a n c] 47)).alloc (inPg ki nu ep si a2 n c2)).cell? ⟨w.heap.size, 4, none⟩ = some (.slice a n c) by simp)
  have HK2 := Lib.hid (show ((w.alloc (.cells #[.int .u8 ki, .int .u32 nu, .int .u64 ep, .int .i64 si, .slice a n c] 47)).alloc (inPg ki nu ep si a2 n c2)).cell? ⟨w.heap.size + 1, 4, none⟩ = some (.slice a2 n c2) by simp)
  change Code.wp _ _ _ _ ((w.alloc (.cells #[.int .u8 ki, .int .u32 nu, .int .u64 ep, .int .i64 si, .slice a n c] 47)).alloc (inPg ki nu ep si a2 n c2))
  generalize (w.alloc (.cells #[.int .u8 ki, .int .u32 nu, .int .u64 ep, .int .i64 si, .slice a n c] 47)).alloc (inPg ki nu ep si a2 n c2) = W2 at HR HR2 HB HK1 HK2 ⊢
  go_loopw [5] (fun i wr => ∃ k m : Nat, k ≤ n ∧ i = .int .i64 k ∧ Hid (wr = W2.drewN m)) (fun i _ => n - (intOf i).toNat)
  case atStart => exact ⟨0, 0, by omega, rfl, Lib.hid rfl⟩
  case round =>
    obtain ⟨k, m, hk, rfl, hwr⟩ := hrel
    have hwr' := hwr.out
    clear hwr
    subst hwr'
    have k1 := HK1.out
    have k2 := HK2.out
    by_cases hlt : k < n
    · have hkl : k < rs.length := by rw [HN.out]; exact hlt
      obtain ⟨b, off, ra, rc, rfl, hcell, hl, _⟩ := HR.out k hkl
      obtain ⟨b', off', ra', rc', rfl, hcell', hl', _⟩ := HR2.out k hkl
      have hcv : ∀ q, (convert 72 9 (.slice ra rs[k].length rc)).run Tryz.prog (W2.drewN q) = .ok (.string (strOfNums rs[k])) (W2.drewN q) := fun q => conv_any (hl.drewN q) rfl
      have hcv' : ∀ q, (convert 72 9 (.slice ra' rs[k].length rc')).run Tryz.prog (W2.drewN q) = .ok (.string (strOfNums rs[k])) (W2.drewN q) := fun q => conv_any (hl'.drewN q) rfl
      generalize strOfNums rs[k] = S at hcv hcv'
      generalize rs[k].length = L at hcell hcell' hcv hcv'
      have hki : (k : Int) < (n : Int) := by omega
      clear hl hl'
      go_wp2
      go_quiet (fail)
      go_wp2
      go_roundw
      case rel => exact ⟨k + 1, m + nq, by omega, by go_num, Lib.hid rfl⟩
      case measure => simp [intOf]; omega
    · obtain rfl : k = n := by omega
      go_wp2
      go_ret
      exact ⟨rfl, Below.drewN' HB.out m⟩
end Go.Proofs.YtokikeenfpligaaGreatDoor.Sm

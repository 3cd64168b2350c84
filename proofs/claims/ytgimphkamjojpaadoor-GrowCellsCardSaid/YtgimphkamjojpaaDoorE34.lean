/-
  HOW A SQUARE GOES ON, AS PLAIN DATA: what holds on the way from nine to four. Conditions: those that each lemma names.
  THE WALKS of the maker's growFour and of what finds a part of one's own. Conditions: the grower lies in memory, what goes on in squares does so, and there is room.
-/
import Derived.Test.YtgimphkamjojpaaDoorE06
import Derived.Test.YtgimphkamjojpaaDoorE33
namespace Go.Proofs.YtgimphkamjojpaaDoor.Qd
open Ti Ru

abbrev Tt : Nat → Pl → Int → Int → Prop := fun _ _ _ _ => True
/-- so many of a row of calls were done -/
structure Wy (b l : Nat) (f : GS → Nat → GS × Int) (s : GS) (m : Nat) (k : Nat) : Prop where
  ext : s.1 <+: (stOf f s k).1
  ok : GOk b l (stOf f s k)
  lv : ∀ i, i < k → Lv (stOf f s k).1 m (outOf f s i)
theorem It.wy {b l : Nat} {A : Nat → Pl → Int → Int → Prop} {c : Nat} {f : GS → Nat → GS × Int} {s : GS} {m : Nat} {P : Pl} {X Y : Nat → Int} {k : Nat} (h : It b l A c f s m P X Y k) : Wy b l f s m k := ⟨h.ext, h.ok, fun i hi => (h.win i hi).1⟩
theorem grow_of (b l m : Nat) (hm : m ≤ 36) (s : GS) (hs : GOk b l s) (id : Int) (j : Nat) (hj : j ≤ m + 2) (hl : Lv s.1 (m + 1) id) : s.1 <+: (growQ b l m s id j).1.1 ∧ GOk b l (growQ b l m s id j).1 ∧ Lv (growQ b l m s id j).1.1 m (growQ b l m s id j).2 := by
  have h := grow_ok b l m Tt _ (uni_any b l) s id j _ 0 0 hs hm hj (Wn.self hl) trivial
  exact ⟨h.ext, h.ok, h.win.1⟩
theorem node_of (b l m : Nat) (hm : m ≤ 36) (s : GS) (hs : GOk b l s) (f : Nat → Int) (hf : ∀ i, i < 4 → Lv s.1 m (f i)) : s.1 <+: (nodeG s (f 0) (f 1) (f 2) (f 3)).1.1 ∧ GOk b l (nodeG s (f 0) (f 1) (f 2) (f 3)).1 ∧ Lv (nodeG s (f 0) (f 1) (f 2) (f 3)).1.1 (m + 1) (nodeG s (f 0) (f 1) (f 2) (f 3)).2 :=
  ⟨put_ext _ _, GOk.ext (L := s.1) (K := s.2) hs (node_inv hs.inv hm hf) (put_ext _ _), node_lv hf⟩
theorem four_of' (b l m : Nat) (hm : m ≤ 36) (s : GS) (hs : GOk b l s) (f : Nat → Int) (hf : ∀ i, i < 4 → Lv s.1 m (f i)) (j : Nat) (hj : j ≤ m + 2) :
    s.1 <+: (fourG (growQ b l m) j s (f 0) (f 1) (f 2) (f 3)).1.1 ∧ GOk b l (fourG (growQ b l m) j s (f 0) (f 1) (f 2) (f 3)).1 ∧ Lv (fourG (growQ b l m) j s (f 0) (f 1) (f 2) (f 3)).1.1 m (fourG (growQ b l m) j s (f 0) (f 1) (f 2) (f 3)).2 ∧ (nodeG s (f 0) (f 1) (f 2) (f 3)).1.1 <+: (fourG (growQ b l m) j s (f 0) (f 1) (f 2) (f 3)).1.1 := by
  obtain ⟨h1, h2, h3⟩ := node_of b l m hm s hs f hf
  obtain ⟨k1, k2, k3⟩ := grow_of b l m hm _ h2 _ j hj h3
  exact ⟨h1.trans k1, k2, k3, k1⟩
theorem mid_of (b l m : Nat) (hm : m ≤ 36) (s : GS) (hs : GOk b l s) (f : Nat → Int) (hf : ∀ i, i < 4 → Lv s.1 m (f i)) :
    s.1 <+: (midG s (f 0) (f 1) (f 2) (f 3)).1.1 ∧ GOk b l (midG s (f 0) (f 1) (f 2) (f 3)).1 ∧ Lv (midG s (f 0) (f 1) (f 2) (f 3)).1.1 m (midG s (f 0) (f 1) (f 2) (f 3)).2 := by
  match m, hm, hf with
  | 0, _, hf =>
    have e : midG s (f 0) (f 1) (f 2) (f 3) = leafG s (growP 0 0 0 (tilG s.1 (f 0) (f 1) (f 2) (f 3))) := if_pos (show (at' s.1 (f 0)).lev = 3 from (hf 0 (by decide)).2)
    rw [e]
    exact ⟨put_ext _ _, GOk.ext (L := s.1) (K := s.2) hs (hs.inv.leaf _) (put_ext _ _), ⟨put_ok _ _, by show (at' (put s.1 _) (nr s.1 _)).lev = _; rw [put_at]; rfl⟩⟩
  | m + 1, hm, hf =>
    have e : midG s (f 0) (f 1) (f 2) (f 3) = nodeG s (kid (at' s.1 (f 0)) 3) (kid (at' s.1 (f 1)) 2) (kid (at' s.1 (f 2)) 1) (kid (at' s.1 (f 3)) 0) := if_neg (by rw [(hf 0 (by decide)).2]; omega)
    rw [e]
    exact node_of b l m (by omega) s hs (fun i => kid (at' s.1 (f i)) (3 - i)) (fun i h4 => hs.inv.kid (hf i h4) _)
theorem wy_of {b l : Nat} {f : GS → Nat → GS × Int} {s : GS} {m N : Nat} (hs : GOk b l s) (h : ∀ k, k < N → ∀ s' : GS, s.1 <+: s'.1 → GOk b l s' → s'.1 <+: (f s' k).1.1 ∧ GOk b l (f s' k).1 ∧ Lv (f s' k).1.1 m (f s' k).2) : ∀ k, k ≤ N → Wy b l f s m k
  | 0, _ => ⟨List.prefix_rfl, hs, fun i hi => absurd hi (by omega)⟩
  | k + 1, hk => by
    have ih := wy_of hs h k (by omega)
    obtain ⟨r1, r2, r3⟩ := h k (by omega) _ ih.ext ih.ok
    refine ⟨ih.ext.trans r1, r2, fun i hi => ?_⟩
    by_cases e : i = k
    · subst e
      exact r3
    · exact (ih.lv i (by omega)).ext r1
theorem Wy.le {b l : Nat} {f : GS → Nat → GS × Int} {s : GS} {m N : Nat} (hs : GOk b l s) (h : ∀ k, k < N → ∀ s' : GS, s.1 <+: s'.1 → GOk b l s' → s'.1 <+: (f s' k).1.1 ∧ GOk b l (f s' k).1 ∧ Lv (f s' k).1.1 m (f s' k).2) (k : Nat) : ∀ d, k + d ≤ N → (stOf f s k).1 <+: (stOf f s (k + d)).1
  | 0, _ => List.prefix_rfl
  | d + 1, hd => by
    have w := wy_of hs h (k + d) (by omega)
    exact (Wy.le hs h k d (by omega)).trans (h (k + d) (by omega) _ w.ext w.ok).1
theorem sxt_lv {L : List Sq} (hi : Inv L) {m : Nat} {id : Int} (hl : Lv L (m + 2) id) (k : Nat) : Lv L m (sxt L id k) := hi.kid (hi.kid hl _) _
/-- the four that are handed to the k-th of rows so wide -/
def wf (v : Nat → Int) (wide k : Nat) (i : Nat) : Int := if i = 0 then v (at4 wide k) else if i = 1 then v (at4 wide k + 1) else if i = 2 then v (at4 wide k + wide) else v (at4 wide k + wide + 1)
/-- the way of what comes of a square -/
structure Wys (b l m : Nat) (s : GS) (id : Int) (j : Nat) : Prop where
  p9 : ∀ k, k < 9 → ∀ s' : GS, s.1 <+: s'.1 → GOk b l s' → s'.1 <+: (partG (growQ b l m) (sxt s.1 id) m j s' k).1.1 ∧ GOk b l (partG (growQ b l m) (sxt s.1 id) m j s' k).1 ∧ Lv (partG (growQ b l m) (sxt s.1 id) m j s' k).1.1 m (partG (growQ b l m) (sxt s.1 id) m j s' k).2
  p4 : ∀ k, k < 4 → ∀ s' : GS, (stOf (partG (growQ b l m) (sxt s.1 id) m j) s 9).1 <+: s'.1 → GOk b l s' → s'.1 <+: (fourP (growQ b l m) (outOf (partG (growQ b l m) (sxt s.1 id) m j) s) 3 (restN m j) s' k).1.1 ∧ GOk b l (fourP (growQ b l m) (outOf (partG (growQ b l m) (sxt s.1 id) m j) s) 3 (restN m j) s' k).1 ∧ Lv (fourP (growQ b l m) (outOf (partG (growQ b l m) (sxt s.1 id) m j) s) 3 (restN m j) s' k).1.1 m (fourP (growQ b l m) (outOf (partG (growQ b l m) (sxt s.1 id) m j) s) 3 (restN m j) s' k).2
theorem rest_le {m j : Nat} (hj : j ≤ m + 3) : restN m j ≤ m + 2 := by
  unfold restN
  split <;> omega
theorem wys (b l m : Nat) (hm : m ≤ 35) (s : GS) (hs : GOk b l s) (id : Int) (j : Nat) (hj : j ≤ m + 3) (hl : Lv s.1 (m + 2) id) : Wys b l m s id j := by
  have p9 : ∀ k, k < 9 → ∀ s' : GS, s.1 <+: s'.1 → GOk b l s' → s'.1 <+: (partG (growQ b l m) (sxt s.1 id) m j s' k).1.1 ∧ GOk b l (partG (growQ b l m) (sxt s.1 id) m j s' k).1 ∧ Lv (partG (growQ b l m) (sxt s.1 id) m j s' k).1.1 m (partG (growQ b l m) (sxt s.1 id) m j s' k).2 := fun k hk s' he hs' => by
    unfold partG
    have hv : ∀ i, i < 4 → Lv s'.1 m (wf (sxt s.1 id) 4 k i) := fun i _ => by
      unfold wf
      split
      · exact (sxt_lv hs.inv hl _).ext he
      split
      · exact (sxt_lv hs.inv hl _).ext he
      split
      · exact (sxt_lv hs.inv hl _).ext he
      · exact (sxt_lv hs.inv hl _).ext he
    split
    · have := four_of' b l m (by omega) s' hs' (wf (sxt s.1 id) 4 k) hv (restN m j) (rest_le hj)
      exact ⟨this.1, this.2.1, this.2.2.1⟩
    · exact mid_of b l m (by omega) s' hs' (wf (sxt s.1 id) 4 k) hv
  refine ⟨p9, fun k hk s' he hs' => ?_⟩
  have w9 := wy_of (N := 9) hs p9 9 (Nat.le_refl _)
  have hv : ∀ i, i < 4 → Lv s'.1 m (wf (outOf (partG (growQ b l m) (sxt s.1 id) m j) s) 3 k i) := fun i _ => by
    unfold wf at4
    split
    · exact (w9.lv _ (by omega)).ext he
    split
    · exact (w9.lv _ (by omega)).ext he
    split
    · exact (w9.lv _ (by omega)).ext he
    · exact (w9.lv _ (by omega)).ext he
  have := four_of' b l m (by omega) s' hs' (wf (outOf (partG (growQ b l m) (sxt s.1 id) m j) s) 3 k) hv (restN m j) (rest_le hj)
  exact ⟨this.1, this.2.1, this.2.2.1⟩
end Go.Proofs.YtgimphkamjojpaaDoor.Qd
namespace Go.Proofs.YtgimphkamjojpaaDoor
open Go.RowKit Ti Qd Go.Maps Go.WideMaps Ru

/-- grow's contract, at a level -/
def GrowC (B G P M b l room m : Nat) : Prop := ∀ (w : World) (s : GS) (H : Nat → Prop) (id : Int) (j : Nat), Gr B w G P M b l s room H → GOk b l s → Lv s.1 (m + 1) id → j ≤ m + 2 → (growQ b l m s id j).1.1.length ≤ room →
  Calls Tryd.prog 26 #[.pointer (some ⟨G, 0, none⟩), .int .i64 id, .int .i64 (j : Int)] w fun e w' => e = .returned (.tuple #[.int .i64 (growQ b l m s id j).2, .nilIface]) ∧ Gt B w G P M b l room H (growQ b l m s id j).1 w'
set_option maxRecDepth 100000 in
set_option maxHeartbeats 4000000 in
theorem growFour_ok {B : Nat} {w : World} {G P M b l : Nat} {s : GS} {room : Nat} {H : Nat → Prop} (m : Nat) (hm : m ≤ 36) (hC : GrowC B G P M b l room m) (h : Gr B w G P M b l s room H) (hk : GOk b l s) (f : Nat → Int) (hf : ∀ i, i < 4 → Lv s.1 m (f i)) (j : Nat) (hj : j ≤ m + 2)
    (hr : (fourG (growQ b l m) j s (f 0) (f 1) (f 2) (f 3)).1.1.length ≤ room) :
    Calls Tryd.prog 58 #[.pointer (some ⟨G, 0, none⟩), vb4 f, .int .i64 (j : Int)] w fun e w' => e = .returned (.tuple #[.int .i64 (fourG (growQ b l m) j s (f 0) (f 1) (f 2) (f 3)).2, .nilIface]) ∧ Gt B w G P M b l room H (fourG (growQ b l m) j s (f 0) (f 1) (f 2) (f 3)).1 w' := by
  have HS : Hid (Gs B w H G P M b l room s [(w.heap.size, ob4 f)] (w.alloc (.cells #[.int .i64 (f 0), .int .i64 (f 1), .int .i64 (f 2), .int .i64 (f 3)] 71))) := Lib.hid ((Gs.start h).alloc' (ob4 f) rfl)
  have h1 := four_of' b l m hm s hk f hf j hj
  have h2 := node_of b l m hm s hk f hf
  have HND := Lib.hid (fun (wx : World) (Hx : Nat → Prop) (hx : St B wx P s.1 room Hx) => node_ok hx (f 0) (f 1) (f 2) (f 3) _ (four_of hf) (by omega) (Nat.le_trans h1.2.2.2.length_le hr))
  have HGR := Lib.hid (fun (wx : World) (Hx : Nat → Prop) (hx : Gr B wx G P M b l (nodeG s (f 0) (f 1) (f 2) (f 3)).1 room Hx) => hC wx _ Hx _ j hx h2.2.1 h2.2.2 hj hr)
  clear hC h hk hf hr hj h1 h2 hm
  have HQ := Lib.hid (show ∀ r : GS × Int, r = nodeG s (f 0) (f 1) (f 2) (f 3) → r.1 = (put s.1 (joinQ s.1 (f 0) (f 1) (f 2) (f 3)), s.2) ∧ r.2 = nr s.1 (joinQ s.1 (f 0) (f 1) (f 2) (f 3)) from fun r e => by rw [e]; exact ⟨rfl, rfl⟩)
  unfold fourG
  go_enter Tryd.func58, Tryd.ntmps58
  go_wp2_with fail
  generalize World.alloc _ _ = W at HS ⊢
  have HD := Lib.hid HS.out.drew
  have KD := Lib.hid (And.intro HD.out.ptr (row4 HD.out.b0))
  obtain ⟨Hs, hst, hgo⟩ := HD.out.store
  have HC := Lib.hid (HND.out _ _ hst)
  have HGO := Lib.hid hgo
  clear hst hgo HND
  go_region_held3 (fun w' => w'.cell? ⟨G, 0, none⟩ = some (.pointer (some ⟨P, 0, none⟩)) ∧ w'.cell? ⟨w.heap.size, 0, none⟩ = some (.int .i64 (f 0)) ∧ w'.cell? ⟨w.heap.size, 1, none⟩ = some (.int .i64 (f 1)) ∧ w'.cell? ⟨w.heap.size, 2, none⟩ = some (.int .i64 (f 2)) ∧ w'.cell? ⟨w.heap.size, 3, none⟩ = some (.int .i64 (f 3))) (first | with_reducible exact KD.out | with_reducible exact ks)
    ((go_at_call 36; with_reducible refine HC.out.mono ?_; rintro e w4 ⟨rfl, hg⟩; have HS4 := Lib.hid (HGO.out _ _ hg); have ks := And.intro HS4.out.ptr (row4 HS4.out.b0); clear hg))
  obtain ⟨H5, h5, h6⟩ := HS4.out.call
  have HG5 := Lib.hid (HGR.out _ _ h5)
  have HX := Lib.hid h6
  clear h5 h6 ks HC HGO HGR KD HD HS
  go_wp2_with fail
  refine HG5.out.mono ?_
  rintro e w6 ⟨rfl, hg⟩
  have HS6 := Lib.hid (HX.out _ _ hg)
  clear hg
  go_wp2
  go_ret2
  exact ⟨rfl, HS6.out.gt⟩
end Go.Proofs.YtgimphkamjojpaaDoor

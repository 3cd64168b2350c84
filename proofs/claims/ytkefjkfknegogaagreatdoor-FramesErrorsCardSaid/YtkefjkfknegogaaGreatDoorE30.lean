/-
  THE WALKS of the maker's growFour and of what finds a part of one's own. Conditions: the grower lies in memory, what goes on in squares does so, and there is room.
  THE WALK of what finds a part of one's own; both ways to find a part. Conditions: the grower lies in memory, what goes on in squares does so, and there is room.
-/
import Derived.Test.YtkefjkfknegogaaGreatDoorE29
import Derived.Test.YtkefjkfknegogaaGreatDoorE04
namespace Go.Proofs.YtkefjkfknegogaaGreatDoor
open Go.RowKit Ti Qd Go.Maps Go.WideMaps Ru

/-- grow's contract, at a level -/
def GrowC (B G P M b l room m : Nat) : Prop := ∀ (w : World) (s : GS) (H : Nat → Prop) (id : Int) (j : Nat), Gr B w G P M b l s room H → GOk b l s → Lv s.1 (m + 1) id → j ≤ m + 2 → (growQ b l m s id j).1.1.length ≤ room →
  Calls Tryz.prog 44 #[.pointer (some ⟨G, 0, none⟩), .int .i64 id, .int .i64 (j : Int)] w fun e w' => e = .returned (.tuple #[.int .i64 (growQ b l m s id j).2, .nilIface]) ∧ Gt B w G P M b l room H (growQ b l m s id j).1 w'
set_option maxRecDepth 100000 in
set_option maxHeartbeats 4000000 in
theorem growFour_ok {B : Nat} {w : World} {G P M b l : Nat} {s : GS} {room : Nat} {H : Nat → Prop} (m : Nat) (hm : m ≤ 36) (hC : GrowC B G P M b l room m) (h : Gr B w G P M b l s room H) (hk : GOk b l s) (f : Nat → Int) (hf : ∀ i, i < 4 → Lv s.1 m (f i)) (j : Nat) (hj : j ≤ m + 2)
    (hr : (fourG (growQ b l m) j s (f 0) (f 1) (f 2) (f 3)).1.1.length ≤ room) :
    Calls Tryz.prog 88 #[.pointer (some ⟨G, 0, none⟩), vb4 f, .int .i64 (j : Int)] w fun e w' => e = .returned (.tuple #[.int .i64 (fourG (growQ b l m) j s (f 0) (f 1) (f 2) (f 3)).2, .nilIface]) ∧ Gt B w G P M b l room H (fourG (growQ b l m) j s (f 0) (f 1) (f 2) (f 3)).1 w' := by
  have HS : Hid (Gs B w H G P M b l room s [(w.heap.size, ob4 f)] (w.alloc (.cells #[.int .i64 (f 0), .int .i64 (f 1), .int .i64 (f 2), .int .i64 (f 3)] 97))) := Lib.hid ((Gs.start h).alloc' (ob4 f) rfl)
  have h1 := four_of' b l m hm s hk f hf j hj
  have h2 := node_of b l m hm s hk f hf
  have HND := Lib.hid (fun (wx : World) (Hx : Nat → Prop) (hx : St B wx P s.1 room Hx) => node_ok hx (f 0) (f 1) (f 2) (f 3) _ (four_of hf) (by omega) (Nat.le_trans h1.2.2.2.length_le hr))
  have HGR := Lib.hid (fun (wx : World) (Hx : Nat → Prop) (hx : Gr B wx G P M b l (nodeG s (f 0) (f 1) (f 2) (f 3)).1 room Hx) => hC wx _ Hx _ j hx h2.2.1 h2.2.2 hj hr)
  clear hC h hk hf hr hj h1 h2 hm
  have HQ := Lib.hid (show ∀ r : GS × Int, r = nodeG s (f 0) (f 1) (f 2) (f 3) → r.1 = (put s.1 (joinQ s.1 (f 0) (f 1) (f 2) (f 3)), s.2) ∧ r.2 = nr s.1 (joinQ s.1 (f 0) (f 1) (f 2) (f 3)) from fun r e => by rw [e]; exact ⟨rfl, rfl⟩)
  unfold fourG
  go_enter Tryz.func88, Tryz.ntmps88
  go_wp2_with fail
  generalize World.alloc _ _ = W at HS ⊢
  have HD := Lib.hid HS.out.drew
  have KD := Lib.hid (And.intro HD.out.ptr (row4 HD.out.b0))
  obtain ⟨Hs, hst, hgo⟩ := HD.out.store
  have HC := Lib.hid (HND.out _ _ hst)
  have HGO := Lib.hid hgo
  clear hst hgo HND
  go_region_held3 (fun w' => w'.cell? ⟨G, 0, none⟩ = some (.pointer (some ⟨P, 0, none⟩)) ∧ w'.cell? ⟨w.heap.size, 0, none⟩ = some (.int .i64 (f 0)) ∧ w'.cell? ⟨w.heap.size, 1, none⟩ = some (.int .i64 (f 1)) ∧ w'.cell? ⟨w.heap.size, 2, none⟩ = some (.int .i64 (f 2)) ∧ w'.cell? ⟨w.heap.size, 3, none⟩ = some (.int .i64 (f 3))) (first | with_reducible exact KD.out | with_reducible exact ks)
    ((go_at_call 35; with_reducible refine HC.out.mono ?_; rintro e w4 ⟨rfl, hg⟩; have HS4 := Lib.hid (HGO.out _ _ hg); have ks := And.intro HS4.out.ptr (row4 HS4.out.b0); clear hg))
  obtain ⟨H5, h5, h6⟩ := HS4.out.call
  have HG5 := Lib.hid (HGR.out _ _ h5)
  have HX := Lib.hid h6
  clear h5 h6 ks HC HGO HGR KD HD HS
  go_wp2_with fail
  refine HG5.out.mono ?_
  rintro e w6 ⟨rfl, hg⟩
  have HS6 := Lib.hid (HX.out _ _ hg)
  clear hg
  go_wp2
  go_ret2
  exact ⟨rfl, HS6.out.gt⟩
end Go.Proofs.YtkefjkfknegogaaGreatDoor
namespace Go.Proofs.YtkefjkfknegogaaGreatDoor
open Go.RowKit Ti Qd Go.Maps Go.WideMaps Ru

set_option maxRecDepth 100000 in
set_option maxHeartbeats 4000000 in
theorem part1_ok {B : Nat} {w : World} {G P M b l : Nat} {s : GS} {room : Nat} {H : Nat → Prop} (m : Nat) (hm : m ≤ 36) (hC : GrowC B G P M b l room m) (h : Gr B w G P M b l s room H) (hk : GOk b l s) (f : Nat → Int) (hf : ∀ i, i < 4 → Lv s.1 m (f i)) (j : Nat) (hj : j ≤ m + 2)
    (hr : (fourG (growQ b l m) j s (f 0) (f 1) (f 2) (f 3)).1.1.length ≤ room) (b3 b12 : Nat) (c3 : w.cell? ⟨b3, 0, none⟩ = some (.pointer (some ⟨G, 0, none⟩))) (c12 : w.cell? ⟨b12, 0, none⟩ = some (.int .i64 (j : Int))) :
    Calls Tryz.prog 87 #[vb4 f, .pointer (some ⟨b3, 0, none⟩), .pointer (some ⟨b12, 0, none⟩)] w fun e w' => e = .returned (.tuple #[.int .i64 (fourG (growQ b l m) j s (f 0) (f 1) (f 2) (f 3)).2, .nilIface]) ∧ Gt B w G P M b l room H (fourG (growQ b l m) j s (f 0) (f 1) (f 2) (f 3)).1 w' := by
  have HS : Hid (Gs B w H G P M b l room s [(w.heap.size, ob4 f)] (w.alloc (.cells #[.int .i64 (f 0), .int .i64 (f 1), .int .i64 (f 2), .int .i64 (f 3)] 97))) := Lib.hid ((Gs.start h).alloc' (ob4 f) rfl)
  obtain ⟨H1, h1, h2⟩ := HS.out.call
  have HC := Lib.hid (growFour_ok m hm hC h1 hk f hf j hj hr)
  have HX := Lib.hid h2
  obtain ⟨d0, d1, d2, d3⟩ := row4 HS.out.b0
  have c3 := cell_al (.cells #[.int .i64 (f 0), .int .i64 (f 1), .int .i64 (f 2), .int .i64 (f 3)] 97) c3
  have c12 := cell_al (.cells #[.int .i64 (f 0), .int .i64 (f 1), .int .i64 (f 2), .int .i64 (f 3)] 97) c12
  clear h1 h2 h hk hf hr hj hm hC
  go_enter Tryz.func87, Tryz.ntmps87
  go_wp2_with fail
  refine HC.out.mono ?_
  rintro e w6 ⟨rfl, hg⟩
  have HS6 := Lib.hid (HX.out _ _ hg)
  clear hg c3 c12 d0 d1 d2 d3
  go_wp2
  go_ret2
  exact ⟨rfl, HS6.out.gt⟩
theorem wf_lv {L M : List Sq} (hi : Inv L) (he : L <+: M) {m : Nat} {id : Int} (hl : Lv L (m + 2) id) (k : Nat) : ∀ i, i < 4 → Lv M m (wf (sxt L id) 4 k i) := fun i _ => by
  unfold wf
  split
  · exact (sxt_lv hi hl _).ext he
  split
  · exact (sxt_lv hi hl _).ext he
  split
  · exact (sxt_lv hi hl _).ext he
  · exact (sxt_lv hi hl _).ext he
/-- a part that is a middle -/
theorem partC_mid {B : Nat} {w : World} {G P M b l : Nat} {s : GS} {room : Nat} {H : Nat → Prop} (m : Nat) (hm : m ≤ 35) (hk : GOk b l s) (id : Int) (hl : Lv s.1 (m + 2) id) (j : Nat) (hj : j ≤ m + 3) (hf : ¬ j = m + 3) (hr : (stOf (partG (growQ b l m) (sxt s.1 id) m j) s 9).1.length ≤ room) :
    PartC B w G P M b l s room H (sxt s.1 id) 54 #[.pointer (some ⟨G, 0, none⟩)] #[] (partG (growQ b l m) (sxt s.1 id) m j) := by
  intro k h9 wr H' hg _
  have hw := (wys b l m hm s hk id j hj hl).p9
  have w1 := wy_of hk hw k (by omega)
  have le := (Wy.le hk hw (k + 1) (9 - (k + 1)) (by omega)).length_le
  rw [show k + 1 + (9 - (k + 1)) = 9 by omega] at le
  have e : ∀ s', partG (growQ b l m) (sxt s.1 id) m j s' k = midG s' (wf (sxt s.1 id) 4 k 0) (wf (sxt s.1 id) 4 k 1) (wf (sxt s.1 id) 4 k 2) (wf (sxt s.1 id) 4 k 3) := fun s' => by
    unfold partG
    rw [if_neg hf]
    rfl
  have hr2 : (partG (growQ b l m) (sxt s.1 id) m j (stOf (partG (growQ b l m) (sxt s.1 id) m j) s k) k).1.1.length ≤ room := Nat.le_trans le hr
  rw [e] at hr2 ⊢
  exact mid_any hg m (by omega) (wf (sxt s.1 id) 4 k) (wf_lv hk.inv w1.ext hl k) hr2
/-- a part that goes on itself -/
theorem partC_far {B : Nat} {w : World} {G P M b l : Nat} {s : GS} {room : Nat} {H : Nat → Prop} (m : Nat) (hm : m ≤ 35) (hC : GrowC B G P M b l room m) (hk : GOk b l s) (id : Int) (hl : Lv s.1 (m + 2) id) (j : Nat) (hj : j ≤ m + 3) (hf : j = m + 3) (hr : (stOf (partG (growQ b l m) (sxt s.1 id) m j) s 9).1.length ≤ room)
    (b3 b12 : Nat) (c3 : w.cell? ⟨b3, 0, none⟩ = some (.pointer (some ⟨G, 0, none⟩))) (c12 : w.cell? ⟨b12, 0, none⟩ = some (.int .i64 (restN m j : Nat))) (n3 : ¬ H b3) (n12 : ¬ H b12) :
    PartC B w G P M b l s room H (sxt s.1 id) 87 #[] #[.pointer (some ⟨b3, 0, none⟩), .pointer (some ⟨b12, 0, none⟩)] (partG (growQ b l m) (sxt s.1 id) m j) := by
  intro k h9 wr H' hg hst
  have hw := (wys b l m hm s hk id j hj hl).p9
  have w1 := wy_of hk hw k (by omega)
  have le := (Wy.le hk hw (k + 1) (9 - (k + 1)) (by omega)).length_le
  rw [show k + 1 + (9 - (k + 1)) = 9 by omega] at le
  have e : ∀ s', partG (growQ b l m) (sxt s.1 id) m j s' k = fourG (growQ b l m) (restN m j) s' (wf (sxt s.1 id) 4 k 0) (wf (sxt s.1 id) 4 k 1) (wf (sxt s.1 id) 4 k 2) (wf (sxt s.1 id) 4 k 3) := fun s' => by
    unfold partG
    rw [if_pos hf]
    rfl
  have hr2 : (partG (growQ b l m) (sxt s.1 id) m j (stOf (partG (growQ b l m) (sxt s.1 id) m j) s k) k).1.1.length ≤ room := Nat.le_trans le hr
  rw [e] at hr2 ⊢
  exact part1_ok m (by omega) hC hg w1.ok (wf (sxt s.1 id) 4 k) (wf_lv hk.inv w1.ext hl k) (restN m j) (rest_le hj) hr2 b3 b12 (hst.cell c3 n3) (hst.cell c12 n12)
end Go.Proofs.YtkefjkfknegogaaGreatDoor

/-
  THE WALKS of New, Leaf, Node, Count, Len, Empty where there is room. Conditions: the store lies in memory.
-/
import Derived.Test.YtifkhmcdgmnipaaGreatDoorR18
namespace Go.Proofs.YtifkhmcdgmnipaaGreatDoor
open Go.RowKit Ti Qd Go.Maps Go.WideMaps

def Made (w : World) (room : Nat) (e : Ending) (w' : World) : Prop := ∃ P H, e = .returned (.tuple #[.pointer (some ⟨P, 0, none⟩), .nilIface]) ∧ St w.heap.size w' P [] room H ∧ Below w.heap.size w w'
set_option maxRecDepth 100000 in
set_option maxHeartbeats 1000000 in
theorem new_ok (room : Nat) (w : World) (h1 : 1 ≤ room) (h2 : room ≤ 65536) : Calls Tryz.prog 9 #[.int .i64 room] w (Made w room) := by
  have n1 : ¬ (room : Int) < 1 := by omega
  have n2 : ¬ (65536 : Int) < room := by omega
  have HM := Lib.hid (World.ownsMap_made (H := Unit) w Tryz.prog 76 (plainElem Tryz.prog 3))
  have HH := Lib.hid (And.intro h1 h2)
  clear h1 h2
  have hmm := @run_makeMap Tryz.prog
  go_enter Tryz.func9, Tryz.ntmps9
  go_wp2
  go_ret2
  have hb : ((w.alloc (.map #[] 0)).alloc (.cells #[.int .i64 room, .slice none 0 0, .map (some w.heap.size)] 70)).heap[w.heap.size + 1]? = some (.cells #[.int .i64 room, .slice none 0 0, .map (some w.heap.size)] 70 (0, 0)) := by
    have := heap_alloc_new (w.alloc (.map #[] 0)) (.cells #[.int .i64 room, .slice none 0 0, .map (some w.heap.size)] 70)
    simpa using this
  have c : ∀ i v, #[Value.int .i64 (room : Int), .slice none 0 0, .map (some w.heap.size)][i]? = some v → ((w.alloc (.map #[] 0)).alloc (.cells #[.int .i64 room, .slice none 0 0, .map (some w.heap.size)] 70)).cell? ⟨w.heap.size + 1, i, none⟩ = some v := fun i v hv => by
    rw [cell_of_row _ _ i _ _ _ hb]
    simpa using hv
  refine ⟨w.heap.size + 1, Hs (w.heap.size + 1) w.heap.size (.slice none 0 0), rfl, ⟨w.heap.size, .slice none 0 0, ⟨c 0 _ rfl, c 1 _ rfl, c 2 _ rfl, fun i => frozen_of_row _ _ i _ _ hb, World.ownsRow_nil _ _ _ _, ⟨_, HM.out.alloc _, mpQ_nil⟩, by omega, Nat.le_refl _, by omega, ?_, ?_, inv_nil, by simp, HH.out.2⟩, rfl⟩, ?_⟩
  · simp [Value.ownBlock]
  · simp [Value.ownBlock]
  · exact (alX _ _).trans ((alX _ _).mono (by simp))
theorem St.inv {B : Nat} {w : World} {P : Nat} {L : List Sq} {room : Nat} {H : Nat → Prop} (h : St B w P L room H) : Inv L := by
  obtain ⟨M, sv, hs, _⟩ := h
  exact hs.inv
theorem St.small {B : Nat} {w : World} {P : Nat} {L : List Sq} {room : Nat} {H : Nat → Prop} (h : St B w P L room H) : L.length ≤ 65536 := by
  obtain ⟨M, sv, hs, _⟩ := h
  have := hs.rm
  have := hs.r6
  omega
set_option maxRecDepth 100000 in
set_option maxHeartbeats 1000000 in
theorem leaf_ok {B : Nat} {w : World} {P : Nat} {L : List Sq} {room : Nat} {H : Nat → Prop} (h : St B w P L room H) (t : T6) (hr : (put L (leafQ t)).length ≤ room) :
    Calls Tryz.prog 11 #[.pointer (some ⟨P, 0, none⟩), .int .u64 (rg t)] w fun e w' => e = .returned (.tuple #[.int .i64 (nr L (leafQ t)), .nilIface]) ∧ Goes B w P room H (put L (leafQ t)) w' := by
  have HN := Lib.hid (number_any h (leafQ t) (leaf_bd L t) (.inl rfl) hr)
  clear h hr
  generalize nr L (leafQ t) = k at *
  go_enter Tryz.func11, Tryz.ntmps11
  go_wp2_with fail
  refine (count_any t _).mono ?_
  rintro e w1 ⟨rfl, rfl⟩
  go_wp2_with fail
  refine HN.out.mono ?_
  rintro e w1 ⟨rfl, hg⟩
  have HG := Lib.hid hg
  clear hg
  go_wp2
  go_ret2
  exact ⟨rfl, HG.out⟩
set_option maxRecDepth 100000 in
set_option maxHeartbeats 1000000 in
theorem node_ok {B : Nat} {w : World} {P : Nat} {L : List Sq} {room : Nat} {H : Nat → Prop} (h : St B w P L room H) (a b c d l : Int) (hf : Four L a b c d l) (hl : l < 40) (hr : (put L (joinQ L a b c d)).length ≤ room) :
    Calls Tryz.prog 12 #[.pointer (some ⟨P, 0, none⟩), .agg #[.int .i64 a, .int .i64 b, .int .i64 c, .int .i64 d]] w fun e w' => e = .returned (.tuple #[.int .i64 (nr L (joinQ L a b c d)), .nilIface]) ∧ Goes B w P room H (put L (joinQ L a b c d)) w' := by
  have hi := h.inv
  have h3 : 3 ≤ l := by have := (hi.bd hf.o0).l0; rw [hf.l0] at this; exact this
  have hfq : Fq L a b c d (at' L a) (at' L b) (at' L c) (at' L d) := ⟨rfl, rfl, rfl, rfl, by rw [hf.l0, hf.l1], by rw [hf.l0, hf.l2], by rw [hf.l0, hf.l3], by rw [hf.l0]; exact h3, by rw [hf.l0]; omega, ⟨(hi.bd hf.o0).c0, (hi.bd hf.o0).c1⟩, ⟨(hi.bd hf.o1).c0, (hi.bd hf.o1).c1⟩, ⟨(hi.bd hf.o2).c0, (hi.bd hf.o2).c1⟩, ⟨(hi.bd hf.o3).c0, (hi.bd hf.o3).c1⟩⟩
  have HJ := Lib.hid (fun (w' : World) (h' : St B w' P L room H) => joined_q h' a b c d l _ _ _ _ hf hfq (by rw [hf.l0]; exact hl))
  have HN := Lib.hid (fun (w' : World) (h' : St B w' P L room H) => number_any h' (joinQ L a b c d) (hf.bd hi h3 hl) (hf.gd h3 hl) hr)
  have HS := Lib.hid h
  clear h hf hr hi hfq
  generalize nr L (joinQ L a b c d) = k at *
  generalize put L (joinQ L a b c d) = L' at *
  generalize joinQ L a b c d = q at *
  go_enter Tryz.func12, Tryz.ntmps12
  go_wp2_with fail
  refine (HJ.out _ (HS.out.below (alX _ _) (Nat.le_refl _))).mono ?_
  rintro e w1 ⟨rfl, hb⟩
  have HB := Lib.hid ((alX _ _).trans (hb.mono (by simp)))
  clear hb
  unfold qv at *
  have HB2 := Lib.hid (HB.out.trans ((alX w1 (bq q)).mono HB.out.size))
  unfold bq at *
  go_wp2_with fail
  refine (HN.out _ (HS.out.below HB2.out (Nat.le_refl _))).mono ?_
  rintro e w2 ⟨rfl, hg⟩
  have HG := Lib.hid (Goes.trans (.of_below HB2.out) hg)
  clear hg
  go_wp2
  go_ret2
  exact ⟨rfl, HG.out⟩
set_option maxRecDepth 100000 in
set_option maxHeartbeats 1000000 in
theorem count_ok {B : Nat} {w : World} {P : Nat} {L : List Sq} {room : Nat} {H : Nat → Prop} (h : St B w P L room H) (id : Int) (ho : Ok L id) :
    Calls Tryz.prog 33 #[.pointer (some ⟨P, 0, none⟩), .int .i64 id] w fun e w' => e = .returned (.tuple #[.int .i64 (at' L id).cnt, .nilIface]) ∧ Below w.heap.size w w' := by
  have HQ := Lib.hid (square_ok h id ho)
  clear h
  unfold qv at *
  generalize at' L id = q at *
  go_enter Tryz.func33, Tryz.ntmps33
  go_wp2_with fail
  refine HQ.out.mono ?_
  rintro e w1 ⟨rfl, hb⟩
  have HB := Lib.hid (hb.trans ((alX w1 (bq q)).mono hb.size))
  clear hb
  unfold bq at *
  go_wp2
  go_ret2
  exact ⟨rfl, HB.out⟩
theorem emp_ext (L : List Sq) : ∀ k m, (emp L k).1 <+: (emp L (k + m)).1
  | _, 0 => List.prefix_rfl
  | k, m + 1 => (emp_ext L k m).trans (put_ext _ _)
set_option maxRecDepth 100000 in
set_option maxHeartbeats 2000000 in
theorem empty_ok {B : Nat} {w : World} {P : Nat} {L : List Sq} {room : Nat} {H : Nat → Prop} (h : St B w P L room H) (n : Nat) (lv : Int) (hlv : lv = n + 3) (hn : n ≤ 37) (hr : (emp L n).1.length ≤ room) :
    Calls Tryz.prog 15 #[.pointer (some ⟨P, 0, none⟩), .int .i64 lv] w fun e w' => e = .returned (.tuple #[.int .i64 (emp L n).2, .nilIface]) ∧ Goes B w P room H (emp L n).1 w' := by
  have hi := h.inv
  have HL0 := Lib.hid (leaf_ok h 0#64 (by
    have := (emp_ext L 0 n).length_le
    rw [Nat.zero_add] at this
    exact Nat.le_trans this hr))
  have HEX := Lib.hid (show ∀ k, k < n → ∀ {H' : Nat → Prop} {wr : World}, St B wr P (emp L k).1 room H' → Calls Tryz.prog 12 #[.pointer (some ⟨P, 0, none⟩), .agg #[.int .i64 (emp L k).2, .int .i64 (emp L k).2, .int .i64 (emp L k).2, .int .i64 (emp L k).2]] wr fun e w' => e = .returned (.tuple #[.int .i64 (emp L (k + 1)).2, .nilIface]) ∧ Goes B wr P room H' (emp L (k + 1)).1 w' from fun k hk H' wr hs => by
    have he := emp_ok hi k (by omega)
    refine node_ok hs _ _ _ _ (k + 3) ⟨he.lv.1, he.lv.1, he.lv.1, he.lv.1, he.lv.2, he.lv.2, he.lv.2, he.lv.2⟩ (by omega) ?_
    have := (emp_ext L (k + 1) (n - (k + 1))).length_le
    rw [show k + 1 + (n - (k + 1)) = n by omega] at this
    exact Nat.le_trans this hr)
  clear h hi hr
  have n1 : ¬ lv < 3 := by omega
  have n2 : ¬ 40 < lv := by omega
  have n3 : 0 ≤ lv - 3 := by omega
  have n4 : lv ≤ 40 := by omega
  have HLV := Lib.hid hlv
  clear hlv
  go_enter Tryz.func15, Tryz.ntmps15
  go_wp2_with fail
  refine HL0.out.mono ?_
  rintro e w1 ⟨rfl, hg⟩
  have HG := Lib.hid (show Goes B w P room H (emp L 0).1 w1 from hg)
  have HE0 := Lib.hid (show (emp L 0).2 = nr L (leafQ 0#64) from rfl)
  clear hg
  go_wp2
  go_loopw [4, 5, 6, 7, 25] (fun v4 v5 v6 v7 i wr => ∃ k : Nat, k ≤ n ∧ v4 = .int .i64 0 ∧ v5 = .nilIface ∧ v6 = .int .i64 (emp L k).2 ∧ v7 = .nilIface ∧ i = .int .i64 k ∧ Hid (Goes B w P room H (emp L k).1 wr)) (fun _ _ _ _ i _ => n - (intOf i).toNat)
  case atStart => exact ⟨0, by omega, rfl, rfl, rfl, rfl, rfl, HG⟩
  case round =>
    clear HG
    obtain ⟨k, hk, rfl, rfl, rfl, rfl, rfl, HR⟩ := hrel
    by_cases hlt : k < n
    · have k1 : (k : Int) < lv - 3 := by have := HLV.out; omega
      obtain ⟨H', hs, ht⟩ := HR.out
      have HT := Lib.hid ht
      have HX := Lib.hid (HEX.out k hlt hs)
      clear hs ht
      generalize he1 : (emp L k).2 = x at *
      have HX1 := Lib.hid he1
      clear he1
      obtain ⟨y, hy⟩ : ∃ y, y = (emp L (k + 1)).2 := ⟨_, rfl⟩
      rw [← hy] at HX
      have HY := Lib.hid hy
      clear hy
      go_wp2_with fail
      refine HX.out.mono ?_
      rintro e w2 ⟨rfl, hg⟩
      have HG2 := Lib.hid (Goes.trans HT.out hg)
      clear hg
      go_wp2
      go_roundw
      case rel => exact ⟨k + 1, by omega, rfl, rfl, by rw [HY.out], rfl, by go_num, HG2⟩
      case measure => simp [intOf]; omega
    · obtain rfl : k = n := by omega
      have k1 : ¬ (k : Int) < lv - 3 := by have := HLV.out; omega
      go_wp2
      go_ret2
      exact ⟨rfl, HR.out⟩
end Go.Proofs.YtifkhmcdgmnipaaGreatDoor

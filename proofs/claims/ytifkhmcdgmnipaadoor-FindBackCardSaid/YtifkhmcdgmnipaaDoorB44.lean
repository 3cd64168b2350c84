/-
  THE WALK of In. Conditions: the store lies in memory, the library's table as its text lays it.
-/
import Derived.Test.YtifkhmcdgmnipaaDoorB43
namespace Go.Proofs.YtifkhmcdgmnipaaDoor
open Go.RowKit Ti Qd Ce Cl Go.Maps Go.WideMaps

theorem count_all {B P : Nat} {L : List Sq} {room : Nat} {H : Nat → Prop} {C M : Nat} {E : Cnr} : ∀ n, n ≤ 37 → CountP B P L room H C M E n
  | 0, h => fun id lo hi w hct hl ha => cnt_part 0 h hct id hl lo hi ha (fun lo hi W hct' _ _ => counted_tile hct' id hl lo hi)
  | n + 1, h => fun id lo hi w hct hl ha => cnt_part (n + 1) h hct id hl lo hi ha (fun lo hi W hct' hk hw => counted_node n (by omega) (count_all n (by omega)) hct' id hl lo hi hk hw)
set_option maxRecDepth 100000 in
set_option maxHeartbeats 1000000 in
theorem in_ok {B P : Nat} {L : List Sq} {room : Nat} {H : Nat → Prop} {w : World} (hs : St B w P L room H) (hT : TabZ w) (n : Nat) (hn : n ≤ 37) (id : Int) (hl : Lv L n id) (lo hi : Cel) :
    Calls Tryd.prog 13 #[.pointer (some ⟨P, 0, none⟩), .int .i64 id, cv lo, cv hi] w fun e w' => e = .returned (.tuple #[.int .i64 (inV L n id lo hi), .nilIface]) ∧ Below w.heap.size w w' := by
  have hb1 : Below w.heap.size w ((w.alloc (ca2 lo)).alloc (ca2 hi)) := bstep (alX w _) (alX _ _)
  have e1 : ((w.alloc (ca2 lo)).alloc (ca2 hi)).heap.size = w.heap.size + 1 + 1 := by simp
  obtain ⟨W1, hW1⟩ : ∃ W1, W1 = (w.alloc (ca2 lo)).alloc (ca2 hi) := ⟨_, rfl⟩
  rw [← hW1] at hb1 e1
  have hm := World.ownsMap_made (H := Unit) W1 Tryd.prog 84 (plainElem Tryd.prog 3)
  have e2 : (W1.alloc (.map #[] 0)).heap.size = w.heap.size + 1 + 1 + 1 := by rw [World.size_alloc, e1]
  have hC := heap_alloc_new (W1.alloc (.map #[] 0)) (.cells #[.pointer (some ⟨P, 0, none⟩), .map (some W1.heap.size)] 81)
  rw [e2, e1] at hC
  have hbM : Below w.heap.size w ((W1.alloc (.map #[] 0)).alloc (.cells #[.pointer (some ⟨P, 0, none⟩), .map (some W1.heap.size)] 81)) := bstep (bstep hb1 (alX _ _)) (alX _ _)
  rw [e1] at hbM
  have hkn : KAtP L (cnr n lo hi) ((W1.alloc (.map #[] 0)).alloc (.cells #[.pointer (some ⟨P, 0, none⟩), .map (some (w.heap.size + 1 + 1))] 81)) (w.heap.size + 1 + 1) := by
    rw [e1] at hm
    exact ⟨_, [], hm.alloc _, mpP_nil L, List.nodup_nil, fun k hk => by cases hk⟩
  have hct : Ct B P L room H (w.heap.size + 1 + 1 + 1) (w.heap.size + 1 + 1) (cnr n lo hi) ((W1.alloc (.map #[] 0)).alloc (.cells #[.pointer (some ⟨P, 0, none⟩), .map (some (w.heap.size + 1 + 1))] 81)) :=
    ⟨hs.below hbM (Nat.le_refl _), hC, hkn, fun h => by have := (hs.lt _ h).2; omega, by omega, hT.below hbM, by have := hT.lt; omega⟩
  have HCT := Lib.hid (count_all (B := B) (P := P) (L := L) (room := room) (H := H) (C := w.heap.size + 1 + 1 + 1) (M := w.heap.size + 1 + 1) (E := cnr n lo hi) n hn id lo hi _ hct hl (ask_top n lo hi))
  have HB := Lib.hid hbM
  have hmm := @run_makeMap Tryd.prog
  subst hW1
  clear hb1 e1 e2 hC hkn hct hs hT hl hm hbM
  unfold pv cv at *
  simp only at HCT
  generalize inV L n id lo hi = x at *
  obtain ⟨lx, ly⟩ := lo
  obtain ⟨hx, hy⟩ := hi
  go_enter Tryd.func13, Tryd.ntmps13
  go_wp2_with fail
  refine HCT.out.mono ?_
  rintro e w2 ⟨rfl, hg⟩
  have HX := Lib.hid (HB.out.trans (hg.s.below (B := w.heap.size) (fun b hb => by have : b = w.heap.size + 1 + 1 := hb; omega) HB.out.size))
  clear hg HCT
  go_wp2
  go_ret2
  exact ⟨rfl, HX.out⟩
end Go.Proofs.YtifkhmcdgmnipaaDoor

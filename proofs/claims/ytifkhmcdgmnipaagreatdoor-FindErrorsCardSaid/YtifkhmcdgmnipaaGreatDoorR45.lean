/-
  THE STATEMENTS' OWN sure; what stands in laws beside. Condition: the library's table and the near sides lie as the texts lay them.
-/
import Derived.Test.YtifkhmcdgmnipaaGreatDoorR44
namespace Go.Proofs.YtifkhmcdgmnipaaGreatDoor.Qd
open Ti Ce
theorem list_one {α : Type} {l : List α} {x : α} (hd : l.Nodup) (h : ∀ c, c ∈ l ↔ c = x) : l = [x] := by
  cases l with
  | nil => exact absurd ((h x).2 rfl) List.not_mem_nil
  | cons a r =>
    have ha := (h a).1 (by simp)
    subst ha
    cases r with
    | nil => rfl
    | cons b t =>
      have hb := (h b).1 (by simp)
      subst hb
      simp at hd
theorem of_room {L : List Sq} (hi : Inv L) {n : Nat} (hn : n ≤ 37) {l : List Cel} (hc : ∀ c ∈ l, InS n c) {room : Nat} (hr : L.length + (n + 1) + l.length * (n + 1) ≤ room) : ∀ k, k ≤ l.length → (ofL n (l.take k) (emp L n)).1.length ≤ room := by
  intro k hk
  have he := emp_ok hi n hn
  have h := (of_ok he.inv hn he.lv l hc k hk).len
  have h2 := he.len
  have h3 : (l.take k).length * (n + 1) ≤ l.length * (n + 1) := Nat.mul_le_mul_right _ (by rw [List.length_take]; omega)
  have e0 : ofL n (l.take k) ((emp L n).1, (emp L n).2) = ofL n (l.take k) (emp L n) := rfl
  rw [e0] at h
  omega
theorem box_one {l : List Cel} {x lo hi : Cel} (hl : l = [x]) (h : BoxIs l lo hi) : lo = x ∧ hi = x := by
  subst hl
  obtain ⟨c1, m1, e1⟩ := h.l1
  obtain ⟨c2, m2, e2⟩ := h.l2
  obtain ⟨c3, m3, e3⟩ := h.h1
  obtain ⟨c4, m4, e4⟩ := h.h2
  rw [List.mem_singleton] at m1 m2 m3 m4
  subst m1 m2 m3 m4
  exact ⟨Prod.ext e1.symm e2.symm, Prod.ext e3.symm e4.symm⟩
theorem inV_one {L : List Sq} {n : Nat} {id : Int} {x : Cel} (hl : lst L n id = [x]) : inV L n id x x = 1 := by
  unfold inV cin
  rw [hl]
  have : inb x x x = true := by unfold inb; simp
  rw [List.filter_cons_of_pos this]
  show min ((1 : Nat) : Int) (4611686018427387904 : Int) = 1
  omega
end Go.Proofs.YtifkhmcdgmnipaaGreatDoor.Qd
namespace Go.Proofs.YtifkhmcdgmnipaaGreatDoor
open Go.RowKit Ti Qd Ce Cl Go.Maps Go.WideMaps

set_option maxRecDepth 100000 in
theorem new_lit (room : Nat) (k : Int) (e : (room : Int) = k) (w : World) (h1 : 1 ≤ room) (h2 : room ≤ 65536) : Calls Tryz.prog 9 #[.int .i64 k] w (Made w room) := by
  subst e
  exact new_ok room w h1 h2
set_option maxRecDepth 100000 in
theorem of_lit {B P : Nat} {L : List Sq} {room : Nat} {H : Nat → Prop} {w : World} (hs : St B w P L room H) (n : Nat) (hn : n ≤ 37) (lv : Int) (hlv : lv = (n : Int) + 3) (a : Option Addr) (l : List Cel) (m cap : Nat) (hm : l.length = m) (hm2 : m ≤ 4096) (hl : Lyc w a l) (hd : ∀ b o, a = some ⟨b, o, none⟩ → ¬ H b) (hin : ∀ c ∈ l, InS n c) (hr : ∀ k, k ≤ l.length → (ofL n (l.take k) (emp L n)).1.length ≤ room) :
    Calls Tryz.prog 5 #[.pointer (some ⟨P, 0, none⟩), .int .i64 lv, .slice a m cap] w fun e w' => e = .returned (.tuple #[.int .i64 (ofL n l (emp L n)).2, .nilIface]) ∧ Goes B w P room H (ofL n l (emp L n)).1 w' := by
  subst hlv
  exact of_ok' hs n hn a l m cap hm hm2 hl hd hin hr
theorem lyc_new1 (w : World) (c : Cel) : Lyc (w.alloc (ca2 c)) (some ⟨w.heap.size, 0, none⟩) [c] := fun i d hd => by
  cases i with
  | zero =>
    have e : c = d := by simpa using hd
    subst e
    have h := heap_alloc_new w (ca2 c)
    exact ⟨w.heap.size, 0, rfl, cell_of_row _ _ 0 _ _ _ h, cell_of_row _ _ 1 _ _ _ h⟩
  | succ i => simp at hd
set_option maxRecDepth 100000 in
/-- one cell, in new memory, laid -/
theorem of_new1 {B P : Nat} {L : List Sq} {room : Nat} {H : Nat → Prop} {w : World} (hs : St B w P L room H) (n : Nat) (hn : n ≤ 37) (lv : Int) (hlv : lv = (n : Int) + 3) (c : Cel) (hin : InS n c) (hr : L.length + (n + 1) + (n + 1) ≤ room) :
    Calls Tryz.prog 5 #[.pointer (some ⟨P, 0, none⟩), .int .i64 lv, .slice (some ⟨w.heap.size, 0, none⟩) 1 1] (w.alloc (ca2 c)) fun e w' => e = .returned (.tuple #[.int .i64 (ofL n [c] (emp L n)).2, .nilIface]) ∧ Goes B (w.alloc (ca2 c)) P room H (ofL n [c] (emp L n)).1 w' :=
  of_lit (hs.below (alX w _) (Nat.le_refl _)) n hn lv hlv _ [c] 1 1 rfl (by omega) (lyc_new1 w c) (fun b o e hb => by
    cases e
    exact absurd (hs.lt _ hb).2 (Nat.lt_irrefl _)) (fun d hd => by rw [List.mem_singleton] at hd; subst hd; exact hin) (of_room hs.inv hn (fun d hd => by rw [List.mem_singleton] at hd; subst hd; exact hin) (by simpa using hr))
theorem goes_bel {B P : Nat} {L L' : List Sq} {room : Nat} {H : Nat → Prop} {w w' : World} {n : Nat} (hs : St B w P L room H) (hB : n ≤ B) (hn : n ≤ w.heap.size) (hg : Goes B w P room H L' w') : ∃ H', St B w' P L' room H' ∧ Below n w w' ∧ Stp w H w' H' := by
  obtain ⟨H', h1, h2⟩ := hg
  exact ⟨H', h1, h2.below (fun b hb => Nat.le_trans hB (hs.lt b hb).1) hn, h2⟩
theorem of_goes {B P : Nat} {L : List Sq} {room : Nat} {H : Nat → Prop} {w w' : World} {n : Nat} {l : List Cel} (hs : St B w P L room H) (hn : n ≤ 37) (hc : ∀ c ∈ l, InS n c) (_hg : Goes B w P room H (ofL n l (emp L n)).1 w') : Of L n l (ofL n l (emp L n)) := of_of hs.inv hn l hc
set_option maxRecDepth 100000 in
set_option maxHeartbeats 2000000 in
theorem sure_any (w : World) (hT : TabZ w) (hZ : NearZ w) : Calls Tryz.prog 13 #[] w fun e w' => e = .returned (.bool true) ∧ Below w.heap.size w w' := by
  have HN := Lib.hid (new_lit 50 50 rfl w (by omega) (by omega))
  have HT := Lib.hid (And.intro hT hZ)
  have hin : InS 1 (9, 9) := by unfold InS; decide
  have HI := Lib.hid hin
  have q1 := eql_c (9, 9) (9, 9)
  rw [decide_eq_true rfl] at q1
  simp only at q1
  clear hT hZ hin
  go_enter Tryz.func13, Tryz.ntmps13
  go_wp2_with fail
  refine HN.out.mono ?_
  rintro e w1 ⟨P, H, rfl, hs, hb⟩
  have HO := Lib.hid (of_new1 hs 1 (by omega) 4 rfl (9, 9) HI.out (by decide))
  have HS := Lib.hid (And.intro hs hb)
  clear hs hb HN
  go_wp2_with fail
  refine HO.out.mono ?_
  rintro e w2 ⟨rfl, hg⟩
  have hof := of_goes (HS.out.1.below (alX w1 (ca2 (9, 9))) (Nat.le_refl _)) (by omega) (fun d hd => by rw [List.mem_singleton] at hd; subst hd; exact HI.out) hg
  obtain ⟨H2, hs2, hb2, _⟩ := goes_bel (n := w.heap.size) (HS.out.1.below (alX w1 (ca2 (9, 9))) (Nat.le_refl _)) (Nat.le_refl _) (Nat.le_trans HS.out.2.size (alX w1 _).size) hg
  generalize ofL 1 [(9, 9)] (emp [] 1) = r at *
  have hl1 : lst r.1 1 r.2 = [(9, 9)] := list_one (lst_nodup hof.inv 1 r.2 hof.lv) (fun c => by rw [hof.mem, List.mem_singleton])
  have hbw2 : Below w.heap.size w w2 := (HS.out.2.trans ((alX w1 (ca2 (9, 9))).mono HS.out.2.size)).trans hb2
  have HBX := Lib.hid (box_some hs2 (HT.out.1.below hbw2) (HT.out.2.below hbw2) 1 (by omega) r.2 hof.lv ((cnt_pos hof.inv hof.lv).2 ⟨(9, 9), by rw [hl1]; simp⟩))
  have HX := Lib.hid (And.intro hs2 (And.intro hof (And.intro hl1 hbw2)))
  clear hg hof hs2 hb2 hl1 hbw2 HO HS
  go_wp2_with fail
  refine HBX.out.mono ?_
  rintro e w3 ⟨lo, hi, rfl, hbx, hb3⟩
  obtain ⟨rfl, rfl⟩ := box_one HX.out.2.2.1 hbx
  have hb4 : Below w2.heap.size w2 ((w3.alloc (ca2 (9, 9))).alloc (ca2 (9, 9))) := hb3.trans ((bstep (alX w3 _) (alX _ _)).mono hb3.size)
  have hbw4 : Below w.heap.size w ((w3.alloc (ca2 (9, 9))).alloc (ca2 (9, 9))) := HX.out.2.2.2.trans (hb4.mono HX.out.2.2.2.size)
  have HIN := Lib.hid (in_ok (HX.out.1.below hb4 (Nat.le_refl _)) (HT.out.1.below hbw4) 1 (by omega) r.2 HX.out.2.1.lv (9, 9) (9, 9))
  rw [inV_one HX.out.2.2.1] at HIN
  have HB := Lib.hid hbw4
  have R6 := Lib.hid (And.intro (row_keep (heap_alloc_new w3 (ca2 (9, 9))) (alX _ (ca2 (9, 9))) (Nat.le_refl _)) (show ((w3.alloc (ca2 (9, 9))).alloc (ca2 (9, 9))).heap[w3.heap.size + 1]? = some (ca2 (9, 9)) from by have := heap_alloc_new (w3.alloc (ca2 (9, 9))) (ca2 (9, 9)); rw [World.size_alloc] at this; exact this))
  clear hbx hb3 hb4 hbw4 HBX
  unfold cv at *
  simp only at *
  go_wp2_with fail
  refine HIN.out.mono ?_
  rintro e w5 ⟨rfl, hb5⟩
  obtain ⟨c0, c1, _, _⟩ := row_cl (row_keep R6.out.1 hb5 (Nat.le_refl _))
  obtain ⟨d0, d1, _, _⟩ := row_cl (row_keep R6.out.2 hb5 (Nat.le_refl _))
  have HB5 := Lib.hid (HB.out.trans (hb5.mono HB.out.size))
  clear hb5 HIN
  go_wp2
  go_ret
  exact ⟨rfl, HB5.out⟩
end Go.Proofs.YtifkhmcdgmnipaaGreatDoor

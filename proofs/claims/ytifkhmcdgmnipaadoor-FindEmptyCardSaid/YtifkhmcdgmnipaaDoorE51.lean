/-
  THE WALK of FindEmpty. Condition: the library's table and the near sides lie as the texts lay them.
-/
import Derived.Test.YtifkhmcdgmnipaaDoorE48
namespace Go.Proofs.YtifkhmcdgmnipaaDoor
open Go.RowKit Ti Qd Ce Cl Go.Maps Go.WideMaps

theorem wrap_u64_nonneg (x : Int) : 0 ≤ IntKind.u64.wrap x := by rw [IntKind.wrap_u64]; omega
theorem red_nat (x : Int) (m : Nat) (h0 : 0 < m) (h : m ≤ 1099511627776) : ∃ p : Nat, p < m ∧ wrap64 ((IntKind.u64.wrap x).tmod (m : Int)) = (p : Int) := by
  have h1 := wrap_u64_nonneg x
  obtain ⟨n, hn⟩ : ∃ n : Nat, IntKind.u64.wrap x = (n : Int) := ⟨(IntKind.u64.wrap x).toNat, by omega⟩
  rw [hn, tmod_nat]
  have := Nat.mod_lt n h0
  exact ⟨n % m, this, wrap_small (by omega)⟩
theorem lst_emp {L : List Sq} (hi : Inv L) {n : Nat} (hn : n ≤ 37) : lst (emp L n).1 n (emp L n).2 = [] :=
  (cnt_zero (emp_ok hi n hn).inv (emp_ok hi n hn).lv).1 (emp_ok hi n hn).cnt
theorem inV_nil {L : List Sq} {n : Nat} {id : Int} (h : lst L n id = []) (lo hi : Cel) : inV L n id lo hi = 0 := by
  unfold inV cin
  rw [h]
  rfl
theorem lvl_k {p : Nat} (h : p < 38) : wrap64 (3 + (p : Int)) = (p : Int) + 3 := by unfold wrap64; omega
theorem lyc_nil (w : World) : Lyc w none [] := fun i c h => by simp at h
theorem emp_room (p : Nat) (hp : p < 38) (room : Nat) (hr : 38 ≤ room) : (emp [] p).1.length ≤ room := by
  have he := (emp_ok inv_nil p (by omega)).len
  simp at he
  omega
set_option maxRecDepth 100000 in
set_option maxHeartbeats 2000000 in
theorem empty_walk (lv a b c d : Int) (w : World) (hT : TabZ w) (hZ : NearZ w) :
    Calls Tryd.prog 5 #[.int .i64 lv, .agg #[.int .i64 a, .int .i64 b, .int .i64 c, .int .i64 d]] w fun e w' => e = .returned (.bool true) ∧ Below w.heap.size w w' := by
  obtain ⟨p, hp, ep⟩ := red_nat lv 38 (by decide) (by decide)
  have HT := Lib.hid (And.intro hT hZ)
  have HP := Lib.hid hp
  have HK := Lib.hid (lvl_k hp)
  have HN := Lib.hid (new_lit 100 100 rfl (w.alloc (.cells #[.int .i64 a, .int .i64 b, .int .i64 c, .int .i64 d] 48)) (by omega) (by omega))
  have HW := Lib.hid (And.intro (alX w (.cells #[.int .i64 a, .int .i64 b, .int .i64 c, .int .i64 d] 48)) (heap_alloc_new w (.cells #[.int .i64 a, .int .i64 b, .int .i64 c, .int .i64 d] 48)))
  clear hT hZ hp
  go_enter Tryd.func5, Tryd.ntmps5
  go_upto_region 2 with (fail)
  have EP := Lib.hid ep
  rw [show wrap64 (3 + wrap64 ((IntKind.u64.wrap lv).tmod 38)) = (p : Int) + 3 from by rw [show wrap64 ((IntKind.u64.wrap lv).tmod 38) = (p : Int) from EP.out]; exact HK.out]
  clear ep EP
  go_wp2_with fail
  refine HN.out.mono ?_
  rintro e w1 ⟨P, H, rfl, hs, hb⟩
  have HE := Lib.hid (empty_ok hs p ((p : Int) + 3) rfl (by have := HP.out; omega) (emp_room p HP.out 100 (by omega)))
  have HS := Lib.hid (And.intro hs hb)
  clear hs hb HN
  go_wp2_with fail
  refine HE.out.mono ?_
  rintro e w2 ⟨rfl, hg⟩
  have hof : Of [] p [] (emp [] p) := of_of HS.out.1.inv (by have := HP.out; omega) [] (by simp)
  obtain ⟨H2, hs2, hb2, _⟩ := goes_bel (n := w.heap.size + 1) HS.out.1 (by rw [World.size_alloc]; exact Nat.le_refl _) (by have := HS.out.2.size; rw [World.size_alloc] at this; exact this) hg
  have hb12 : Below (w.heap.size + 1) (w.alloc (.cells #[.int .i64 a, .int .i64 b, .int .i64 c, .int .i64 d] 48)) w2 := (by have := HS.out.2; rw [World.size_alloc] at this; exact this.trans hb2)
  generalize emp [] p = r at *
  have HO := Lib.hid (of_lit hs2 p (by have := HP.out; omega) ((p : Int) + 3) rfl none [] 0 0 rfl (by omega) (lyc_nil w2) (fun _ _ e => by cases e) (fun d hd => by simp at hd) (of_room hs2.inv (by have := HP.out; omega) (fun d hd => by simp at hd) (by
    have h1 := hof.len
    have h2 := HP.out
    simp at h1 ⊢
    omega)))
  have HQ := Lib.hid (hof.back (by have := HP.out; omega) (m := []) (fun d hd => by simp at hd) (fun d => Iff.rfl))
  have HX := Lib.hid (And.intro hs2 (And.intro hof hb12))
  clear hg hof hs2 hb2 hb12 HE HS
  go_wp2_with fail
  refine HO.out.mono ?_
  rintro e w3 ⟨rfl, hg⟩
  have hof := of_of HX.out.1.inv (by have := HP.out; omega) [] (fun d hd => by simp at hd) (n := p)
  obtain ⟨H3, hs3, hb3, _⟩ := goes_bel (n := w.heap.size + 1) HX.out.1 (by rw [World.size_alloc]; exact Nat.le_refl _) (by have := HX.out.2.2.size; rw [World.size_alloc] at this; exact this) hg
  rw [HQ.out]
  have hl := HX.out.2.1.lv.ext hof.ext
  have hnil : lst (ofL p [] (emp r.1 p)).1 p r.2 = [] := by
    rw [lst_ext HX.out.1.inv hof.ext p _ HX.out.2.1.lv]
    exact List.eq_nil_iff_forall_not_mem.2 (fun c hc => by have := (HX.out.2.1.mem c).1 hc; simp at this)
  have hb13 := HX.out.2.2.trans hb3
  have hz := (cnt_zero hof.inv hl).2 hnil
  generalize ofL p [] (emp r.1 p) = r2 at *
  have bs1 : w.heap.size + 1 ≤ w3.heap.size := by have := hb13.size; rw [World.size_alloc] at this; exact this
  have hbw3 : Below w.heap.size w w3 := (alX w (.cells #[.int .i64 a, .int .i64 b, .int .i64 c, .int .i64 d] 48)).trans (hb13.mono (Nat.le_succ _))
  have hrow3 := row_keep (heap_alloc_new w (.cells #[.int .i64 a, .int .i64 b, .int .i64 c, .int .i64 d] 48)) hb13 (by rw [World.size_alloc]; exact Nat.le_refl _)
  have hcs := cells_ok hs3 p (by have := HP.out; omega) r.2 hl (by rw [hz]; decide) (HT.out.1.below hbw3)
  rw [hnil] at hcs
  have HC := Lib.hid hcs
  have HY := Lib.hid (And.intro hs3 (And.intro hof (And.intro hl (And.intro hnil (And.intro hz (And.intro hbw3 (And.intro bs1 hrow3)))))))
  clear hg hof hs3 hb3 hb13 HX HO hl hnil hz bs1 hbw3 hrow3 hcs
  go_wp2_with fail
  refine HC.out.mono ?_
  rintro e w4 ⟨v, rfl, hown, hb4⟩
  obtain ⟨a4, cap4, rfl, _, _⟩ := own_lyc hown
  have e0 : (srt ([] : List Cel)).length = 0 := rfl
  rw [e0] at *
  have HB := Lib.hid (box_none (HY.out.1.below hb4 (Nat.le_refl _)) r.2 HY.out.2.2.1.1 HY.out.2.2.2.2.1)
  have HB4 := Lib.hid hb4
  clear hown hb4 HC
  go_wp2_with fail
  refine HB.out.mono ?_
  rintro e w5 ⟨rfl, hb5⟩
  have hb35 : Below w3.heap.size w3 w5 := HB4.out.trans (hb5.mono HB4.out.size)
  have hb6 : Below w3.heap.size w3 ((w5.alloc (ca2 (0, 0))).alloc (ca2 (0, 0))) := hb35.trans ((bstep (alX w5 _) (alX _ _)).mono hb35.size)
  have hbw := HY.out.2.2.2.2.2.1
  have hbw6 : Below w.heap.size w ((w5.alloc (ca2 (0, 0))).alloc (ca2 (0, 0))) := hbw.trans (hb6.mono hbw.size)
  have hrow6 := row_keep HY.out.2.2.2.2.2.2.2 hb6 (Nat.le_refl _)
  have HIN := Lib.hid (in_ok (HY.out.1.below hb6 (Nat.le_refl _)) (HT.out.1.below hbw6) p (by have := HP.out; omega) r.2 HY.out.2.2.1 (a, b) (c, d))
  rw [inV_nil HY.out.2.2.2.1] at HIN
  have HBW := Lib.hid hbw6
  have R0 := Lib.hid (And.intro (row_keep (heap_alloc_new w5 (ca2 (0, 0))) (alX _ (ca2 (0, 0))) (Nat.le_refl _)) (show ((w5.alloc (ca2 (0, 0))).alloc (ca2 (0, 0))).heap[w5.heap.size + 1]? = some (ca2 (0, 0)) from by have := heap_alloc_new (w5.alloc (ca2 (0, 0))) (ca2 (0, 0)); rw [World.size_alloc] at this; exact this))
  have k0 := cell_of_row _ _ 0 _ _ _ hrow6
  have k1 := cell_of_row _ _ 1 _ _ _ hrow6
  have k2 := cell_of_row _ _ 2 _ _ _ hrow6
  have k3 := cell_of_row _ _ 3 _ _ _ hrow6
  clear hb5 HB hb35 hb6 hbw hbw6 hrow6
  unfold cv at *
  unfold ca2 at *
  simp only at *
  go_wp2_with fail
  refine HIN.out.mono ?_
  rintro e w7 ⟨rfl, hb7⟩
  obtain ⟨c0, c1, _, _⟩ := row_cl (row_keep R0.out.1 hb7 (Nat.le_refl _))
  obtain ⟨d0, d1, _, _⟩ := row_cl (row_keep R0.out.2 hb7 (Nat.le_refl _))
  have HB7 := Lib.hid (HBW.out.trans (hb7.mono HBW.out.size))
  clear hb7 HIN
  have q1 := eql_c (0, 0) (0, 0)
  rw [decide_eq_true rfl] at q1
  simp only at q1
  have HSU := Lib.hid (sure_any w7 (HT.out.1.below HB7.out) (HT.out.2.below HB7.out))
  go_wp2_with fail
  refine HSU.out.mono ?_
  rintro e w8 ⟨rfl, hb8⟩
  have HB8 := Lib.hid (HB7.out.trans (hb8.mono HB7.out.size))
  clear hb8 HSU
  go_wp2
  go_ret
  exact ⟨rfl, HB8.out⟩
end Go.Proofs.YtifkhmcdgmnipaaDoor

/-
  THE WALK of each: what takes a square's cells is given each of them. Conditions: the store lies in memory, the library's table as its text lays it.
-/
import Derived.Test.YtifkhmcdgmnipaaGreatDoorR28
namespace Go.Proofs.YtifkhmcdgmnipaaGreatDoor.Qd
open Ti Ce
/-- the cells of a square's first k parts, moved -/
def ptl (L : List Sq) (n : Nat) (id : Int) (a : Cel) (k : Nat) : List Cel := ((List.range k).flatMap fun i => (lst L n (kid (at' L id) i)).map (sh (crn (2 ^ (n + 3)) i))).map (sh a)
theorem sh_sh (a b c : Cel) : sh (sh a b) c = sh a (sh b c) := by unfold sh; rw [Prod.mk.injEq]; simp only; omega
theorem ptl_next (L : List Sq) (n : Nat) (id : Int) (a : Cel) (k : Nat) : ptl L n id a (k + 1) = ptl L n id a k ++ (lst L n (kid (at' L id) k)).map (sh (sh a (crn (2 ^ (n + 3)) k))) := by
  unfold ptl
  rw [List.range_succ, List.flatMap_append, List.map_append]
  congr 1
  simp only [List.flatMap_cons, List.flatMap_nil, List.append_nil, List.map_map]
  congr 1
  funext c
  exact (sh_sh _ _ _).symm
theorem ptl_all (L : List Sq) (n : Nat) (id : Int) (a : Cel) : ptl L n id a 4 = (lst L (n + 1) id).map (sh a) := rfl
theorem ptl_len (L : List Sq) (n : Nat) (id : Int) (a : Cel) : ∀ {k : Nat}, k < 4 → (ptl L n id a k).length + (lst L n (kid (at' L id) k)).length ≤ (lst L (n + 1) id).length := by
  intro k hk
  have h1 := lst_len4 L n id
  have e0 : (ptl L n id a 0).length = 0 := rfl
  have e1 := congrArg List.length (ptl_next L n id a 0)
  have e2 := congrArg List.length (ptl_next L n id a 1)
  have e3 := congrArg List.length (ptl_next L n id a 2)
  rw [List.length_append, List.length_map] at e1 e2 e3
  have hk4 : k = 0 ∨ k = 1 ∨ k = 2 ∨ k = 3 := by omega
  simp only [Nat.zero_add, Nat.reduceAdd] at e1 e2 e3
  rcases hk4 with rfl | rfl | rfl | rfl <;> omega
/-- a square that begins there lies within -/
def As (M : Int) (n : Nat) (a : Cel) : Prop := (0 ≤ a.1 ∧ a.1 + ((2 ^ (n + 3) : Nat) : Int) ≤ M) ∧ (0 ≤ a.2 ∧ a.2 + ((2 ^ (n + 3) : Nat) : Int) ≤ M)
theorem As.kid {M : Int} {n : Nat} {a : Cel} (h : As M (n + 1) a) {k : Nat} (hk : k < 4) : As M n (sh a (crn (2 ^ (n + 3)) k)) := by
  unfold As sh crn at *
  rw [show 2 ^ (n + 1 + 3) = 2 ^ (n + 3) * 2 from Nat.pow_succ ..] at h
  generalize 2 ^ (n + 3) = m at *
  have hk4 : k = 0 ∨ k = 1 ∨ k = 2 ∨ k = 3 := by omega
  rcases hk4 with rfl | rfl | rfl | rfl <;> simp <;> omega
end Go.Proofs.YtifkhmcdgmnipaaGreatDoor.Qd
namespace Go.Proofs.YtifkhmcdgmnipaaGreatDoor
open Go.RowKit Ti Qd Ce Cl Go.Maps Go.WideMaps

theorem no3 {a b c : Prop} (h1 : ¬ a) (h2 : ¬ b) (h3 : ¬ c) : ¬ (a ∨ b ∨ c) := by
  rintro (g | g | g)
  · exact h1 g
  · exact h2 g
  · exact h3 g
theorem ie_tk {N : Nat} {M : Int} {fid : Nat} {fi ca : Array Value} {I : List Cel → World → (Nat → Prop) → Prop} (hk : Tk N M fid fi ca I) (pre0 : List Cel) (g6 g7 : Nat) (a : Cel) (ha : As M 0 a) (hM : M ≤ 4611686018427387904) (N2 : Nat) (hN : pre0.length + N2 ≤ N) :
    Tk N2 8 37 #[] #[.pointer (some ⟨g7, 0, none⟩), .pointer (some ⟨g6, 0, none⟩)] (Ie I pre0 g6 g7 a (.func (.func fid) fi ca)) where
  enter := enter_run Tryz.func37 (by kernel_rfl) (by kernel_rfl)
  lt := by
    rintro pre w F2 ⟨F, h1, h2, h3, h4, h5, rfl⟩ b (hb | rfl | rfl)
    · exact hk.lt _ _ _ h1 b hb
    · exact lt_of_block h4
    · exact lt_of_block h5
  up := by
    rintro pre w w' F2 ⟨F, h1, h2, h3, h4, h5, rfl⟩ hs hb
    exact ⟨F, hk.up _ _ _ _ h1 hs (fun b hF => hb b (.inl hF)), h2, h3, (hb g6 (.inr (.inl rfl))).trans h4, (hb g7 (.inr (.inr rfl))).trans h5, rfl⟩
  call := fun pre c w F hn hc hI => each1_ok hk pre0 g6 g7 a ha hM pre c w F (by omega) hc hI
set_option maxRecDepth 100000 in
set_option maxHeartbeats 1000000 in
theorem each_none {N : Nat} {M : Int} {fid : Nat} {fi ca : Array Value} {I : List Cel → World → (Nat → Prop) → Prop} (hk : Tk N M fid fi ca I) {B P : Nat} {L : List Sq} {room : Nat} {H : Nat → Prop} (id : Int) (a : Cel) (pre : List Cel) (w : World) (F : Nat → Prop) (hs : St B w P L room H) (hI : I pre w F) (ho : Ok L id) (hc : (at' L id).cnt = 0) :
    Calls Tryz.prog 18 #[.pointer (some ⟨P, 0, none⟩), .int .i64 id, cv a, .func (.func fid) fi ca] w fun e w' => e = .returned .nilIface ∧ ∃ F', I pre w' F' ∧ Stp w F w' F' := by
  have hb0 : Below w.heap.size w ((w.alloc (ca2 a)).alloc (fb1 (.func (.func fid) fi ca))) := (alX w _).trans ((alX _ _).mono (by simp))
  have HL := Lib.hid (look_ok (hs.below hb0 (Nat.le_refl _)) id ho)
  have HB := Lib.hid hb0
  have HI := Lib.hid (fun (W : World) (hb : Below w.heap.size w W) => And.intro (hk.below hI hb) (Stp.of_below (H := F) hb))
  clear hs hk ho hb0 hI
  obtain ⟨ax, ay⟩ := a
  unfold cv qv at *
  generalize at' L id = q at *
  obtain ⟨lev, cnt, til, k0, k1, k2, k3⟩ := q
  simp only at *
  subst hc
  go_enter Tryz.func18, Tryz.ntmps18
  go_wp2_with fail
  refine HL.out.mono ?_
  rintro e w1 ⟨rfl, hb⟩
  have HB1 := Lib.hid (HB.out.trans (hb.mono HB.out.size))
  have HB2 := Lib.hid (HB1.out.trans ((alX w1 (.cells #[.int .i64 lev, .int .i64 0, .int .u64 (rg til), .int .i64 k0, .int .i64 k1, .int .i64 k2, .int .i64 k3] 51)).mono HB1.out.size))
  clear hb
  go_wp2
  go_ret
  exact ⟨rfl, F, HI.out _ HB2.out⟩
set_option maxRecDepth 100000 in
set_option maxHeartbeats 2000000 in
theorem each_tile {N : Nat} {M : Int} {fid : Nat} {fi ca : Array Value} {I : List Cel → World → (Nat → Prop) → Prop} (hk : Tk N M fid fi ca I) {B P : Nat} {L : List Sq} {room : Nat} {H : Nat → Prop} (id : Int) (a : Cel) (pre : List Cel) (w : World) (F : Nat → Prop) (hs : St B w P L room H) (hT : TabZ w) (hF : ¬ F 2) (hI : I pre w F) (hl : Lv L 0 id) (hc : ¬ (at' L id).cnt = 0) (ha : As M 0 a) (hM : M ≤ 4611686018427387904) (hN : pre.length + (lst L 0 id).length ≤ N) :
    Calls Tryz.prog 18 #[.pointer (some ⟨P, 0, none⟩), .int .i64 id, cv a, .func (.func fid) fi ca] w fun e w' => e = .returned .nilIface ∧ ∃ F', I (pre ++ (lst L 0 id).map (sh a)) w' F' ∧ Stp w F w' F' := by
  have hb0 : Below w.heap.size w ((w.alloc (ca2 a)).alloc (fb1 (.func (.func fid) fi ca))) := (alX w _).trans ((alX _ _).mono (by simp))
  have HL := Lib.hid (look_ok (hs.below hb0 (Nat.le_refl _)) id hl.1)
  have HB := Lib.hid hb0
  have h6 := row_keep (heap_alloc_new w (ca2 a)) (alX (w.alloc (ca2 a)) (fb1 (.func (.func fid) fi ca))) (Nat.le_refl _)
  have h7 := heap_alloc_new (w.alloc (ca2 a)) (fb1 (.func (.func fid) fi ca))
  have e7 : (w.alloc (ca2 a)).heap.size = w.heap.size + 1 := by simp
  rw [e7] at h7
  have HR := Lib.hid (And.intro h6 h7)
  have hlev := hl.2
  have HIE := Lib.hid (fun (W : World) (hb : Below w.heap.size w W) (r6 : W.heap[w.heap.size]? = some (ca2 a)) (r7 : W.heap[w.heap.size + 1]? = some (fb1 (.func (.func fid) fi ca))) =>
    eachOf_ok (ie_tk hk pre w.heap.size (w.heap.size + 1) a ha hM (tl (at' L id).til).length hN) (at' L id).til [] W (fun b => F b ∨ b = w.heap.size ∨ b = w.heap.size + 1)
      ⟨F, by rw [List.map_nil, List.append_nil]; exact hk.below hI hb, fun g => absurd (hk.lt _ _ _ hI _ g) (Nat.lt_irrefl _), fun g => absurd (hk.lt _ _ _ hI _ g) (by omega), r6, r7, rfl⟩
      (hT.below hb) (no3 hF (fun g => by have := hT.lt; omega) (fun g => by have := hT.lt; omega)) (by simp) (by omega))
  have HEND := Lib.hid (fun (W W2 : World) (F2 : Nat → Prop) (hb : Below w.heap.size w W) (h : Ie I pre w.heap.size (w.heap.size + 1) a (.func (.func fid) fi ca) ([] ++ tl (at' L id).til) W2 F2) (hs2 : Stp W (fun b => F b ∨ b = w.heap.size ∨ b = w.heap.size + 1) W2 F2) =>
    (show ∃ F', I (pre ++ (lst L 0 id).map (sh a)) W2 F' ∧ Stp w F W2 F' from by
      obtain ⟨F', h1, _, _, _, _, rfl⟩ := h
      refine ⟨F', h1, hs2.os.trans hb.os, hs2.tape.trans hb.tape, hs2.output.trans hb.output, Nat.le_trans hb.size hs2.size, fun k hk hn => (hs2.block k (Nat.lt_of_lt_of_le hk hb.size) (no3 hn (by omega) (by omega))).trans (hb.block k hk), fun k g => ?_⟩
      rcases hs2.own k (.inl g) with (g | g | g) | g
      · exact .inl g
      · exact .inr (by omega)
      · exact .inr (by omega)
      · exact .inr (Nat.le_trans hb.size g)))
  clear hs hk hb0 hI h6 h7 e7 hl ha hM hN hT hF
  obtain ⟨ax, ay⟩ := a
  unfold cv qv at *
  generalize at' L id = q at *
  generalize lst L 0 id = ll at *
  obtain ⟨lev, cnt, til, k0, k1, k2, k3⟩ := q
  simp only at *
  subst hlev
  have hc1 : (cnt == 0) = false := by rw [beq_eq_false_iff_ne]; exact hc
  go_enter Tryz.func18, Tryz.ntmps18
  go_wp2_with fail
  refine HL.out.mono ?_
  rintro e w1 ⟨rfl, hb⟩
  have HB1 := Lib.hid (HB.out.trans (hb.mono HB.out.size))
  have HB2 := Lib.hid (HB1.out.trans ((alX w1 (.cells #[.int .i64 ((0 : Nat) + 3), .int .i64 cnt, .int .u64 (rg til), .int .i64 k0, .int .i64 k1, .int .i64 k2, .int .i64 k3] 51)).mono HB1.out.size))
  have hbz := hb.trans ((alX w1 (.cells #[.int .i64 ((0 : Nat) + 3), .int .i64 cnt, .int .u64 (rg til), .int .i64 k0, .int .i64 k1, .int .i64 k2, .int .i64 k3] 51)).mono hb.size)
  have HE1 := Lib.hid (HIE.out _ HB2.out (row_keep HR.out.1 hbz (Nat.le_refl _)) (row_keep HR.out.2 hbz (Nat.le_refl _)))
  clear hb hbz HL HIE HR
  go_wp2_with fail
  refine HE1.out.mono ?_
  rintro e w2 ⟨rfl, F2, hI2, hs2⟩
  have HF := Lib.hid (HEND.out _ _ _ HB2.out hI2 hs2)
  clear hI2 hs2 HE1
  go_wp2
  go_ret
  exact ⟨rfl, HF.out⟩
theorem kid_idx (q : Sq) {k : Nat} (hk : k < 4) (w : World) : (Instr.index 43 (.agg #[.int .i64 q.k0, .int .i64 q.k1, .int .i64 q.k2, .int .i64 q.k3]) (.int .i64 (k : Int))).run Tryz.prog w = .ok (.int .i64 (kid q k)) w := by
  have hk4 : k = 0 ∨ k = 1 ∨ k = 2 ∨ k = 3 := by omega
  rcases hk4 with rfl | rfl | rfl | rfl
  · exact idx4_0 _ _ _ _ w
  · exact idx4_1 _ _ _ _ w
  · exact idx4_2 _ _ _ _ w
  · exact idx4_3 _ _ _ _ w
/-- each, of squares of a level -/
def EachP (N : Nat) (M : Int) (fid : Nat) (fi ca : Array Value) (I : List Cel → World → (Nat → Prop) → Prop) (B P : Nat) (L : List Sq) (room : Nat) (H : Nat → Prop) (n : Nat) : Prop :=
  ∀ (id : Int) (a : Cel) (pre : List Cel) (w : World) (F : Nat → Prop), St B w P L room H → (∀ b, H b → ¬ F b) → TabZ w → ¬ F 2 → I pre w F → Lv L n id → As M n a → pre.length + (lst L n id).length ≤ N →
    Calls Tryz.prog 18 #[.pointer (some ⟨P, 0, none⟩), .int .i64 id, cv a, .func (.func fid) fi ca] w fun e w' => e = .returned .nilIface ∧ ∃ F', I (pre ++ (lst L n id).map (sh a)) w' F' ∧ Stp w F w' F'
set_option maxRecDepth 100000 in
set_option maxHeartbeats 4000000 in
theorem each_node {N : Nat} {M : Int} {fid : Nat} {fi ca : Array Value} {I : List Cel → World → (Nat → Prop) → Prop} (hk : Tk N M fid fi ca I) {B P : Nat} {L : List Sq} {room : Nat} {H : Nat → Prop} (hM : M ≤ 4611686018427387904) (n : Nat) (hn : n ≤ 36) (ih : EachP N M fid fi ca I B P L room H n) (id : Int) (a : Cel) (pre : List Cel) (w : World) (F : Nat → Prop) (hs : St B w P L room H) (hd : ∀ b, H b → ¬ F b) (hT : TabZ w) (hF : ¬ F 2) (hI : I pre w F) (hl : Lv L (n + 1) id) (hc : ¬ (at' L id).cnt = 0) (ha : As M (n + 1) a) (hN : pre.length + (lst L (n + 1) id).length ≤ N) :
    Calls Tryz.prog 18 #[.pointer (some ⟨P, 0, none⟩), .int .i64 id, cv a, .func (.func fid) fi ca] w fun e w' => e = .returned .nilIface ∧ ∃ F', I (pre ++ (lst L (n + 1) id).map (sh a)) w' F' ∧ Stp w F w' F' := by
  have hb0 : Below w.heap.size w ((w.alloc (ca2 a)).alloc (fb1 (.func (.func fid) fi ca))) := (alX w _).trans ((alX _ _).mono (by simp))
  have HL := Lib.hid (look_ok (hs.below hb0 (Nat.le_refl _)) id hl.1)
  have e7 : (w.alloc (ca2 a)).heap.size = w.heap.size + 1 := by simp
  have HT0 := Lib.hid (((Tw.start hI).alloc hk rfl (ca2 a)).alloc hk e7.symm (fb1 (.func (.func fid) fi ca)))
  have HK := Lib.hid hk
  have HS := Lib.hid (And.intro hs hd)
  have HTF := Lib.hid (And.intro hT hF)
  have HIH := Lib.hid ih
  have HKL := Lib.hid (fun k => hs.inv.kid hl k)
  have HA := Lib.hid (And.intro ha hM)
  have HN := Lib.hid (fun (k : Nat) (hk : k < 4) => show (pre ++ ptl L n id a k).length + (lst L n (kid (at' L id) k)).length ≤ N from by
    have := ptl_len L n id a hk
    rw [List.length_append]
    omega)
  have hlev : (at' L id).lev = (n : Int) + 4 := by rw [hl.2]; omega
  have HC := Lib.hid (fun k (hk : k < 4) W => corner_at n (at' L id) hlev hn k (k : Int) rfl hk W)
  have HALL := Lib.hid (ptl_all L n id a)
  have HIX := Lib.hid (fun k (hk : k < 4) W => kid_idx (at' L id) hk W)
  have HNX := Lib.hid (fun k => ptl_next L n id a k)
  have HP := Lib.hid (fun k (hk : k < 4) W => plus_ok a (crn (2 ^ (n + 3)) k) (by
    have h1 := ha.kid hk
    have hp := Nat.two_pow_pos (n + 3)
    unfold As sh at h1
    simp only at h1
    generalize (crn (2 ^ (n + 3)) k) = cr at *
    generalize 2 ^ (n + 3) = m at *
    omega) (by
    have h1 := ha.kid hk
    have hp := Nat.two_pow_pos (n + 3)
    unfold As sh at h1
    simp only at h1
    generalize (crn (2 ^ (n + 3)) k) = cr at *
    generalize 2 ^ (n + 3) = m at *
    omega) W)
  clear hs hk hb0 hI e7 hl ha hM hN hT hF hd ih
  generalize lst L (n + 1) id = ll at *
  obtain ⟨ax, ay⟩ := a
  unfold cv qv at *
  generalize hq : at' L id = q at *
  have hl3 : (q.lev == 3) = false := by rw [beq_eq_false_iff_ne]; omega
  have hc1 : (q.cnt == 0) = false := by rw [beq_eq_false_iff_ne]; exact hc
  clear hlev hc
  go_enter Tryz.func18, Tryz.ntmps18
  go_wp2_with fail
  refine HL.out.mono ?_
  rintro e w1 ⟨rfl, hb⟩
  have HT1 := Lib.hid ((HT0.out.below HK.out hb).alloc HK.out rfl (fq q))
  clear hb HL HT0
  unfold fq at HT1
  go_upto_region 7 with (fail)
  generalize World.alloc _ _ = W1 at HT1 ⊢
  have hr := row7 (HT1.out.box (x := (w1.heap.size, fq q)) (by simp))
  generalize hg9 : w1.heap.size = g9 at *
  clear hg9
  obtain ⟨⟨c0, c1, c2, c3, c4, c5, c6⟩, f0, f1, f2, f3, f4, f5, f6⟩ := hr
  go_wp2_with fail
  clear c0 c1 c2 c3 c4 c5 c6 f0 f1 f2 f3 f4 f5 f6
  generalize hV : Value.agg #[.int .i64 q.k0, .int .i64 q.k1, .int .i64 q.k2, .int .i64 q.k3] = V at HIX ⊢
  clear hV
  have HT2 := Lib.hid (show Tw w F I (pre ++ ptl L n id (ax, ay) 0) [(g9, fq q), (w.heap.size + 1, fb1 (.func (.func fid) fi ca)), (w.heap.size, ca2 (ax, ay))] W1 from by
    rw [show ptl L n id (ax, ay) 0 = [] from rfl, List.append_nil]
    exact HT1.out)
  clear HT1
  go_loopw [37] (fun i wr => ∃ k : Nat, k ≤ 4 ∧ i = .int .i64 (k : Int) ∧ Hid (Tw w F I (pre ++ ptl L n id (ax, ay) k) [(g9, fq q), (w.heap.size + 1, fb1 (.func (.func fid) fi ca)), (w.heap.size, ca2 (ax, ay))] wr)) (fun i _ => 4 - (intOf i).toNat)
  case atStart => exact ⟨0, by omega, rfl, HT2⟩
  case round =>
    clear HT2
    obtain ⟨k, hk, rfl, HR⟩ := hrel
    have k0 : (0 : Int) ≤ (k : Int) := by omega
    by_cases hlt : k < 4
    · have k1 : (k : Int) < 4 := by omega
      have HLT := Lib.hid hlt
      have hx := HIX.out k hlt
      have HC1 := Lib.hid (HC.out k hlt)
      have HP1 := Lib.hid (HP.out k hlt)
      have HE := Lib.hid (fun (W' : World) (hb : Below wr.heap.size wr W') => show Calls Tryz.prog 18 #[.pointer (some ⟨P, 0, none⟩), .int .i64 (kid q k), .agg #[.int .i64 (sh (ax, ay) (crn (2 ^ (n + 3)) k)).1, .int .i64 (sh (ax, ay) (crn (2 ^ (n + 3)) k)).2], .func (.func fid) fi ca] W' fun e w2 => e = .returned .nilIface ∧ Tw w F I (pre ++ ptl L n id (ax, ay) (k + 1)) [(g9, fq q), (w.heap.size + 1, fb1 (.func (.func fid) fi ca)), (w.heap.size, ca2 (ax, ay))] w2 from by
        have hT' := HR.out.below HK.out hb
        obtain ⟨F1, h1, h2, h3, h4⟩ := hT'.call
        have hkl := HKL.out k
        have hN1 := HN.out k HLT.out
        refine (HIH.out (kid q k) (sh (ax, ay) (crn (2 ^ (n + 3)) k)) _ W' F1 (hT'.st HS.out.1 HS.out.2) (fun b hb1 hf => ?_) (hT'.tab HTF.out.1 HTF.out.2) (HTF.out.1.stp HTF.out.2 h2).2 h1 hkl (HA.out.1.kid HLT.out) hN1).mono ?_
        · exact (h2.own b hf).elim (HS.out.2 b hb1) (fun g => by have := (HS.out.1.lt b hb1).2; omega)
        · rintro e w2 ⟨rfl, F2, k1, k2⟩
          refine ⟨rfl, ?_⟩
          rw [HNX.out k, ← List.append_assoc]
          exact h4 k1 k2)
      have HSS := Lib.hid (fun (W' : World) (hb : Below wr.heap.size wr W') => And.intro (row_cl (row_keep (HR.out.box (x := (w.heap.size, ca2 (ax, ay))) (by simp)) hb (Nat.le_refl _))) (And.intro (row_cl1 (row_keep (HR.out.box (x := (w.heap.size + 1, fb1 (.func (.func fid) fi ca))) (by simp)) hb (Nat.le_refl _))) (row7 (row_keep (HR.out.box (x := (g9, fq q)) (by simp)) hb (Nat.le_refl _))).1))
      have HST := Lib.hid (fun (W2 : World) (h : Tw w F I (pre ++ ptl L n id (ax, ay) (k + 1)) [(g9, fq q), (w.heap.size + 1, fb1 (.func (.func fid) fi ca)), (w.heap.size, ca2 (ax, ay))] W2) => And.intro (row_cl (h.box (x := (w.heap.size, ca2 (ax, ay))) (by simp))) (And.intro (row_cl1 (h.box (x := (w.heap.size + 1, fb1 (.func (.func fid) fi ca))) (by simp))) (row7 (h.box (x := (g9, fq q)) (by simp))).1))
      clear hlt
      go_upto_region 10 with (fail)
      have HB0 : Below wr.heap.size wr wr.drew := (Below.refl _ _).drew
      have HB00 : Below wr.heap.size wr wr := Below.refl _ _
      clear hx
      go_region_held3 (fun w' => (w'.cell? ⟨w.heap.size, 0, none⟩ = some (.int .i64 ax) ∧ w'.cell? ⟨w.heap.size, 1, none⟩ = some (.int .i64 ay) ∧ w'.frozen? ⟨w.heap.size, 0, none⟩ = false ∧ w'.frozen? ⟨w.heap.size, 1, none⟩ = false) ∧ (w'.cell? ⟨w.heap.size + 1, 0, none⟩ = some (.func (.func fid) fi ca) ∧ w'.frozen? ⟨w.heap.size + 1, 0, none⟩ = false) ∧ (w'.cell? ⟨g9, 0, none⟩ = some (.int .i64 q.lev) ∧ w'.cell? ⟨g9, 1, none⟩ = some (.int .i64 q.cnt) ∧ w'.cell? ⟨g9, 2, none⟩ = some (.int .u64 (rg q.til)) ∧ w'.cell? ⟨g9, 3, none⟩ = some (.int .i64 q.k0) ∧ w'.cell? ⟨g9, 4, none⟩ = some (.int .i64 q.k1) ∧ w'.cell? ⟨g9, 5, none⟩ = some (.int .i64 q.k2) ∧ w'.cell? ⟨g9, 6, none⟩ = some (.int .i64 q.k3))) (first | with_reducible exact HSS.out _ (by assumption) | with_reducible exact HST.out _ (by assumption)) (first | (go_at_call 39; refine (HC1.out _).mono ?_; rintro e w2 ⟨rfl, hb⟩; have hb1 := bstep (W0 := wr) (by assumption) hb; clear hb) | (go_at_call 38; refine (HP1.out _).mono ?_; rintro e w3 ⟨rfl, hb⟩; have hb2 := bstep (W0 := wr) (by assumption) hb; clear hb) | (go_at_call 18; refine (HE.out _ (by assumption)).mono ?_; rintro e w4 ⟨rfl, hT4⟩))
      rename_i hHeld
      clear hHeld
      have HT4 := Lib.hid hT4
      clear hT4
      go_wp2
      go_roundw
      case rel => exact ⟨k + 1, by have := HLT.out; omega, by go_num, HT4⟩
      case measure => have := HLT.out; simp [intOf]; omega
    · obtain rfl : k = 4 := by omega
      go_wp2
      go_ret
      have h := HR.out.end
      rw [HALL.out] at h
      exact ⟨rfl, h⟩
end Go.Proofs.YtifkhmcdgmnipaaGreatDoor

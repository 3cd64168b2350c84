/-
  THE WALK of the statement on a page's room. Condition: errors.errorType is as the program's text lays it.
-/
import Derived.Test.YtmfddecndadohaaDoorShortW
import Derived.Deep.AppendLies
namespace Go.Proofs.YtmfddecndadohaaDoor
open Go.RowKit Crc

theorem own_some {w : World} {B : Nat} {e : TypeId} {v : Value} {n : Nat} {xs : List Value} (h : w.ownsRow B e 1 v n xs) (hn : 1 ≤ n) : ∃ g cap, v = .slice (some ⟨g, 0, none⟩) n cap := by
  rcases h.2 with ⟨_, h0⟩ | ⟨g, cap, _, rfl, _⟩
  · omega
  · exact ⟨g, cap, rfl⟩
theorem own_news {w : World} {B : Nat} {e : TypeId} {g n cap : Nat} {xs : List Value} (h : w.ownsRow B e 1 (.slice (some ⟨g, 0, none⟩) n cap) n xs) : ∀ j u, xs[j]? = some u → w.cell? ((⟨g, 0, none⟩ : Addr).add j) = some u := by
  intro j u hu
  rcases h.2 with ⟨h0, _⟩ | ⟨g', cap', cur, hv, _, hc, _, _, _, ht⟩
  · cases h0
  · simp at hv
    obtain ⟨rfl, _⟩ := hv
    rw [Addr.add_mid, Nat.zero_add, cell_of_row w g j _ _ _ hc]
    rw [← ht] at hu
    rw [List.getElem?_take] at hu
    split at hu
    · simpa using hu
    · cases hu
theorem news_grown {w w2 : World} {row : Option Nat} {A : Obj} {v : Value} {t : TypeId} (hg : ((w.alloc A).alloc (.cells #[v] t)).drew.grownBy w2 row) (hr : row = none) : ∀ j u, [v][j]? = some u → w2.cell? ((⟨w.heap.size + 1, 0, none⟩ : Addr).add j) = some u := by
  intro j u hu
  have h : ((w.alloc A).alloc (.cells #[v] t)).cell? ((⟨w.heap.size + 1, 0, none⟩ : Addr).add j) = some u := by
    have h := cell_one_new (w.alloc A) v t j u hu
    rw [World.size_alloc] at h
    exact h
  rw [Addr.add_mid] at h ⊢
  rw [cell_of_block (hg.block _ (show w.heap.size + 1 < ((w.alloc A).alloc (.cells #[v] t)).heap.size by simp) (by rw [hr]; simp))]
  exact h
theorem news_two (w : World) (A : Obj) (v : Value) (t : TypeId) : ∀ j u, [v][j]? = some u → ((w.alloc A).alloc (.cells #[v] t)).cell? ((⟨w.heap.size + 1, 0, none⟩ : Addr).add j) = some u := by
  have h := cell_one_new (w.alloc A) v t
  rw [World.size_alloc] at h
  exact h
theorem one_of_own {w w0 : World} {B : Nat} {v : Value} {n k : Nat} {xs : List Value} {ys : List Int} (_ : w.ownsRow B 30 1 v n xs) (hp : ∀ i (h : i < xs.length), Part w0 xs[i] (prt ys k i)) (_ : xs.length = n) : ∀ u ∈ xs, u.oneCell' = true := by
  intro u hu
  obtain ⟨i, hi, rfl⟩ := List.getElem_of_mem hu
  obtain ⟨ao, cap, e⟩ := own_slice (hp i hi)
  rw [e]
  rfl
/-- one record more in memory of their own -/
theorem ownrecs_push {w w2 : World} {v v2 val : Value} {n : Nat} {rs : List (List Int)} {vs : List Value} {B B2 : Nat} {x : List Int} (hl : rs.length = n) (hy : ∀ r ∈ rs, Byte r) (hvl : vs.length = n) (hown : w.ownsRow B 30 1 v n vs) (hp : ∀ i (h : i < vs.length) (h' : i < rs.length), Part w vs[i] rs[i])
    (hx : Part w val x) (hb : Byte x) (hown2 : w2.ownsRow B2 30 1 v2 (n + 1) (vs ++ [val])) (hg : w.grownBy w2 v.ownBlock) : OwnRecs w2 v2 (n + 1) (rs ++ [x]) := by
  refine ⟨by simp [hl], ?_, vs ++ [val], by simp [hvl], own_base hown2, ?_⟩
  · intro r hr
    rcases List.mem_append.1 hr with h | h
    · exact hy r h
    · rw [List.mem_singleton.1 h]; exact hb
  · intro i hi hi'
    by_cases hin : i < n
    · rw [List.getElem_append_left (by omega), List.getElem_append_left (by omega)]
      exact own_grown (hp i (by omega) (by omega)) hown hg (by decide)
    · have e : i = n := by simp at hi; omega
      subst e
      rw [List.getElem_append_right (by omega), List.getElem_append_right (by omega)]
      simp only [hvl, hl, Nat.sub_self, List.getElem_cons_zero]
      exact own_grown hx hown hg (by decide)
theorem part_zeros (w : World) (k : Nat) (hm : k ≤ maxLen) : Part (w.alloc (.cells (Array.replicate k (.int .u8 0)) 5)) (.slice (some ⟨w.heap.size, 0, none⟩) k k) (List.replicate k 0) := by
  unfold Part
  rw [List.length_replicate]
  refine ⟨by simp [bl], .inr ⟨w.heap.size, k, _, rfl, Nat.zero_le _, heap_alloc_new _ _, Nat.le_refl _, hm, by simp, by simp [bl]⟩⟩
theorem bad_room {ki nu ep : Int} {s : Int} {rs : List (List Int)} (h : room s < rs.length) : (Pg.mkPg ki nu ep s rs).may = false := by
  unfold Pg.may
  have : fitsB s rs.length = false := by
    unfold fitsB
    rw [decide_eq_false (show ¬ (rs.length : Int) ≤ room s by omega), Bool.and_false]
  show (fitsB s rs.length && _) = false
  rw [this]; rfl
/-- page.Check where there are too many: the records are not looked at -/
theorem check_many (ki nu ep si : Int) (a : Option Addr) (n c : Nat) (w : World) (hs : si ≤ 9223372036854775807) (h : fitsB si n = false) :
    Calls Tryd.prog 17 #[.agg #[.int .u8 ki, .int .u32 nu, .int .u64 ep, .int .i64 si, .slice a n c]] w fun e w' => e = .returned (.iface 52 (.int .i64 1)) ∧ Below w.heap.size w w' := by
  have hmf : ∀ (fn : Fn) (first cap : Array Value) (w : World), (Instr.makeFunc fn first cap).run Tryd.prog w = .ok (.func fn first cap) w := fun _ _ _ _ => rfl
  go_enter Tryd.func17, Tryd.ntmps17
  go_wp2_with (first | (go_at_call 25; refine (fits_any si n _ hs).mono ?_; rintro e w' ⟨rfl, rfl⟩))
  go_ret
  exact ⟨rfl, (Below.refl _ _).alloc (Nat.le_refl _) _⟩
theorem encode_many (ki nu ep si : Int) (a : Option Addr) (n c : Nat) (w : World) (hs : si ≤ 9223372036854775807) (h : fitsB si n = false) :
    Calls Tryd.prog 11 #[.agg #[.int .u8 ki, .int .u32 nu, .int .u64 ep, .int .i64 si, .slice a n c]] w fun e w' => e = .returned (.tuple #[.slice none 0 0, .iface 52 (.int .i64 1)]) ∧ Below w.heap.size w w' := by
  go_enter Tryd.func11, Tryd.ntmps11
  go_wp2_with (go_at_call 17; refine (check_many ki nu ep si _ _ _ _ hs h).mono ?_; rintro e w1 ⟨rfl, hb⟩)
  go_ret2
  exact ⟨rfl, ((Below.refl _ _).alloc (Nat.le_refl _) _).trans (hb.mono (by simp))⟩
theorem room_max {k : Int} (h : 1 ≤ k) (hn : room k ≠ 255) : 492 < (room k + 1) * k := by
  rw [room_big h] at hn ⊢
  have h1 : min (492 / k) 255 = 492 / k := by omega
  rw [h1]
  exact Int.lt_ediv_add_one_mul_self 492 (by omega)
def zs : List Int := List.replicate 492 0
theorem zs_prt (k i : Nat) (h : i * k + k ≤ 492) : prt zs k i = List.replicate k 0 := by
  unfold prt zs
  rw [List.drop_replicate, List.take_replicate, Nat.min_eq_left (by omega)]
theorem zs_may (k n : Nat) (hk : 1 ≤ k) (hn : room k = n) (h1 : 1 ≤ n) : (Pg.mkPg 0 0 0 k (prts zs k n)).may = true := by
  have hm := room_mul (s := (k : Int)) (by omega)
  rw [hn] at hm
  have hm' : n * k ≤ 492 := by
    have : ((n * k : Nat) : Int) = (n : Int) * (k : Int) := Int.natCast_mul _ _
    omega
  unfold Pg.may
  rw [Bool.and_eq_true, fits_iff]
  show (0 < room k ∧ ((prts zs k n).length : Int) ≤ room k) ∧ _
  rw [prts_len, hn]
  refine ⟨⟨by omega, by omega⟩, ?_⟩
  rw [Bool.not_eq_true', List.any_eq_false]
  intro r hr
  simp only [prts, List.mem_map, List.mem_range] at hr
  obtain ⟨i, hi, rfl⟩ := hr
  have h2 : (i + 1) * k ≤ n * k := Nat.mul_le_mul_right k (by omega)
  rw [Nat.succ_mul] at h2
  rw [zs_prt k i (by omega)]
  simp [badB]
theorem zs_bad (k n : Nat) (hk : 1 ≤ k) (hn : room k = n) (h1 : 1 ≤ n) : (Pg.mkPg 0 0 0 ((k : Int) + 1) (prts zs k n)).may = false := by
  have hm := may_size (zs_may k n hk hn h1)
  unfold Pg.may
  rw [Bool.and_eq_false_iff]
  right
  rw [Bool.not_eq_false']
  have h0 : 0 < (prts zs k n).length := by rw [prts_len]; omega
  refine any_at _ _ 0 h0 ?_
  have this : (((prts zs k n)[0].length : Nat) : Int) = (k : Int) := hm.2.2.2 _ (List.getElem_mem h0)
  show ((((prts zs k n)[0].length : Nat) : Int) != (k : Int) + 1) = true
  rw [bne_iff_ne, this]
  omega
set_option maxRecDepth 100000 in
set_option maxHeartbeats 1000000 in
theorem room_walk (a : Int) (w : World) (_ : (Lit.int .i64 a).wf = true) (hl : Laid w) :
    Calls Tryd.prog 6 #[.int .i64 a] w fun e w' => e = .returned (.bool true) ∧ Below w.heap.size w w' := by
  have hb := red_bd a 492 (by decide) (by decide)
  obtain ⟨k', hk⟩ := Int.eq_ofNat_of_zero_le hb.1
  rw [hk] at hb
  have hb1 : k' ≤ 491 := by omega
  obtain ⟨k, hkk⟩ : ∃ k, k = 1 + k' := ⟨_, rfl⟩
  have hk1 : (1 : Int) + (k' : Int) = (k : Int) := by omega
  have hk2 : 1 ≤ k := by omega
  have hk3 : k ≤ 492 := by omega
  obtain ⟨n, hn⟩ := Int.eq_ofNat_of_zero_le (room_bd k).1
  have hn1 : 1 ≤ n := by have := room_pos (s := (k : Int)) (by omega) (by omega); omega
  have hn2 : n ≤ 255 := by have := room_bd k; omega
  have hnk : n * k ≤ 492 := by
    have := room_mul (s := (k : Int)) (by omega)
    rw [hn] at this
    have e : ((n * k : Nat) : Int) = (n : Int) * (k : Int) := Int.natCast_mul _ _
    omega
  have HNK := Lib.hid hnk
  have HL := Lib.hid hl
  have hmk := make_k k (by omega)
  obtain ⟨i0, hi, hz0, hz1, hz2⟩ := info_parts info_sl
  have HI := Lib.hid hi
  have HI0 := Lib.hid hz0
  have HI1 := Lib.hid hz1
  have HI2 := Lib.hid hz2
  clear hb hb1 hkk hl hnk hi hz0 hz1 hz2
  go_enter Tryd.func6, Tryd.ntmps6
  go_wp2_with (go_at_call 12; refine (room_any _ _ (by omega)).mono ?_; rintro e w' ⟨rfl, rfl⟩)
  go_loopw [5, 6] (fun v i wr => ∃ (j : Nat) (vs : List Value), j ≤ n ∧ i = .int .i64 j ∧ Hid (Parts w wr v zs k j vs)) (fun _ i _ => n - (intOf i).toNat)
  case atStart => exact ⟨0, [], by omega, rfl, Lib.hid ⟨rfl, World.ownsRow_nil _ _ _ _, fun i hi => absurd hi (by simp), Below.refl _ _⟩⟩
  case round =>
    obtain ⟨j, vs, hj, rfl, HP⟩ := hrel
    by_cases hlt : j < n
    · have hjk : j * k + k ≤ 492 := by
        have h2 : (j + 1) * k ≤ n * k := Nat.mul_le_mul_right k (by omega)
        have := HNK.out
        rw [Nat.succ_mul] at h2
        omega
      have HJ := Lib.hid (zs_prt k j hjk)
      clear hjk
      go_wp2_with (at_builtin; refine wpList_append_own _ rfl (.tmp 26) (.tmp 29) 24 rfl w.heap.size 30 i0 (.slice none 0 0) 1 24 Tryd.underlying24 HI.out HI0.out HI1.out HI2.out rfl (by decide) u5 j vs rfl (own_below (own_below HP.out.own (alX _ _)) (alX _ _)) ⟨wr.heap.size + 1, 0, none⟩ 1 1 [.slice (some ⟨wr.heap.size, 0, none⟩) k k] rfl rfl (news_two _ _ _ _) (by simp [Value.oneCell']) (by unfold maxLen; omega) (by omega) (by have := HP.out.bel.size; simp; omega) ?_; intro v2 w2 hown hgrow _)
      have hpz := part_zeros wr k (by unfold maxLen; omega)
      have HP2 := Lib.hid (parts_next HP.out (alX wr (.cells (Array.replicate k (.int .u8 0)) 5)) (by rw [HJ.out]; unfold Part at hpz; rw [List.length_replicate] at hpz; exact hpz) (by rw [HJ.out, List.length_replicate]) hown hgrow)
      clear hown hgrow hpz
      go_roundw
      case rel => exact ⟨j + 1, _, by omega, by go_num, HP2⟩
      case measure => simp [intOf]; omega
    · obtain rfl : j = n := by omega
      obtain ⟨gl, lc, hv⟩ := own_some HP.out.own hn1
      subst hv
      obtain ⟨ra, cap, hv, hr, h3, h4⟩ := (HP.out.recs (byte_zeros 492)).recs
      obtain ⟨rfl, rfl⟩ : some ⟨gl, 0, none⟩ = ra ∧ lc = cap := by simpa using hv
      clear hv
      have HR := Lib.hid hr
      clear hr
      go_upto_region 10 with (go_at_call 11; refine (encode_ok 0 0 0 k _ _ _ (prts zs k j) _ (prts_len _ _ _) HR.out (zs_may k j hk2 hn hn1) (by omega) (by omega) (by omega) (by omega)).mono ?_; rintro e w1 ⟨g, rfl, _, _, hb1⟩; have HB1 := Lib.hid hb1; clear hb1)
      have HO := Lib.hid (own_below HP.out.own HB1.out)
      have HBW := Lib.hid (HP.out.bel.trans (HB1.out.mono HP.out.bel.size))
      have HR1 := Lib.hid (HR.out.below HB1.out)
      go_cut [9] (fun v wx => ∃ ra2 cap2, v = .slice ra2 (j + 1) cap2 ∧ Below w1.heap.size w1 wx)
      case rest =>
        obtain ⟨ra2, cap2, rfl, hbc⟩ := hcut
        have HBC := Lib.hid hbc
        have HRC := Lib.hid (HR1.out.below hbc)
        have HBD := Lib.hid (HBW.out.trans (hbc.mono HBW.out.size))
        obtain ⟨P, hP⟩ : ∃ P, P = j * k := ⟨_, rfl⟩
        have hP2 : P ≤ 492 := by have := HNK.out; omega
        have hPI : (j : Int) * (k : Int) = (P : Int) := by rw [hP]; exact (Int.natCast_mul _ _).symm
        have hPJ : ((j : Int) + 1) * (k : Int) = (P : Int) + k := by rw [Int.add_mul, hPI, Int.one_mul]
        have HF := Lib.hid (show fitsB (k : Int) ((j + 1 : Nat) : Int) = false by unfold fitsB; rw [hn, decide_eq_false (show ¬ (((j + 1 : Nat) : Int) ≤ (j : Int)) by omega), Bool.and_false])
        have HZB := Lib.hid (zs_bad k j hk2 hn hn1)
        have HMX := Lib.hid (show j ≠ 255 → 492 < (P : Int) + k from fun h => by have := room_max (k := (k : Int)) (by omega) (by rw [hn]; omega); rw [hn, hPJ] at this; exact this)
        clear hbc hP hlt
        by_cases h255 : j = 255
        · have h1 : ((j : Int) == 255) = true := by rw [beq_iff_eq]; omega
          clear h255
          go_wp2_with (first | (go_at_call 11; (with_reducible refine (encode_many 0 0 0 (k : Int) ra2 (j + 1) cap2 wc (by omega) HF.out).mono ?_); rintro e w4 ⟨rfl, hb4⟩; have HB4 := Lib.hid (HBD.out.trans (hb4.mono HBD.out.size)); have HR4 := Lib.hid (HRC.out.below hb4); clear hb4) | (go_at_call 11; refine (encode_bad 0 0 0 _ _ _ _ (prts zs k j) _ (prts_len _ _ _) (by omega) (by omega) HR4.out HZB.out).mono ?_; rintro e w5 ⟨rfl, hb5⟩; have HB5 := Lib.hid (HB4.out.trans (hb5.mono HB4.out.size)); clear hb5) | (go_at_call 16; refine (num_err 1 w5 (HL.out.below HB5.out)).mono ?_; rintro e w6 ⟨rfl, hb6⟩; have HB6 := Lib.hid (HB5.out.trans (hb6.mono HB5.out.size)); clear hb6) | (go_at_call 16; refine (num_err 1 _ (HL.out.below HB6.out)).mono ?_; rintro e w7 ⟨rfl, hb7⟩; have HB7 := Lib.hid (HB6.out.trans (hb7.mono HB6.out.size)); clear hb7) | (go_at_call 10; refine (sure_any _).mono ?_; rintro e w8 ⟨rfl, hb8⟩; have HB8 := Lib.hid (HB7.out.trans (hb8.mono HB7.out.size)); clear hb8))
          go_ret
          exact ⟨rfl, HB8.out⟩
        · have h1 : ((j : Int) == 255) = false := by rw [beq_eq_false_iff_ne]; omega
          have h2 := HMX.out h255
          clear h255
          go_wp2_with (first | (go_at_call 11; (with_reducible refine (encode_many 0 0 0 (k : Int) ra2 (j + 1) cap2 wc (by omega) HF.out).mono ?_); rintro e w4 ⟨rfl, hb4⟩; have HB4 := Lib.hid (HBD.out.trans (hb4.mono HBD.out.size)); have HR4 := Lib.hid (HRC.out.below hb4); clear hb4) | (go_at_call 11; refine (encode_bad 0 0 0 _ _ _ _ (prts zs k j) _ (prts_len _ _ _) (by omega) (by omega) HR4.out HZB.out).mono ?_; rintro e w5 ⟨rfl, hb5⟩; have HB5 := Lib.hid (HB4.out.trans (hb5.mono HB4.out.size)); clear hb5) | (go_at_call 16; refine (num_err 1 w5 (HL.out.below HB5.out)).mono ?_; rintro e w6 ⟨rfl, hb6⟩; have HB6 := Lib.hid (HB5.out.trans (hb6.mono HB5.out.size)); clear hb6) | (go_at_call 16; refine (num_err 1 _ (HL.out.below HB6.out)).mono ?_; rintro e w7 ⟨rfl, hb7⟩; have HB7 := Lib.hid (HB6.out.trans (hb7.mono HB6.out.size)); clear hb7) | (go_at_call 10; refine (sure_any _).mono ?_; rintro e w8 ⟨rfl, hb8⟩; have HB8 := Lib.hid (HB7.out.trans (hb8.mono HB7.out.size)); clear hb8))
          go_ret
          exact ⟨rfl, HB8.out⟩
      case first =>
        have HV1 := Lib.hid (one_of_own HO.out HP.out.part HP.out.len)
        go_region_law (first | (refine step_append_lies _ rfl (.tmp 38) (.tmp 39) 24 rfl w1.heap.size 30 i0 (.slice none 0 0) 1 24 Tryd.underlying24 HI.out HI0.out HI1.out HI2.out rfl (by decide) (.slice none 0 0) 0 [] rfl (World.ownsRow_nil _ _ _ _) ⟨gl, 0, none⟩ j lc vs rfl (by rw [HP.out.len, Nat.mul_one]) (by first | with_reducible exact own_news HO.out.drew | with_reducible exact own_news (HO.out.alloc _).drew | with_reducible exact own_news ((HO.out.alloc _).alloc _).drew) HV1.out (by omega) (by unfold maxLen; omega) (by omega) (by simp <;> omega) _ rfl ?_; intro g2 cap2 w2 hown2 hgrow2 hat2 hlt2; simp only [Nat.zero_add, List.nil_append] at hown2) | (refine step_append_lies _ rfl (.tmp 40) (.tmp 43) 24 rfl w1.heap.size 30 i0 (.slice none 0 0) 1 24 Tryd.underlying24 HI.out HI0.out HI1.out HI2.out rfl (by decide) (.slice (some ⟨g2, 0, none⟩) j cap2) j vs rfl ((hown2.alloc _).alloc _) ⟨w2.heap.size + 1, 0, none⟩ 1 1 [.slice (some ⟨w2.heap.size, 0, none⟩) k k] rfl rfl (news_two _ _ _ _) (by simp [Value.oneCell']) (by omega) (by unfold maxLen; omega) (by omega) (by have := hgrow2.size; simp at this; simp; omega) _ rfl ?_; intro g3 cap3 w3 hown3 hgrow3 hat3 hlt3) | (refine step_append_lies _ rfl (.tmp 40) (.tmp 43) 24 rfl w1.heap.size 30 i0 (.slice none 0 0) 1 24 Tryd.underlying24 HI.out HI0.out HI1.out HI2.out rfl (by decide) (.slice (some ⟨g2, 0, none⟩) j cap2) j vs rfl (hown2.alloc _) ⟨w2.heap.size, 0, none⟩ 1 1 [.slice (some ⟨w1.heap.size, 0, none⟩) k k] rfl rfl (cell_one_new _ _ _) (by simp [Value.oneCell']) (by omega) (by unfold maxLen; omega) (by omega) (by have := hgrow2.size; simp at this; simp; omega) _ rfl ?_; intro g3 cap3 w3 hown3 hgrow3 hat3 hlt3) | (refine step_append_lies _ rfl (.tmp 40) (.tmp 43) 24 rfl w1.heap.size 30 i0 (.slice none 0 0) 1 24 Tryd.underlying24 HI.out HI0.out HI1.out HI2.out rfl (by decide) (.slice (some ⟨g2, 0, none⟩) j cap2) j vs rfl hown2 ⟨w1.heap.size + 1, 0, none⟩ 1 1 [.slice (some ⟨w1.heap.size, 0, none⟩) k k] rfl rfl (news_grown hgrow2 rfl) (by simp [Value.oneCell']) (by omega) (by unfold maxLen; omega) (by omega) (by have := hgrow2.size; simp at this; simp; omega) _ rfl ?_; intro g3 cap3 w3 hown3 hgrow3 hat3 hlt3))
        all_goals go_wp2
        all_goals go_meet
        all_goals have b0 : Below w1.heap.size w1 w1.drew := (Below.refl _ _).drew
        all_goals have nv : ∀ q, (Value.slice none 0 0).ownBlock = some q → w1.heap.size ≤ q := fun q hq => by cases hq
        · have b2 := (b0.grown hgrow2 (by simp) nv)
          exact ⟨_, _, rfl, ((b2.alloc b2.size _).alloc (by have := b2.size; simp; omega) _).grown hgrow3 (by have := b2.size; simp; omega) (fun q hq => (hown2.lt q hq).1)⟩
        · have b2 := ((b0.alloc b0.size (.cells (Array.replicate k (.int .u8 0)) 5)).grown hgrow2 (by simp) nv)
          exact ⟨_, _, rfl, (b2.alloc b2.size _).grown hgrow3 (by have := b2.size; simp; omega) (fun q hq => (hown2.lt q hq).1)⟩
        · have b2 := (((b0.alloc b0.size (.cells (Array.replicate k (.int .u8 0)) 5)).alloc (by simp) (.cells #[.slice (some ⟨w1.heap.size, 0, none⟩) k k] 30)).grown hgrow2 (by simp; omega) nv)
          exact ⟨_, _, rfl, b2.grown hgrow3 b2.size (fun q hq => (hown2.lt q hq).1)⟩
end Go.Proofs.YtmfddecndadohaaDoor

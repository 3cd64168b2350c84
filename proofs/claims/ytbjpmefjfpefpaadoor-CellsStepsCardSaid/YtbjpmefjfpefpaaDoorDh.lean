/-
  THE WALK of the document's Step. Conditions: the cells lie in memory; a rule, and a number, that may be.
-/
import Derived.Test.YtbjpmefjfpefpaaDoorDg
namespace Go.Proofs.YtbjpmefjfpefpaaDoor
open Go.RowKit Ru Ce

/-- what the document's Step answers -/
def StepQ (w : World) (r : Rul) (L : List Cel) (N : Nat) (e : Ending) (w' : World) : Prop :=
  Below w.heap.size w w' ∧ ((¬ chkN L = 0 ∧ e = .returned (.tuple #[.slice none 0 0, .int .i64 (chkN L)])) ∨ (chkN L = 0 ∧ stp r (srt L) N = none ∧ e = .returned (.tuple #[.slice none 0 0, .int .i64 6])) ∨ (chkN L = 0 ∧ ∃ T v, stp r (srt L) N = some T ∧ e = .returned (.tuple #[v, .int .i64 0]) ∧ OwnC 24 w' w.heap.size v T.length T))
/-- between two generations -/
structure GQ (w : World) (bb ll : Nat) (S0 : List Cel) (k : Nat) (v : Value) (wr : World) : Prop where
  rb : wr.heap[w.heap.size]? = some (.cells #[.int .u16 bb, .int .u16 ll] 48 (0, 0))
  ex : ∃ T : List Cel, stp (rul bb ll) S0 k = some T ∧ OwnC 24 wr w.heap.size v T.length T ∧ fine T = true ∧ Srt T
  bel : Below w.heap.size w wr
theorem fine_of {T : List Cel} (h : T.length ≤ 4096) (k : T.all okc = true) : fine T = true := by
  unfold fine
  rw [decide_eq_true h, k]
  rfl
theorem chk_num {L : List Cel} (h : ¬ chkN L = 0) : (((chkN L : Nat) : Int) != 0) = true := by
  simp only [bne_iff_ne, ne_eq]
  omega
set_option maxRecDepth 100000 in
set_option maxHeartbeats 4000000 in
theorem step_ref (bb ll : Nat) (hb : bb < 65536) (hl : ll < 65536) (a : Option Addr) (n c : Nat) (L : List Cel) (N : Nat) (w : World) (ha : Cls w a L) (hn : L.length = n) (hm : n ≤ 9223372036854775807) (hN : N ≤ 64) :
    Calls Tryd.prog 19 #[Rv bb ll, .slice a n c, .int .i64 (N : Int)] w (StepQ w (rul bb ll) L N) := by
  have HS := Lib.hid (fun W (hb : Below w.heap.size w W) => sorted_ref a n c L W (ha.below hb (Nat.le_refl _)) hn hm)
  have HNX := Lib.hid (fun a n c L W ha hn hm hnd hok => next_q bb ll hb hl a n c L W ha hn hm hnd hok)
  unfold Rv at HNX ⊢
  clear ha hn hm hb hl
  have n0 : (0 : Int) ≤ (N : Int) := by omega
  have n1 : (N : Int) ≤ 64 := by omega
  by_cases hck : chkN L = 0
  · have HSG := Lib.hid (show ∀ w1 e w', SortQ w1 L e w' → ∃ v, e = .returned (.tuple #[v, .int .i64 0]) ∧ OwnC 24 w' w1.heap.size v (srt L).length (srt L) ∧ Below w1.heap.size w1 w' from fun w1 e w' h => by
      unfold SortQ at h
      rwa [if_pos hck] at h)
    obtain ⟨q1, q2⟩ := chkN_zero hck
    have HFS := Lib.hid (show fine (srt L) = true from (fine_iff _).2 ⟨Nat.le_trans (srt_len L) q1, fun x hx => q2 x ((srt_mem L x).1 hx)⟩)
    have HRG := Lib.hid (show ∀ T v w', stp (rul bb ll) (srt L) N = some T → OwnC 24 w' w.heap.size v T.length T → Below w.heap.size w w' → StepQ w (rul bb ll) L N (.returned (.tuple #[v, .int .i64 0])) w' from fun T v w' e ho hb => ⟨hb, .inr (.inr ⟨hck, T, v, e, rfl, ho⟩)⟩)
    have HRE := Lib.hid (show ∀ w', stp (rul bb ll) (srt L) N = none → Below w.heap.size w w' → StepQ w (rul bb ll) L N (.returned (.tuple #[.slice none 0 0, .int .i64 6])) w' from fun w' e hb => ⟨hb, .inr (.inl ⟨hck, e, rfl⟩)⟩)
    clear hck q1 q2 hN
    go_enter Tryd.func19, Tryd.ntmps19
    have HB0 := Lib.hid (alX w (.cells #[.int .u16 bb, .int .u16 ll] 48))
    have HX0 := Lib.hid (heap_alloc_new w (.cells #[.int .u16 bb, .int .u16 ll] 48))
    go_wp2_with (go_at_call 9; refine (HS.out _ HB0.out).mono ?_; intro e w2 hs2; obtain ⟨v2, rfl, ho2, hb2⟩ := HSG.out _ _ _ hs2; have HG := Lib.hid (show GQ w bb ll (srt L) 0 v2 w2 from ⟨(hb2.block w.heap.size (lt_of_block HX0.out)).trans HX0.out, ⟨srt L, rfl, own_monoC ho2 HB0.out.size, HFS.out, srt_srt L⟩, HB0.out.trans (hb2.mono HB0.out.size)⟩); clear hs2 ho2 hb2)
    clear HB0 HX0
    go_loopw [10, 8] (fun i v wr => ∃ k : Nat, k ≤ N ∧ i = .int .i64 k ∧ Hid (GQ w bb ll (srt L) k v wr)) (fun i _ _ => N - (intOf i).toNat)
    case atStart => exact ⟨0, by omega, rfl, HG⟩
    case round =>
      obtain ⟨k, hk, rfl, HGk⟩ := hrel
      clear HG
      have i0 : (0 : Int) ≤ (k : Int) := by omega
      obtain ⟨T, hT, ho, hfn, hst⟩ := HGk.out.ex
      obtain ⟨ao, cap, rfl, hcls, hcap, hcm, hz1, hz2, hz3⟩ := own_cls ho
      clear hcap hcm hz1 hz2 hz3
      obtain ⟨hf1, hf2⟩ := (fine_iff T).1 hfn
      have HT := Lib.hid hT
      have HO := Lib.hid ho
      have hrb := HGk.out.rb
      have b0 := cell_of_row _ _ 0 _ _ _ hrb
      have b1 := cell_of_row _ _ 1 _ _ _ hrb
      by_cases hlt : k < N
      · have i1 : (k : Int) < (N : Int) := by omega
        have HNq := Lib.hid (HNX.out ao T.length cap T wr hcls rfl hf1 hst.nodup hf2)
        have HSN := Lib.hid (stp_snoc (rul bb ll) k (srt L) T hT)
        clear hcls hf1 hf2 hst hfn ho hT hrb
        obtain ⟨U, hU⟩ : ∃ U, U = nxt (rul bb ll) T := ⟨_, rfl⟩
        have HUS := Lib.hid (show Srt U by rw [hU]; exact nxt_srt _ _)
        unfold NextQ at HNq
        rw [← hU] at HNq HSN
        clear hU
        go_wp2_with (go_at_call 33; refine HNq.out.mono ?_; rintro e w5 ⟨v5, rfl, ho5, hb5⟩; have HO5 := Lib.hid (own_monoC ho5 HGk.out.bel.size); have HB5 := Lib.hid (HGk.out.bel.trans (hb5.mono HGk.out.bel.size)); have HX5 := Lib.hid ((hb5.block w.heap.size (lt_of_block HGk.out.rb)).trans HGk.out.rb); clear ho5 hb5)
        clear HNq b0 b1 HGk
        obtain ⟨ao5, cap5, rfl, hcl5, _, hcm5, hz1, hz2, hz3⟩ := own_cls HO5.out
        clear hz1 hz2 hz3
        have HC5 := Lib.hid hcl5
        have HUL := Lib.hid (show U.length ≤ 9223372036854775807 by omega)
        clear hcl5 hcm5
        by_cases hbig : 4096 < U.length
        · have HNO := Lib.hid (show stp (rul bb ll) (srt L) N = none from stp_none _ (k + 1) N _ (by rw [HSN.out, if_neg (fun h => absurd ((fine_iff U).1 h).1 (by omega))]) (by omega))
          have g1 : (4096 : Int) < (U.length : Int) := by omega
          have g0 : (0 : Int) < (U.length : Int) := by omega
          have gl : U.length ≤ 9223372036854775807 := HUL.out
          go_loopw [11] (fun j wr => j = .int .i64 0 ∧ Hid (Below w.heap.size w wr)) (fun _ _ => 0)
          case atStart => exact ⟨rfl, HB5⟩
          case round =>
            obtain ⟨rfl, HBj⟩ := hrel
            go_wp2
            go_ret2
            exact HRE.out _ HNO.out HBj.out
        · have g1 : ¬ (4096 : Int) < (U.length : Int) := by omega
          go_loopw [11] (fun j wr => ∃ q : Nat, q ≤ U.length ∧ j = .int .i64 q ∧ Hid ((U.take q).all okc = true) ∧ Hid (Below w5.heap.size w5 wr)) (fun j _ => U.length - (intOf j).toNat)
          case atStart => exact ⟨0, by omega, rfl, Lib.hid (by simp), Lib.hid (Below.refl _ _)⟩
          case round =>
            obtain ⟨q, hq, rfl, HAq, HBq⟩ := hrel
            have q0 : (0 : Int) ≤ (q : Int) := by omega
            by_cases hql : q < U.length
            · have q1 : (q : Int) < (U.length : Int) := by omega
              obtain ⟨b, off, rfl, c0, c1⟩ := (HC5.out.below HBq.out (Nat.le_refl _)) q hql
              have HS1 := Lib.hid (show (U.take (q + 1)).all okc = okc U[q] by
                rw [List.take_succ_eq_append_getElem hql, List.all_append, HAq.out]; simp)
              have HMem := Lib.hid (show U[q] ∈ U from List.getElem_mem hql)
              obtain ⟨y, hy⟩ : ∃ y, y = U[q] := ⟨_, rfl⟩
              rw [← hy] at c0 c1 HS1 HMem
              clear hy
              have HV := Lib.hid (fun W => away_ref y W)
              unfold cv at HV
              cases hoy : okc y
              · rw [hoy] at HV
                have HNO := Lib.hid (show stp (rul bb ll) (srt L) N = none from stp_none _ (k + 1) N _ (by rw [HSN.out, if_neg (fun h => by rw [((fine_iff U).1 h).2 y HMem.out] at hoy; cases hoy)]) (by omega))
                clear hoy
                go_wp2_with (go_at_call 25; refine (HV.out _).mono ?_; rintro e w6 ⟨rfl, hb6⟩; have HB6 := Lib.hid (HB5.out.trans ((HBq.out.trans (hb6.mono HBq.out.size)).mono HB5.out.size)); clear hb6)
                go_ret2
                exact HRE.out _ HNO.out HB6.out
              · rw [hoy] at HV HS1
                clear hoy
                go_wp2_with (go_at_call 25; refine (HV.out _).mono ?_; rintro e w6 ⟨rfl, hb6⟩; have HB6 := Lib.hid (HBq.out.trans (hb6.mono HBq.out.size)); clear hb6)
                go_roundw
                case rel => exact ⟨q + 1, by omega, by go_num, HS1, HB6⟩
                case measure => simp [intOf]; omega
            · have hqe : q = U.length := by omega
              have HFU := Lib.hid (show fine U = true from fine_of (by omega) (by
                have := HAq.out
                rwa [hqe, List.take_length] at this))
              have HG2 := Lib.hid (show GQ w bb ll (srt L) (k + 1) _ wr from ⟨(HBq.out.block w.heap.size (lt_of_block HX5.out)).trans HX5.out, ⟨U, by rw [HSN.out, if_pos HFU.out], own_keep HO5.out HBq.out (Nat.le_refl _), HFU.out, HUS.out⟩, HB5.out.trans (HBq.out.mono HB5.out.size)⟩)
              clear HFU
              subst hqe
              go_wp2
              go_roundw
              case rel => exact ⟨k + 1, by omega, by go_num, HG2⟩
              case measure => simp [intOf]; omega
      · obtain rfl : k = N := by omega
        clear hcls hf1 hf2 hst hfn ho hT hrb b0 b1
        go_wp2
        go_ret2
        exact HRG.out _ _ _ HT.out HO.out HGk.out.bel
  · have HSB := Lib.hid (show ∀ w1 e w', SortQ w1 L e w' → e = .returned (.tuple #[.slice none 0 0, .int .i64 (chkN L)]) ∧ Below w1.heap.size w1 w' from fun w1 e w' h => by
      unfold SortQ at h
      rwa [if_neg hck] at h)
    have HRB := Lib.hid (show ∀ w', Below w.heap.size w w' → StepQ w (rul bb ll) L N (.returned (.tuple #[.slice none 0 0, .int .i64 (chkN L)])) w' from fun w' hb => ⟨hb, .inl ⟨hck, rfl⟩⟩)
    have hne := chk_num hck
    clear hck hN
    generalize chkN L = ck at HSB HRB hne
    go_enter Tryd.func19, Tryd.ntmps19
    have HB0 := Lib.hid (alX w (.cells #[.int .u16 bb, .int .u16 ll] 48))
    go_wp2_with (go_at_call 9; refine (HS.out _ HB0.out).mono ?_; intro e w2 hs2; obtain ⟨rfl, hb2⟩ := HSB.out _ _ _ hs2; have HB2 := Lib.hid (HB0.out.trans (hb2.mono HB0.out.size)); clear hs2 hb2)
    go_ret2
    exact HRB.out _ HB2.out
end Go.Proofs.YtbjpmefjfpefpaaDoor

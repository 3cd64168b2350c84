/-
  THE WALK of Step. Conditions: the cells lie in memory.
-/

import Derived.Test.YticnhpddidaaeaaCo
namespace Go.Proofs.Yticnhpddidaaeaa
open Go.RowKit Ru Ce Go.Maps

theorem nxt_perm (r : Rul) {S T : List Cel} (h : S.Perm T) : nxt r S = nxt r T :=
  srt_ext (nxt_srt r S) (nxt_srt r T) (fun x => by
    rw [nxt_mem, nxt_mem, alive_perm r h x]
    constructor
    · rintro ⟨⟨s, hs, hn⟩, ha⟩; exact ⟨⟨s, h.mem_iff.1 hs, hn⟩, ha⟩
    · rintro ⟨⟨s, hs, hn⟩, ha⟩; exact ⟨⟨s, h.mem_iff.2 hs, hn⟩, ha⟩)
/-- the error's number of Step -/
def stepN (bb ll : Nat) (L : List Cel) (n : Int) : Nat :=
  if mayR bb ll = false then 11 else if n < 0 ∨ 64 < n then 1 else if chkN L = 0 then (match stp (rul bb ll) (srt L) n.toNat with | none => 6 | some _ => 0) else chkN L
def stepV (bb ll : Nat) (L : List Cel) (n : Int) : List Cel := (stp (rul bb ll) (srt L) n.toNat).getD []
def StepR (w : World) (bb ll : Nat) (L : List Cel) (n : Int) (e : Ending) (w' : World) : Prop :=
  if stepN bb ll L n = 0 then ∃ v, e = .returned (.tuple #[v, .nilIface]) ∧ OwnC 31 w' w.heap.size v (stepV bb ll L n).length (stepV bb ll L n) ∧ Below w.heap.size w w'
  else e = .returned (.tuple #[.slice none 0 0, errv (stepN bb ll L n)]) ∧ Below w.heap.size w w'
theorem stepR_bad {w : World} {bb ll : Nat} {L : List Cel} {n : Int} {w' : World} {k : Nat} (h : stepN bb ll L n = k) (hk : ¬ k = 0) (hb : Below w.heap.size w w') : StepR w bb ll L n (.returned (.tuple #[.slice none 0 0, .iface 41 (.int .i64 k)])) w' := by
  unfold StepR
  rw [if_neg (by rw [h]; exact hk), h, errv_some hk]
  exact ⟨rfl, hb⟩
theorem stepR_good {w : World} {bb ll : Nat} {L : List Cel} {n : Int} {w' : World} {T : List Cel} {v : Value} (hm : mayR bb ll = true) (hn : ¬ (n < 0 ∨ 64 < n)) (hc : chkN L = 0) (h : stp (rul bb ll) (srt L) n.toNat = some T) (ho : OwnC 31 w' w.heap.size v T.length T) (hb : Below w.heap.size w w') : StepR w bb ll L n (.returned (.tuple #[v, .nilIface])) w' := by
  have e0 : stepN bb ll L n = 0 := by
    unfold stepN
    rw [if_neg (by rw [hm]; decide), if_neg hn, if_pos hc, h]
  have e1 : stepV bb ll L n = T := by unfold stepV; rw [h]; rfl
  unfold StepR
  rw [if_pos e0, e1]
  exact ⟨v, rfl, ho, hb⟩
/-- between two generations -/
structure GI (w : World) (r : Rul) (S0 : List Cel) (b k : Nat) (v : Value) (wr : World) : Prop where
  ex : ∃ T ks, stp r S0 k = some T ∧ ks.Perm T ∧ OwnC 31 wr w.heap.size v ks.length ks ∧ fine T = true ∧ Srt T
  map : ∃ nn D, OwnsC wr b nn D
  hb : w.heap.size ≤ b
  bel : Below w.heap.size w wr
theorem fine_ks {T ks : List Cel} (h : fine T = true) (p : ks.Perm T) (hs : Srt T) : ks.length ≤ 4096 ∧ (∀ x ∈ ks, okc x = true) ∧ ks.Nodup := by
  obtain ⟨h1, h2⟩ := (fine_iff T).1 h
  exact ⟨by rw [p.length_eq]; exact h1, fun x hx => h2 x (p.mem_iff.1 hx), p.nodup_iff.2 hs.nodup⟩
theorem own_ne_map {w : World} {B b nn n g cap : Nat} {D : DataW Unit} {L : List Cel} (ho : OwnsC w b nn D) (h : OwnC 31 w B (.slice (some ⟨g, 0, none⟩) n cap) n L) : ¬ g = b := by
  rcases h.2 with ⟨e, _⟩ | ⟨g', _, cur, e, _, hgb, _⟩
  · cases e
  · simp at e
    rintro rfl
    obtain ⟨es, clock, hb, _⟩ := ho
    rw [← e.1] at hgb
    rw [hgb] at hb
    cases hb
theorem own_kept_map {w w' : World} {B b nn n : Nat} {D : DataW Unit} {v : Value} {L : List Cel} (ho : OwnsC w b nn D) (h : OwnC 31 w B v n L) (hg : w.grownBy w' (some b)) : OwnC 31 w' B v n L := by
  refine h.kept hg ?_
  rcases h.2 with ⟨ev, _⟩ | ⟨g, cap, cur, ev, _, hgb, _⟩
  · exact .inl (by rw [ev]; rfl)
  · refine .inr (fun e => ?_)
    rw [ev] at e
    have : g = b := Option.some.inj e
    subst this
    obtain ⟨es, clock, hb, _⟩ := ho
    rw [hgb] at hb
    cases hb
theorem map_make (w : World) : (w.alloc (.map #[] 0)).ownsMap Try.prog 31 (plainElem (H := Unit) Try.prog 3) w.heap.size 0 (.map []) := World.ownsMap_made _ _ _ _
set_option maxRecDepth 100000 in
set_option maxHeartbeats 4000000 in
theorem step_any (bb ll : Nat) (hb : bb < 65536) (hl : ll < 65536) (a : Option Addr) (m c : Nat) (L : List Cel) (n : Int) (w : World) (ha : Cls w a L) (hn : L.length = m) (hz : a = none → m = 0) (hm : m ≤ 9223372036854775807) :
    Calls Try.prog 6 #[Rv bb ll, .slice a m c, .int .i64 n] w (StepR w bb ll L n) := by
  cases hmay : mayR bb ll
  · have HC := Lib.hid (fun w => check_bad bb ll hb hl hmay w)
    have HR := Lib.hid (show ∀ w', Below w.heap.size w w' → StepR w bb ll L n (.returned (.tuple #[.slice none 0 0, .iface 41 (.int .i64 (11 : Nat))])) w' from fun w' h => stepR_bad (by unfold stepN; rw [if_pos hmay]) (by decide) h)
    clear hmay ha hn hz hm hb hl
    unfold Rv at HC ⊢
    go_enter Try.func6, Try.ntmps6
    go_wp2_with (go_at_call 9; refine (HC.out _).mono ?_; rintro e w1 ⟨rfl, hb1⟩; have HB1 := Lib.hid ((alX w _).trans (hb1.mono (by simp))); clear hb1)
    go_ret2
    exact HR.out _ HB1.out
  · by_cases hn64 : n < 0 ∨ 64 < n
    · have HC := Lib.hid (fun w => check_ok bb ll hmay w)
      have HR := Lib.hid (show ∀ w', Below w.heap.size w w' → StepR w bb ll L n (.returned (.tuple #[.slice none 0 0, .iface 41 (.int .i64 (1 : Nat))])) w' from fun w' h => stepR_bad (by unfold stepN; rw [if_neg (by rw [hmay]; decide), if_pos hn64]) (by decide) h)
      clear hmay ha hn hz hm hb hl
      unfold Rv at HC ⊢
      rcases (show n < 0 ∨ (¬ n < 0 ∧ 64 < n) by omega) with h1 | ⟨h1, h2⟩
      all_goals
        clear hn64
        go_enter Try.func6, Try.ntmps6
        go_wp2_with (go_at_call 9; refine (HC.out _).mono ?_; rintro e w1 ⟨rfl, hb1⟩; have HB1 := Lib.hid ((alX w _).trans (hb1.mono (by simp))); clear hb1)
        go_ret2
        exact HR.out _ HB1.out
    · have HC := Lib.hid (fun w => check_ok bb ll hmay w)
      have HS := Lib.hid (fun w (ha : Cls w a L) => sorted_any a m c L w ha hn hz hm)
      have HA := Lib.hid (fun w' (hb : Below w.heap.size w w') => ha.below hb (Nat.le_refl _))
      have h1 : ¬ n < 0 := by omega
      have h2 : ¬ 64 < n := by omega
      have HMAY := Lib.hid hmay
      have HN64 := Lib.hid hn64
      clear ha hn hz hm
      by_cases hck : chkN L = 0
      · obtain ⟨q1, q2⟩ := chkN_zero hck
        have HFS := Lib.hid (show fine (srt L) = true from (fine_iff _).2 ⟨Nat.le_trans (srt_len L) q1, fun x hx => q2 x ((srt_mem L x).1 hx)⟩)
        have HSB := Lib.hid (show ∀ w1 e w', SortedR w1 L e w' → ∃ v, e = .returned (.tuple #[v, .nilIface]) ∧ OwnC 31 w' w1.heap.size v (srt L).length (srt L) ∧ Below w1.heap.size w1 w' from fun w1 e w' h => by
          unfold SortedR at h
          rwa [if_pos hck] at h)
        obtain ⟨N, hN⟩ : ∃ N : Nat, n = N := ⟨n.toNat, by omega⟩
        subst hN
        have HG := Lib.hid (show ∀ T v w', stp (rul bb ll) (srt L) N = some T → OwnC 31 w' w.heap.size v T.length T → Below w.heap.size w w' → StepR w bb ll L N (.returned (.tuple #[v, .nilIface])) w' from fun T v w' e ho hb => stepR_good hmay hn64 hck (by simpa using e) ho hb)
        have HE := Lib.hid (show ∀ w', stp (rul bb ll) (srt L) N = none → Below w.heap.size w w' → StepR w bb ll L N (.returned (.tuple #[.slice none 0 0, .iface 41 (.int .i64 (6 : Nat))])) w' from fun w' e hb => stepR_bad (by
          unfold stepN
          rw [if_neg (by rw [hmay]; decide), if_neg hn64, if_pos hck]
          have : stp (rul bb ll) (srt L) (N : Int).toNat = none := by simpa using e
          rw [this]) (by decide) hb)
        have n0 : (0 : Int) ≤ (N : Int) := by omega
        have n1 : (N : Int) ≤ 64 := by omega
        have hmm := @run_makeMap Try.prog
        clear hmay hn64 hck hb hl q1 q2
        unfold Rv at HC
        have HNX := Lib.hid (fun (b nn : Nat) (D : DataW Unit) (S : List Cel) (W : World) (hown : OwnsC W b nn D) (hf : MpC (cf S) D) (hnd : S.Nodup) (hok : ∀ x ∈ S, okc x = true) => next_any bb ll b nn D S W HMAY.out hown hf hnd hok)
        unfold Rv at HNX ⊢
        go_enter Try.func6, Try.ntmps6
        go_wp2_with (first
          | (go_at_call 9; refine (HC.out _).mono ?_; rintro e w1 ⟨rfl, hb1⟩; have HB1 := Lib.hid ((alX w _).trans (hb1.mono (by simp))); have hx := (hb1.block w.heap.size (by simp)).trans (heap_alloc_new w (.cells #[.int .u16 bb, .int .u16 ll] 36)); have HX := Lib.hid hx; clear hx hb1)
          | (go_at_call 10; refine (HS.out _ (HA.out _ HB1.out)).mono ?_; intro e w2 hs2; obtain ⟨v2, rfl, ho2, hb2⟩ := HSB.out _ _ _ hs2; have HB2 := Lib.hid (HB1.out.trans (hb2.mono HB1.out.size)); have HX2 := Lib.hid ((hb2.block w.heap.size (lt_of_block HX.out)).trans HX.out); have HO2 := Lib.hid (own_monoC ho2 HB1.out.size); clear hb2 hs2 ho2))
        clear hmm
        obtain ⟨b, hbq⟩ : ∃ b, b = w2.heap.size := ⟨_, rfl⟩
        have HGI := Lib.hid (show GI w (rul bb ll) (srt L) b 0 v2 (w2.alloc (.map #[] 0)) from by
          subst hbq
          exact ⟨⟨srt L, srt L, rfl, List.Perm.refl _, HO2.out.alloc _, HFS.out, srt_srt L⟩, ⟨0, _, map_make w2⟩, HB2.out.size, HB2.out.alloc HB2.out.size _⟩)
        have HX3 := Lib.hid ((Below.heap_alloc w2 (.map #[] 0) w.heap.size (lt_of_block HX2.out)).trans HX2.out)
        rw [← hbq]
        generalize w2.alloc (.map #[] 0) = w3 at HGI HX3 ⊢
        clear hbq
        go_loopw [34, 9] (fun i v wr => ∃ k : Nat, k ≤ N ∧ i = .int .i64 k ∧ Hid (GI w (rul bb ll) (srt L) b k v wr) ∧ Hid (wr.heap[w.heap.size]? = some (.cells #[.int .u16 bb, .int .u16 ll] 36 (0, 0)))) (fun i _ _ => N - (intOf i).toNat)
        case atStart => exact ⟨0, by omega, rfl, HGI, HX3⟩
        case round =>
          obtain ⟨k, hk, rfl, HGk, HXk⟩ := hrel
          obtain ⟨⟨T, ks, hT, hp, ho, hfn, hst⟩, ⟨nn, D, hmap⟩, hwb, hbel⟩ := HGk.out
          obtain ⟨ao, cap, rfl, hcls, _, _, hkl, _, hnone⟩ := own_cls ho
          obtain ⟨hk1, hk2, hk3⟩ := fine_ks hfn hp hst
          have HT := Lib.hid hT
          have HP := Lib.hid hp
          have HO := Lib.hid ho
          have HST := Lib.hid hst
          have HMP := Lib.hid hmap
          have HWB := Lib.hid hwb
          have HBL := Lib.hid hbel
          have HK := Lib.hid (And.intro hk1 (And.intro hk2 hk3))
          have i0 : (0 : Int) ≤ (k : Int) := by omega
          clear hT hp hst hnone hk2 hk3 hfn
          by_cases hlt : k < N
          · have i1 : (k : Int) < (N : Int) := by omega
            have HCNT := Lib.hid (count_any ao ks.length cap ks b nn D wr hcls rfl hk1 HK.out.2.1 HK.out.2.2 hmap)
            have HNK := Lib.hid (show ∀ w1 e w', NextR w1 (rul bb ll) ks e w' → NextR w1 (rul bb ll) T e w' from fun w1 e w' h => by
              unfold NextR at h ⊢
              rwa [nxt_perm (rul bb ll) HP.out] at h)
            have HNEB := Lib.hid (show ¬ w.heap.size = b from fun e => by
              obtain ⟨es, clock, hb, _⟩ := hmap
              have := HXk.out
              rw [e, hb] at this
              cases this)
            clear hcls hk1 hkl ho hmap hwb hbel
            have HCS := Lib.hid (show ∀ w4, CS b wr w4 (cf ks) (20 * ks.length) → (∃ nn' D', OwnsC w4 b nn' D' ∧ MpC (cf ks) D') ∧ Below w.heap.size w w4 ∧ w4.heap[w.heap.size]? = some (.cells #[.int .u16 bb, .int .u16 ll] 36 (0, 0)) from fun w4 h => by
              obtain ⟨nn', D', h1, h2, _, hg, _⟩ := h
              exact ⟨⟨nn', D', h1, h2⟩, HBL.out.grown hg HBL.out.size (fun j hj => by cases hj; exact HWB.out), (hg.block w.heap.size (lt_of_block HXk.out) (fun e => HNEB.out (Option.some.inj e))).trans HXk.out⟩)
            cases hfn : fine (nxt (rul bb ll) T)
            · have HNR := Lib.hid (show ∀ w1 e w', NextR w1 (rul bb ll) ks e w' → e = .returned (.tuple #[.slice none 0 0, .iface 41 (.int .i64 6)]) ∧ Below w1.heap.size w1 w' from fun w1 e w' h => by
                have h := HNK.out _ _ _ h
                unfold NextR at h
                rwa [if_neg (by rw [hfn]; decide)] at h)
              have HNO := Lib.hid (show stp (rul bb ll) (srt L) N = none from stp_none _ (k + 1) N _ (by rw [stp_snoc _ k _ T HT.out, if_neg (by rw [hfn]; decide)]) (by omega))
              clear hfn
              go_wp2_with (first
                | (go_at_call 11; refine HCNT.out.mono ?_; rintro e w4 ⟨rfl, hcs⟩; have H4 := Lib.hid (HCS.out _ hcs); have d0 := cell_of_row _ _ 0 _ _ _ H4.out.2.2; have d1 := cell_of_row _ _ 1 _ _ _ H4.out.2.2; clear hcs)
                | (go_at_call 12; refine (HNX.out b H4.out.1.choose H4.out.1.choose_spec.choose ks w4 H4.out.1.choose_spec.choose_spec.1 H4.out.1.choose_spec.choose_spec.2 HK.out.2.2 HK.out.2.1).mono ?_; intro e w5 hnx; obtain ⟨rfl, hb5⟩ := HNR.out _ _ _ hnx; have HB5 := Lib.hid (H4.out.2.1.trans (hb5.mono H4.out.2.1.size)); clear hnx hb5))
              go_ret2
              exact HE.out _ HNO.out HB5.out
            · have HNR := Lib.hid (show ∀ w1 e w', NextR w1 (rul bb ll) ks e w' → ∃ v ks2, e = .returned (.tuple #[v, .nilIface]) ∧ OwnC 31 w' w1.heap.size v ks2.length ks2 ∧ ks2.Perm (nxt (rul bb ll) T) ∧ Below w1.heap.size w1 w' from fun w1 e w' h => by
                have h := HNK.out _ _ _ h
                unfold NextR at h
                rwa [if_pos hfn] at h)
              have HNO := Lib.hid (show stp (rul bb ll) (srt L) (k + 1) = some (nxt (rul bb ll) T) by rw [stp_snoc _ k _ T HT.out, if_pos hfn])
              have HFN := Lib.hid hfn
              clear hfn
              go_wp2_with (first
                | (go_at_call 11; refine HCNT.out.mono ?_; rintro e w4 ⟨rfl, hcs⟩; have H4 := Lib.hid (HCS.out _ hcs); have d0 := cell_of_row _ _ 0 _ _ _ H4.out.2.2; have d1 := cell_of_row _ _ 1 _ _ _ H4.out.2.2; clear hcs)
                | (go_at_call 12; refine (HNX.out b H4.out.1.choose H4.out.1.choose_spec.choose ks w4 H4.out.1.choose_spec.choose_spec.1 H4.out.1.choose_spec.choose_spec.2 HK.out.2.2 HK.out.2.1).mono ?_; intro e w5 hnx; obtain ⟨v5, ks5, rfl, ho5, hp5, hb5⟩ := HNR.out _ _ _ hnx; have HB5 := Lib.hid (H4.out.2.1.trans (hb5.mono H4.out.2.1.size)); have HX5 := Lib.hid ((hb5.block w.heap.size (lt_of_block H4.out.2.2)).trans H4.out.2.2); have HG5 := Lib.hid (show GI w (rul bb ll) (srt L) b (k + 1) v5 w5 from ⟨⟨nxt (rul bb ll) T, ks5, HNO.out, hp5, own_monoC ho5 H4.out.2.1.size, HFN.out, nxt_srt _ _⟩, ⟨H4.out.1.choose, H4.out.1.choose_spec.choose, owns_heap H4.out.1.choose_spec.choose_spec.1 (hb5.block b H4.out.1.choose_spec.choose_spec.1.lt)⟩, HWB.out, HB5.out⟩); clear hnx hb5 ho5 hp5))
              go_roundw
              case rel => exact ⟨k + 1, by omega, by go_num, HG5, HX5⟩
              case measure => simp [intOf]; omega
          · obtain rfl : k = N := by omega
            have HSO := Lib.hid (sort_any ho (Nat.le_trans (Nat.le_refl _) hbel.size) (by omega))
            clear hcls hk1 hkl ho hmap hwb hbel
            go_wp2_with (go_at_call 13; refine HSO.out.mono ?_; rintro e w5 ⟨rfl, L5, hp5, hk5, ho5, hb5⟩; have H5 := Lib.hid (And.intro hp5 (And.intro hk5 (And.intro ho5 hb5))); clear hp5 hk5 ho5 hb5)
            go_ret2
            obtain ⟨hp5, hk5, ho5, hb5⟩ := H5.out
            have e5 : L5 = T := srt_perm (wk_srt hk5 (hp5.nodup_iff.2 HK.out.2.2)) HST.out (hp5.trans HP.out)
            have e6 : ks.length = T.length := HP.out.length_eq
            refine HG.out T _ _ HT.out ?_ (HBL.out.trans hb5)
            rw [← e6, ← e5]
            exact ho5
      · have HR := Lib.hid (show ∀ w', Below w.heap.size w w' → StepR w bb ll L n (.returned (.tuple #[.slice none 0 0, .iface 41 (.int .i64 (chkN L))])) w' from fun w' h => stepR_bad (by unfold stepN; rw [if_neg (by rw [hmay]; decide), if_neg hn64, if_neg hck]) hck h)
        have HSB := Lib.hid (show ∀ w1 e w', SortedR w1 L e w' → e = .returned (.tuple #[.slice none 0 0, .iface 41 (.int .i64 (chkN L))]) ∧ Below w1.heap.size w1 w' from fun w1 e w' h => by
          unfold SortedR at h
          rw [if_neg hck, errv_some hck] at h
          exact h)
        clear hmay hn64 hck hb hl
        generalize (chkN L : Int) = ck at HR HSB
        unfold Rv at HC ⊢
        go_enter Try.func6, Try.ntmps6
        go_wp2_with (first
          | (go_at_call 9; refine (HC.out _).mono ?_; rintro e w1 ⟨rfl, hb1⟩; have HB1 := Lib.hid ((alX w _).trans (hb1.mono (by simp))); clear hb1)
          | (go_at_call 10; refine (HS.out _ (HA.out _ HB1.out)).mono ?_; intro e w2 hs2; obtain ⟨rfl, hb2⟩ := HSB.out _ _ _ hs2; have HB2 := Lib.hid (HB1.out.trans (hb2.mono HB1.out.size)); clear hb2 hs2))
        go_ret2
        exact HR.out _ HB2.out
end Go.Proofs.Yticnhpddidaaeaa

/-
  CELLS THAT ARE MOVED go on as they did, moved; a block stays, a row of three turns; of nothing comes nothing. Conditions: those that each lemma names.
-/

import Derived.Test.YticnhpddidaaeaaCp
namespace Go.Proofs.Yticnhpddidaaeaa
open Go.RowKit Ru Ce

def tr (v c : Cel) : Cel := (c.1 + v.1, c.2 + v.2)
theorem tr_inj {v a b : Cel} (h : tr v a = tr v b) : a = b := by
  simp only [tr, Prod.mk.injEq] at h
  exact Prod.ext (by omega) (by omega)
theorem tr_srt (v : Cel) {S : List Cel} (h : Srt S) : Srt (S.map (tr v)) := by
  unfold Srt at *
  rw [List.pairwise_map]
  refine h.imp (fun {a b} hab => ?_)
  rw [lt_iff] at hab ⊢
  simp only [tr]
  omega
theorem tr_near (v s x : Cel) : near (tr v s) (tr v x) = near s x := by
  rw [Bool.eq_iff_iff, near_iff, near_iff]
  simp only [tr]
  omega
theorem tr_mem (v : Cel) (S : List Cel) (x : Cel) : tr v x ∈ S.map (tr v) ↔ x ∈ S := by
  rw [List.mem_map]
  constructor
  · rintro ⟨s, hs, e⟩
    rw [← tr_inj e]; exact hs
  · intro h; exact ⟨x, h, rfl⟩
theorem tr_adj (v s x : Cel) : adj (tr v s) (tr v x) = adj s x := by
  unfold adj
  rw [tr_near]
  congr 2
  rw [decide_eq_decide]
  exact ⟨tr_inj, fun e => by rw [e]⟩
theorem tr_alive (v : Cel) (r : Rul) (S : List Cel) (x : Cel) : alive r (S.map (tr v)) (tr v x) = alive r S x := by
  unfold alive
  have h1 : decide (tr v x ∈ S.map (tr v)) = decide (x ∈ S) := by rw [decide_eq_decide]; exact tr_mem v S x
  have h2 : cnt (S.map (tr v)) (tr v x) = cnt S x := by
    unfold cnt
    rw [List.filter_map, List.length_map]
    congr 1
    apply List.filter_congr
    intro s _
    exact tr_adj v s x
  rw [h1, h2]
theorem tr_back (v x : Cel) : tr v (x.1 - v.1, x.2 - v.2) = x := by
  simp only [tr]
  exact Prod.ext (by simp) (by simp)
theorem tr_nxt (v : Cel) (r : Rul) (S : List Cel) : nxt r (S.map (tr v)) = (nxt r S).map (tr v) := by
  refine srt_ext (nxt_srt _ _) (tr_srt v (nxt_srt _ _)) (fun x => ?_)
  obtain ⟨y, rfl⟩ : ∃ y, x = tr v y := ⟨_, (tr_back v x).symm⟩
  rw [nxt_mem, tr_mem, nxt_mem, tr_alive]
  constructor
  · rintro ⟨⟨s, hs, hn⟩, ha⟩
    obtain ⟨s', hs', rfl⟩ := List.mem_map.1 hs
    rw [tr_near] at hn
    exact ⟨⟨s', hs', hn⟩, ha⟩
  · rintro ⟨⟨s, hs, hn⟩, ha⟩
    exact ⟨⟨tr v s, (tr_mem v S s).2 hs, by rw [tr_near]; exact hn⟩, ha⟩
/-- two that come of each other -/
theorem stp_two {r : Rul} {A B : List Cel} (hA : fine A = true) (hB : fine B = true) (h1 : nxt r A = B) (h2 : nxt r B = A) : ∀ n, stp r A (2 * n) = some A ∧ stp r A (2 * n + 1) = some B
  | 0 => ⟨rfl, by rw [stp_snoc r 0 A A rfl, h1, if_pos hB]⟩
  | n + 1 => by
    have k := (stp_two hA hB h1 h2 n).2
    have e : stp r A (2 * (n + 1)) = some A := by
      rw [show 2 * (n + 1) = 2 * n + 1 + 1 by omega, stp_snoc r _ A B k, h2, if_pos hA]
    exact ⟨e, by rw [stp_snoc r _ A A e, h1, if_pos hB]⟩
theorem stp_one {r : Rul} {A : List Cel} (hA : fine A = true) (h1 : nxt r A = A) : ∀ n, stp r A n = some A
  | 0 => rfl
  | n + 1 => by rw [stp_snoc r n A A (stp_one hA h1 n), h1, if_pos hA]
abbrev life : Rul := rul 8 12
def blockAt (x y : Int) : List Cel := [(x, y), (x + 1, y), (x, y + 1), (x + 1, y + 1)]
def rowAt (x y : Int) : List Cel := [(x, y), (x + 1, y), (x + 2, y)]
def colAt (x y : Int) : List Cel := [(x + 1, y - 1), (x + 1, y), (x + 1, y + 1)]
theorem block0 : nxt life (blockAt 0 0) = blockAt 0 0 := by decide +kernel
theorem row0 : nxt life (rowAt 0 0) = colAt 0 0 := by decide +kernel
theorem col0 : nxt life (colAt 0 0) = rowAt 0 0 := by decide +kernel
theorem block_tr (x y : Int) : blockAt x y = (blockAt 0 0).map (tr (x, y)) := by
  simp [blockAt, tr, Int.add_comm]
theorem row_tr (x y : Int) : rowAt x y = (rowAt 0 0).map (tr (x, y)) := by
  simp [rowAt, tr, Int.add_comm]
theorem col_tr (x y : Int) : colAt x y = (colAt 0 0).map (tr (x, y)) := by
  simp [colAt, tr, Int.add_comm, Int.sub_eq_add_neg]
theorem block_stays (x y : Int) : nxt life (blockAt x y) = blockAt x y := by rw [block_tr, tr_nxt, block0]
theorem row_turns (x y : Int) : nxt life (rowAt x y) = colAt x y := by rw [row_tr x y, tr_nxt, row0, col_tr x y]
theorem col_turns (x y : Int) : nxt life (colAt x y) = rowAt x y := by rw [col_tr x y, tr_nxt, col0, row_tr x y]
theorem block_srt (x y : Int) : Srt (blockAt x y) := by
  rw [block_tr]; exact tr_srt _ (by unfold Srt; decide)
theorem row_srt (x y : Int) : Srt (rowAt x y) := by
  rw [row_tr]; exact tr_srt _ (by unfold Srt; decide)
theorem all_ok {L : List Cel} (hl : L.length ≤ 4096) (h : ∀ x ∈ L, okc x = true) : fine L = true ∧ chkN L = 0 := by
  refine ⟨(fine_iff L).2 ⟨hl, h⟩, ?_⟩
  unfold chkN
  rw [if_neg (by omega), if_pos (List.all_eq_true.2 h)]
theorem block_ok (x y : Int) (hx : -100000 ≤ x ∧ x ≤ 100000) (hy : -100000 ≤ y ∧ y ≤ 100000) : fine (blockAt x y) = true ∧ chkN (blockAt x y) = 0 :=
  all_ok (by simp [blockAt]) (fun c hc => by
    simp only [blockAt, List.mem_cons, List.not_mem_nil, or_false] at hc
    rw [okc_iff]
    rcases hc with rfl | rfl | rfl | rfl <;> simp only <;> omega)
theorem row_ok (x y : Int) (hx : -100000 ≤ x ∧ x ≤ 100000) (hy : -100000 ≤ y ∧ y ≤ 100000) : fine (rowAt x y) = true ∧ chkN (rowAt x y) = 0 :=
  all_ok (by simp [rowAt]) (fun c hc => by
    simp only [rowAt, List.mem_cons, List.not_mem_nil, or_false] at hc
    rw [okc_iff]
    rcases hc with rfl | rfl | rfl <;> simp only <;> omega)
theorem col_ok (x y : Int) (hx : -100000 ≤ x ∧ x ≤ 100000) (hy : -100000 ≤ y ∧ y ≤ 100000) : fine (colAt x y) = true :=
  (all_ok (by simp [colAt]) (fun c hc => by
    simp only [colAt, List.mem_cons, List.not_mem_nil, or_false] at hc
    rw [okc_iff]
    rcases hc with rfl | rfl | rfl <;> simp only <;> omega)).1
theorem nxt_nil (r : Rul) : nxt r [] = [] := rfl
/-- what a Step that may be answers -/
def Got (w : World) (T : List Cel) (e : Ending) (w' : World) : Prop := ∃ ao cap, e = .returned (.tuple #[.slice ao T.length cap, .nilIface]) ∧ Cls w' ao T ∧ (ao = none → T.length = 0) ∧ Below w.heap.size w w'
theorem step_good (bb ll : Nat) (hm : mayR bb ll = true) (a : Option Addr) (m c : Nat) (L T : List Cel) (n : Nat) (z : Int) (hz : z = n) (hn : n ≤ 64) (hc : chkN L = 0) (h : stp (rul bb ll) (srt L) n = some T) (w : World) (ha : Cls w a L) (hl : L.length = m) (hnil : a = none → m = 0) (hmax : m ≤ 9223372036854775807) :
    Calls Try.prog 6 #[Rv bb ll, .slice a m c, .int .i64 z] w (Got w T) := by
  subst hz
  have hb := mayR_true hm
  refine (step_any bb ll (by omega) (by omega) a m c L n w ha hl hnil hmax).mono ?_
  intro e w' hr
  have e0 : stepN bb ll L n = 0 := by
    unfold stepN
    rw [if_neg (by rw [hm]; decide), if_neg (by omega), if_pos hc, Int.toNat_natCast, h]
  have e1 : stepV bb ll L n = T := by unfold stepV; rw [Int.toNat_natCast, h]; rfl
  unfold StepR at hr
  rw [if_pos e0, e1] at hr
  obtain ⟨v, rfl, ho, hb⟩ := hr
  obtain ⟨ao, cap, rfl, hcl, _, _, _, _, hnone⟩ := own_cls ho
  exact ⟨ao, cap, rfl, hcl, hnone, hb⟩
end Go.Proofs.Yticnhpddidaaeaa

/-
  RleRows, the walk: pieces: dec; the row and the one cell below.
-/
import Derived.Test.YtangbokcdgganaaGreatDoorMr
import Derived.Test.YtangbokcdgganaaGreatDoorSu
namespace Go.Proofs.YtangbokcdgganaaGreatDoor
open Go.RowKit Ru Ce
open Go.Lib (decDigits)

namespace Rl
theorem dig_cut (d : Nat) (h : d < 10) : (⟨#[48, 49, 50, 51, 52, 53, 54, 55, 56, 57]⟩ : ByteArray).extract d (d + 1) = st [UInt8.ofNat (48 + d)] := by
  have : ∀ d, d < 10 → (⟨#[48, 49, 50, 51, 52, 53, 54, 55, 56, 57]⟩ : ByteArray).extract d (d + 1) = st [UInt8.ofNat (48 + d)] := by decide +kernel
  exact this d h
theorem dd_snoc (u : Nat) (h : ¬ u < 10) : decDigits u = decDigits (u / 10) ++ [UInt8.ofNat (48 + u % 10)] := by rw [dd_eq, if_neg h]
theorem dd_small (u : Nat) (h : u < 10) : decDigits u = [UInt8.ofNat (48 + u)] := by rw [dd_eq, if_pos h]
set_option maxRecDepth 100000 in
set_option maxHeartbeats 2000000 in
theorem dec_any (n : Nat) (hn1 : 1 ≤ n) (hn : n ≤ 1000) (w : World) : Calls Tryz.prog 6 #[.int .i64 n] w fun e w' => e = .returned (.string (st (decDigits n))) ∧ w' = w := by
  obtain ⟨R, hR⟩ : ∃ R, decDigits n = R := ⟨_, rfl⟩
  rw [hR]
  have HR := Lib.hid hR
  clear hR
  go_enter Tryz.func6, Tryz.ntmps6
  go_wp2
  go_loopw [0, 3] (fun i x wr => ∃ (m : Nat) (t : List UInt8), m ≤ 1000 ∧ i = .int .i64 m ∧ x = .string (st t) ∧ t.length ≤ 4 ∧ wr = w ∧ Hid ((m = 0 ∧ t = R ∧ t ≠ []) ∨ (1 ≤ m ∧ decDigits m ++ t = R ∧ m * 10 ^ t.length ≤ 1000))) (fun i _ _ => (RowKit.intOf i).toNat)
  case atStart => exact ⟨n, [], by omega, rfl, rfl, by simp, rfl, Lib.hid (.inr ⟨hn1, by rw [List.append_nil]; exact HR.out, by simpa using hn⟩)⟩
  case round =>
    obtain ⟨m, t, hm, rfl, rfl, ht, rfl, H⟩ := hrel
    have m0 : (0 : Int) ≤ (m : Int) := by omega
    rcases H.out with ⟨h0, h1, h2⟩ | ⟨h0, h1, h2⟩
    · subst h0
      subst h1
      have he : ((st t).toList == ([] : List UInt8)) = false := by
        rw [Lib.toList_data]; show (t == []) = false; simpa using h2
      have he2 : (st t).toList.isEmpty = false := by
        rw [Lib.toList_data]; show t.isEmpty = false; simpa using h2
      generalize hT : st t = T at *
      go_wp2
      go_ret
      exact ⟨rfl, rfl⟩
    · have m1 : (0 : Int) < (m : Int) := by omega
      obtain ⟨d, hd⟩ : ∃ d, m % 10 = d := ⟨_, rfl⟩
      obtain ⟨u, hu⟩ : ∃ u, m / 10 = u := ⟨_, rfl⟩
      have hd10 : d < 10 := by omega
      have r1 : (m : Int).tmod 10 = (d : Int) := by rw [Int.tmod_eq_emod_of_nonneg (by omega)]; omega
      have r2 : (m : Int).tdiv 10 = (u : Int) := by rw [Int.tdiv_eq_ediv_of_nonneg (by omega)]; omega
      have d0 : (0 : Int) ≤ (d : Int) := by omega
      have d9 : (d : Int) ≤ 9 := by omega
      have hcut := dig_cut d hd10
      obtain ⟨cb, hcb⟩ : ∃ cb, UInt8.ofNat (48 + d) = cb := ⟨_, rfl⟩
      rw [hcb] at hcut
      have e1 : ∀ w, (Op.stringOp .add (st [cb]) (st t)).run Tryz.prog w = .ok (.string (st (cb :: t))) w := fun w => by
        rw [run_string_add_sum w _ _ (by rw [st_size, st_size]; simp; omega), st_app]; rfl
      have hl3 : t.length ≤ 3 := by
        by_cases h4 : t.length = 4
        · rw [h4] at h2; omega
        · omega
      have HCB := Lib.hid hcb
      clear hcb
      go_wp2
      go_roundw
      case measure => simp [RowKit.intOf]; omega
      case rel =>
      have hcb := HCB.out
      refine ⟨u, cb :: t, by omega, rfl, rfl, by simp; omega, trivial, Lib.hid ?_⟩
      by_cases hu0 : u = 0
      · refine .inl ⟨hu0, ?_, by simp⟩
        rw [← h1, dd_small m (by omega), show m = d by omega, hcb]; rfl
      · refine .inr ⟨by omega, ?_, ?_⟩
        · rw [← h1, dd_snoc m (by omega), hu, hd, hcb]; simp
        · simp only [List.length_cons, Nat.pow_succ]
          have : u * (10 ^ t.length * 10) = u * 10 * 10 ^ t.length := by rw [Nat.mul_comm (10 ^ t.length) 10, Nat.mul_assoc]
          rw [this]
          exact Nat.le_trans (Nat.mul_le_mul_right _ (by omega)) h2
/-- behind the row's first cell: the others, and the one below -/
def restR (k d : Nat) : List Cel := (List.range k).map (fun i => (((1 + i : Nat) : Int), (0 : Int))) ++ [((0 : Int), (d : Int))]
def rowR (k d : Nat) : List Cel := (0, 0) :: restR k d
theorem rowR_len (k d : Nat) : (rowR k d).length = k + 2 := by unfold rowR restR; simp
theorem rowR_mem {k d : Nat} {x : Cel} (h : x ∈ rowR k d) : (0 ≤ x.1 ∧ x.1 ≤ k ∧ x.2 = 0) ∨ (x.1 = 0 ∧ x.2 = d) := by
  unfold rowR restR at h
  rcases List.mem_cons.1 h with rfl | h
  · exact .inl (by simp)
  · rcases List.mem_append.1 h with h | h
    · obtain ⟨i, hi, rfl⟩ := List.mem_map.1 h
      rw [List.mem_range] at hi
      exact .inl ⟨by show (0 : Int) ≤ ((1 + i : Nat) : Int); omega, by show ((1 + i : Nat) : Int) ≤ (k : Int); omega, rfl⟩
    · rw [List.mem_singleton] at h; subst h; exact .inr ⟨rfl, rfl⟩
theorem rowR_srt (k d : Nat) (hd : 1 ≤ d) : Srt (rowR k d) := by
  unfold rowR restR Srt
  refine List.pairwise_cons.2 ⟨fun x hx => ?_, List.pairwise_append.2 ⟨List.pairwise_map.2 (List.pairwise_lt_range.imp (fun {a b} h => ?_)), List.pairwise_singleton _ _, fun x hx y hy => ?_⟩⟩
  · rw [lt_iff]
    rcases List.mem_append.1 hx with hx | hx
    · obtain ⟨i, hi, rfl⟩ := List.mem_map.1 hx
      exact .inr ⟨rfl, by show (0 : Int) < ((1 + i : Nat) : Int); omega⟩
    · rw [List.mem_singleton] at hx; subst hx
      exact .inl (by show (0 : Int) < (d : Int); omega)
  · rw [lt_iff]
    exact .inr ⟨rfl, by show ((1 + a : Nat) : Int) < ((1 + b : Nat) : Int); omega⟩
  · obtain ⟨i, hi, rfl⟩ := List.mem_map.1 hx
    rw [List.mem_singleton] at hy; subst hy
    rw [lt_iff]
    exact .inl (by show (0 : Int) < (d : Int); omega)
theorem rowR_ok (k d : Nat) (hk : k ≤ 1000) (hd : d ≤ 1000) : ∀ x ∈ rowR k d, okc x = true := fun x hx => by
  have := rowR_mem hx
  rw [okc_iff]; omega
theorem hi_row : ∀ k : Nat, ((List.range k).map (fun i => (((1 + i : Nat) : Int), (0 : Int)))).foldl hi2 (0, 0) = ((k : Int), 0)
  | 0 => rfl
  | k + 1 => by
    rw [List.range_succ, List.map_append, List.foldl_append, hi_row k]
    show hi2 ((k : Int), 0) (((1 + k : Nat) : Int), 0) = _
    unfold hi2; simp only
    congr 1
    · omega
theorem lo_row : ∀ k : Nat, ((List.range k).map (fun i => (((1 + i : Nat) : Int), (0 : Int)))).foldl lo2 (0, 0) = ((0 : Int), 0)
  | 0 => rfl
  | k + 1 => by
    rw [List.range_succ, List.map_append, List.foldl_append, lo_row k]
    show lo2 ((0 : Int), 0) (((1 + k : Nat) : Int), 0) = _
    unfold lo2; simp only
    congr 1
theorem dims_row (k d : Nat) : dims (rowR k d) = ((0, 0), (k : Int) + 1, (d : Int) + 1) := by
  have h1 : (restR k d).foldl hi2 (0, 0) = ((k : Int), (d : Int)) := by
    unfold restR
    rw [List.foldl_append, hi_row]
    show hi2 ((k : Int), 0) (0, (d : Int)) = _
    unfold hi2; simp only
    congr 1 <;> omega
  have h2 : (restR k d).foldl lo2 (0, 0) = ((0 : Int), 0) := by
    unfold restR
    rw [List.foldl_append, lo_row]
    show lo2 ((0 : Int), 0) (0, (d : Int)) = _
    unfold lo2; simp only
    congr 1 <;> omega
  show ((restR k d).foldl lo2 (0, 0), ((restR k d).foldl hi2 (0, 0)).1 - ((restR k d).foldl lo2 (0, 0)).1 + 1, ((restR k d).foldl hi2 (0, 0)).2 - ((restR k d).foldl lo2 (0, 0)).2 + 1) = _
  rw [h1, h2]
  simp
theorem tk_row : ∀ (n x : Nat) (l : List Cel) (y : Int), (∀ h : 0 < l.length, ¬ l[0] = (((x + n : Nat) : Int), y)) → (∀ i (_ : i < n), True) → tk ((List.range n).map (fun i => (((x + i : Nat) : Int), y)) ++ l) x y = n
  | 0, x, l, y, h, _ => by
    simp only [List.range_zero, List.map_nil, List.nil_append]
    cases l with
    | nil => rfl
    | cons a r =>
      unfold tk
      rw [if_neg (by have := h (by simp); simpa using this)]
  | n + 1, x, l, y, h, _ => by
    rw [List.range_succ_eq_map, List.map_cons, List.cons_append]
    unfold tk
    rw [if_pos (by simp), List.map_map]
    have := tk_row n (x + 1) l y (fun hl => by have := h hl; rw [show x + 1 + n = x + (n + 1) by omega]; exact this) (fun _ _ => trivial)
    have e : ((fun i => (((x + i : Nat) : Int), y)) ∘ Nat.succ) = (fun i => (((x + 1 + i : Nat) : Int), y)) := by
      funext i; simp only [Function.comp]; congr 2; omega
    rw [e, show ((x : Nat) : Int) + 1 = ((x + 1 : Nat) : Int) by push_cast; rfl, this]
theorem tog_row (k d : Nat) : tog (rowR k d) = k + 1 := by
  unfold rowR tog
  have h := tk_row k 1 [((0 : Int), (d : Int))] 0 (fun _ e => by
    have := congrArg Prod.fst e
    simp only [List.getElem_cons_zero] at this
    omega) (fun _ _ => trivial)
  show tk (restR k d) (0 + 1) 0 + 1 = k + 1
  unfold restR
  have e : ((0 : Int) + 1) = ((1 : Nat) : Int) := rfl
  rw [e, h]
theorem drop_row (k d : Nat) : (rowR k d).drop (k + 1) = [((0 : Int), (d : Int))] := by
  unfold rowR restR
  rw [List.drop_succ_cons, List.drop_left' (by simp)]
/-- the row's text -/
def rowT (k d : Nat) : List UInt8 := hdL (k + 1) (d + 1) lawB3 ++ [10] ++ decDigits (k + 1) ++ [111] ++ decDigits d ++ [36, 111, 33, 10]
theorem runs_row (k d : Nat) (hd : 1 ≤ d) (P : List UInt8 × Nat) : runsT 0 (rowR k d) 0 0 P = runT (runT (runT P (k + 1) 111) d 36) 1 111 := by
  have h0 : ∀ Q, runT Q 0 98 = Q := fun Q => by unfold runT; rw [if_pos rfl]
  have e1 : rowR k d = (0, 0) :: restR k d := rfl
  have ht : tog ((0, 0) :: restR k d) = k + 1 := tog_row k d
  have hdr : ((0, 0) :: restR k d : List Cel).drop (k + 1) = [((0 : Int), (d : Int))] := drop_row k d
  rw [e1, runsT_eq (by simp), ht, hdr, runsT_dn (by simp; omega)]
  have t1 : tog [((0 : Int), (d : Int))] = 1 := rfl
  rw [t1]
  show runsT 0 [] _ _ (runT (runT (runT (runT (runT P 0 98) (k + 1) 111) ((d : Int) - 0).toNat 36) 0 98) 1 111) = _
  rw [runsT_nil, h0, h0]
  congr 2
theorem wT_row (k d : Nat) (hk : 1 ≤ k) (hk2 : k ≤ 400) (hd : 2 ≤ d) (hd2 : d ≤ 400) : (wT lawB3 (rowR k d)).1 = rowT k d := by
  unfold wT
  rw [dims_row]
  show (endT (putT (runsT 0 (rowR k d) 0 0 (headT ((k : Int) + 1).toNat ((d : Int) + 1).toNat lawB3)) [33])).1 = _
  rw [show ((k : Int) + 1).toNat = k + 1 by omega, show ((d : Int) + 1).toNat = d + 1 by omega, runs_row k d (by omega)]
  have hh := headT_eq (k + 1) (d + 1) (by omega) (by omega)
  have hh2 : (headT (k + 1) (d + 1) lawB3).2 = (hdL (k + 1) (d + 1) lawB3).length + 1 := by
    have h := hdL_len (k + 1) (d + 1) lawB3 (by omega) (by omega)
    unfold headT
    rw [putT_no (by have : lawB3.length = 6 := rfl; simp only [List.length_nil]; omega)]
    rfl
  obtain ⟨P, hP⟩ : ∃ P, headT (k + 1) (d + 1) lawB3 = P := ⟨_, rfl⟩
  rw [hP] at hh hh2 ⊢
  obtain ⟨tx, ln⟩ := P
  simp only at hh hh2
  have hln : tx.length = ln := by rw [hh, hh2, List.length_append]; rfl
  have l1 := dd_len12 (k + 1) (by omega)
  have l2 := dd_len12 d (by omega)
  have r1 : runT (tx, ln) (k + 1) 111 = (tx ++ (decDigits (k + 1) ++ [111]), ln) := by
    unfold runT
    rw [if_neg (by omega), if_neg (by omega), putT_no (by simp only [List.length_append, List.length_cons, List.length_nil]; omega)]
  have r2 : runT (tx ++ (decDigits (k + 1) ++ [111]), ln) d 36 = (tx ++ (decDigits (k + 1) ++ [111]) ++ (decDigits d ++ [36]), ln) := by
    unfold runT
    rw [if_neg (by omega), if_neg (by omega), putT_no (by simp only [List.length_append, List.length_cons, List.length_nil]; omega)]
  have r3 : runT (tx ++ (decDigits (k + 1) ++ [111]) ++ (decDigits d ++ [36]), ln) 1 111 = (tx ++ (decDigits (k + 1) ++ [111]) ++ (decDigits d ++ [36]) ++ [111], ln) := by
    unfold runT
    rw [if_neg (by decide), if_pos rfl, putT_no (by simp only [List.length_append, List.length_cons, List.length_nil]; omega)]
  rw [r1, r2, r3, putT_no (by simp only [List.length_append, List.length_cons, List.length_nil]; omega)]
  unfold endT rowT
  rw [hh]
  simp
theorem good_row (k d : Nat) (hk : 1 ≤ k) (hk2 : k ≤ 400) (hd : 2 ≤ d) (hd2 : d ≤ 400) : Good lawB3 (rowR k d) ∧ (rowT k d).length ≤ 200 ∧ parseL (rowT k d) = ⟨(8, 12), rowR k d, 0, 0⟩ := by
  have hs := rowR_srt k d (by omega)
  have hok := rowR_ok k d (by omega) (by omega)
  have hself := srt_self hs
  have hlen : (rowT k d).length ≤ 200 := by
    have h := hdL_len (k + 1) (d + 1) lawB3 (by omega) (by omega)
    have h6 : lawB3.length = 6 := rfl
    have l1 := dd_len12 (k + 1) (by omega)
    have l2 := dd_len12 d (by omega)
    unfold rowT
    simp only [List.length_append, List.length_cons, List.length_nil]
    omega
  have hw := wT_row k d hk hk2 hd hd2
  have h4 : (rowR k d).length ≤ 4096 := by rw [rowR_len]; omega
  have hW : (dims (rowR k d)).2.1 ≤ 274877906944 := by rw [dims_row]; simp only; omega
  have hH : (dims (rowR k d)).2.2 ≤ 274877906944 := by rw [dims_row]; simp only; omega
  refine ⟨⟨?_, by rw [hself]; exact hW, by rw [hself]; exact hH, by rw [hself, hw]; omega⟩, hlen, ?_⟩
  · unfold chkN
    rw [if_neg (by omega), if_pos (List.all_eq_true.2 hok)]
  · have hp := whole_parse (rowR k d) hs hok h4 hW hH (by rw [hw]; omega)
    rw [hw] at hp
    rw [hp, dims_row]
    congr 1
    have : mv 0 0 = id := by funext c; unfold mv; simp
    simp only
    rw [this, List.map_id]
end Rl
end Go.Proofs.YtangbokcdgganaaGreatDoor

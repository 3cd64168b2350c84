/-
  RLE, the plain side: what Write lays is read as the cells, moved.
-/
import Derived.Test.YtangbokcdgganaaGreatDoorMp
namespace Go.Proofs.YtangbokcdgganaaGreatDoor
open Go.RowKit Ru Ce
open Go.Lib (decDigits decDigits_length nDigits indexByte)

namespace Rl
theorem putT_adv (p : List UInt8 × Nat) (s : List UInt8) {x y x' y' : Nat} {cs cs' : List Cel} (h : Adv s x y cs x' y' cs') : ∃ X, (putT p s).1 = p.1 ++ X ∧ Adv X x y cs x' y' cs' := by
  unfold putT endT
  split
  · exact ⟨[10] ++ s, by simp, (Adv.nl x y cs).app h⟩
  · exact ⟨s, rfl, h⟩
theorem runT_adv (p : List UInt8 × Nat) (n : Nat) (c : UInt8) (hn : 1 ≤ n) (hn2 : n ≤ 274877906944) (hc : isTag c = true) {x y x' y' : Nat} {cs cs' : List Cel} (h : layP x y cs n c = some (x', y', cs')) : ∃ X, (runT p n c).1 = p.1 ++ X ∧ Adv X x y cs x' y' cs' := by
  have ht := Adv.tok n c hn hn2 hc h
  unfold runT
  rw [if_neg (by omega)]
  unfold tokL at ht
  by_cases h1 : n = 1
  · rw [if_pos h1] at ht ⊢; exact putT_adv p _ ht
  · rw [if_neg h1] at ht ⊢; exact putT_adv p _ ht
/-- a run that may be none -/
theorem runT_b (p : List UInt8 × Nat) (n : Nat) (hn2 : n ≤ 274877906944) (x y : Nat) (cs : List Cel) (hx : x + n ≤ 274877906945) : ∃ X, (runT p n 98).1 = p.1 ++ X ∧ Adv X x y cs (x + n) y cs := by
  by_cases h0 : n = 0
  · subst h0
    exact ⟨[], by unfold runT; simp, Adv.nil _ _ _⟩
  · exact runT_adv p n 98 (by omega) hn2 (by decide) (by rw [layP_b, if_pos hx])
def mv (lx ly : Int) (c : Cel) : Cel := (c.1 - lx, c.2 - ly)
theorem rowC_at (x y : Nat) : ∀ (n i : Nat) (h : i < (rowC x y n).length), (rowC x y n)[i] = (((x + i : Nat) : Int), (y : Int))
  | 0, i, h => by simp [rowC] at h
  | n + 1, i, h => by
    rw [rowC_len] at h
    have e : rowC x y (n + 1) = rowC x y n ++ [(((x + n : Nat) : Int), (y : Int))] := rfl
    by_cases hi : i < n
    · simp only [e]
      rw [List.getElem_append_left (by rw [rowC_len]; exact hi)]
      exact rowC_at x y n i (by rw [rowC_len]; exact hi)
    · obtain rfl : i = n := by omega
      simp only [e]
      rw [List.getElem_append_right (by rw [rowC_len]; exact Nat.le_refl _)]
      simp [rowC_len]
theorem tog_at (c : Cel) (t : List Cel) (i : Nat) (h : i < (c :: t).length) (hi : i < tog (c :: t)) : (c :: t)[i] = (c.1 + (i : Int), c.2) := by
  match i, h, hi with
  | 0, _, _ => simp
  | i + 1, h, hi =>
    have hit : i < tk t (c.1 + 1) c.2 := by
      have : tog (c :: t) = tk t (c.1 + 1) c.2 + 1 := rfl
      omega
    rw [List.getElem_cons_succ, tk_at t (c.1 + 1) c.2 i (by simpa using h) hit]
    congr 1; push_cast; omega
theorem row_mv (lx ly : Int) (c : Cel) (t : List Cel) (x y : Nat) (hx : (x : Int) = c.1 - lx) (hy : (y : Int) = c.2 - ly) : ((c :: t).take (tog (c :: t))).map (mv lx ly) = rowC x y (tog (c :: t)) := by
  have ht := tog_le c t
  apply List.ext_getElem
  · rw [List.length_map, List.length_take, rowC_len]; omega
  · intro i h1 h2
    rw [rowC_len] at h2
    rw [List.getElem_map, List.getElem_take, rowC_at, tog_at c t i (by omega) h2]
    unfold mv
    simp only
    congr 1 <;> (push_cast; omega)
theorem runs_adv (lx ly : Int) : ∀ (n : Nat) (L : List Cel) (ax ay : Int) (p : List UInt8 × Nat) (cs : List Cel), L.length ≤ n → Nice lx L ax ay → lx ≤ ax → ly ≤ ay → (∀ c ∈ L, c.1 - lx ≤ 274877906943 ∧ c.2 - ly ≤ 274877906943) → ax - lx ≤ 274877906944 → cs.length + L.length ≤ 4096 →
    ∃ X x' y', (runsT lx L ax ay p).1 = p.1 ++ X ∧ Adv X (ax - lx).toNat (ay - ly).toNat cs x' y' (cs ++ L.map (mv lx ly))
  | n, [], ax, ay, p, cs, _, _, _, _, _, _, _ => ⟨[], _, _, by rw [runsT_nil]; simp, by rw [List.map_nil, List.append_nil]; exact Adv.nil _ _ _⟩
  | 0, c :: t, _, _, _, _, h, _, _, _, _, _, _ => by simp at h
  | n + 1, c :: t, ax, ay, p, cs, h, hN, hax, hay, hb, ha2, hcs => by
    have hc := hb c (by simp)
    have ht := tog_le c t
    have hlo := hN.lo c (by simp)
    have hup := hN.up c (by simp)
    have hy0 : ly ≤ c.2 := by omega
    have hlast := hb ((c :: t)[tog (c :: t) - 1]'(by omega)) (List.getElem_mem _)
    rw [tog_at c t (tog (c :: t) - 1) (by omega) (by omega)] at hlast
    have hl1 : c.1 - lx + (tog (c :: t) : Int) ≤ 274877906944 := by
      have := hlast.1
      simp only at this
      omega
    have hrest : ((c :: t).drop (tog (c :: t))).length ≤ n := by rw [List.length_drop]; omega
    have hsplit : (c :: t).map (mv lx ly) = rowC (c.1 - lx).toNat (c.2 - ly).toNat (tog (c :: t)) ++ ((c :: t).drop (tog (c :: t))).map (mv lx ly) := by
      rw [← row_mv lx ly c t _ _ (by omega) (by omega), ← List.map_append, List.take_append_drop]
    have hcl : cs.length + tog (c :: t) ≤ 4096 := by omega
    have key : ∀ (p1 : List UInt8 × Nat) (bx : Int), lx ≤ bx → bx ≤ c.1 → ∃ X x' y', (runsT lx ((c :: t).drop (tog (c :: t))) (c.1 + (tog (c :: t) : Nat)) c.2 (runT (runT p1 (c.1 - bx).toNat 98) (tog (c :: t)) 111)).1 = p1.1 ++ X ∧ Adv X (bx - lx).toNat (c.2 - ly).toNat cs x' y' (cs ++ (c :: t).map (mv lx ly)) := fun p1 bx h1 h2 => by
      obtain ⟨X1, e1, a1⟩ := runT_b p1 (c.1 - bx).toNat (by omega) (bx - lx).toNat (c.2 - ly).toNat cs (by omega)
      obtain ⟨X2, e2, a2⟩ := runT_adv (runT p1 (c.1 - bx).toNat 98) (tog (c :: t)) 111 ht.1 (by omega) (by decide) (x := (bx - lx).toNat + (c.1 - bx).toNat) (y := (c.2 - ly).toNat) (cs := cs) (by rw [layP_o, if_pos hcl, if_pos (by omega)])
      obtain ⟨X3, x', y', e3, a3⟩ := runs_adv lx ly n ((c :: t).drop (tog (c :: t))) (c.1 + (tog (c :: t) : Nat)) c.2 (runT (runT p1 (c.1 - bx).toNat 98) (tog (c :: t)) 111) (cs ++ rowC (c.1 - lx).toNat (c.2 - ly).toNat (tog (c :: t))) hrest hN.next (by omega) hy0 (fun d hd => hb d (List.mem_of_mem_drop hd)) (by omega) (by rw [List.length_append, rowC_len, List.length_drop]; omega)
      refine ⟨X1 ++ (X2 ++ X3), x', y', by rw [e3, e2, e1]; simp, ?_⟩
      rw [show (bx - lx).toNat + (c.1 - bx).toNat = (c.1 - lx).toNat by omega] at a1 a2
      rw [show (c.1 - lx).toNat + tog (c :: t) = (c.1 + (tog (c :: t) : Nat) - lx).toNat by omega] at a2
      have hx := a1.app (a2.app a3)
      rw [List.append_assoc cs] at hx
      rw [hsplit]
      exact hx
    by_cases hd : ay < c.2
    · rw [runsT_dn hd]
      obtain ⟨X0, e0, a0⟩ := runT_adv p (c.2 - ay).toNat 36 (by omega) (by omega) (by decide) (x := (ax - lx).toNat) (y := (ay - ly).toNat) (cs := cs) (by rw [layP_d, if_pos (by omega)])
      obtain ⟨X, x', y', e1, a1⟩ := key (runT p (c.2 - ay).toNat 36) lx (Int.le_refl _) hlo
      refine ⟨X0 ++ X, x', y', by rw [e1, e0]; simp, ?_⟩
      rw [show (ay - ly).toNat + (c.2 - ay).toNat = (c.2 - ly).toNat by omega] at a0
      rw [show (lx - lx).toNat = 0 by omega] at a1
      exact a0.app a1
    · rw [runsT_eq hd]
      obtain ⟨X, x', y', e1, a1⟩ := key p ax hax (by omega)
      rw [show c.2 - ly = ay - ly by omega] at a1
      exact ⟨X, x', y', e1, a1⟩
theorem headT_eq (W H : Nat) (hW : W ≤ 274877906944) (hH : H ≤ 274877906944) : (headT W H lawB3).1 = hdL W H lawB3 ++ [10] := by
  have h := hdL_len W H lawB3 (by omega) (by omega)
  unfold headT
  rw [putT_no (by have : lawB3.length = 6 := rfl; simp only [List.length_nil]; omega)]
  rfl
/-- the text: its head, its runs, its end -/
theorem wT_parts (S : List Cel) (hs : Srt S) (hk : ∀ x ∈ S, okc x = true) (h4 : S.length ≤ 4096) (hW : (dims S).2.1 ≤ 274877906944) (hH : (dims S).2.2 ≤ 274877906944) :
    ∃ X Z x' y', (wT lawB3 S).1 = hdL (dims S).2.1.toNat (dims S).2.2.toNat lawB3 ++ [10] ++ X ++ Z ++ [33, 10] ∧ (Z = [] ∨ Z = [10]) ∧ Adv X 0 0 [] x' y' (S.map (mv (dims S).1.1 (dims S).1.2)) := by
  obtain ⟨d1, d2, d3, d4, hN⟩ := dims_ok S hs hk
  have hb : ∀ c ∈ S, c.1 - (dims S).1.1 ≤ 274877906943 ∧ c.2 - (dims S).1.2 ≤ 274877906943 := by
    cases S with
    | nil => intro c hc; cases hc
    | cons p t =>
      have hhi := hi_bnd 274877906944 t p (fun x hx => by have := (okc_iff x).1 (hk x (by simp [hx])); omega) (by have := (okc_iff p).1 (hk p (by simp)); omega)
      intro c hc
      have h1 : c.1 ≤ (t.foldl hi2 p).1 ∧ c.2 ≤ (t.foldl hi2 p).2 := by
        rcases List.mem_cons.1 hc with rfl | hc
        · exact hhi.2.1
        · exact hhi.2.2 c hc
      unfold dims at hW hH ⊢
      simp only at hW hH ⊢
      omega
  obtain ⟨X, x', y', e, a⟩ := runs_adv (dims S).1.1 (dims S).1.2 S.length S (dims S).1.1 (dims S).1.2 (headT (dims S).2.1.toNat (dims S).2.2.toNat lawB3) [] (Nat.le_refl _) hN (Int.le_refl _) (Int.le_refl _) hb (by omega) (by simpa using h4)
  rw [headT_eq _ _ (by omega) (by omega)] at e
  rw [Int.sub_self, Int.sub_self, List.nil_append] at a
  unfold wT endT putT endT
  split
  · exact ⟨X, [10], x', y', by rw [e]; simp, .inr rfl, a⟩
  · exact ⟨X, [], x', y', by rw [e]; simp, .inl rfl, a⟩
theorem runs_nil (a x y : Nat) (cs : List Cel) : runsL [] a x y cs = .err a 3 := by
  rw [runs_eq]; simp [tl, Lib.trimLeftS, runL, numL]
theorem adv_z {Z : List UInt8} (h : Z = [] ∨ Z = [10]) (x y : Nat) (cs : List Cel) : Adv Z x y cs x y cs := by
  rcases h with rfl | rfl
  · exact Adv.nil _ _ _
  · exact Adv.nl _ _ _
theorem parse_head (W H : Nat) (hW : W ≤ 274877906944) (hH : H ≤ 274877906944) (Y : List UInt8) (hl : (hdL W H lawB3 ++ 10 :: Y).length ≤ 65536) : parseL (hdL W H lawB3 ++ 10 :: Y) = bodyL (8, 12) (runsL (10 :: Y) (hdL W H lawB3).length 0 0 []) := by
  have hb : behL (hdL W H lawB3 ++ 10 :: Y) = 0 := by
    rw [beh_eq, if_neg]
    unfold hdL; simp
  have hno : (10 : UInt8) ∉ hdL W H lawB3 := by
    unfold hdL
    intro h
    simp only [List.mem_append] at h
    rcases h with ((((h | h) | h) | h) | h) | h
    · revert h; decide
    · exact dd_not W (by decide) h
    · revert h; decide
    · exact dd_not H (by decide) h
    · revert h; decide
    · revert h; decide
  have hline : lineL (hdL W H lawB3 ++ 10 :: Y) = hdL W H lawB3 := by unfold lineL; rw [cut_of _ _ _ hno]
  rw [parse_good _ (by omega) (by rw [hb, List.drop_zero, hline, head_hd W H hW hH]), hb, List.drop_zero, hline, head_hd W H hW hH, Nat.zero_add]
  have hd : (hdL W H lawB3 ++ 10 :: Y).drop (hdL W H lawB3).length = 10 :: Y := by simp
  rw [hd]
end Rl
end Go.Proofs.YtangbokcdgganaaGreatDoor

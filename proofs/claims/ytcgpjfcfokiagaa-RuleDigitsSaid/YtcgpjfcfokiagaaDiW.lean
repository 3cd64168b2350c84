/-
  RuleDigits, the walk. No condition but that the input could be read.
-/
import Derived.Test.YtcgpjfcfokiagaaSu
import Derived.Test.YtcgpjfcfokiagaaRd
namespace Go.Proofs.Ytcgpjfcfokiagaa
open Go.RowKit Ru

/-- eighteen tests -/
def bo (f : Nat → Bool) : Array Value := #[.bool (f 0), .bool (f 1), .bool (f 2), .bool (f 3), .bool (f 4), .bool (f 5), .bool (f 6), .bool (f 7), .bool (f 8), .bool (f 9), .bool (f 10), .bool (f 11), .bool (f 12), .bool (f 13), .bool (f 14), .bool (f 15), .bool (f 16), .bool (f 17)]
def updB (f : Nat → Bool) (n : Nat) : Nat → Bool := fun j => if j = n then true else f j
/-- a text gone over: its numbers, behind the sign / as those of the second part -/
def scan (v : Bool) (f : Nat → Bool) : List Nat → Nat → Bool
  | [] => f
  | c :: t => if isDig c then scan (v || c == 47) (updB f ((if v || c == 47 then 9 else 0) + (c - 48))) t else scan (v || c == 47) f t
theorem scan_cons (v : Bool) (f : Nat → Bool) (c : Nat) (t : List Nat) : scan v f (c :: t) = if isDig c then scan (v || c == 47) (updB f ((if v || c == 47 then 9 else 0) + (c - 48))) t else scan (v || c == 47) f t := rfl
theorem scan_digs (v : Bool) (t : List Nat) : ∀ (ds : List Nat) (f : Nat → Bool), (∀ c ∈ ds, 48 ≤ c ∧ c ≤ 56) → scan v f (ds ++ t) = scan v (fun j => f j || ds.any (fun c => j == (if v then 9 else 0) + (c - 48))) t
  | [], f, _ => by
    show scan v f t = scan v (fun j => f j || false) t
    congr 1
    funext j
    simp
  | c :: ds, f, h => by
    have hc := h c (List.mem_cons_self ..)
    have hd : isDig c = true := by simp [isDig, hc.1, hc.2]
    have h47 : (c == 47) = false := by rw [beq_eq_false_iff_ne]; omega
    show scan v f (c :: (ds ++ t)) = _
    rw [scan_cons, if_pos hd, h47, Bool.or_false, scan_digs v t ds _ (fun x hx => h x (List.mem_cons_of_mem _ hx))]
    congr 1
    funext j
    unfold updB
    rw [List.any_cons]
    by_cases e : j = (if v = true then 9 else 0) + (c - 48)
    · simp [e]
    · simp [e, beq_eq_false_iff_ne.2 e]
theorem any_dg (b j o : Nat) (hj : j < 9) : (dg b).any (fun c => o + j == o + (c - 48)) = hs b j := by
  rw [Bool.eq_iff_iff, List.any_eq_true]
  constructor
  · rintro ⟨c, hc, he⟩
    unfold dg dgs at hc
    obtain ⟨n, hn, rfl⟩ := List.mem_map.1 hc
    have := (List.mem_filter.1 hn).2
    rw [beq_iff_eq] at he
    have : n = j := by omega
    subst this
    assumption
  · intro h
    refine ⟨48 + j, List.mem_map.2 ⟨j, List.mem_filter.2 ⟨List.mem_range.2 hj, h⟩, rfl⟩, ?_⟩
    rw [beq_iff_eq]; omega
theorem any_far (b j o : Nat) (h : ∀ n, n < 9 → j ≠ o + n) : (dg b).any (fun c => j == o + (c - 48)) = false := by
  rw [List.any_eq_false]
  intro c hc
  have := dgs_lt b 9 (by decide) c hc
  have := h (c - 48) (by omega)
  simpa using this
/-- what is found: both parts' numbers -/
theorem scan_txt (b l : Nat) : ∀ j, j < 9 → scan false (fun _ => false) ((txt b l).drop 1) j = hs b j ∧ scan false (fun _ => false) ((txt b l).drop 1) (9 + j) = hs l j := by
  have e : (txt b l).drop 1 = dg b ++ (47 :: 83 :: (dg l ++ [])) := by unfold txt; simp
  have hb := dgs_lt b 9 (by decide)
  have hl := dgs_lt l 9 (by decide)
  have h : scan false (fun _ => false) ((txt b l).drop 1) = fun j => ((false || (dg b).any (fun c => j == 0 + (c - 48))) || (dg l).any (fun c => j == 9 + (c - 48))) := by
    rw [e, scan_digs false _ (dg b) _ hb]
    have e2 : ∀ f, scan false f (47 :: 83 :: (dg l ++ [])) = scan true f (dg l ++ []) := fun f => rfl
    rw [e2, scan_digs true [] (dg l) _ hl]
    rfl
  intro j hj
  rw [h]
  constructor
  · show ((false || (dg b).any (fun c => j == 0 + (c - 48))) || (dg l).any (fun c => j == 9 + (c - 48))) = _
    have h1 := any_dg b j 0 hj
    rw [Nat.zero_add] at h1
    rw [h1, any_far l j 9 (fun n hn => by omega)]
    simp
  · show ((false || (dg b).any (fun c => 9 + j == 0 + (c - 48))) || (dg l).any (fun c => 9 + j == 9 + (c - 48))) = _
    rw [any_dg l j 9 hj, any_far b (9 + j) 0 (fun n hn => by omega)]
    simp
theorem txt_lt (b l : Nat) : ∀ c ∈ txt b l, c < 256 := by
  intro c hc
  unfold txt at hc
  simp only [List.mem_cons, List.mem_append] at hc
  rcases hc with rfl | hc | rfl | rfl | hc
  · decide
  · have := dgs_lt b 9 (by decide) c hc; omega
  · decide
  · decide
  · have := dgs_lt l 9 (by decide) c hc; omega
theorem row_bo {w : World} {g : Nat} {f : Nat → Bool} {T : TypeId} (h : w.heap[g]? = some (.cells (bo f) T)) (n : Nat) (hn : n < 18) : (w.setCell ⟨g, n, none⟩ (.bool true)).heap[g]? = some (.cells (bo (updB f n)) T) ∧ w.cell? ⟨g, n, none⟩ = some (.bool (f n)) ∧ w.frozen? ⟨g, n, none⟩ = false := by
  refine ⟨?_, ?_, frozen_of_row _ _ n _ _ h⟩
  · rw [heap_setCell_same _ _ n _ _ _ h]
    congr 2
    rcases (show n = 0 ∨ n = 1 ∨ n = 2 ∨ n = 3 ∨ n = 4 ∨ n = 5 ∨ n = 6 ∨ n = 7 ∨ n = 8 ∨ n = 9 ∨ n = 10 ∨ n = 11 ∨ n = 12 ∨ n = 13 ∨ n = 14 ∨ n = 15 ∨ n = 16 ∨ n = 17 by omega) with rfl | rfl | rfl | rfl | rfl | rfl | rfl | rfl | rfl | rfl | rfl | rfl | rfl | rfl | rfl | rfl | rfl | rfl <;> rfl
  · rw [cell_of_row _ _ n _ _ _ h]
    rcases (show n = 0 ∨ n = 1 ∨ n = 2 ∨ n = 3 ∨ n = 4 ∨ n = 5 ∨ n = 6 ∨ n = 7 ∨ n = 8 ∨ n = 9 ∨ n = 10 ∨ n = 11 ∨ n = 12 ∨ n = 13 ∨ n = 14 ∨ n = 15 ∨ n = 16 ∨ n = 17 by omega) with rfl | rfl | rfl | rfl | rfl | rfl | rfl | rfl | rfl | rfl | rfl | rfl | rfl | rfl | rfl | rfl | rfl | rfl <;> rfl
set_option maxRecDepth 100000 in
set_option maxHeartbeats 1000000 in
theorem digits_walk (b l : Nat) (W : World) (_w0 : b < 65536 ∧ l < 65536) :
    Calls Try.prog 4 #[.agg #[.int .u16 b, .int .u16 l]] W fun e w' => e = .returned (.bool true) ∧ Below W.heap.size W w' := by
  have HM := Lib.hid (fun w => may_ref b l w)
  cases hm : mayR b l
  · rw [hm] at HM
    unfold Rv at HM
    clear hm
    go_enter Try.func4, Try.ntmps4
    go_wp2_with (first | (go_at_call 9; refine (HM.out _).mono ?_; rintro e w2 ⟨rfl, hb⟩; have HB2 := Lib.hid (bel_to (alX W (.cells #[.int .u16 b, .int .u16 l] 24)) hb (by simp)); clear hb) | (go_at_call 5; refine (sure_any _).mono ?_; rintro e w4 ⟨rfl, hb⟩; have HB4 := Lib.hid (bel_to HB2.out hb HB2.out.size); clear hb))
    go_ret
    exact ⟨rfl, HB4.out⟩
  · rw [hm] at HM
    have HT := Lib.hid (fun w => text_ok b l hm w)
    obtain ⟨hb5, hl5, hb2⟩ := mayR_true hm
    have hlb : lb (str (txt b l)) = txt b l := lb_str _ (txt_lt b l)
    have HNX := Lib.hid (fun (x : Bool) (k : Nat) (hk : k ≤ 8) w => next_ok b l x k hm hk w)
    have hsz : 2 ≤ (str (txt b l)).size ∧ (str (txt b l)).size ≤ 100 := by
      rw [str_size]
      have h1 := dgs_len b 9
      have h2 := dgs_len l 9
      unfold txt
      simp only [List.length_cons, List.length_append]
      change (dg b).length ≤ 9 at h1
      change (dg l).length ≤ 9 at h2
      omega
    have HSC := Lib.hid (scan_txt b l)
    rw [← hlb] at HSC
    unfold Rv at HM HT HNX
    generalize hs : str (txt b l) = s at HT hlb hsz HSC
    have HLB := Lib.hid hlb
    clear hs hlb hm
    go_enter Try.func4, Try.ntmps4
    go_wp2_with (first | (go_at_call 9; refine (HM.out _).mono ?_; rintro e w2 ⟨rfl, hb⟩; have HB2 := Lib.hid (bel_to (alX W (.cells #[.int .u16 b, .int .u16 l] 24)) hb (by simp)); have hn := (hb.block W.heap.size (by simp)).trans (heap_alloc_new W _); have HN := Lib.hid hn; have c0 := cell_of_row _ _ 0 _ _ _ hn; have c1 := cell_of_row _ _ 1 _ _ _ hn; clear hb hn) | (go_at_call 6; refine (HT.out _).mono ?_; rintro e w3 ⟨rfl, hb⟩; have HB3 := Lib.hid (bel_to HB2.out hb HB2.out.size); have HN3 := Lib.hid ((hb.block _ (lt_of_block HN.out)).trans HN.out); clear hb c0 c1))
    have HX := Lib.hid (heap_alloc_new w3 (.cells (bo fun _ => false) 38))
    have HY := Lib.hid (HB3.out.alloc HB3.out.size (.cells (bo fun _ => false) 38))
    have HN4 := Lib.hid ((Below.heap_alloc w3 (.cells (bo fun _ => false) 38) _ (lt_of_block HN3.out)).trans HN3.out)
    have HGT := Lib.hid (lt_of_block HN3.out)
    generalize w3.heap.size = g at HX HGT ⊢
    go_loopw [5, 7] (fun xl xn ws => ∃ (k : Nat) (v : Bool) (f : Nat → Bool), k ≤ s.size ∧ xn = .int .i64 (k : Int) ∧ xl = .bool v ∧ Hid (ws.heap[g]? = some (.cells (bo f) 38)) ∧ Hid (Below W.heap.size W ws) ∧ Hid (ws.heap[W.heap.size]? = some (.cells #[.int .u16 b, .int .u16 l] 24)) ∧ Hid (scan v f ((lb s).drop k) = scan false (fun _ => false) ((lb s).drop 1))) (fun _ xn _ => s.size - (intOf xn).toNat)
    case atStart => exact ⟨1, false, fun _ => false, by omega, rfl, rfl, HX, HY, HN4, rfl⟩
    case round =>
      obtain ⟨k, v, f, hk, rfl, rfl, HF, HB, HN5, HS⟩ := hrel
      have k0 : (0 : Int) ≤ (k : Int) := by omega
      by_cases hlt : k < s.size
      · have hd := lb_drop s k hlt
        have HC := Lib.hid (show (s[k]'hlt).toNat < 256 from UInt8.toNat_lt _)
        have HD := Lib.hid hd
        have hc0 : (0 : Int) ≤ ((s[k]'hlt).toNat : Int) := by omega
        have hc1 : ((s[k]'hlt).toNat : Int) < 256 := by have := HC.out; omega
        have i1 : (k : Int) < (s.size : Int) := by omega
        clear hd
        by_cases h47 : (s[k]'hlt).toNat = 47
        · have e1 : (((s[k]'hlt).toNat : Int) == 47) = true := by rw [beq_iff_eq]; omega
          have e2 : ¬ (48 : Int) ≤ ((s[k]'hlt).toNat : Int) := by omega
          have HS2 := Lib.hid (show scan true f ((lb s).drop (k + 1)) = scan false (fun _ => false) ((lb s).drop 1) by
            rw [← HS.out, HD.out, h47]; simp [scan, isDig])
          go_wp2
          go_roundw
          case rel => exact ⟨k + 1, true, f, by omega, by go_num, rfl, HF, HB, HN5, HS2⟩
          case measure => simp [intOf]; omega
        · have e1 : (((s[k]'hlt).toNat : Int) == 47) = false := by rw [beq_eq_false_iff_ne]; omega
          have h47' : ((s[k]'hlt).toNat == 47) = false := by rw [beq_eq_false_iff_ne]; exact h47
          by_cases hdg : 48 ≤ (s[k]'hlt).toNat ∧ (s[k]'hlt).toNat ≤ 56
          · have hd : isDig (s[k]'hlt).toNat = true := by simp [isDig, hdg.1, hdg.2]
            have e2 : (48 : Int) ≤ ((s[k]'hlt).toNat : Int) := by omega
            have e3 : ((s[k]'hlt).toNat : Int) ≤ 56 := by omega
            have HS2 := Lib.hid (show scan v (updB f ((if v then 9 else 0) + ((s[k]'hlt).toNat - 48))) ((lb s).drop (k + 1)) = scan false (fun _ => false) ((lb s).drop 1) by
              rw [← HS.out, HD.out, scan_cons, if_pos hd, h47', Bool.or_false])
            have HDG := Lib.hid hdg
            clear hd hdg h47'
            cases v
            · rw [show ((if false = true then 9 else 0) + ((s[k]'hlt).toNat - 48)) = (s[k]'hlt).toNat - 48 from Nat.zero_add _] at HS2
              have HF2 := Lib.hid (row_bo (w := wr.drew) HF.out ((s[k]'hlt).toNat - 48) (by have := HDG.out; omega))
              have d1 := HF2.out.2.1
              have d2 := HF2.out.2.2
              have HN6 := Lib.hid ((heap_setCell_other wr.drew ⟨g, (s[k]'hlt).toNat - 48, none⟩ W.heap.size (.bool true) (Nat.ne_of_lt HGT.out)).trans HN5.out)
              have HB6 := Lib.hid (HB.out.drew.setCell (p := ⟨g, (s[k]'hlt).toNat - 48, none⟩) (Nat.le_of_lt HGT.out) (.bool true))
              generalize updB f ((s[k]'hlt).toNat - 48) = f2 at HF2 HS2
              go_wp2
              go_region
              go_wp2
              go_roundw
              case rel => exact ⟨k + 1, false, f2, by omega, by go_num, rfl, HF2.out.1, HB6, HN6, HS2⟩
              case measure => simp [intOf]; omega
            · rw [show ((if true = true then 9 else 0) + ((s[k]'hlt).toNat - 48)) = 9 + ((s[k]'hlt).toNat - 48) from rfl] at HS2
              have HF2 := Lib.hid (row_bo (w := wr.drew) HF.out (9 + ((s[k]'hlt).toNat - 48)) (by have := HDG.out; omega))
              have d1 := HF2.out.2.1
              have d2 := HF2.out.2.2
              have HN6 := Lib.hid ((heap_setCell_other wr.drew ⟨g, 9 + ((s[k]'hlt).toNat - 48), none⟩ W.heap.size (.bool true) (Nat.ne_of_lt HGT.out)).trans HN5.out)
              have HB6 := Lib.hid (HB.out.drew.setCell (p := ⟨g, 9 + ((s[k]'hlt).toNat - 48), none⟩) (Nat.le_of_lt HGT.out) (.bool true))
              generalize updB f (9 + ((s[k]'hlt).toNat - 48)) = f2 at HF2 HS2
              go_wp2
              go_region
              go_wp2
              go_roundw
              case rel => exact ⟨k + 1, true, f2, by omega, by go_num, rfl, HF2.out.1, HB6, HN6, HS2⟩
              case measure => simp [intOf]; omega
          · have hd : isDig (s[k]'hlt).toNat = false := by
              unfold isDig
              rw [Bool.and_eq_false_iff, decide_eq_false_iff_not, decide_eq_false_iff_not]
              omega
            have HS2 := Lib.hid (show scan v f ((lb s).drop (k + 1)) = scan false (fun _ => false) ((lb s).drop 1) by
              rw [← HS.out, HD.out, scan_cons, if_neg (by rw [hd]; decide), h47', Bool.or_false])
            clear hd h47' h47
            rcases (show ¬ 48 ≤ (s[k]'hlt).toNat ∨ (48 ≤ (s[k]'hlt).toNat ∧ ¬ (s[k]'hlt).toNat ≤ 56) by omega) with q | ⟨q, q2⟩
            · have e2 : ¬ (48 : Int) ≤ ((s[k]'hlt).toNat : Int) := by omega
              have e3 : decide ((48 : Int) ≤ ((s[k]'hlt).toNat : Int)) = false := by simpa using e2
              clear q hdg
              go_wp2
              go_roundw
              case rel => exact ⟨k + 1, v, f, by omega, by go_num, rfl, HF, HB, HN5, HS2⟩
              case measure => simp [intOf]; omega
            · have e2 : (48 : Int) ≤ ((s[k]'hlt).toNat : Int) := by omega
              have e4 : ¬ ((s[k]'hlt).toNat : Int) ≤ 56 := by omega
              clear q q2 hdg
              go_wp2
              go_roundw
              case rel => exact ⟨k + 1, v, f, by omega, by go_num, rfl, HF, HB, HN5, HS2⟩
              case measure => simp [intOf]; omega
      · obtain rfl : k = s.size := by omega
        have hfin : scan v f [] = scan false (fun _ => false) ((lb s).drop 1) := by rw [← HS.out, lb_end]
        have HFN := Lib.hid (fun j (hj : j < 9) => (show f j = hs b j ∧ f (9 + j) = hs l j from by
          have h := HSC.out j hj
          rw [← hfin] at h
          exact h))
        clear hfin HS
        have i1 : ¬ (s.size : Int) < (s.size : Int) := by omega
        go_wp2
        go_loopw [9] (fun xn ws => ∃ k : Nat, k ≤ 9 ∧ xn = .int .i64 (k : Int) ∧ Hid (ws.heap[g]? = some (.cells (bo f) 38)) ∧ Hid (Below W.heap.size W ws) ∧ Hid (ws.heap[W.heap.size]? = some (.cells #[.int .u16 b, .int .u16 l] 24))) (fun xn _ => 9 - (intOf xn).toNat)
        case atStart => exact ⟨0, by omega, rfl, HF, HB, HN5⟩
        case round =>
          obtain ⟨k, hk, rfl, HF, HB, HN5⟩ := hrel
          have k0 : (0 : Int) ≤ (k : Int) := by omega
          by_cases hlt : k < 9
          · have k9 : (k : Int) < 9 := by omega
            have c0 := cell_of_row _ _ 0 _ _ _ HN5.out
            have c1 := cell_of_row _ _ 1 _ _ _ HN5.out
            have HN0 := Lib.hid (fun w => HNX.out false k (by omega) w)
            have HN1 := Lib.hid (fun w => HNX.out true k (by omega) w)
            have hp0 : pick b l false k = f k := (HFN.out k hlt).1.symm
            have hp1 : pick b l true k = f (9 + k) := (HFN.out k hlt).2.symm
            rw [hp0] at HN0
            rw [hp1] at HN1
            have HR := Lib.hid (fun (ws : World) (hg : ws.heap[g]? = some (.cells (bo f) 38)) => (⟨(row_bo hg k (by omega)).2.1, (row_bo hg (9 + k) (by omega)).2.1⟩ : ws.cell? ⟨g, k, none⟩ = some (.bool (f k)) ∧ ws.cell? ⟨g, 9 + k, none⟩ = some (.bool (f (9 + k)))))
            clear hp0 hp1
            generalize f k = p0 at HN0 HR
            generalize f (9 + k) = p1 at HN1 HR
            go_wp2_with (first | (go_at_call 8; with_reducible refine (HN0.out _).mono ?_; rintro e w5 ⟨rfl, hb⟩; have HB5 := Lib.hid (bel_to HB.out hb HB.out.size); have HF5 := Lib.hid ((hb.block _ (lt_of_block HF.out)).trans HF.out); have HN6 := Lib.hid ((hb.block _ (lt_of_block HN5.out)).trans HN5.out); have c0 := cell_of_row _ _ 0 _ _ _ HN6.out; have c1 := cell_of_row _ _ 1 _ _ _ HN6.out; clear hb) | (go_at_call 8; with_reducible refine (HN1.out _).mono ?_; rintro e w6 ⟨rfl, hb⟩; have HB6 := Lib.hid (bel_to HB5.out hb HB5.out.size); have HF6 := Lib.hid ((hb.block _ (lt_of_block HF5.out)).trans HF5.out); have HN7 := Lib.hid ((hb.block _ (lt_of_block HN6.out)).trans HN6.out); obtain ⟨d0, d1⟩ := HR.out _ HF6.out; clear hb))
            go_roundw
            case rel => exact ⟨k + 1, by omega, by go_num, HF6, HB6, HN7⟩
            case measure => simp [intOf]; omega
          · obtain rfl : k = 9 := by omega
            go_wp2_with (go_at_call 5; refine (sure_any _).mono ?_; rintro e w4 ⟨rfl, hb⟩; have HB4 := Lib.hid (bel_to HB.out hb HB.out.size); clear hb)
            go_ret
            exact ⟨rfl, HB4.out⟩
end Go.Proofs.Ytcgpjfcfokiagaa

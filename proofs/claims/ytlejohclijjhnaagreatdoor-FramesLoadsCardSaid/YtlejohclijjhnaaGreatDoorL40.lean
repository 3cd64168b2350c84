/-
  THE WALK of the statements' own laid. Conditions: a store and a row of truths lie in memory, and there is room.
-/
import Derived.Test.YtlejohclijjhnaaGreatDoorL39
namespace Go.Proofs.YtlejohclijjhnaaGreatDoor
open Go.RowKit Ti Qd Go.Maps Go.WideMaps Ru

/-- cells set one by one -/
def layQ (L : List Sq) (n w : Nat) (F : Nat → Bool) : Nat → List Sq × Int
  | 0 => emp L n
  | k + 1 => if F k then setQ (layQ L n w F k).1 n (layQ L n w F k).2 (k % w) (k / w) true else layQ L n w F k
/-- how many are true -/
def trN (F : Nat → Bool) : Nat → Nat
  | 0 => 0
  | k + 1 => trN F k + (F k).toNat
/-- what comes of cells set one by one -/
structure LayOk (L : List Sq) (n w : Nat) (F : Nat → Bool) (k : Nat) : Prop where
  ext : L <+: (layQ L n w F k).1
  len : (layQ L n w F k).1.length ≤ L.length + (n + 1) + trN F k * (n + 1)
  inv : Inv (layQ L n w F k).1
  lv : Lv (layQ L n w F k).1 n (layQ L n w F k).2
  cel : ∀ x y, x < w → y < w → cel (layQ L n w F k).1 n (layQ L n w F k).2 x y = (decide (y * w + x < k) && F (y * w + x))
theorem lay_ok {L : List Sq} (hi : Inv L) (n w : Nat) (hn : n ≤ 37) (hw : w = 2 ^ (n + 3)) (F : Nat → Bool) : ∀ k, k ≤ w * w → LayOk L n w F k
  | 0, _ => by
    have he := emp_ok hi n hn
    exact ⟨he.ext, by have := he.len; show (emp L n).1.length ≤ _; omega, he.inv, he.lv, fun x y _ _ => by rw [show Qd.cel (layQ L n w F 0).1 n (layQ L n w F 0).2 x y = false from he.cel x y]; simp⟩
  | k + 1, hk => by
    have ih := lay_ok hi n w hn hw F k (by omega)
    have w0 : 0 < w := by rw [hw]; exact Nat.two_pow_pos _
    cases hF : F k with
    | false =>
      have e : layQ L n w F (k + 1) = layQ L n w F k := if_neg (by rw [hF]; simp)
      have t : trN F (k + 1) = trN F k := by show trN F k + (F k).toNat = _; rw [hF]; rfl
      refine ⟨by rw [e]; exact ih.ext, by rw [e, t]; exact ih.len, by rw [e]; exact ih.inv, by rw [e]; exact ih.lv, fun x y hx hy => ?_⟩
      rw [e, ih.cel x y hx hy]
      by_cases q : y * w + x = k
      · rw [q, hF]; simp
      · have : decide (y * w + x < k) = decide (y * w + x < k + 1) := by rw [Bool.eq_iff_iff, decide_eq_true_iff, decide_eq_true_iff]; omega
        rw [this]
    | true =>
      have e : layQ L n w F (k + 1) = setQ (layQ L n w F k).1 n (layQ L n w F k).2 (k % w) (k / w) true := if_pos hF
      have t : trN F (k + 1) = trN F k + 1 := by show trN F k + (F k).toNat = _; rw [hF]; rfl
      have hx0 : k % w < 2 ^ (n + 3) := by rw [← hw]; exact Nat.mod_lt _ w0
      have hy0 : k / w < 2 ^ (n + 3) := by rw [← hw, Nat.div_lt_iff_lt_mul w0]; omega
      have so := Qd.set_ok ih.inv n _ (k % w) (k / w) true ih.lv hn hx0 hy0
      rw [← e] at so
      refine ⟨ih.ext.trans so.ext, ?_, so.inv, so.lv, fun x y hx hy => ?_⟩
      · have := so.len
        have := ih.len
        rw [t, Nat.succ_mul]
        omega
      · rw [so.cel x y (by rw [← hw]; exact hx) (by rw [← hw]; exact hy), ih.cel x y hx hy]
        have h1 : y * w + x = k ↔ x = k % w ∧ y = k / w := by
          constructor
          · intro q
            subst q
            rw [Nat.mul_comm y w, Nat.mul_add_mod, Nat.mod_eq_of_lt hx, Nat.mul_add_div w0, Nat.div_eq_of_lt hx]
            exact ⟨rfl, rfl⟩
          · rintro ⟨rfl, rfl⟩
            rw [Nat.mul_comm]
            exact Nat.div_add_mod k w
        by_cases q : y * w + x = k
        · rw [if_pos (h1.1 q), q, hF]; simp
        · rw [if_neg (fun k => q (h1.2 k))]
          have : decide (y * w + x < k) = decide (y * w + x < k + 1) := by rw [Bool.eq_iff_iff, decide_eq_true_iff, decide_eq_true_iff]; omega
          rw [this]
theorem lay_ext (L : List Sq) (n w : Nat) (F : Nat → Bool) (hi : Inv L) (hn : n ≤ 37) (hw : w = 2 ^ (n + 3)) (k : Nat) : ∀ d, k + d ≤ w * w → (layQ L n w F k).1 <+: (layQ L n w F (k + d)).1
  | 0, _ => List.prefix_rfl
  | d + 1, hd => by
    have ih := lay_ext L n w F hi hn hw k d (by omega)
    refine ih.trans ?_
    have l0 := lay_ok hi n w hn hw F (k + d) (by omega)
    have w0 : 0 < w := by rw [hw]; exact Nat.two_pow_pos _
    have hkd : k + d < w * w := by omega
    show _ <+: (layQ L n w F ((k + d) + 1)).1
    generalize k + d = e at *
    show _ <+: (if F e then _ else _ : List Sq × Int).1
    split
    · exact (Qd.set_ok l0.inv n _ (e % w) (e / w) true l0.lv hn (by rw [← hw]; exact Nat.mod_lt _ w0) (by rw [← hw, Nat.div_lt_iff_lt_mul w0]; exact hkd)).ext
    · exact List.prefix_rfl
set_option maxRecDepth 100000 in
set_option maxHeartbeats 4000000 in
theorem laid_8 {B : Nat} {w0 : World} {P : Nat} {L : List Sq} {room : Nat} {H : Nat → Prop} (h : St B w0 P L room H) (F : Nat → Bool) (g : Nat) (hg : w0.heap[g]? = some (.cells (br F 64) 4)) (nH : ¬ H g) (hr : (layQ L 0 8 F 64).1.length ≤ room) :
    Calls Tryz.prog 15 #[.pointer (some ⟨P, 0, none⟩), .slice (some ⟨g, 0, none⟩) 64 64, .int .i64 8] w0 fun e w' => e = .returned (.int .i64 (layQ L 0 8 F 64).2) ∧ Goes B w0 P room H (layQ L 0 8 F 64).1 w' := by
  have hinv := h.inv
  have hext := fun k d => lay_ext L 0 8 F hinv (by omega) rfl k d
  have HLE := Lib.hid (show ∀ k, k ≤ 64 → (layQ L 0 8 F k).1.length ≤ room from fun k hk => by
    have := (hext k (64 - k) (by omega)).length_le
    rw [show k + (64 - k) = 64 by omega] at this
    omega)
  have HEM := Lib.hid (empty_ok h 0 3 (by omega) (by omega) (HLE.out 0 (by omega)))
  have HSET := Lib.hid (show ∀ k, k < 64 → F k = true → ∀ (wx : World) (Hx : Nat → Prop), St B wx P (layQ L 0 8 F k).1 room Hx → Calls Tryz.prog 30 #[.pointer (some ⟨P, 0, none⟩), .int .i64 (layQ L 0 8 F k).2, .int .i64 ((k % 8 : Nat) : Int), .int .i64 ((k / 8 : Nat) : Int), .bool true] wx fun e w' => e = .returned (.tuple #[.int .i64 (layQ L 0 8 F (k + 1)).2, .nilIface]) ∧ Goes B wx P room Hx (layQ L 0 8 F (k + 1)).1 w' from fun k hk hF wx Hx hx => by
    have l0 := lay_ok hinv 0 8 (by omega) rfl F k (by omega)
    have e : layQ L 0 8 F (k + 1) = setQ (layQ L 0 8 F k).1 0 (layQ L 0 8 F k).2 (k % 8) (k / 8) true := if_pos hF
    have hle := HLE.out (k + 1) (by omega)
    rw [e] at hle ⊢
    exact set_is true 0 _ Hx _ _ _ wx hx l0.lv (by omega) (by show _ < 8; omega) (by show _ < 8; omega) hle)
  have HG := Lib.hid (And.intro hg nH)
  have HNF := Lib.hid (show ∀ k, F k = false → layQ L 0 8 F (k + 1) = layQ L 0 8 F k from fun k hF => if_neg (by rw [hF]; simp))
  clear h hinv hext hg nH hr
  go_enter Tryz.func15, Tryz.ntmps15
  go_wp2
  go_loop [7, 8] (fun a c => ∃ j : Nat, j ≤ 3 ∧ a = .int .i64 j ∧ c = .int .i64 ((2 ^ j : Nat) : Int)) (fun a _ => 3 - (intOf a).toNat)
  case atStart => exact ⟨0, by omega, rfl, rfl⟩
  case round =>
    obtain ⟨j, hj, rfl, rfl⟩ := hrel
    by_cases hlt : j < 3
    · have hd : 2 ^ j < 8 := by rcases (show j = 0 ∨ j = 1 ∨ j = 2 by omega) with rfl | rfl | rfl <;> decide
      have hp := Nat.two_pow_pos j
      have hs : 2 ^ (j + 1) = 2 * 2 ^ j := by rw [Nat.pow_succ]; omega
      have HS := Lib.hid hs
      have HLT := Lib.hid hlt
      have hj6 : (j : Int) ≤ 6 := by omega
      clear hs hlt
      generalize 2 ^ j = q at *
      have q1 : (q : Int) < 8 := by omega
      have q2 : (0 : Int) < (q : Int) := by omega
      go_wp2
      go_round
      case rel => exact ⟨j + 1, by have := HLT.out; omega, by go_num, by rw [HS.out]; go_num⟩
      case measure => have := HLT.out; simp [intOf]; omega
    · obtain rfl : j = 3 := by omega
      rw [show (((2 ^ 3 : Nat)) : Int) = 8 by decide, show ((3 : Nat) : Int) = 3 by decide]
      clear hlt hj
      go_wp2_with fail
      refine HEM.out.mono ?_
      rintro e w1 ⟨rfl, hgo⟩
      have HR0 := Lib.hid (show Goes B w0 P room H (layQ L 0 8 F 0).1 w1 from hgo)
      rw [show (emp L 0).2 = (layQ L 0 8 F 0).2 from rfl]
      clear hgo HEM
      go_wp2
      go_loopw [9, 10, 11] (fun a c i wr => ∃ k : Nat, k ≤ 64 ∧ a = .int .i64 (layQ L 0 8 F k).2 ∧ c = .nilIface ∧ i = .int .i64 k ∧ Hid (Goes B w0 P room H (layQ L 0 8 F k).1 wr)) (fun _ _ i _ => 64 - (intOf i).toNat)
      case atStart => exact ⟨0, by omega, rfl, rfl, rfl, HR0⟩
      case round =>
        clear HR0
        obtain ⟨k, hk, rfl, rfl, rfl, HR⟩ := hrel
        have k0 : (0 : Int) ≤ (k : Int) := by omega
        by_cases hlt : k < 64
        · have k1 : (k : Int) < 64 := by omega
          have HLT := Lib.hid hlt
          obtain ⟨H', hs, ht⟩ := HR.out
          have hc := br_cell (ht.row HG.out.1 HG.out.2) k hlt
          have HT := Lib.hid ht
          have HSE := Lib.hid (fun hF => HSET.out k hlt hF)
          have HNX := Lib.hid (fun hF => HNF.out k hF)
          have HS := Lib.hid hs
          clear hlt hs ht
          cases hF : F k with
          | false =>
            rw [hF] at hc
            have e1 := HNX.out hF
            have HE := Lib.hid e1
            have HRR := Lib.hid (show Goes B w0 P room H (layQ L 0 8 F (k + 1)).1 wr from by rw [e1]; exact HR.out)
            clear e1 hF
            go_wp2
            go_roundw
            case rel => exact ⟨k + 1, by have := HLT.out; omega, by rw [HE.out], rfl, by go_num, HRR⟩
            case measure => have := HLT.out; simp [intOf]; omega
          | true =>
            rw [hF] at hc
            have HC := Lib.hid (fun wx (hb : Below wr.heap.size wr wx) => HSE.out hF wx _ (HS.out.below hb (Nat.le_refl _)))
            obtain ⟨x, hx⟩ : ∃ x, x = k % 8 := ⟨_, rfl⟩
            obtain ⟨y, hy⟩ : ∃ y, y = k / 8 := ⟨_, rfl⟩
            rw [← hx, ← hy] at HC
            have ex : (k : Int) % 8 = (x : Int) := by omega
            have ey : (k : Int) / 8 = (y : Int) := by omega
            have ex2 : (k : Int).tmod 8 = (x : Int) := by rw [Int.tmod_eq_emod_of_nonneg (by omega)]; exact ex
            have ey2 : (k : Int).tdiv 8 = (y : Int) := by rw [Int.tdiv_eq_ediv_of_nonneg (by omega)]; exact ey
            have ew : IntKind.i64.wrap (y : Int) = (y : Int) := IntWalk.i64_in _ (by omega)
            clear hx hy hF HSE HNX
            go_wp2
            go_region_held3 (fun _ => True) (exact trivial)
              ((go_at_call 30; (with_reducible refine (HC.out _ (Below.refl _ wr).drew).mono ?_); rintro e w5 ⟨rfl, hg⟩; have HG5 := Lib.hid (show Goes B w0 P room H (layQ L 0 8 F (k + 1)).1 w5 from by
                obtain ⟨H5, h5, h6⟩ := hg
                exact ⟨H5, h5, HT.out.trans ((Stp.of_below (Below.refl _ wr).drew).trans h6)⟩); clear hg))
            clear ex ey ex2 ey2 ew
            go_wp2
            go_roundw
            case rel => exact ⟨k + 1, by have := HLT.out; omega, rfl, rfl, by go_num, HG5⟩
            case measure => have := HLT.out; simp [intOf]; omega
        · obtain rfl : k = 64 := by omega
          clear hlt
          go_wp2
          go_ret
          exact ⟨rfl, HR.out⟩
set_option maxRecDepth 100000 in
set_option maxHeartbeats 4000000 in
theorem laid_16 {B : Nat} {w0 : World} {P : Nat} {L : List Sq} {room : Nat} {H : Nat → Prop} (h : St B w0 P L room H) (F : Nat → Bool) (g : Nat) (hg : w0.heap[g]? = some (.cells (br F 256) 4)) (nH : ¬ H g) (hr : (layQ L 1 16 F 256).1.length ≤ room) :
    Calls Tryz.prog 15 #[.pointer (some ⟨P, 0, none⟩), .slice (some ⟨g, 0, none⟩) 256 256, .int .i64 16] w0 fun e w' => e = .returned (.int .i64 (layQ L 1 16 F 256).2) ∧ Goes B w0 P room H (layQ L 1 16 F 256).1 w' := by
  have hinv := h.inv
  have hext := fun k d => lay_ext L 1 16 F hinv (by omega) rfl k d
  have HLE := Lib.hid (show ∀ k, k ≤ 256 → (layQ L 1 16 F k).1.length ≤ room from fun k hk => by
    have := (hext k (256 - k) (by omega)).length_le
    rw [show k + (256 - k) = 256 by omega] at this
    omega)
  have HEM := Lib.hid (empty_ok h 1 4 (by omega) (by omega) (HLE.out 0 (by omega)))
  have HSET := Lib.hid (show ∀ k, k < 256 → F k = true → ∀ (wx : World) (Hx : Nat → Prop), St B wx P (layQ L 1 16 F k).1 room Hx → Calls Tryz.prog 30 #[.pointer (some ⟨P, 0, none⟩), .int .i64 (layQ L 1 16 F k).2, .int .i64 ((k % 16 : Nat) : Int), .int .i64 ((k / 16 : Nat) : Int), .bool true] wx fun e w' => e = .returned (.tuple #[.int .i64 (layQ L 1 16 F (k + 1)).2, .nilIface]) ∧ Goes B wx P room Hx (layQ L 1 16 F (k + 1)).1 w' from fun k hk hF wx Hx hx => by
    have l0 := lay_ok hinv 1 16 (by omega) rfl F k (by omega)
    have e : layQ L 1 16 F (k + 1) = setQ (layQ L 1 16 F k).1 1 (layQ L 1 16 F k).2 (k % 16) (k / 16) true := if_pos hF
    have hle := HLE.out (k + 1) (by omega)
    rw [e] at hle ⊢
    exact set_is true 1 _ Hx _ _ _ wx hx l0.lv (by omega) (by show _ < 16; omega) (by show _ < 16; omega) hle)
  have HG := Lib.hid (And.intro hg nH)
  have HNF := Lib.hid (show ∀ k, F k = false → layQ L 1 16 F (k + 1) = layQ L 1 16 F k from fun k hF => if_neg (by rw [hF]; simp))
  clear h hinv hext hg nH hr
  go_enter Tryz.func15, Tryz.ntmps15
  go_wp2
  go_loop [7, 8] (fun a c => ∃ j : Nat, j ≤ 4 ∧ a = .int .i64 j ∧ c = .int .i64 ((2 ^ j : Nat) : Int)) (fun a _ => 4 - (intOf a).toNat)
  case atStart => exact ⟨0, by omega, rfl, rfl⟩
  case round =>
    obtain ⟨j, hj, rfl, rfl⟩ := hrel
    by_cases hlt : j < 4
    · have hd : 2 ^ j < 16 := by rcases (show j = 0 ∨ j = 1 ∨ j = 2 ∨ j = 3 by omega) with rfl | rfl | rfl | rfl <;> decide
      have hp := Nat.two_pow_pos j
      have hs : 2 ^ (j + 1) = 2 * 2 ^ j := by rw [Nat.pow_succ]; omega
      have HS := Lib.hid hs
      have HLT := Lib.hid hlt
      have hj6 : (j : Int) ≤ 6 := by omega
      clear hs hlt
      generalize 2 ^ j = q at *
      have q1 : (q : Int) < 16 := by omega
      have q2 : (0 : Int) < (q : Int) := by omega
      go_wp2
      go_round
      case rel => exact ⟨j + 1, by have := HLT.out; omega, by go_num, by rw [HS.out]; go_num⟩
      case measure => have := HLT.out; simp [intOf]; omega
    · obtain rfl : j = 4 := by omega
      rw [show (((2 ^ 4 : Nat)) : Int) = 16 by decide, show ((4 : Nat) : Int) = 4 by decide]
      clear hlt hj
      go_wp2_with fail
      refine HEM.out.mono ?_
      rintro e w1 ⟨rfl, hgo⟩
      have HR0 := Lib.hid (show Goes B w0 P room H (layQ L 1 16 F 0).1 w1 from hgo)
      rw [show (emp L 1).2 = (layQ L 1 16 F 0).2 from rfl]
      clear hgo HEM
      go_wp2
      go_loopw [9, 10, 11] (fun a c i wr => ∃ k : Nat, k ≤ 256 ∧ a = .int .i64 (layQ L 1 16 F k).2 ∧ c = .nilIface ∧ i = .int .i64 k ∧ Hid (Goes B w0 P room H (layQ L 1 16 F k).1 wr)) (fun _ _ i _ => 256 - (intOf i).toNat)
      case atStart => exact ⟨0, by omega, rfl, rfl, rfl, HR0⟩
      case round =>
        clear HR0
        obtain ⟨k, hk, rfl, rfl, rfl, HR⟩ := hrel
        have k0 : (0 : Int) ≤ (k : Int) := by omega
        by_cases hlt : k < 256
        · have k1 : (k : Int) < 256 := by omega
          have HLT := Lib.hid hlt
          obtain ⟨H', hs, ht⟩ := HR.out
          have hc := br_cell (ht.row HG.out.1 HG.out.2) k hlt
          have HT := Lib.hid ht
          have HSE := Lib.hid (fun hF => HSET.out k hlt hF)
          have HNX := Lib.hid (fun hF => HNF.out k hF)
          have HS := Lib.hid hs
          clear hlt hs ht
          cases hF : F k with
          | false =>
            rw [hF] at hc
            have e1 := HNX.out hF
            have HE := Lib.hid e1
            have HRR := Lib.hid (show Goes B w0 P room H (layQ L 1 16 F (k + 1)).1 wr from by rw [e1]; exact HR.out)
            clear e1 hF
            go_wp2
            go_roundw
            case rel => exact ⟨k + 1, by have := HLT.out; omega, by rw [HE.out], rfl, by go_num, HRR⟩
            case measure => have := HLT.out; simp [intOf]; omega
          | true =>
            rw [hF] at hc
            have HC := Lib.hid (fun wx (hb : Below wr.heap.size wr wx) => HSE.out hF wx _ (HS.out.below hb (Nat.le_refl _)))
            obtain ⟨x, hx⟩ : ∃ x, x = k % 16 := ⟨_, rfl⟩
            obtain ⟨y, hy⟩ : ∃ y, y = k / 16 := ⟨_, rfl⟩
            rw [← hx, ← hy] at HC
            have ex : (k : Int) % 16 = (x : Int) := by omega
            have ey : (k : Int) / 16 = (y : Int) := by omega
            have ex2 : (k : Int).tmod 16 = (x : Int) := by rw [Int.tmod_eq_emod_of_nonneg (by omega)]; exact ex
            have ey2 : (k : Int).tdiv 16 = (y : Int) := by rw [Int.tdiv_eq_ediv_of_nonneg (by omega)]; exact ey
            have ew : IntKind.i64.wrap (y : Int) = (y : Int) := IntWalk.i64_in _ (by omega)
            clear hx hy hF HSE HNX
            go_wp2
            go_region_held3 (fun _ => True) (exact trivial)
              ((go_at_call 30; (with_reducible refine (HC.out _ (Below.refl _ wr).drew).mono ?_); rintro e w5 ⟨rfl, hg⟩; have HG5 := Lib.hid (show Goes B w0 P room H (layQ L 1 16 F (k + 1)).1 w5 from by
                obtain ⟨H5, h5, h6⟩ := hg
                exact ⟨H5, h5, HT.out.trans ((Stp.of_below (Below.refl _ wr).drew).trans h6)⟩); clear hg))
            clear ex ey ex2 ey2 ew
            go_wp2
            go_roundw
            case rel => exact ⟨k + 1, by have := HLT.out; omega, rfl, rfl, by go_num, HG5⟩
            case measure => have := HLT.out; simp [intOf]; omega
        · obtain rfl : k = 256 := by omega
          clear hlt
          go_wp2
          go_ret
          exact ⟨rfl, HR.out⟩
set_option maxRecDepth 100000 in
set_option maxHeartbeats 4000000 in
theorem laid_32 {B : Nat} {w0 : World} {P : Nat} {L : List Sq} {room : Nat} {H : Nat → Prop} (h : St B w0 P L room H) (F : Nat → Bool) (g : Nat) (hg : w0.heap[g]? = some (.cells (br F 1024) 4)) (nH : ¬ H g) (hr : (layQ L 2 32 F 1024).1.length ≤ room) :
    Calls Tryz.prog 15 #[.pointer (some ⟨P, 0, none⟩), .slice (some ⟨g, 0, none⟩) 1024 1024, .int .i64 32] w0 fun e w' => e = .returned (.int .i64 (layQ L 2 32 F 1024).2) ∧ Goes B w0 P room H (layQ L 2 32 F 1024).1 w' := by
  have hinv := h.inv
  have hext := fun k d => lay_ext L 2 32 F hinv (by omega) rfl k d
  have HLE := Lib.hid (show ∀ k, k ≤ 1024 → (layQ L 2 32 F k).1.length ≤ room from fun k hk => by
    have := (hext k (1024 - k) (by omega)).length_le
    rw [show k + (1024 - k) = 1024 by omega] at this
    omega)
  have HEM := Lib.hid (empty_ok h 2 5 (by omega) (by omega) (HLE.out 0 (by omega)))
  have HSET := Lib.hid (show ∀ k, k < 1024 → F k = true → ∀ (wx : World) (Hx : Nat → Prop), St B wx P (layQ L 2 32 F k).1 room Hx → Calls Tryz.prog 30 #[.pointer (some ⟨P, 0, none⟩), .int .i64 (layQ L 2 32 F k).2, .int .i64 ((k % 32 : Nat) : Int), .int .i64 ((k / 32 : Nat) : Int), .bool true] wx fun e w' => e = .returned (.tuple #[.int .i64 (layQ L 2 32 F (k + 1)).2, .nilIface]) ∧ Goes B wx P room Hx (layQ L 2 32 F (k + 1)).1 w' from fun k hk hF wx Hx hx => by
    have l0 := lay_ok hinv 2 32 (by omega) rfl F k (by omega)
    have e : layQ L 2 32 F (k + 1) = setQ (layQ L 2 32 F k).1 2 (layQ L 2 32 F k).2 (k % 32) (k / 32) true := if_pos hF
    have hle := HLE.out (k + 1) (by omega)
    rw [e] at hle ⊢
    exact set_is true 2 _ Hx _ _ _ wx hx l0.lv (by omega) (by show _ < 32; omega) (by show _ < 32; omega) hle)
  have HG := Lib.hid (And.intro hg nH)
  have HNF := Lib.hid (show ∀ k, F k = false → layQ L 2 32 F (k + 1) = layQ L 2 32 F k from fun k hF => if_neg (by rw [hF]; simp))
  clear h hinv hext hg nH hr
  go_enter Tryz.func15, Tryz.ntmps15
  go_wp2
  go_loop [7, 8] (fun a c => ∃ j : Nat, j ≤ 5 ∧ a = .int .i64 j ∧ c = .int .i64 ((2 ^ j : Nat) : Int)) (fun a _ => 5 - (intOf a).toNat)
  case atStart => exact ⟨0, by omega, rfl, rfl⟩
  case round =>
    obtain ⟨j, hj, rfl, rfl⟩ := hrel
    by_cases hlt : j < 5
    · have hd : 2 ^ j < 32 := by rcases (show j = 0 ∨ j = 1 ∨ j = 2 ∨ j = 3 ∨ j = 4 by omega) with rfl | rfl | rfl | rfl | rfl <;> decide
      have hp := Nat.two_pow_pos j
      have hs : 2 ^ (j + 1) = 2 * 2 ^ j := by rw [Nat.pow_succ]; omega
      have HS := Lib.hid hs
      have HLT := Lib.hid hlt
      have hj6 : (j : Int) ≤ 6 := by omega
      clear hs hlt
      generalize 2 ^ j = q at *
      have q1 : (q : Int) < 32 := by omega
      have q2 : (0 : Int) < (q : Int) := by omega
      go_wp2
      go_round
      case rel => exact ⟨j + 1, by have := HLT.out; omega, by go_num, by rw [HS.out]; go_num⟩
      case measure => have := HLT.out; simp [intOf]; omega
    · obtain rfl : j = 5 := by omega
      rw [show (((2 ^ 5 : Nat)) : Int) = 32 by decide, show ((5 : Nat) : Int) = 5 by decide]
      clear hlt hj
      go_wp2_with fail
      refine HEM.out.mono ?_
      rintro e w1 ⟨rfl, hgo⟩
      have HR0 := Lib.hid (show Goes B w0 P room H (layQ L 2 32 F 0).1 w1 from hgo)
      rw [show (emp L 2).2 = (layQ L 2 32 F 0).2 from rfl]
      clear hgo HEM
      go_wp2
      go_loopw [9, 10, 11] (fun a c i wr => ∃ k : Nat, k ≤ 1024 ∧ a = .int .i64 (layQ L 2 32 F k).2 ∧ c = .nilIface ∧ i = .int .i64 k ∧ Hid (Goes B w0 P room H (layQ L 2 32 F k).1 wr)) (fun _ _ i _ => 1024 - (intOf i).toNat)
      case atStart => exact ⟨0, by omega, rfl, rfl, rfl, HR0⟩
      case round =>
        clear HR0
        obtain ⟨k, hk, rfl, rfl, rfl, HR⟩ := hrel
        have k0 : (0 : Int) ≤ (k : Int) := by omega
        by_cases hlt : k < 1024
        · have k1 : (k : Int) < 1024 := by omega
          have HLT := Lib.hid hlt
          obtain ⟨H', hs, ht⟩ := HR.out
          have hc := br_cell (ht.row HG.out.1 HG.out.2) k hlt
          have HT := Lib.hid ht
          have HSE := Lib.hid (fun hF => HSET.out k hlt hF)
          have HNX := Lib.hid (fun hF => HNF.out k hF)
          have HS := Lib.hid hs
          clear hlt hs ht
          cases hF : F k with
          | false =>
            rw [hF] at hc
            have e1 := HNX.out hF
            have HE := Lib.hid e1
            have HRR := Lib.hid (show Goes B w0 P room H (layQ L 2 32 F (k + 1)).1 wr from by rw [e1]; exact HR.out)
            clear e1 hF
            go_wp2
            go_roundw
            case rel => exact ⟨k + 1, by have := HLT.out; omega, by rw [HE.out], rfl, by go_num, HRR⟩
            case measure => have := HLT.out; simp [intOf]; omega
          | true =>
            rw [hF] at hc
            have HC := Lib.hid (fun wx (hb : Below wr.heap.size wr wx) => HSE.out hF wx _ (HS.out.below hb (Nat.le_refl _)))
            obtain ⟨x, hx⟩ : ∃ x, x = k % 32 := ⟨_, rfl⟩
            obtain ⟨y, hy⟩ : ∃ y, y = k / 32 := ⟨_, rfl⟩
            rw [← hx, ← hy] at HC
            have ex : (k : Int) % 32 = (x : Int) := by omega
            have ey : (k : Int) / 32 = (y : Int) := by omega
            have ex2 : (k : Int).tmod 32 = (x : Int) := by rw [Int.tmod_eq_emod_of_nonneg (by omega)]; exact ex
            have ey2 : (k : Int).tdiv 32 = (y : Int) := by rw [Int.tdiv_eq_ediv_of_nonneg (by omega)]; exact ey
            have ew : IntKind.i64.wrap (y : Int) = (y : Int) := IntWalk.i64_in _ (by omega)
            clear hx hy hF HSE HNX
            go_wp2
            go_region_held3 (fun _ => True) (exact trivial)
              ((go_at_call 30; (with_reducible refine (HC.out _ (Below.refl _ wr).drew).mono ?_); rintro e w5 ⟨rfl, hg⟩; have HG5 := Lib.hid (show Goes B w0 P room H (layQ L 2 32 F (k + 1)).1 w5 from by
                obtain ⟨H5, h5, h6⟩ := hg
                exact ⟨H5, h5, HT.out.trans ((Stp.of_below (Below.refl _ wr).drew).trans h6)⟩); clear hg))
            clear ex ey ex2 ey2 ew
            go_wp2
            go_roundw
            case rel => exact ⟨k + 1, by have := HLT.out; omega, rfl, rfl, by go_num, HG5⟩
            case measure => have := HLT.out; simp [intOf]; omega
        · obtain rfl : k = 1024 := by omega
          clear hlt
          go_wp2
          go_ret
          exact ⟨rfl, HR.out⟩
set_option maxRecDepth 100000 in
set_option maxHeartbeats 4000000 in
theorem laid_64 {B : Nat} {w0 : World} {P : Nat} {L : List Sq} {room : Nat} {H : Nat → Prop} (h : St B w0 P L room H) (F : Nat → Bool) (g : Nat) (hg : w0.heap[g]? = some (.cells (br F 4096) 4)) (nH : ¬ H g) (hr : (layQ L 3 64 F 4096).1.length ≤ room) :
    Calls Tryz.prog 15 #[.pointer (some ⟨P, 0, none⟩), .slice (some ⟨g, 0, none⟩) 4096 4096, .int .i64 64] w0 fun e w' => e = .returned (.int .i64 (layQ L 3 64 F 4096).2) ∧ Goes B w0 P room H (layQ L 3 64 F 4096).1 w' := by
  have hinv := h.inv
  have hext := fun k d => lay_ext L 3 64 F hinv (by omega) rfl k d
  have HLE := Lib.hid (show ∀ k, k ≤ 4096 → (layQ L 3 64 F k).1.length ≤ room from fun k hk => by
    have := (hext k (4096 - k) (by omega)).length_le
    rw [show k + (4096 - k) = 4096 by omega] at this
    omega)
  have HEM := Lib.hid (empty_ok h 3 6 (by omega) (by omega) (HLE.out 0 (by omega)))
  have HSET := Lib.hid (show ∀ k, k < 4096 → F k = true → ∀ (wx : World) (Hx : Nat → Prop), St B wx P (layQ L 3 64 F k).1 room Hx → Calls Tryz.prog 30 #[.pointer (some ⟨P, 0, none⟩), .int .i64 (layQ L 3 64 F k).2, .int .i64 ((k % 64 : Nat) : Int), .int .i64 ((k / 64 : Nat) : Int), .bool true] wx fun e w' => e = .returned (.tuple #[.int .i64 (layQ L 3 64 F (k + 1)).2, .nilIface]) ∧ Goes B wx P room Hx (layQ L 3 64 F (k + 1)).1 w' from fun k hk hF wx Hx hx => by
    have l0 := lay_ok hinv 3 64 (by omega) rfl F k (by omega)
    have e : layQ L 3 64 F (k + 1) = setQ (layQ L 3 64 F k).1 3 (layQ L 3 64 F k).2 (k % 64) (k / 64) true := if_pos hF
    have hle := HLE.out (k + 1) (by omega)
    rw [e] at hle ⊢
    exact set_is true 3 _ Hx _ _ _ wx hx l0.lv (by omega) (by show _ < 64; omega) (by show _ < 64; omega) hle)
  have HG := Lib.hid (And.intro hg nH)
  have HNF := Lib.hid (show ∀ k, F k = false → layQ L 3 64 F (k + 1) = layQ L 3 64 F k from fun k hF => if_neg (by rw [hF]; simp))
  clear h hinv hext hg nH hr
  go_enter Tryz.func15, Tryz.ntmps15
  go_wp2
  go_loop [7, 8] (fun a c => ∃ j : Nat, j ≤ 6 ∧ a = .int .i64 j ∧ c = .int .i64 ((2 ^ j : Nat) : Int)) (fun a _ => 6 - (intOf a).toNat)
  case atStart => exact ⟨0, by omega, rfl, rfl⟩
  case round =>
    obtain ⟨j, hj, rfl, rfl⟩ := hrel
    by_cases hlt : j < 6
    · have hd : 2 ^ j < 64 := by rcases (show j = 0 ∨ j = 1 ∨ j = 2 ∨ j = 3 ∨ j = 4 ∨ j = 5 by omega) with rfl | rfl | rfl | rfl | rfl | rfl <;> decide
      have hp := Nat.two_pow_pos j
      have hs : 2 ^ (j + 1) = 2 * 2 ^ j := by rw [Nat.pow_succ]; omega
      have HS := Lib.hid hs
      have HLT := Lib.hid hlt
      have hj6 : (j : Int) ≤ 6 := by omega
      clear hs hlt
      generalize 2 ^ j = q at *
      have q1 : (q : Int) < 64 := by omega
      have q2 : (0 : Int) < (q : Int) := by omega
      go_wp2
      go_round
      case rel => exact ⟨j + 1, by have := HLT.out; omega, by go_num, by rw [HS.out]; go_num⟩
      case measure => have := HLT.out; simp [intOf]; omega
    · obtain rfl : j = 6 := by omega
      rw [show (((2 ^ 6 : Nat)) : Int) = 64 by decide, show ((6 : Nat) : Int) = 6 by decide]
      clear hlt hj
      go_wp2_with fail
      refine HEM.out.mono ?_
      rintro e w1 ⟨rfl, hgo⟩
      have HR0 := Lib.hid (show Goes B w0 P room H (layQ L 3 64 F 0).1 w1 from hgo)
      rw [show (emp L 3).2 = (layQ L 3 64 F 0).2 from rfl]
      clear hgo HEM
      go_wp2
      go_loopw [9, 10, 11] (fun a c i wr => ∃ k : Nat, k ≤ 4096 ∧ a = .int .i64 (layQ L 3 64 F k).2 ∧ c = .nilIface ∧ i = .int .i64 k ∧ Hid (Goes B w0 P room H (layQ L 3 64 F k).1 wr)) (fun _ _ i _ => 4096 - (intOf i).toNat)
      case atStart => exact ⟨0, by omega, rfl, rfl, rfl, HR0⟩
      case round =>
        clear HR0
        obtain ⟨k, hk, rfl, rfl, rfl, HR⟩ := hrel
        have k0 : (0 : Int) ≤ (k : Int) := by omega
        by_cases hlt : k < 4096
        · have k1 : (k : Int) < 4096 := by omega
          have HLT := Lib.hid hlt
          obtain ⟨H', hs, ht⟩ := HR.out
          have hc := br_cell (ht.row HG.out.1 HG.out.2) k hlt
          have HT := Lib.hid ht
          have HSE := Lib.hid (fun hF => HSET.out k hlt hF)
          have HNX := Lib.hid (fun hF => HNF.out k hF)
          have HS := Lib.hid hs
          clear hlt hs ht
          cases hF : F k with
          | false =>
            rw [hF] at hc
            have e1 := HNX.out hF
            have HE := Lib.hid e1
            have HRR := Lib.hid (show Goes B w0 P room H (layQ L 3 64 F (k + 1)).1 wr from by rw [e1]; exact HR.out)
            clear e1 hF
            go_wp2
            go_roundw
            case rel => exact ⟨k + 1, by have := HLT.out; omega, by rw [HE.out], rfl, by go_num, HRR⟩
            case measure => have := HLT.out; simp [intOf]; omega
          | true =>
            rw [hF] at hc
            have HC := Lib.hid (fun wx (hb : Below wr.heap.size wr wx) => HSE.out hF wx _ (HS.out.below hb (Nat.le_refl _)))
            obtain ⟨x, hx⟩ : ∃ x, x = k % 64 := ⟨_, rfl⟩
            obtain ⟨y, hy⟩ : ∃ y, y = k / 64 := ⟨_, rfl⟩
            rw [← hx, ← hy] at HC
            have ex : (k : Int) % 64 = (x : Int) := by omega
            have ey : (k : Int) / 64 = (y : Int) := by omega
            have ex2 : (k : Int).tmod 64 = (x : Int) := by rw [Int.tmod_eq_emod_of_nonneg (by omega)]; exact ex
            have ey2 : (k : Int).tdiv 64 = (y : Int) := by rw [Int.tdiv_eq_ediv_of_nonneg (by omega)]; exact ey
            have ew : IntKind.i64.wrap (y : Int) = (y : Int) := IntWalk.i64_in _ (by omega)
            clear hx hy hF HSE HNX
            go_wp2
            go_region_held3 (fun _ => True) (exact trivial)
              ((go_at_call 30; (with_reducible refine (HC.out _ (Below.refl _ wr).drew).mono ?_); rintro e w5 ⟨rfl, hg⟩; have HG5 := Lib.hid (show Goes B w0 P room H (layQ L 3 64 F (k + 1)).1 w5 from by
                obtain ⟨H5, h5, h6⟩ := hg
                exact ⟨H5, h5, HT.out.trans ((Stp.of_below (Below.refl _ wr).drew).trans h6)⟩); clear hg))
            clear ex ey ex2 ey2 ew
            go_wp2
            go_roundw
            case rel => exact ⟨k + 1, by have := HLT.out; omega, rfl, rfl, by go_num, HG5⟩
            case measure => have := HLT.out; simp [intOf]; omega
        · obtain rfl : k = 4096 := by omega
          clear hlt
          go_wp2
          go_ret
          exact ⟨rfl, HR.out⟩
theorem laid_any {B : Nat} {w0 : World} {P : Nat} {L : List Sq} {room : Nat} {H : Nat → Prop} (h : St B w0 P L room H) (n w : Nat) (hn : n ≤ 3) (hw : w = 2 ^ (n + 3)) (F : Nat → Bool) (g : Nat) (hg : w0.heap[g]? = some (.cells (br F (w * w)) 4)) (nH : ¬ H g) (hr : (layQ L n w F (w * w)).1.length ≤ room) :
    Calls Tryz.prog 15 #[.pointer (some ⟨P, 0, none⟩), .slice (some ⟨g, 0, none⟩) (w * w) (w * w), .int .i64 w] w0 fun e w' => e = .returned (.int .i64 (layQ L n w F (w * w)).2) ∧ Goes B w0 P room H (layQ L n w F (w * w)).1 w' := by
  rcases (show n = 0 ∨ n = 1 ∨ n = 2 ∨ n = 3 by omega) with rfl | rfl | rfl | rfl
  · subst hw; exact laid_8 h F g hg nH hr
  · subst hw; exact laid_16 h F g hg nH hr
  · subst hw; exact laid_32 h F g hg nH hr
  · subst hw; exact laid_64 h F g hg nH hr
/-- the truths of so many numbers are no more -/
theorem trN_upd (F : Nat → Bool) (a : Nat) : ∀ k, trN (upd F a true) k ≤ trN F k + (if a < k then 1 else 0)
  | 0 => by simp [trN]
  | k + 1 => by
    have ih := trN_upd F a k
    show trN (upd F a true) k + (upd F a true k).toNat ≤ trN F k + (F k).toNat + _
    by_cases e : k = a
    · subst e
      rw [if_neg (Nat.lt_irrefl _)] at ih
      rw [if_pos (Nat.lt_succ_self _)]
      have : (upd F k true k).toNat = 1 := by unfold upd; rw [if_pos rfl]; rfl
      omega
    · have : (upd F a true k) = F k := by unfold upd; rw [if_neg e]
      rw [this]
      by_cases q : a < k
      · rw [if_pos q] at ih
        rw [if_pos (by omega)]
        omega
      · rw [if_neg q] at ih
        rw [if_neg (by omega)]
        omega
theorem trN_none : ∀ k, trN (fun _ => false) k = 0
  | 0 => rfl
  | k + 1 => by show trN (fun _ => false) k + 0 = 0; rw [trN_none k]
theorem fF_few (X : Nat → Nat) (w N : Nat) : ∀ k, trN (fF X w k) N ≤ k
  | 0 => by rw [show fF X w 0 = fun _ => false from rfl, trN_none]; exact Nat.le_refl _
  | k + 1 => by
    have h1 := fF_few X w N k
    have h2 := trN_upd (fF X w k) (fps (X k) w) N
    show trN (upd (fF X w k) (fps (X k) w) true) N ≤ k + 1
    split at h2 <;> omega
end Go.Proofs.YtlejohclijjhnaaGreatDoor

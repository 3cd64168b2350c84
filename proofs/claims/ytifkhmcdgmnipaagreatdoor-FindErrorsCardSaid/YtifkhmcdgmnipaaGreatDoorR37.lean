/-
  THE WALK of freeAt. Conditions: the store lies in memory, the library's table and the near sides as the texts lay them; some cell of the square lives.
-/
import Derived.Test.YtifkhmcdgmnipaaGreatDoorR36
namespace Go.Proofs.YtifkhmcdgmnipaaGreatDoor
open Go.RowKit Ti Qd Ce Cl Go.Maps Go.WideMaps

/-- the near sides as the program's text lays them -/
def NearZ (w : World) : Prop := ∀ s j, s < 4 → j < 2 → w.cell? ⟨0, s * 2 + j, none⟩ = some (.int .i64 (ner s j : Nat))
theorem NearZ.lt {w : World} (h : NearZ w) : 0 < w.heap.size := World.block_lt_of_cell? w _ (h 0 0 (by omega) (by omega))
theorem NearZ.below {w w' : World} (h : NearZ w) (hb : Below w.heap.size w w') : NearZ w' := fun s j hs hj => (hb.cell (p := ⟨0, s * 2 + j, none⟩) h.lt).trans (h s j hs hj)
theorem near_two {w : World} (h : NearZ w) {s : Nat} (hs : s < 4) : w.cell? ⟨0, s * 2, none⟩ = some (.int .i64 (ner s 0 : Nat)) ∧ w.cell? ⟨0, s * 2 + 1, none⟩ = some (.int .i64 (ner s 1 : Nat)) := ⟨h s 0 hs (by omega), h s 1 hs (by omega)⟩
/-- what is left to go -/
structure FwS (L : List Sq) (n : Nat) (id : Int) (s m : Nat) (f : Int) (S : List Int) : Prop where
  fr : Fr L m S
  le : m ≤ n
  f0 : 0 ≤ f
  fb : f + ((2 ^ (m + 3) : Nat) : Int) ≤ ((2 ^ (n + 3) : Nat) : Int)
  mn : ∀ d, Mn L m S s d → Mn L n [id] s (f + d)
theorem FwS.near {L : List Sq} (hi : Inv L) {n : Nat} {id : Int} {s m : Nat} {f : Int} {S N : List Int} (h : FwS L n id s (m + 1) f S) (hs : s < 4) (hN : Nx L S N s) (hne : N ≠ []) : FwS L n id s m f N where
  fr := h.fr.near hi hN hne
  le := Nat.le_of_succ_le h.le
  f0 := h.f0
  fb := by
    have h1 := h.fb
    rw [show 2 ^ (m + 1 + 3) = 2 ^ (m + 3) * 2 from Nat.pow_succ ..] at h1
    omega
  mn := fun d hd => h.mn d (step_near hi hs h.fr hN hne hd)
theorem FwS.far {L : List Sq} (hi : Inv L) {n : Nat} {id : Int} {s m : Nat} {f : Int} {S N : List Int} (h : FwS L n id s (m + 1) f S) (hs : s < 4) (h0 : Nx L S [] s) (hN : Nx L S N ((s + 2) % 4)) : FwS L n id s m (f + ((2 ^ (m + 3) : Nat) : Int)) N where
  fr := h.fr.far hi hs h0 hN
  le := Nat.le_of_succ_le h.le
  f0 := by have := h.f0; have h2 : (0 : Int) ≤ ((2 ^ (m + 3) : Nat) : Int) := Int.natCast_nonneg _; omega
  fb := by
    have h1 := h.fb
    rw [show 2 ^ (m + 1 + 3) = 2 ^ (m + 3) * 2 from Nat.pow_succ ..] at h1
    omega
  mn := fun d hd => by
    rw [Int.add_assoc]
    exact h.mn _ (step_far hi hs h.fr h0 hN hd)
theorem mn_in {L : List Sq} (hi : Inv L) {m : Nat} {S : List Int} (h : Fr L m S) {s : Nat} {d : Int} (hm : Mn L m S s d) : 0 ≤ d ∧ d < ((2 ^ (m + 3) : Nat) : Int) := by
  obtain ⟨⟨id, hid, c, hc, rfl⟩, _⟩ := hm
  exact dst_in hi (h.lv id hid) hc
theorem wrap_f {f h t : Int} (f0 : 0 ≤ f) (h0 : 0 ≤ h) (b : f + h ≤ t) (ht : t ≤ 1099511627776) : wrap64 (f + h) = f + h := by unfold wrap64; omega
theorem side_tw {s : Nat} (_hs : s < 4) : ((s : Int) + 2) % 4 = (((s + 2) % 4 : Nat) : Int) := by omega
set_option maxRecDepth 100000 in
set_option maxHeartbeats 4000000 in
theorem freeAt_ok {B P : Nat} {L : List Sq} {room : Nat} {H : Nat → Prop} {w : World} (hs : St B w P L room H) (hT : TabZ w) (hZ : NearZ w) (n : Nat) (hn : n ≤ 37) (id : Int) (hl : Lv L n id) (hc : 0 < (at' L id).cnt) (s : Nat) (hs4 : s < 4) :
    Calls Tryz.prog 22 #[.pointer (some ⟨P, 0, none⟩), .int .i64 id, .int .i64 (s : Int)] w fun e w' => ∃ d, e = .returned (.tuple #[.int .i64 d, .nilIface]) ∧ Mn L n [id] s d ∧ Below w.heap.size w w' := by
  have HLV := Lib.hid (level_is hs id hl.1 _ hl.2)
  have hf0 : FwS L n id s n 0 [id] := ⟨⟨by simp, by simp, fun k hk => by rw [List.mem_singleton] at hk; subst hk; exact hl, fun k hk => by rw [List.mem_singleton] at hk; subst hk; exact hc⟩, Nat.le_refl _, Int.le_refl _, by omega, fun d hd => by rw [Int.zero_add]; exact hd⟩
  have HF0 := Lib.hid hf0
  have HS := Lib.hid (And.intro hs (And.intro hT (And.intro hZ (And.intro hn hs4))))
  have h40 := two40 hn
  have H40 := Lib.hid h40
  have s0 : (0 : Int) ≤ (s : Int) := by omega
  have s1 : (s : Int) < 4 := by omega
  have hs2 := side_tw hs4
  have hs3 : (s + 2) % 4 < 4 := Nat.mod_lt _ (by omega)
  have HS3 := Lib.hid hs3
  generalize hs' : (s + 2) % 4 = s' at *
  have s20 : (0 : Int) ≤ (s' : Int) := by omega
  have s21 : (s' : Int) < 4 := by omega
  have HSS := Lib.hid hs'
  clear hs hT hZ hl hc hf0 h40 hs3 hs' hs4
  go_enter Tryz.func22, Tryz.ntmps22
  go_wp2_with fail
  refine HLV.out.mono ?_
  rintro e w1 ⟨rfl, hb⟩
  have hb1 := hb.trans ((alX w1 (.cells #[.int .i64 id] 3)).mono hb.size)
  have hly : Lyi (w1.alloc (.cells #[.int .i64 id] 3)) (.slice (some ⟨w1.heap.size, 0, none⟩) 1 1) [id] := ⟨_, 1, rfl, fun i x hx => by
    cases i with
    | zero =>
      refine ⟨w1.heap.size, 0, rfl, ?_⟩
      have : id = x := by simpa using hx
      subst this
      exact cell_of_row _ _ 0 _ _ _ (heap_alloc_new w1 _)
    | succ i => simp at hx⟩
  have HB1 := Lib.hid (And.intro hb1 hly)
  clear hb hb1 hly HLV
  go_wp2_with fail
  generalize World.alloc _ _ = W1 at HB1 ⊢
  go_loopw [8, 10, 11] (fun lv f v wr => ∃ (m : Nat) (fi : Int) (S : List Int), lv = .int .i64 ((m : Int) + 3) ∧ f = .int .i64 fi ∧ Hid (FwS L n id s m fi S) ∧ Hid (Lyi wr v S) ∧ Hid (Below w.heap.size w wr)) (fun lv _ _ _ => (intOf lv).toNat)
  case atStart => exact ⟨n, 0, [id], rfl, rfl, HF0, Lib.hid HB1.out.2, Lib.hid HB1.out.1⟩
  case round =>
    clear HB1 HF0
    obtain ⟨m, fi, S, hlv, rfl, HF, HL, HB⟩ := hrel
    have HST := Lib.hid (HS.out.1.below HB.out (Nat.le_refl _))
    rcases m with _ | m
    · obtain rfl := hlv
      have HFT := Lib.hid (freeTiles_ok HST.out (HS.out.2.1.below HB.out) S HF.out.fr s HS.out.2.2.2.2 _ HL.out)
      go_wp2_with fail
      refine HFT.out.mono ?_
      rintro e w2 ⟨d, rfl, hd, hb⟩
      have hdb := mn_in HST.out.inv HF.out.fr hd
      have HX := Lib.hid (And.intro (HF.out.mn d hd) (HB.out.trans (hb.mono HB.out.size)))
      have hw := wrap_f HF.out.f0 hdb.1 (t := fi + ((2 ^ (0 + 3) : Nat) : Int)) (by omega) (by have := HF.out.fb; have := H40.out; omega)
      clear hd hb HFT hdb
      go_wp2
      go_ret2
      refine ⟨fi + d, ?_, HX.out⟩
      first | rfl | (show Ending.returned (.tuple #[.int .i64 (wrap64 (fi + d)), .nilIface]) = _; rw [hw])
    · have hlv2 : u8 = .int .i64 ((m : Int) + 4) := by rw [hlv]; congr 1
      subst hlv2
      clear hlv
      have m0 : (0 : Int) ≤ (m : Int) := by omega
      have hm36 : m ≤ 36 := by have := HF.out.le; have := HS.out.2.2.2.1; omega
      have HM := Lib.hid hm36
      have hlen : S.length ≤ 65536 := Nat.le_trans HF.out.fr.len HST.out.small
      have HLI := Lib.hid (living_ok HST.out m S HF.out.fr.lv hlen s HS.out.2.2.2.2 _ HL.out)
      have HLEN := Lib.hid hlen
      have hz := near_two (HS.out.2.2.1.below HB.out) HS.out.2.2.2.2
      obtain ⟨z0, z1⟩ := hz
      clear hlen
      go_wp2_with fail
      refine HLI.out.mono ?_
      rintro e w2 ⟨v', N, rfl, hly, hnx, hb⟩
      have HB2 := Lib.hid (HB.out.trans (hb.mono HB.out.size))
      have HL2 := Lib.hid (HL.out.below hb (Nat.le_refl _))
      have HN := Lib.hid (And.intro hly hnx)
      have hly2 := hly
      obtain ⟨a, cap, rfl, _⟩ := hly2
      clear hb hly hnx HLI z0 z1
      by_cases hN : N = []
      · subst hN
        have HST2 := Lib.hid (HS.out.1.below HB2.out (Nat.le_refl _))
        have HLI2 := Lib.hid (living_ok HST2.out m S HF.out.fr.lv HLEN.out s' HS3.out _ HL2.out)
        obtain ⟨z0, z1⟩ := near_two (HS.out.2.2.1.below HB2.out) HS3.out
        have hsh := shl_run (n := m) (by have := HM.out; omega)
        have hw := wrap_f HF.out.f0 (Int.natCast_nonneg (2 ^ (m + 3))) (t := fi + ((2 ^ (m + 1 + 3) : Nat) : Int)) (by rw [show 2 ^ (m + 1 + 3) = 2 ^ (m + 3) * 2 from Nat.pow_succ ..]; omega) (by have := HF.out.fb; have := H40.out; omega)
        have HW := Lib.hid (And.intro hsh hw)
        clear hsh hw
        go_upto_region 11 with (fail)
        rw [HW.out.1, HW.out.2]
        go_wp2_with fail
        refine HLI2.out.mono ?_
        rintro e w3 ⟨v3, N3, rfl, hly3, hnx3, hb3⟩
        have HX := Lib.hid (And.intro (HF.out.far HST.out.inv HS.out.2.2.2.2 HN.out.2 (by rw [HSS.out]; exact hnx3)) (And.intro hly3 (HB2.out.trans (hb3.mono HB2.out.size))))
        obtain ⟨a3, cap3, rfl, _⟩ := hly3
        clear hnx3 hb3 HLI2 z0 z1
        generalize fi + ((2 ^ (m + 3) : Nat) : Int) = fi2 at HX ⊢
        go_wp2
        go_roundw
        case rel => exact ⟨m, fi2, N3, by congr 1; omega, rfl, Lib.hid HX.out.1, Lib.hid HX.out.2.1, Lib.hid HX.out.2.2⟩
        case measure =>
          show ((m : Int) + 4 - 1).toNat < ((m : Int) + 4).toNat
          omega
      · have hN0 : ((N.length : Int) == 0) = false := by
          rw [beq_eq_false_iff_ne]
          intro e
          exact hN (List.eq_nil_of_length_eq_zero (by omega))
        have HX := Lib.hid (And.intro (HF.out.near HST.out.inv HS.out.2.2.2.2 HN.out.2 hN) (And.intro HN.out.1 HB2.out))
        generalize N.length = nl at *
        go_wp2
        go_roundw
        case rel => exact ⟨m, fi, N, by congr 1; omega, rfl, Lib.hid HX.out.1, Lib.hid HX.out.2.1, Lib.hid HX.out.2.2⟩
        case measure =>
          show ((m : Int) + 4 - 1).toNat < ((m : Int) + 4).toNat
          omega
end Go.Proofs.YtifkhmcdgmnipaaGreatDoor

/-
  RleNotes, the walk. No condition but the package-level variable errors.errorType, as the program's text lays it.
-/
import Derived.Test.YtangbokcdgganaaDoorSu
import Derived.Test.YtangbokcdgganaaDoorErr
import Derived.Laws.Concat
namespace Go.Proofs.YtangbokcdgganaaDoor
open Go.RowKit Ru Ce
open Go.Lib (indexByte hasPrefix)

namespace Rl
/-- what Parse answers, its list taken apart -/
def PCr (W : World) (b l k n : Nat) (ee : Value) (cs : List Cel) (e : Ending) (w' : World) : Prop :=
  Below W.heap.size W w' ∧ ∃ ao cap, e = .returned (.tuple #[.agg #[.int .u16 b, .int .u16 l], .slice ao n cap, .int .i64 k, ee]) ∧ Cls w' ao cs ∧ n ≤ cap
theorem pcr_of (X : ByteArray) (hx : X.size ≤ 9223372036854775807) (b l k n : Nat) (m : Int) (cs : List Cel) (h : parseL (bl X) = ⟨(b, l), cs, k, m⟩) (hn : cs.length = n) (W : World) :
    Calls Tryd.prog 5 #[.string X] W (PCr W b l k n (ev m) cs) := by
  have hp := parse_rle X W hx
  rw [h] at hp
  refine hp.mono ?_
  rintro e w' ⟨h1, v, rfl, hv⟩
  obtain ⟨ao, cap, rfl, hcl, hc, _⟩ := own_cls hv
  exact ⟨h1, ao, cap, by rw [← hn]; rfl, hcl, by rw [← hn]; exact hc⟩
theorem parse_k0 {s : List UInt8} (h : (parseL s).e = 0) : (parseL s).k = 0 := by
  obtain ⟨_, _, cs, _, h3⟩ := parse_ok h
  rw [h3]
theorem runs_len : ∀ (n : Nat) (l : List UInt8) (a x y : Nat) (cs out : List Cel), l.length ≤ n → cs.length ≤ 4096 → runsL l a x y cs = .ok out → out.length ≤ 4096
  | n, l, a, x, y, cs, out, h, hc, q => by
    rcases rnd_of l a x y cs with ⟨h1, hR⟩ | ⟨h1, h2, hR⟩ | ⟨h1, h2, h3, hR⟩ | ⟨h1, h2, h3, h4, hR⟩ | ⟨h1, h2, h3, x', y', cs', h4, hR⟩
    · rw [hR] at q; injection q with q; rw [← q]; exact hc
    · rw [hR] at q; cases q
    · rw [hR] at q; cases q
    · rw [hR] at q; cases q
    · rw [hR] at q
      have hlt := runL_lt h2
      have hle := tl_len l
      have hcs : cs'.length ≤ 4096 := by
        unfold layP at h4
        split at h4
        · split at h4
          · simp only [Option.some.injEq, Prod.mk.injEq] at h4; rw [← h4.2.2]; exact hc
          · cases h4
        · split at h4
          · split at h4
            · split at h4
              · simp only [Option.some.injEq, Prod.mk.injEq] at h4; rw [← h4.2.2, List.length_append, rowC_len]; assumption
              · cases h4
            · cases h4
          · split at h4
            · simp only [Option.some.injEq, Prod.mk.injEq] at h4; rw [← h4.2.2]; exact hc
            · cases h4
      match n, h with
      | 0, h => omega
      | n + 1, h => exact runs_len n _ _ x' y' cs' out (by rw [List.length_drop]; omega) hcs q
theorem parse_len (s : List UInt8) : (parseL s).cs.length ≤ 4096 ∧ (parseL s).k ≤ s.length := by
  have hb := beh_le _ s (Nat.le_refl _)
  unfold parseL
  by_cases h0 : 65536 < s.length
  · rw [if_pos h0]; simp
  · rw [if_neg h0]
    by_cases h1 : (headL (lineL (s.drop (behL s)))).2 = 0
    · rw [if_pos h1]
      have hll : (lineL (s.drop (behL s))).length ≤ (s.drop (behL s)).length := cut_len _ _
      rw [List.length_drop] at hll
      match hr : runsL (s.drop (behL s + (lineL (s.drop (behL s))).length)) (behL s + (lineL (s.drop (behL s))).length) 0 0 [] with
      | .ok cs => exact ⟨runs_len _ _ _ _ _ _ _ (Nat.le_refl _) (by simp) hr, Nat.zero_le _⟩
      | .err k e =>
        have := (runs_err _ _ _ _ _ _ _ _ (Nat.le_refl _) hr).2.2
        rw [List.length_drop] at this
        exact ⟨by simp [bodyL], by show k ≤ s.length; omega⟩
    · rw [if_neg h1]; exact ⟨by simp, hb⟩
theorem txt_size (note s : ByteArray) : (⟨#[35]⟩ ++ note ++ ⟨#[10]⟩ ++ s : ByteArray).size = note.size + 2 + s.size := by
  simp only [ByteArray.size_append]
  show 1 + note.size + 1 + s.size = _
  omega
theorem txt_bl (note s : ByteArray) : bl (⟨#[35]⟩ ++ note ++ ⟨#[10]⟩ ++ s) = 35 :: (bl note ++ 10 :: bl s) := by
  unfold bl
  simp only [ByteArray.data_append, Array.toList_append]
  simp
theorem bl_app (a b : ByteArray) : bl (a ++ b) = bl a ++ bl b := by
  unfold bl
  simp only [ByteArray.data_append, Array.toList_append]
/-- what stands, from step to step: the rule in its block, the lists -/
structure NS (w : World) (g b l : Nat) (cs : List Cel) (L : List (Option Addr)) (W : World) : Prop where
  bl : Below w.heap.size w W
  n8 : W.heap[g]? = some (.cells #[.int .u16 b, .int .u16 l] 25 (0, 0))
  c : ∀ a ∈ L, Cls W a cs
theorem NS.next {w : World} {g b l : Nat} {cs : List Cel} {L : List (Option Addr)} {W W' : World} (h : NS w g b l cs L W) (hb : Below W.heap.size W W') : NS w g b l cs L W' :=
  ⟨h.bl.trans (hb.mono h.bl.size), (hb.block _ (lt_of_block h.n8)).trans h.n8, fun a ha => (h.c a ha).below hb (Nat.le_refl _)⟩
theorem NS.add {w : World} {g b l : Nat} {cs : List Cel} {L : List (Option Addr)} {W : World} (h : NS w g b l cs L W) {a : Option Addr} (ha : Cls W a cs) : NS w g b l cs (a :: L) W :=
  ⟨h.bl, h.n8, fun x hx => by
    rcases List.mem_cons.1 hx with rfl | hx
    · exact ha
    · exact h.c x hx⟩
theorem NS.start {w w1 : World} {b l : Nat} {cs : List Cel} {a : Option Addr} (hb : Below w.heap.size w w1) (ha : Cls w1 a cs) : NS w w1.heap.size b l cs [a] (w1.alloc (.cells #[.int .u16 b, .int .u16 l] 25)) :=
  ⟨hb.alloc hb.size _, heap_alloc_new w1 _, fun x hx => by
    rw [List.mem_singleton] at hx; subst hx
    exact ha.below (alX w1 _) (Nat.le_refl _)⟩
set_option maxRecDepth 100000 in
set_option maxHeartbeats 4000000 in
theorem notes_walk (s note beh : ByteArray) (w : World) (hl : Laid w) : Calls Tryd.prog 3 #[.string s, .string note, .string beh] w fun e w' => e = .returned (.bool true) ∧ Below w.heap.size w w' := by
  have HL := Lib.hid hl
  have HS := Lib.hid (fun W => sure_any W)
  clear hl
  by_cases h1 : 2000 < s.size
  · have h1' : (2000 : Int) < (s.size : Int) := by omega
    go_enter Tryd.func3, Tryd.ntmps3
    go_wp2_with (go_at_call 4; refine (HS.out _).mono ?_; rintro e w1 ⟨rfl, hb1⟩)
    go_ret
    exact ⟨rfl, hb1⟩
  · have h1' : (s.size : Int) ≤ 2000 := by omega
    by_cases h2 : 200 < note.size
    · have h2' : (200 : Int) < (note.size : Int) := by omega
      go_enter Tryd.func3, Tryd.ntmps3
      go_wp2_with (go_at_call 4; refine (HS.out _).mono ?_; rintro e w1 ⟨rfl, hb1⟩)
      go_ret
      exact ⟨rfl, hb1⟩
    · have h2' : (note.size : Int) ≤ 200 := by omega
      by_cases h3 : 200 < beh.size
      · have h3' : (200 : Int) < (beh.size : Int) := by omega
        go_enter Tryd.func3, Tryd.ntmps3
        go_wp2_with (go_at_call 4; refine (HS.out _).mono ?_; rintro e w1 ⟨rfl, hb1⟩)
        go_ret
        exact ⟨rfl, hb1⟩
      · have h3' : (beh.size : Int) ≤ 200 := by omega
        clear h1 h2 h3
        go_enter Tryd.func3, Tryd.ntmps3
        go_wp2
        go_loopw [7] (fun i wr => ∃ k : Nat, k ≤ note.size ∧ i = .int .i64 k ∧ wr = w ∧ Hid (∀ j (h : j < note.size), j < k → ¬ note[j] = 10)) (fun i _ => note.size - (RowKit.intOf i).toNat)
        case atStart => exact ⟨0, by omega, rfl, rfl, Lib.hid (fun j h hj => by omega)⟩
        case round =>
          obtain ⟨k, hk, rfl, hw, HK⟩ := hrel
          have hw' := hw.symm
          subst hw'
          clear hw
          have k0 : (0 : Int) ≤ (k : Int) := by omega
          by_cases hlt : k < note.size
          · have hlt' : (k : Int) < (note.size : Int) := by omega
            by_cases hc : note[k] = 10
            · have hc' : ((note[k]).toNat : Int) = 10 := by rw [hc]; rfl
              go_wp2_with (go_at_call 4; refine (HS.out _).mono ?_; rintro e w1 ⟨rfl, hb1⟩)
              go_ret
              exact ⟨rfl, hb1⟩
            · have hc' : ¬ ((note[k]).toNat : Int) = 10 := fun e => hc (UInt8.toNat_inj.1 (by rw [show (10 : UInt8).toNat = 10 from rfl]; omega))
              have hcb : (((note[k]).toNat : Int) == 10) = false := by simpa using hc'
              have HC := Lib.hid hc
              clear hc
              go_wp2
              go_roundw
              case rel => exact ⟨k + 1, by omega, by go_num, trivial, Lib.hid (fun j h hj => by
                by_cases e : j = k
                · subst e; exact HC.out
                · exact HK.out j h (by omega))⟩
              case measure => simp [RowKit.intOf]; omega
          · obtain rfl : k = note.size := by omega
            have hnb : (10 : UInt8) ∉ bl note := fun hm => by
              obtain ⟨j, hj, e⟩ := List.mem_iff_getElem.1 hm
              have hj' : j < note.size := by rw [← bl_size]; exact hj
              exact HK.out j hj' hj' e
            obtain ⟨⟨b, l⟩, cs, p, m, hP⟩ : ∃ r cs p m, parseL (bl s) = ⟨r, cs, p, m⟩ := ⟨_, _, _, _, rfl⟩
            have hlen := parse_len (bl s)
            have hT := parse_note (bl note) (bl s) hnb (by rw [bl_size, bl_size]; omega)
            rw [hP] at hT hlen
            rw [← txt_bl, bl_size] at hT
            rw [bl_size] at hlen
            obtain ⟨n, hn⟩ : ∃ n, cs.length = n := ⟨_, rfl⟩
            have hsz := txt_size note s
            have e1 : ∀ w, (Op.stringOp .add (⟨#[35]⟩ : ByteArray) note).run Tryd.prog w = .ok (.string (⟨#[35]⟩ ++ note)) w := fun w => run_string_add_sum w _ _ (by rw [show (⟨#[35]⟩ : ByteArray).size = 1 from rfl]; omega)
            have e2 : ∀ w, (Op.stringOp .add (⟨#[35]⟩ ++ note : ByteArray) ⟨#[10]⟩).run Tryd.prog w = .ok (.string (⟨#[35]⟩ ++ note ++ ⟨#[10]⟩)) w := fun w => run_string_add_sum w _ _ (by rw [ByteArray.size_append, show (⟨#[35]⟩ : ByteArray).size = 1 from rfl, show (⟨#[10]⟩ : ByteArray).size = 1 from rfl]; omega)
            have e3 : ∀ w, (Op.stringOp .add (⟨#[35]⟩ ++ note ++ ⟨#[10]⟩ : ByteArray) s).run Tryd.prog w = .ok (.string (⟨#[35]⟩ ++ note ++ ⟨#[10]⟩ ++ s)) w := fun w => run_string_add_sum w _ _ (by rw [ByteArray.size_append, ByteArray.size_append, show (⟨#[35]⟩ : ByteArray).size = 1 from rfl, show (⟨#[10]⟩ : ByteArray).size = 1 from rfl]; omega)
            have hn4 : n ≤ 4096 := by rw [← hn]; exact hlen.1
            have hp4 : (p : Int) ≤ 2000 := by have : p ≤ s.size := hlen.2; omega
            have p0 : (0 : Int) ≤ (p : Int) := by omega
            have n0 : (0 : Int) ≤ (n : Int) := by omega
            have hnI : (n : Int) ≤ 4096 := by omega
            have hns0 : (0 : Int) ≤ (note.size : Int) := by omega
            generalize hTT : (⟨#[35]⟩ ++ note ++ ⟨#[10]⟩ ++ s : ByteArray) = T at *
            by_cases hm : m = 0
            · subst hm
              have hev : ev 0 = .nilIface := rfl
              have hp00 : p = 0 := by have := parse_k0 (s := bl s) (by rw [hP]); rw [hP] at this; exact this
              subst hp00
              have hU := parse_app (bl s) (bl beh) (by rw [bl_size, bl_size]; omega) (by rw [hP])
              rw [← bl_app, hP] at hU
              have e4 : ∀ w, (Op.stringOp .add s beh).run Tryd.prog w = .ok (.string (s ++ beh)) w := fun w => run_string_add_sum w _ _ (by omega)
              have hA := pcr_of s (by omega) b l 0 n 0 cs hP hn
              have hB := pcr_of T (by omega) b l 0 n 0 cs (by rw [hT]; simp) hn
              have hC := pcr_of (s ++ beh) (by rw [ByteArray.size_append]; omega) b l 0 n 0 cs hU hn
              rw [hev] at hA hB hC
              have HA := Lib.hid hA
              have HB := Lib.hid hB
              have HC := Lib.hid hC
              have HLN := Lib.hid hn
              clear hA hB hC hev hT hP hlen hsz hTT hnb HK hlt hn hU hp4 p0
              generalize s ++ beh = U at *
              go_upto_region 9 with (go_at_call 5; refine (HA.out _).mono ?_; rintro ee w1 ⟨hb1, ao1, cap1, rfl, hc1, hn1⟩; have HN := Lib.hid (NS.start (b := b) (l := l) hb1 hc1); clear hb1 hc1 hn1)
              go_upto_region 14 with (first
                | (go_at_call 5; refine (HB.out _).mono ?_; rintro ee w2 ⟨hb2, ao2, cap2, rfl, hc2, hn2⟩; have HN := Lib.hid (((HN.out.next hb2).add hc2).next (alX w2 (.cells #[.int .u16 b, .int .u16 l] 25))); have hq3 := heap_alloc_new w2 (.cells #[.int .u16 b, .int .u16 l] 25); have c80 := cell_of_row _ _ 0 _ _ _ HN.out.n8; have c81 := cell_of_row _ _ 1 _ _ _ HN.out.n8; have c90 := cell_of_row _ _ 0 _ _ _ hq3; have c91 := cell_of_row _ _ 1 _ _ _ hq3; clear hb2 hc2 hn2 hq3)
                | (go_at_call 6; refine (num_nil _).mono ?_; rintro ee w3 ⟨rfl, hb3⟩; have HN := Lib.hid (HN.out.next hb3); clear hb3))
              go_upto_region 17 with (go_at_call 5; refine (HC.out _).mono ?_; rintro ee w5 ⟨hb5, ao3, cap3, rfl, hc5, hn5⟩; have HN := Lib.hid (((HN.out.next hb5).add hc5).next (alX w5 (.cells #[.int .u16 b, .int .u16 l] 25))); have hq3 := heap_alloc_new w5 (.cells #[.int .u16 b, .int .u16 l] 25); have c80 := cell_of_row _ _ 0 _ _ _ HN.out.n8; have c81 := cell_of_row _ _ 1 _ _ _ HN.out.n8; have c90 := cell_of_row _ _ 0 _ _ _ hq3; have c91 := cell_of_row _ _ 1 _ _ _ hq3; clear hb5 hc5 hn5 hq3)
              clear c80 c81 c90 c91 e1 e2 e3 e4
              go_wp2
              go_loopw [20] (fun i wr => ∃ k : Nat, k ≤ n ∧ i = .int .i64 k ∧ Hid (NS w w1.heap.size b l cs [ao3, ao2, ao1] wr)) (fun i _ => n - (RowKit.intOf i).toNat)
              case atStart => exact ⟨0, by omega, rfl, HN⟩
              case round =>
                obtain ⟨k, hk, rfl, HN⟩ := hrel
                have k0 : (0 : Int) ≤ (k : Int) := by omega
                by_cases hlt : k < n
                · have hlt' : (k : Int) < (n : Int) := by omega
                  have hlc : k < cs.length := by have := HLN.out; omega
                  obtain ⟨b1, o1, rfl, x1, y1⟩ := HN.out.c ao1 (by simp) k hlc
                  obtain ⟨b2, o2, rfl, x2, y2⟩ := HN.out.c ao2 (by simp) k hlc
                  obtain ⟨b3, o3, rfl, x3, y3⟩ := HN.out.c ao3 (by simp) k hlc
                  generalize cs[k].1 = cx at *
                  generalize cs[k].2 = cy at *
                  have HN2 := Lib.hid (HN.out.next (bdr _))
                  clear hlc
                  go_upto_region 20 with (fail)
                  go_region
                  go_wp2
                  go_roundw
                  case rel => exact ⟨k + 1, by omega, by go_num, HN2⟩
                  case measure => simp [RowKit.intOf]; omega
                · obtain rfl : k = n := by omega
                  go_wp2_with (go_at_call 4; refine (HS.out _).mono ?_; rintro ee w6 ⟨rfl, hb6⟩; have HN := Lib.hid (HN.out.next hb6); clear hb6)
                  go_ret
                  exact ⟨rfl, HN.out.bl⟩
            · have hev : ev m = .iface 35 (.int .i64 m) := if_neg hm
              have hA := pcr_of s (by omega) b l p n m cs hP hn
              have hB := pcr_of T (by omega) b l (p + (note.size + 2)) n m cs (by rw [hT]; simp [hm]) hn
              rw [hev] at hA hB
              have HA := Lib.hid hA
              have HB := Lib.hid hB
              push_cast at HB
              clear hA hB hev hT hP hlen hsz hTT hnb HK hlt hn hm
              go_upto_region 9 with (go_at_call 5; refine (HA.out _).mono ?_; rintro ee w1 ⟨hb1, ao1, cap1, rfl, hc1, hn1⟩; have HBr := Lib.hid (hb1.alloc hb1.size (.cells #[.int .u16 b, .int .u16 l] 25)); have HN1 := Lib.hid (heap_alloc_new w1 (.cells #[.int .u16 b, .int .u16 l] 25)); clear hb1 hc1 hn1)
              go_wp2_with (first
                | (go_at_call 5; refine (HB.out _).mono ?_; rintro ee w2 ⟨hb2, ao2, cap2, rfl, hc2, hn2⟩; have hb2' := HBr.out.trans (hb2.mono HBr.out.size); have HBr := Lib.hid (hb2'.alloc hb2'.size (.cells #[.int .u16 b, .int .u16 l] 25)); have hq1 := (hb2.block _ (lt_of_block HN1.out)).trans HN1.out; have hq2 := (heap_alloc_old w2 (.cells #[.int .u16 b, .int .u16 l] 25) (lt_of_block hq1)).trans hq1; have hq3 := heap_alloc_new w2 (.cells #[.int .u16 b, .int .u16 l] 25); have c80 := cell_of_row _ _ 0 _ _ _ hq2; have c81 := cell_of_row _ _ 1 _ _ _ hq2; have c90 := cell_of_row _ _ 0 _ _ _ hq3; have c91 := cell_of_row _ _ 1 _ _ _ hq3; clear hb2 hb2' hc2 hn2 hq1 hq2 hq3)
                | (go_at_call 6; refine (num_err m _ (HL.out.below HBr.out)).mono ?_; rintro ee w3 ⟨rfl, hb3⟩; have HBr := Lib.hid (HBr.out.trans (hb3.mono HBr.out.size)); clear hb3)
                | (go_at_call 4; refine (HS.out _).mono ?_; rintro ee w4 ⟨rfl, hb4⟩; have HBr := Lib.hid (HBr.out.trans (hb4.mono HBr.out.size)); clear hb4))
              go_ret
              exact ⟨rfl, HBr.out⟩
end Rl
end Go.Proofs.YtangbokcdgganaaDoor

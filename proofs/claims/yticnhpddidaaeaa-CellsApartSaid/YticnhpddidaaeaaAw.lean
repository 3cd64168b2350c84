/-
  THE WALK of CellsApart. Condition: what came in could be read.
-/
import Derived.Test.YticnhpddidaaeaaTill
import Derived.BigRegion
import Derived.Test.YticnhpddidaaeaaAq
import Derived.Test.YticnhpddidaaeaaCin
import Derived.Test.YticnhpddidaaeaaRin
import Derived.Test.YticnhpddidaaeaaAx
import Derived.Deep.DeepCutAuto
import Derived.BigQuiet
namespace Go.Proofs.Yticnhpddidaaeaa
open Go.RowKit Ru Ce

/-- a cell as the first heap has it, and as the second -/
def one8 (c : Cel) : Cel := (c.1.tmod 8, c.2.tmod 8)
def two8 (c : Cel) : Cel := (100 + c.1.tmod 8, c.2.tmod 8)
theorem tm8 (c : Int) : -8 < c.tmod 8 ∧ c.tmod 8 < 8 := by
  constructor
  · have := Int.lt_tmod_of_pos c (b := 8) (by decide); simpa using this
  · exact Int.tmod_lt_of_pos c (by decide)
theorem one_in (L : List Cel) : Inb 0 0 ((7 : Nat) : Int) (L.map one8) := fun s hs => by
  obtain ⟨c, _, rfl⟩ := List.mem_map.1 hs
  have := tm8 c.1
  have := tm8 c.2
  simp only [one8]
  omega
theorem two_in (L : List Cel) : Inb 100 0 ((7 : Nat) : Int) (L.map two8) := fun s hs => by
  obtain ⟨c, _, rfl⟩ := List.mem_map.1 hs
  have := tm8 c.1
  have := tm8 c.2
  simp only [two8]
  omega
theorem ev_two {P : Program} {o : Oper} {v : Value} {w : World} {a : Act} (n m : Nat) {V U : Value} (h : a.eval (.tmp n) = V) (h' : a.eval (.tmp m) = U)
    (k : ∀ ev : Operand → Value, ev (.tmp n) = V → ev (.tmp m) = U → (∀ c, ev (.const c) = c) → (execOp ev o).run P w = .ok (.value v) w) : (execOp a.eval o).run P w = .ok (.value v) w := k a.eval h h' (fun _ => rfl)
theorem ev_move {P : Program} {ρ : Operand → Value} {o : Oper} {v : Value} (x : Operand) (h : o.op = .move x) (hv : ρ x = v) (w : World) : (execOp ρ o).run P w = .ok (.value v) w := by
  unfold execOp; rw [h, ← hv]; rfl
theorem take_map_succ (f : Cel → Cel) (L : List Cel) (k : Nat) (h : k < L.length) : (L.take (k + 1)).map f = (L.take k).map f ++ [f L[k]] := by
  rw [List.take_succ_eq_append_getElem h, List.map_append]
  rfl
theorem chk_of {L : List Cel} (hl : L.length ≤ 4096) (h : fine (srt L) = true) : chkN L = 0 :=
  (all_ok hl (fun x hx => ((fine_iff _).1 h).2 x ((srt_mem L x).2 hx))).2
theorem bool_two {p q : Bool} (h : p = !q) : (p = true ∧ q = false) ∨ (p = false ∧ q = true) := by
  subst h
  cases q
  · exact .inl ⟨rfl, rfl⟩
  · exact .inr ⟨rfl, rfl⟩
set_option maxRecDepth 100000 in
set_option maxHeartbeats 4000000 in
theorem apart_walk (b l : Nat) (a1 : Option Addr) (n1 c1 : Nat) (A : List Cel) (a2 : Option Addr) (n2 c2 : Nat) (B : List Cel) (W : World) (_w0 : b < 65536 ∧ l < 65536) (w1 : IsC W a1 n1 A) (w2 : IsC W a2 n2 B) :
    Calls Try.prog 3 #[.agg #[.int .u16 b, .int .u16 l], .slice a1 n1 c1, .slice a2 n2 c2] W (Yes W) := by
  have HM := Lib.hid (fun w => may_ref b l w)
  have HL := Lib.hid (fun w => sure_any w)
  have HA := Lib.hid w1
  have HB := Lib.hid w2
  have hx1 := w1.max
  have hx2 := w2.max
  have HBX := Lib.hid (And.intro (heap_alloc_new W (.cells #[.int .u16 b, .int .u16 l] 24)) (alX W (.cells #[.int .u16 b, .int .u16 l] 24)))
  clear w1 w2
  unfold Rv at HM
  by_cases h1 : 20 < n1
  · exact apart_early b l a1 n1 c1 A a2 n2 c2 B W _w0 HA.out HB.out (.inl h1)
  · by_cases h2 : 20 < n2
    · exact apart_early b l a1 n1 c1 A a2 n2 c2 B W _w0 HA.out HB.out (.inr (.inl h2))
    · cases hmay : mayR b l
      · exact apart_early b l a1 n1 c1 A a2 n2 c2 B W _w0 HA.out HB.out (.inr (.inr hmay))
      · rw [hmay] at HM
        have h1' : ¬ (20 : Int) < (n1 : Int) := by omega
        have h2' : ¬ (20 : Int) < (n2 : Int) := by omega
        obtain ⟨N, hN⟩ : ∃ N : Nat, N = (n1 + 3 * n2) % 6 := ⟨_, rfl⟩
        have HN := Lib.hid hN
        have hN5 : N ≤ 5 := by omega
        clear hN
        go_enter Try.func3, Try.ntmps3
        go_wp2_with fail
        refine (HM.out _).mono ?_
        rintro e w1 ⟨rfl, hb1⟩
        have HB1 := Lib.hid (HBX.out.2.trans (hb1.mono (by simp)))
        have HR1 := Lib.hid ((hb1.block _ (lt_of_block HBX.out.1)).trans HBX.out.1)
        clear hb1
        go_upto_region 4 with (fail)
        rw [show ((n1 : Int) + 3 * (n2 : Int)) % 6 = (N : Int) by have := HN.out; omega]
        have HT0 := Lib.hid (show T3 w1 w1 (.slice none 0 0) (.slice none 0 0) (.slice none 0 0) [] [] [] from ⟨World.ownsRow_nil _ _ _ _, World.ownsRow_nil _ _ _ _, World.ownsRow_nil _ _ _ _, fun g q => (by simp [Value.ownBlock] at q), fun g q => (by simp [Value.ownBlock] at q), fun g q => (by simp [Value.ownBlock] at q), Below.refl _ _⟩)
        have HAC := Lib.hid (show ∀ V, Below w1.heap.size w1 V → Cls V a1 A from fun V hV => (HA.out.cls.below HB1.out (Nat.le_refl _)).below hV (Nat.le_refl _))
        have HBC := Lib.hid (show ∀ V, Below w1.heap.size w1 V → Cls V a2 B from fun V hV => (HB.out.cls.below HB1.out (Nat.le_refl _)).below hV (Nat.le_refl _))
        go_wp2_with fail
        go_loopw [8, 10, 11] (fun u z i wr => ∃ k : Nat, k ≤ n1 ∧ i = .int .i64 k ∧ Hid (T3 w1 wr u (.slice none 0 0) z ((A.take k).map one8) [] ((A.take k).map one8))) (fun _ _ i _ => n1 - (intOf i).toNat)
        case atStart => exact ⟨0, by omega, rfl, HT0⟩
        case round =>
          clear HT0
          obtain ⟨k, hk, rfl, HK⟩ := hrel
          have k0 : (0 : Int) ≤ (k : Int) := by omega
          by_cases hlt : k < n1
          · have k1 : (k : Int) < (n1 : Int) := by omega
            have HLT := Lib.hid (show k < A.length by rw [HA.out.len]; exact hlt)
            obtain ⟨g, off, rfl, d0, d1⟩ := HAC.out wr HK.out.bel k HLT.out
            have HF := Lib.hid (take_map_succ one8 A k HLT.out)
            generalize A[k]'HLT.out = q at d0 d1 HF
            have t1 := tm8 q.1
            have t2 := tm8 q.2
            have e1 : IntKind.i64.wrap (q.1.tmod 8) = q.1.tmod 8 := IntWalk.i64_in _ (by omega)
            have e2 : IntKind.i64.wrap (q.2.tmod 8) = q.2.tmod 8 := IntWalk.i64_in _ (by omega)
            clear t1 t2
            go_upto_region 8 with (fail)
            have KA := Lib.hid (And.intro d0 d1)
            have KD := Lib.hid (show wr.drew.cell? ⟨g, off + k * 2, none⟩ = some (.int .i64 q.1) ∧ wr.drew.cell? ⟨g, off + k * 2 + 1, none⟩ = some (.int .i64 q.2) from ⟨d0, d1⟩)
            have m1 := World.new_ne wr _ d0
            have m2 := World.new_ne wr _ d1
            go_region_held3 (fun w' => w'.cell? ⟨g, off + k * 2, none⟩ = some (.int .i64 q.1) ∧ w'.cell? ⟨g, off + k * 2 + 1, none⟩ = some (.int .i64 q.2)) (first | with_reducible exact KA.out | with_reducible exact KD.out | go_keep) (fail)
            obtain ⟨x, hx⟩ : ∃ x, x = one8 q := ⟨_, rfl⟩
            rw [show q.1.tmod 8 = x.1 by rw [hx]; rfl, show q.2.tmod 8 = x.2 by rw [hx]; rfl]
            rw [← hx] at HF
            have HT := Lib.hid (HK.out.on ((alX wr (.cells #[.int .i64 x.1, .int .i64 x.2] 31)).drew))
            have hbx := heap_alloc_new wr (.cells #[.int .i64 x.1, .int .i64 x.2] 31)
            have HZ := Lib.hid (show Bz w1 (wr.alloc (.cells #[.int .i64 x.1, .int .i64 x.2] 31)).drew wr.heap.size u8 (.slice none 0 0) u10 x from ⟨by rw [show (wr.alloc (.cells #[.int .i64 x.1, .int .i64 x.2] 31)).drew.cell? _ = (wr.alloc (.cells #[.int .i64 x.1, .int .i64 x.2] 31)).cell? _ from rfl, cell_of_row _ _ 0 _ _ _ hbx]; rfl, by rw [show (wr.alloc (.cells #[.int .i64 x.1, .int .i64 x.2] 31)).drew.cell? _ = (wr.alloc (.cells #[.int .i64 x.1, .int .i64 x.2] 31)).cell? _ from rfl, cell_of_row _ _ 1 _ _ _ hbx]; rfl, fun e => by have := (HK.out.ox.lt _ e).2; omega, fun e => by simp [Value.ownBlock] at e, fun e => by have := (HK.out.oz.lt _ e).2; omega⟩)
            clear hbx hx m1 m2 KA KD e1 e2 d0 d1 HK
            obtain ⟨gb, hgb⟩ : ∃ g, g = wr.heap.size := ⟨_, rfl⟩
            rw [← hgb] at HZ ⊢
            generalize (wr.alloc (.cells #[.int .i64 x.1, .int .i64 x.2] 31)).drew = V at HT HZ ⊢
            clear hgb
            have KA := Lib.hid (And.intro HZ.out.c0 HZ.out.c1)
            have KD := Lib.hid (show V.drew.cell? ⟨gb, 0, none⟩ = some (.int .i64 x.1) ∧ V.drew.cell? ⟨gb, 1, none⟩ = some (.int .i64 x.2) from KA.out)
            have q2 : Below V.heap.size V ((V.alloc (.cells #[.int .i64 x.1, .int .i64 x.2] 31)).drew) := (alX _ _).drew
            have q3 : Below V.heap.size V (V.alloc (.cells #[.int .i64 x.1, .int .i64 x.2] 31)) := alX _ _
            have q4 : Below V.heap.size V (((V.alloc (.cells #[.int .i64 x.1, .int .i64 x.2] 31)).alloc (.cells #[.int .i64 x.1, .int .i64 x.2] 31)).drew) := ((alX _ _).alloc (by simp) _).drew
            have q5 : Below V.heap.size V ((V.alloc (.cells #[.int .i64 x.1, .int .i64 x.2] 31)).alloc (.cells #[.int .i64 x.1, .int .i64 x.2] 31)) := (alX _ _).alloc (by simp) _
            have KG := Lib.hid (And.intro (HZ.out.on q2).c0 (HZ.out.on q2).c1)
            have KH := Lib.hid (And.intro (HZ.out.on q3).c0 (HZ.out.on q3).c1)
            have KJ := Lib.hid (And.intro (HZ.out.on q4).c0 (HZ.out.on q4).c1)
            have KL := Lib.hid (And.intro (HZ.out.on q5).c0 (HZ.out.on q5).c1)
            have G1 := Lib.hid (show (V.alloc (.cells #[.int .i64 x.1, .int .i64 x.2] 31)).drew.heap[V.heap.size]? = some (.cells #[.int .i64 x.1, .int .i64 x.2] 31 (0, 0)) from heap_alloc_new V _)
            have G2 := Lib.hid (show ((V.alloc (.cells #[.int .i64 x.1, .int .i64 x.2] 31)).alloc (.cells #[.int .i64 x.1, .int .i64 x.2] 31)).drew.heap[V.heap.size]? = some (.cells #[.int .i64 x.1, .int .i64 x.2] 31 (0, 0)) from (Below.heap_alloc (V.alloc (.cells #[.int .i64 x.1, .int .i64 x.2] 31)) _ _ (lt_of_block (heap_alloc_new V _))).trans (heap_alloc_new V _))
            have G3 := Lib.hid (show ((V.alloc (.cells #[.int .i64 x.1, .int .i64 x.2] 31)).alloc (.cells #[.int .i64 x.1, .int .i64 x.2] 31)).drew.heap[V.heap.size + 1]? = some (.cells #[.int .i64 x.1, .int .i64 x.2] 31 (0, 0)) by
              have := heap_alloc_new (V.alloc (.cells #[.int .i64 x.1, .int .i64 x.2] 31)) (.cells #[.int .i64 x.1, .int .i64 x.2] 31)
              rw [World.size_alloc] at this
              exact this)
            have HUO := Lib.hid (show ∀ j, u8.ownBlock = some j → j < V.heap.size from fun j hj => (HT.out.ox.lt j hj).2)
            have HKL := Lib.hid (show ((A.take k).map one8).length ≤ 1000000 by rw [List.length_map, List.length_take]; omega)
            go_upto_region 9 with (fail)
            go_region_held3 (fun w' => w'.cell? ⟨gb, 0, none⟩ = some (.int .i64 x.1) ∧ w'.cell? ⟨gb, 1, none⟩ = some (.int .i64 x.2)) (first | with_reducible exact KA.out | with_reducible exact KD.out | with_reducible exact KG.out | with_reducible exact KH.out | with_reducible exact KJ.out | with_reducible exact KL.out | with_reducible exact KE.out | with_reducible exact KF.out | with_reducible exact KI.out | go_keep)
              (first
                | (refine step_appA rfl (.tmp 62) (.tmp 64) rfl w1.heap.size _ u8 _ rfl (own_keep HT.out.ox (by assumption) (Nat.le_refl _)) _ x rfl (by first | exact cells_at G1.out | exact cells_at G2.out | exact cells_at G3.out) HKL.out (Nat.le_trans HT.out.bel.size (Below.size (by assumption))) ?_; intro vA wA hoA hgA hatA; have HTA := Lib.hid ((HT.out.on (by assumption)).app hoA hgA hatA); have HZA := Lib.hid ((HZ.out.on (by assumption)).app hgA hatA); have KE := Lib.hid (And.intro HZA.out.c0 HZA.out.c1); have KF := Lib.hid (And.intro (HZA.out.on (alX wA (.cells #[.int .i64 x.1, .int .i64 x.2] 31))).c0 (HZA.out.on (alX wA (.cells #[.int .i64 x.1, .int .i64 x.2] 31))).c1); have r1 := Below.refl wA.heap.size wA; have r2 := alX wA (.cells #[.int .i64 x.1, .int .i64 x.2] 31); have G4 := Lib.hid (show wA.heap[V.heap.size]? = some (.cells #[.int .i64 x.1, .int .i64 x.2] 31 (0, 0)) ∧ True from ⟨by first | exact blk_app G1.out hgA HUO.out | exact blk_app G2.out hgA HUO.out, trivial⟩); have G5 := Lib.hid (show wA.heap[V.heap.size + 1]? = some (.cells #[.int .i64 x.1, .int .i64 x.2] 31 (0, 0)) ∨ True from by first | exact .inl (blk_app G3.out hgA (fun j hj => Nat.lt_succ_of_lt (HUO.out j hj))) | exact .inr trivial); have G6 := Lib.hid (heap_alloc_new wA (.cells #[.int .i64 x.1, .int .i64 x.2] 31)))
                | (refine step_appA rfl (.tmp 66) (.tmp 68) rfl w1.heap.size _ u10 _ rfl (own_keep HTA.out.oz (by assumption) (Nat.le_refl _)) _ x rfl (by first | exact cells_at G6.out | exact cells_at G4.out.1 | exact cells_at (blk_app G3.out hgA (fun j hj => Nat.lt_succ_of_lt (HUO.out j hj)))) HKL.out (by have := HTA.out.bel.size; simp; omega) ?_; intro vB wB hoB hgB hatB; have HTB := Lib.hid ((HTA.out.on (by assumption)).turn.turn.app hoB hgB hatB); have KI := Lib.hid (And.intro ((HZA.out.on (by assumption)).turn.turn.app hgB hatB).c0 ((HZA.out.on (by assumption)).turn.turn.app hgB hatB).c1)))
            all_goals
              have HTC := Lib.hid (show T3 w1 wB vA (.slice none 0 0) vB ((A.take (k + 1)).map one8) [] ((A.take (k + 1)).map one8) from by rw [HF.out]; exact HTB.out.turn)
              clear HTA HTB HZA KE KF KI G4 G5 G6 hoA hgA hatA hoB hgB hatB r1 r2 q2 q3 q4 q5
              go_wp2
              go_roundw
              case rel => exact ⟨k + 1, by omega, by go_num, HTC⟩
              case measure => simp [intOf]; omega
          · obtain rfl : k = n1 := by omega
            have HKE := Lib.hid (show T3 w1 wr u8 (.slice none 0 0) u10 (A.map one8) ((B.take 0).map two8) (A.map one8 ++ (B.take 0).map two8) from by
              have h := HK.out
              rw [List.take_of_length_le (by rw [HA.out.len]; exact Nat.le_refl _)] at h
              simpa using h)
            clear HK hk hlt
            have k1 : ¬ (k : Int) < (k : Int) := by omega
            go_wp2_with fail
            go_loopw [9, 10, 13] (fun v z i wr => ∃ k : Nat, k ≤ n2 ∧ i = .int .i64 k ∧ Hid (T3 w1 wr u8 v z (A.map one8) ((B.take k).map two8) (A.map one8 ++ (B.take k).map two8))) (fun _ _ i _ => n2 - (intOf i).toNat)
            case atStart => exact ⟨0, by omega, rfl, HKE⟩
            case round =>
              clear HKE
              obtain ⟨k, hk, rfl, HK⟩ := hrel
              have k0 : (0 : Int) ≤ (k : Int) := by omega
              by_cases hlt : k < n2
              · have k1 : (k : Int) < (n2 : Int) := by omega
                have HLT := Lib.hid (show k < B.length by rw [HB.out.len]; exact hlt)
                obtain ⟨g, off, rfl, d0, d1⟩ := HBC.out wr HK.out.bel k HLT.out
                have HF := Lib.hid (take_map_succ two8 B k HLT.out)
                generalize B[k]'HLT.out = q at d0 d1 HF
                have t1 := tm8 q.1
                have t2 := tm8 q.2
                have e1 : IntKind.i64.wrap (q.1.tmod 8) = q.1.tmod 8 := IntWalk.i64_in _ (by omega)
                have e2 : IntKind.i64.wrap (q.2.tmod 8) = q.2.tmod 8 := IntWalk.i64_in _ (by omega)
                have e3 : IntKind.i64.wrap (100 + q.1.tmod 8) = 100 + q.1.tmod 8 := IntWalk.i64_in _ (by omega)
                clear t1 t2
                go_upto_region 13 with (fail)
                have KA := Lib.hid (And.intro d0 d1)
                have KD := Lib.hid (show wr.drew.cell? ⟨g, off + k * 2, none⟩ = some (.int .i64 q.1) ∧ wr.drew.cell? ⟨g, off + k * 2 + 1, none⟩ = some (.int .i64 q.2) from ⟨d0, d1⟩)
                have m1 := World.new_ne wr _ d0
                have m2 := World.new_ne wr _ d1
                go_region_held3 (fun w' => w'.cell? ⟨g, off + k * 2, none⟩ = some (.int .i64 q.1) ∧ w'.cell? ⟨g, off + k * 2 + 1, none⟩ = some (.int .i64 q.2)) (first | with_reducible exact KA.out | with_reducible exact KD.out | go_keep) (fail)
                obtain ⟨x, hx⟩ : ∃ x, x = two8 q := ⟨_, rfl⟩
                rw [show 100 + q.1.tmod 8 = x.1 by rw [hx]; rfl, show q.2.tmod 8 = x.2 by rw [hx]; rfl]
                rw [← hx] at HF
                have HT := Lib.hid (HK.out.on ((alX wr (.cells #[.int .i64 x.1, .int .i64 x.2] 31)).drew))
                have hbx := heap_alloc_new wr (.cells #[.int .i64 x.1, .int .i64 x.2] 31)
                have HZ := Lib.hid (show Bz w1 (wr.alloc (.cells #[.int .i64 x.1, .int .i64 x.2] 31)).drew wr.heap.size u8 u9 u10 x from ⟨by rw [show (wr.alloc (.cells #[.int .i64 x.1, .int .i64 x.2] 31)).drew.cell? _ = (wr.alloc (.cells #[.int .i64 x.1, .int .i64 x.2] 31)).cell? _ from rfl, cell_of_row _ _ 0 _ _ _ hbx]; rfl, by rw [show (wr.alloc (.cells #[.int .i64 x.1, .int .i64 x.2] 31)).drew.cell? _ = (wr.alloc (.cells #[.int .i64 x.1, .int .i64 x.2] 31)).cell? _ from rfl, cell_of_row _ _ 1 _ _ _ hbx]; rfl, fun e => by have := (HK.out.ox.lt _ e).2; omega, fun e => by have := (HK.out.oy.lt _ e).2; omega, fun e => by have := (HK.out.oz.lt _ e).2; omega⟩)
                clear hbx hx m1 m2 KA KD e1 e2 e3 d0 d1 HK
                obtain ⟨gb, hgb⟩ : ∃ g, g = wr.heap.size := ⟨_, rfl⟩
                rw [← hgb] at HZ ⊢
                generalize (wr.alloc (.cells #[.int .i64 x.1, .int .i64 x.2] 31)).drew = V at HT HZ ⊢
                clear hgb
                have KA := Lib.hid (And.intro HZ.out.c0 HZ.out.c1)
                have KD := Lib.hid (show V.drew.cell? ⟨gb, 0, none⟩ = some (.int .i64 x.1) ∧ V.drew.cell? ⟨gb, 1, none⟩ = some (.int .i64 x.2) from KA.out)
                have q2 : Below V.heap.size V ((V.alloc (.cells #[.int .i64 x.1, .int .i64 x.2] 31)).drew) := (alX _ _).drew
                have q3 : Below V.heap.size V (V.alloc (.cells #[.int .i64 x.1, .int .i64 x.2] 31)) := alX _ _
                have q4 : Below V.heap.size V (((V.alloc (.cells #[.int .i64 x.1, .int .i64 x.2] 31)).alloc (.cells #[.int .i64 x.1, .int .i64 x.2] 31)).drew) := ((alX _ _).alloc (by simp) _).drew
                have q5 : Below V.heap.size V ((V.alloc (.cells #[.int .i64 x.1, .int .i64 x.2] 31)).alloc (.cells #[.int .i64 x.1, .int .i64 x.2] 31)) := (alX _ _).alloc (by simp) _
                have KG := Lib.hid (And.intro (HZ.out.on q2).c0 (HZ.out.on q2).c1)
                have KH := Lib.hid (And.intro (HZ.out.on q3).c0 (HZ.out.on q3).c1)
                have KJ := Lib.hid (And.intro (HZ.out.on q4).c0 (HZ.out.on q4).c1)
                have KL := Lib.hid (And.intro (HZ.out.on q5).c0 (HZ.out.on q5).c1)
                have G1 := Lib.hid (show (V.alloc (.cells #[.int .i64 x.1, .int .i64 x.2] 31)).drew.heap[V.heap.size]? = some (.cells #[.int .i64 x.1, .int .i64 x.2] 31 (0, 0)) from heap_alloc_new V _)
                have G2 := Lib.hid (show ((V.alloc (.cells #[.int .i64 x.1, .int .i64 x.2] 31)).alloc (.cells #[.int .i64 x.1, .int .i64 x.2] 31)).drew.heap[V.heap.size]? = some (.cells #[.int .i64 x.1, .int .i64 x.2] 31 (0, 0)) from (Below.heap_alloc (V.alloc (.cells #[.int .i64 x.1, .int .i64 x.2] 31)) _ _ (lt_of_block (heap_alloc_new V _))).trans (heap_alloc_new V _))
                have G3 := Lib.hid (show ((V.alloc (.cells #[.int .i64 x.1, .int .i64 x.2] 31)).alloc (.cells #[.int .i64 x.1, .int .i64 x.2] 31)).drew.heap[V.heap.size + 1]? = some (.cells #[.int .i64 x.1, .int .i64 x.2] 31 (0, 0)) by
                  have := heap_alloc_new (V.alloc (.cells #[.int .i64 x.1, .int .i64 x.2] 31)) (.cells #[.int .i64 x.1, .int .i64 x.2] 31)
                  rw [World.size_alloc] at this
                  exact this)
                have HUO := Lib.hid (show ∀ j, u9.ownBlock = some j → j < V.heap.size from fun j hj => (HT.out.oy.lt j hj).2)
                have HKL := Lib.hid (show ((B.take k).map two8).length ≤ 1000000 by rw [List.length_map, List.length_take]; omega)
                have HKM := Lib.hid (show (A.map one8 ++ (B.take k).map two8).length ≤ 1000000 by have := HA.out.len; rw [List.length_append, List.length_map, List.length_map, List.length_take]; omega)
                go_upto_region 14 with (fail)
                go_region_held3 (fun w' => w'.cell? ⟨gb, 0, none⟩ = some (.int .i64 x.1) ∧ w'.cell? ⟨gb, 1, none⟩ = some (.int .i64 x.2)) (first | with_reducible exact KA.out | with_reducible exact KD.out | with_reducible exact KG.out | with_reducible exact KH.out | with_reducible exact KJ.out | with_reducible exact KL.out | with_reducible exact KE.out | with_reducible exact KF.out | with_reducible exact KI.out | go_keep)
                  (first
                    | (refine step_appA rfl (.tmp 90) (.tmp 92) rfl w1.heap.size _ u9 _ rfl (own_keep HT.out.oy (by assumption) (Nat.le_refl _)) _ x rfl (by first | exact cells_at G1.out | exact cells_at G2.out | exact cells_at G3.out) HKL.out (Nat.le_trans HT.out.bel.size (Below.size (by assumption))) ?_; intro vA wA hoA hgA hatA; have HTA := Lib.hid ((HT.out.on (by assumption)).turn.app hoA hgA hatA); have HZA := Lib.hid ((HZ.out.on (by assumption)).turn.app hgA hatA); have KE := Lib.hid (And.intro HZA.out.c0 HZA.out.c1); have KF := Lib.hid (And.intro (HZA.out.on (alX wA (.cells #[.int .i64 x.1, .int .i64 x.2] 31))).c0 (HZA.out.on (alX wA (.cells #[.int .i64 x.1, .int .i64 x.2] 31))).c1); have r1 := Below.refl wA.heap.size wA; have r2 := alX wA (.cells #[.int .i64 x.1, .int .i64 x.2] 31); have G4 := Lib.hid (show wA.heap[V.heap.size]? = some (.cells #[.int .i64 x.1, .int .i64 x.2] 31 (0, 0)) ∧ True from ⟨by first | exact blk_app G1.out hgA HUO.out | exact blk_app G2.out hgA HUO.out, trivial⟩); have G5 := Lib.hid (show wA.heap[V.heap.size + 1]? = some (.cells #[.int .i64 x.1, .int .i64 x.2] 31 (0, 0)) ∨ True from by first | exact .inl (blk_app G3.out hgA (fun j hj => Nat.lt_succ_of_lt (HUO.out j hj))) | exact .inr trivial); have G6 := Lib.hid (heap_alloc_new wA (.cells #[.int .i64 x.1, .int .i64 x.2] 31)))
                    | (refine step_appA rfl (.tmp 94) (.tmp 96) rfl w1.heap.size _ u10 _ rfl (own_keep HTA.out.oy (by assumption) (Nat.le_refl _)) _ x rfl (by first | exact cells_at G6.out | exact cells_at G4.out.1 | exact cells_at (blk_app G3.out hgA (fun j hj => Nat.lt_succ_of_lt (HUO.out j hj)))) HKM.out (by have := HTA.out.bel.size; simp; omega) ?_; intro vB wB hoB hgB hatB; have HTB := Lib.hid ((HTA.out.on (by assumption)).turn.app hoB hgB hatB); have KI := Lib.hid (And.intro ((HZA.out.on (by assumption)).turn.app hgB hatB).c0 ((HZA.out.on (by assumption)).turn.app hgB hatB).c1)))
                all_goals
                  have HTC := Lib.hid (show T3 w1 wB u8 vA vB (A.map one8) ((B.take (k + 1)).map two8) (A.map one8 ++ (B.take (k + 1)).map two8) from by rw [HF.out, ← List.append_assoc]; exact HTB.out.turn)
                  clear HTA HTB HZA KE KF KI G4 G5 G6 hoA hgA hatA hoB hgB hatB r1 r2 q2 q3 q4 q5
                  go_wp2
                  go_roundw
                  case rel => exact ⟨k + 1, by omega, by go_num, HTC⟩
                  case measure => simp [intOf]; omega
              · obtain rfl : k = n2 := by omega
                have HKF := Lib.hid (show T3 w1 wr u8 u9 u10 (A.map one8) (B.map two8) (A.map one8 ++ B.map two8) from by
                  have h := HK.out
                  rw [List.take_of_length_le (by rw [HB.out.len]; exact Nat.le_refl _)] at h
                  exact h)
                clear HK hk hlt
                have k1 : ¬ (k : Int) < (k : Int) := by omega
                have HPL := Lib.hid (show (A.map one8).length ≤ 20 ∧ (B.map two8).length ≤ 20 ∧ (A.map one8 ++ B.map two8).length ≤ 40 from by
                  have := HA.out.len
                  have := HB.out.len
                  rw [List.length_append, List.length_map, List.length_map]
                  omega)
                have HTW := two_of (one_in A) (two_in B) (S := A.map one8 ++ B.map two8) (fun c => List.mem_append)
                generalize A.map one8 = P at HKF HPL HTW
                generalize B.map two8 = Q at HKF HPL HTW
                obtain ⟨f1, f2, f3⟩ := HTW.fine (by omega)
                obtain ⟨X, Y, Z, e1, e2, e3, h2⟩ := Two.go (r := rul b l) N 7 HTW (by omega)
                have HZ1 := Lib.hid (h2.one (by omega))
                have HFL := Lib.hid (show X.length ≤ 4096 ∧ Y.length ≤ 4096 from ⟨((fine_iff _).1 (h2.fine (by omega)).1).1, ((fine_iff _).1 (h2.fine (by omega)).2.1).1⟩)
                have HS1 := Lib.hid (fun w a m cp (ha : Cls w a P) (hl : P.length = m) (hn : a = none → m = 0) (hx : m ≤ 9223372036854775807) => step_good b l hmay a m cp P X N N rfl (by omega) (chk_of (by have := HPL.out; omega) f1) e1 w ha hl hn hx)
                have HS2 := Lib.hid (fun w a m cp (ha : Cls w a Q) (hl : Q.length = m) (hn : a = none → m = 0) (hx : m ≤ 9223372036854775807) => step_good b l hmay a m cp Q Y N N rfl (by omega) (chk_of (by have := HPL.out; omega) f2) e2 w ha hl hn hx)
                have HS3 := Lib.hid (fun w a m cp (ha : Cls w a (P ++ Q)) (hl : (P ++ Q).length = m) (hn : a = none → m = 0) (hx : m ≤ 9223372036854775807) => step_good b l hmay a m cp (P ++ Q) Z N N rfl (by omega) (chk_of (by have := HPL.out; omega) f3) e3 w ha hl hn hx)
                clear HTW f1 f2 f3 e1 e2 e3 h2
                unfold Rv at HS1 HS2 HS3
                obtain ⟨S, hS⟩ : ∃ S, S = P ++ Q := ⟨_, rfl⟩
                rw [← hS] at HS3 HKF HPL
                clear hS
                have HBL := Lib.hid HKF.out.bel
                obtain ⟨xo, xc, rfl, hX, _, _, _, _, hxn⟩ := own_cls HKF.out.ox
                obtain ⟨yo, yc, rfl, hY, _, _, _, _, hyn⟩ := own_cls HKF.out.oy
                obtain ⟨zo, zc, rfl, hZ, _, _, _, _, hzn⟩ := own_cls HKF.out.oz
                clear HKF
                have hbk := (HBL.out.block _ (lt_of_block HR1.out)).trans HR1.out
                have l0 := cell_of_row _ _ 0 _ _ _ hbk
                have l1 := cell_of_row _ _ 1 _ _ _ hbk
                have HI := Lib.hid (And.intro hbk (And.intro hX (And.intro hY (And.intro hZ (HB1.out.trans (HBL.out.mono HB1.out.size))))))
                have HXN := Lib.hid hxn
                have HYN := Lib.hid hyn
                have HZN := Lib.hid hzn
                clear hbk hX hY hZ hxn hyn hzn HBL
                obtain ⟨lp, hlp⟩ : ∃ n, n = P.length := ⟨_, rfl⟩
                obtain ⟨lq, hlq⟩ : ∃ n, n = Q.length := ⟨_, rfl⟩
                obtain ⟨ls, hls⟩ : ∃ n, n = S.length := ⟨_, rfl⟩
                rw [← hlp] at HXN HPL ⊢
                rw [← hlq] at HYN HPL ⊢
                rw [← hls] at HZN HPL ⊢
                have HLL := Lib.hid (And.intro hlp (And.intro hlq hls))
                clear hlp hlq hls
                go_upto_region 16 with (go_at_call 6; refine (HS1.out _ _ _ _ HI.out.2.1 HLL.out.1.symm HXN.out (by have := HPL.out; omega)).mono ?_; intro e w2 h2; obtain ⟨ao, acap, rfl, ha2, _, hb2⟩ := h2; have HJ := Lib.hid (And.intro ((hb2.block W.heap.size (lt_of_block HI.out.1)).trans HI.out.1) (And.intro (HI.out.2.2.1.below hb2 (Nat.le_refl _)) (And.intro (HI.out.2.2.2.1.below hb2 (Nat.le_refl _)) (And.intro (HI.out.2.2.2.2.trans (hb2.mono HI.out.2.2.2.2.size)) ha2)))); clear ha2 hb2)
                clear l0 l1 HI
                have l0 := cell_of_row _ _ 0 _ _ _ HJ.out.1
                have l1 := cell_of_row _ _ 1 _ _ _ HJ.out.1
                go_upto_region 17 with (go_at_call 6; refine (HS2.out _ _ _ _ HJ.out.2.1 HLL.out.2.1.symm HYN.out (by have := HPL.out; omega)).mono ?_; intro e w3 h3; obtain ⟨bo, bcap, rfl, ha3, _, hb3⟩ := h3; have HM3 := Lib.hid (And.intro ((hb3.block W.heap.size (lt_of_block HJ.out.1)).trans HJ.out.1) (And.intro (HJ.out.2.2.1.below hb3 (Nat.le_refl _)) (And.intro (HJ.out.2.2.2.1.trans (hb3.mono HJ.out.2.2.2.1.size)) (And.intro (HJ.out.2.2.2.2.below hb3 (Nat.le_refl _)) ha3)))); clear ha3 hb3)
                clear l0 l1 HJ
                have l0 := cell_of_row _ _ 0 _ _ _ HM3.out.1
                have l1 := cell_of_row _ _ 1 _ _ _ HM3.out.1
                go_upto_region 18 with (go_at_call 6; refine (HS3.out _ _ _ _ HM3.out.2.1 HLL.out.2.2.symm HZN.out (by have := HPL.out; omega)).mono ?_; intro e w4 h4; obtain ⟨co, ccap, rfl, ha4, _, hb4⟩ := h4; have H4 := Lib.hid (And.intro (HM3.out.2.2.1.trans (hb4.mono HM3.out.2.2.1.size)) (And.intro (HM3.out.2.2.2.1.below hb4 (Nat.le_refl _)) (And.intro (HM3.out.2.2.2.2.below hb4 (Nat.le_refl _)) ha4))); clear ha4 hb4)
                clear l0 l1 HM3
                obtain ⟨lx, hlx⟩ : ∃ n, n = X.length := ⟨_, rfl⟩
                obtain ⟨ly, hly⟩ : ∃ n, n = Y.length := ⟨_, rfl⟩
                obtain ⟨lz, hlz⟩ : ∃ n, n = Z.length := ⟨_, rfl⟩
                rw [← hlx, ← hly, ← hlz]
                have hlzz : lz = lx + ly := by have := HZ1.out.1; omega
                have hlx2 : (lx : Int) ≤ 4096 := by have := HFL.out.1; omega
                have hly2 : (ly : Int) ≤ 4096 := by have := HFL.out.2; omega
                have hne : ((lz : Int) != (lx : Int) + (ly : Int)) = false := by rw [hlzz]; simp
                have HLX := Lib.hid (And.intro hlx (And.intro hly hlz))
                clear hlx hly hlz
                go_wp2_with fail
                have HE0 := Lib.hid (Below.refl w4.heap.size w4)
                have HL2 := Lib.hid (show lx ≤ 9223372036854775807 ∧ ly ≤ 9223372036854775807 by omega)
                have hlz2 : lz ≤ 8192 := by omega
                have hlz3 : (lz : Int) ≤ 8192 := by omega
                clear hlzz hne hlx2 hly2
                go_loopw [6, 21] (fun r i wr => ∃ j : Nat, j ≤ lz ∧ i = .int .i64 j ∧ Hid (Below w4.heap.size w4 wr)) (fun _ i _ => lz - (intOf i).toNat)
                case atStart => exact ⟨0, by omega, rfl, HE0⟩
                case round =>
                  clear HE0
                  obtain ⟨j, hj, rfl, HE⟩ := hrel
                  have j0 : (0 : Int) ≤ (j : Int) := by omega
                  by_cases hlt : j < lz
                  · have j1 : (j : Int) < (lz : Int) := by omega
                    have HLT := Lib.hid (show j < Z.length by have := HLX.out.2.2; omega)
                    obtain ⟨g, off, rfl, d0, d1⟩ := (H4.out.2.2.2.below HE.out (Nat.le_refl _)) j HLT.out
                    have HO := HZ1.out.2 _ (List.getElem_mem HLT.out)
                    generalize Z[j]'HLT.out = x at d0 d1 HO
                    have HG := Lib.hid (show g < wr.drew.heap.size from World.block_lt_of_cell? wr _ d0)
                    have HA1 := Lib.hid (has_cells ao lx acap X x wr.drew (show Cls wr.drew ao X from H4.out.2.1.below HE.out.drew (Nat.le_refl _)) HLX.out.1.symm HL2.out.1)
                    have HA2 := Lib.hid (fun w (hb : Below wr.drew.heap.size wr.drew w) => has_cells bo ly bcap Y x w (Cls.below (show Cls wr.drew bo Y from H4.out.2.2.1.below HE.out.drew (Nat.le_refl _)) hb (Nat.le_refl _)) HLX.out.2.1.symm HL2.out.2)
                    generalize decide (x ∈ X) = p at HO HA1
                    generalize decide (x ∈ Y) = q at HO HA2
                    have KA := Lib.hid (And.intro d0 d1)
                    have KD := Lib.hid (show wr.drew.cell? ⟨g, off + j * 2, none⟩ = some (.int .i64 x.1) ∧ wr.drew.cell? ⟨g, off + j * 2 + 1, none⟩ = some (.int .i64 x.2) from ⟨d0, d1⟩)
                    have HW := Lib.hid (show ∀ w w', Below wr.drew.heap.size wr.drew w → Below w.heap.size w w' → Below w4.heap.size w4 w' from fun w w' h1 h2 => HE.out.drew.trans ((h1.trans (h2.mono h1.size)).mono HE.out.drew.size))
                    clear d0 d1
                    go_upto_region 23 with (fail)
                    rcases bool_two HO with ⟨rfl, rfl⟩ | ⟨rfl, rfl⟩
                    all_goals
                      clear HO
                      have hS0 := KD.out
                      refine Till.region (s := 12) (S := (fun (_ : Bool) w' => w'.cell? ⟨g, off + j * 2, none⟩ = some (.int .i64 x.1) ∧ w'.cell? ⟨g, off + j * 2 + 1, none⟩ = some (.int .i64 x.2))) (by kernel_rfl) ?_
                      simp only [List.size_toArray, List.length_cons, List.length_nil]
                      refine Till.move (i := 0) (d := 145) (v := .slice ao lx acap) rfl rfl (by kernel_rfl) (by kernel_rfl) (by kernel_rfl) (by kernel_rfl) (fun _ _ _ h => h) hS0 (fun w => ev_move (.tmp 15) rfl rfl w) (by rfl) (by kernel_rfl) ?_
                      try dsimp only [Act.put]
                      try simp only [List.setIfInBounds_toArray, List.set_cons_zero, List.set_cons_succ]
                      refine Till.move (i := 1) (d := 146) (v := .slice (some ⟨g, off, none⟩) lz ccap) rfl rfl (by kernel_rfl) (by kernel_rfl) (by kernel_rfl) (by kernel_rfl) (fun _ _ _ h => h) hS0 (fun w => ev_move (.tmp 19) rfl rfl w) (by rfl) (by kernel_rfl) ?_
                      try dsimp only [Act.put]
                      try simp only [List.setIfInBounds_toArray, List.set_cons_zero, List.set_cons_succ]
                      refine Till.move (i := 2) (d := 147) (v := .int .i64 j) rfl rfl (by kernel_rfl) (by kernel_rfl) (by kernel_rfl) (by kernel_rfl) (fun _ _ _ h => h) hS0 (fun w => ev_move (.tmp 21) rfl rfl w) (by rfl) (by kernel_rfl) ?_
                      try dsimp only [Act.put]
                      try simp only [List.setIfInBounds_toArray, List.set_cons_zero, List.set_cons_succ]
                      refine Till.move (i := 3) (d := 148) (v := ?_) rfl rfl (by kernel_rfl) (by kernel_rfl) (by kernel_rfl) (by kernel_rfl) (fun _ _ _ h => h) hS0 ?_ (by rfl) (by kernel_rfl) ?_
                      rotate_left 1
                      · intro w
                        refine ev_two 146 147 (V := .slice (some ⟨g, off, none⟩) lz ccap) (U := .int .i64 j) rfl rfl (fun ev e1 e2 e3 => ?_)
                        go_simp
                        try with_reducible rfl
                      try dsimp only [Act.put]
                      try simp only [List.setIfInBounds_toArray, List.set_cons_zero, List.set_cons_succ]
                      refine Till.read (i := 4) (d := 149) (v := ?_) (G := (fun w' => w'.cell? ⟨g, off + j * 2, none⟩ = some (.int .i64 x.1) ∧ w'.cell? ⟨g, off + j * 2 + 1, none⟩ = some (.int .i64 x.2))) (fun _ _ h => h) rfl rfl (by kernel_rfl) (by kernel_rfl) (by kernel_rfl) (by kernel_rfl) (fun _ _ _ h => h) hS0 ?_ (by rfl) (by kernel_rfl) ?_
                      rotate_left 1
                      · intro w' hx
                        obtain ⟨z0, z1⟩ := hx
                        refine ev_two 148 148 (V := .pointer (some ⟨g, off + j * 2, none⟩)) (U := .pointer (some ⟨g, off + j * 2, none⟩)) rfl rfl (fun ev e1 e2 e3 => ?_)
                        go_simp
                        try with_reducible rfl
                      try dsimp only [Act.put]
                      try simp only [List.setIfInBounds_toArray, List.set_cons_zero, List.set_cons_succ]
                      refine Till.move (i := 6) (d := 151) (v := .slice bo ly bcap) rfl rfl (by kernel_rfl) (by kernel_rfl) (by kernel_rfl) (by kernel_rfl) (fun _ _ _ h => h) hS0 (fun w => ev_move (.tmp 17) rfl rfl w) (by rfl) (by kernel_rfl) ?_
                      try dsimp only [Act.put]
                      try simp only [List.setIfInBounds_toArray, List.set_cons_zero, List.set_cons_succ]
                      refine Till.move (i := 7) (d := 152) (v := .slice (some ⟨g, off, none⟩) lz ccap) rfl rfl (by kernel_rfl) (by kernel_rfl) (by kernel_rfl) (by kernel_rfl) (fun _ _ _ h => h) hS0 (fun w => ev_move (.tmp 19) rfl rfl w) (by rfl) (by kernel_rfl) ?_
                      try dsimp only [Act.put]
                      try simp only [List.setIfInBounds_toArray, List.set_cons_zero, List.set_cons_succ]
                      refine Till.move (i := 8) (d := 153) (v := .int .i64 j) rfl rfl (by kernel_rfl) (by kernel_rfl) (by kernel_rfl) (by kernel_rfl) (fun _ _ _ h => h) hS0 (fun w => ev_move (.tmp 21) rfl rfl w) (by rfl) (by kernel_rfl) ?_
                      try dsimp only [Act.put]
                      try simp only [List.setIfInBounds_toArray, List.set_cons_zero, List.set_cons_succ]
                      refine Till.move (i := 9) (d := 154) (v := ?_) rfl rfl (by kernel_rfl) (by kernel_rfl) (by kernel_rfl) (by kernel_rfl) (fun _ _ _ h => h) hS0 ?_ (by rfl) (by kernel_rfl) ?_
                      rotate_left 1
                      · intro w
                        refine ev_two 152 153 (V := .slice (some ⟨g, off, none⟩) lz ccap) (U := .int .i64 j) rfl rfl (fun ev e1 e2 e3 => ?_)
                        go_simp
                        try with_reducible rfl
                      try dsimp only [Act.put]
                      try simp only [List.setIfInBounds_toArray, List.set_cons_zero, List.set_cons_succ]
                      refine Till.read (i := 10) (d := 155) (v := ?_) (G := (fun w' => w'.cell? ⟨g, off + j * 2, none⟩ = some (.int .i64 x.1) ∧ w'.cell? ⟨g, off + j * 2 + 1, none⟩ = some (.int .i64 x.2))) (fun _ _ h => h) rfl rfl (by kernel_rfl) (by kernel_rfl) (by kernel_rfl) (by kernel_rfl) (fun _ _ _ h => h) hS0 ?_ (by rfl) (by kernel_rfl) ?_
                      rotate_left 1
                      · intro w' hx
                        obtain ⟨z0, z1⟩ := hx
                        refine ev_two 154 154 (V := .pointer (some ⟨g, off + j * 2, none⟩)) (U := .pointer (some ⟨g, off + j * 2, none⟩)) rfl rfl (fun ev e1 e2 e3 => ?_)
                        go_simp
                        try with_reducible rfl
                      try dsimp only [Act.put]
                      try simp only [List.setIfInBounds_toArray, List.set_cons_zero, List.set_cons_succ]
                      refine Till.only false (i := 5) rfl (by kernel_rfl) (by rfl) (by kernel_rfl) fun K hK => ?_
                      simp only [List.getElem_toArray, List.getElem_cons_zero, List.getElem_cons_succ]
                      go_big_op
                      refine HA1.out.mono ?_
                      rintro e wA ⟨rfl, hbA⟩
                      have KE := Lib.hid (And.intro ((hbA.cell (p := ⟨g, off + j * 2, none⟩) HG.out).trans KD.out.1) ((hbA.cell (p := ⟨g, off + j * 2 + 1, none⟩) HG.out).trans KD.out.2))
                      have hSA := KE.out
                      refine hK.out _ _ hSA ?_
                      clear hK K
                      try dsimp only [Act.put]
                      try simp only [List.setIfInBounds_toArray, List.set_cons_zero, List.set_cons_succ]
                      refine Till.only false (i := 11) rfl (by kernel_rfl) (by rfl) (by kernel_rfl) fun K hK => ?_
                      simp only [List.getElem_toArray, List.getElem_cons_zero, List.getElem_cons_succ]
                      go_big_op
                      refine (HA2.out _ hbA).mono ?_
                      rintro e wB ⟨rfl, hbB⟩
                      have KF := Lib.hid (And.intro ((hbB.cell (p := ⟨g, off + j * 2, none⟩) (Nat.lt_of_lt_of_le HG.out hbA.size)).trans KE.out.1) ((hbB.cell (p := ⟨g, off + j * 2 + 1, none⟩) (Nat.lt_of_lt_of_le HG.out hbA.size)).trans KE.out.2))
                      have hSB := KF.out
                      refine hK.out _ _ hSB ?_
                      clear hK K
                      try dsimp only [Act.put]
                      try simp only [List.setIfInBounds_toArray, List.set_cons_zero, List.set_cons_succ]
                      refine Till.only true (i := 12) rfl (by kernel_rfl) (by rfl) (by kernel_rfl) fun K hK => ?_
                      simp only [List.getElem_toArray, List.getElem_cons_zero, List.getElem_cons_succ]
                      go_big_op
                      refine hK.out _ _ hSB ?_
                      clear hK K
                      refine Till.done (by kernel_rfl) ?_ _
                      all_goals
                        have HE2 := Lib.hid (HW.out _ _ hbA hbB)
                        clear hbA hbB KE KF
                        go_wp2
                        go_roundw
                        case rel => exact ⟨j + 1, by omega, by go_num, HE2⟩
                        case measure => simp [intOf]; omega
                  · obtain rfl : j = lz := by omega
                    have j1 : ¬ (j : Int) < (j : Int) := by omega
                    have HE9 := Lib.hid (H4.out.1.trans (HE.out.mono H4.out.1.size))
                    go_wp2_with (go_at_call 5; refine (HL.out _).mono ?_; rintro e w6 ⟨rfl, hb6⟩; have HB6 := Lib.hid (HE9.out.trans (hb6.mono HE9.out.size)); clear hb6)
                    go_ret
                    exact ⟨rfl, HB6.out⟩
end Go.Proofs.Yticnhpddidaaeaa

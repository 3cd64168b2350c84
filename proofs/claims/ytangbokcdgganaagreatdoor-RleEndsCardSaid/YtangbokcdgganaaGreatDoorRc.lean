/-
  THE WALKS of rule.digits, Text, Parse, Next. Conditions: the parts are numbers of 16 bits.
-/

import Derived.Test.YtangbokcdgganaaGreatDoorRb
import Derived.Laws.AppendOwn
import Derived.Laws.Cover4
import Derived.Maps.AppendAt
import Derived.OneCell
import Derived.Laws.Concat
import Derived.Deep.DeepCutAuto
import Derived.Laws.OwnMore
namespace Go.Proofs.YtangbokcdgganaaGreatDoor
open Go.RowKit Ru

/-- bytes as a text -/
def str (l : List Nat) : ByteArray := ⟨(l.map UInt8.ofNat).toArray⟩
theorem str_app (a b : List Nat) : str a ++ str b = str (a ++ b) := by
  unfold str
  rw [ByteArray.mk_append_mk, List.map_append]
theorem str_size (l : List Nat) : (str l).size = l.length := by simp [str, ByteArray.size]
theorem lb_str (l : List Nat) (h : ∀ c ∈ l, c < 256) : lb (str l) = l := by
  unfold lb str
  rw [show (l.map UInt8.ofNat).toArray.toList = l.map UInt8.ofNat from rfl, List.map_map]
  rw [List.map_congr_left (g := id)]
  · simp
  · intro c hc
    have := h c hc
    simp
    omega
theorem runes_str : ∀ (l : List Nat) (s : ByteArray), (∀ c ∈ l, c < 128) → (l.map (fun c : Nat => (c : Int))).foldl (fun r n => r ++ Utf8.encode n) s = s ++ str l
  | [], s, _ => by
    show s = s ++ str []
    have : str [] = ByteArray.empty := rfl
    rw [this, ByteArray.append_empty]
  | c :: l, s, h => by
    have hc := h c (List.mem_cons_self ..)
    have e : Utf8.encode (c : Int) = str [c] := by
      have hv : Utf8.valid (c : Int) = true := by unfold Utf8.valid; simp; omega
      unfold Utf8.encode
      simp only [hv, if_true, Int.toNat_natCast]
      rw [if_pos (show c < 128 from hc)]
      rfl
    rw [List.map_cons, List.foldl_cons, e, runes_str l _ (fun x hx => h x (List.mem_cons_of_mem _ hx)), ByteArray.append_assoc, str_app]
    rfl
theorem runesBytes_str (l : List Nat) (h : ∀ c ∈ l, c < 128) : runesBytes (l.map (fun c : Nat => (c : Int))) = str l := by
  unfold runesBytes
  rw [runes_str l _ h, ByteArray.empty_append]
/-- runes in new memory -/
abbrev OwnU (w : World) (B : Nat) (v : Value) (l : List Nat) : Prop := w.ownsRow B 21 1 v l.length (l.map (fun c : Nat => Value.int .i32 (c : Int)))
set_option maxRecDepth 100000 in
theorem info_r : (Tryz.prog.info? 21).map (fun i => (i.zero, i.size, i.bytes)) = some (some (.int .i32 0), 1, 4) := by kernel_rfl
set_option maxRecDepth 100000 in
theorem own_str {w : World} {B : Nat} {v : Value} {l : List Nat} (h : OwnU w B v l) (hl : ∀ c ∈ l, c < 128) : (convert 97 9 v).run Tryz.prog w = .ok (.string (str l)) w := by
  obtain ⟨hn, h⟩ := h
  rcases h with ⟨rfl, h0⟩ | ⟨g, cap, cur, rfl, hB, hg, hnc, hm, hcs, ht⟩
  · have : l = [] := List.length_eq_zero_iff.1 h0
    subst this
    exact run_convert_runes_nil w _ _ _ _ _ Tryz.underlying97 Tryz.underlying21 Tryz.underlying9
  · have e := run_convert_runes (P := Tryz.prog) w 97 9 21 ⟨g, 0, none⟩ l.length cap (l.map (fun c : Nat => (c : Int))) (by simp) Tryz.underlying97 Tryz.underlying21 Tryz.underlying9 (fun j hj => by
      have hj' : j < l.length := by simpa using hj
      rw [show (⟨g, 0, none⟩ : Addr).add j = ⟨g, j, none⟩ from by simp [Addr.add]; exact fun e => e.symm, cell_of_row w _ _ _ _ _ hg]
      have e2 : cur[j]? = (cur.toList.take (l.length * 1))[j]? := by
        rw [List.getElem?_take, if_pos (by omega)]; simp
      rw [e2, ht]
      simp [hj', List.getD])
    rw [e, List.take_of_length_le (by simp), runesBytes_str l hl]
set_option maxRecDepth 100000 in
set_option maxHeartbeats 1000000 in
theorem digits_any (b : Nat) (hb : b < 65536) (w : World) :
    Calls Tryz.prog 24 #[.int .u16 b] w fun e w' => e = .returned (.string (str (dg b))) ∧ Below w.heap.size w w' := by
  obtain ⟨i0, hi, hz0, hz1, hz2⟩ := info_parts info_r
  have HI := Lib.hid hi
  have HI0 := Lib.hid hz0
  have HI1 := Lib.hid hz1
  have HI2 := Lib.hid hz2
  have HBB := Lib.hid hb
  clear hi hz0 hz1 hz2
  go_enter Tryz.func24, Tryz.ntmps24
  go_wp2
  go_loopw [3, 5] (fun v i wr => ∃ k : Nat, k ≤ 9 ∧ i = .int .i64 k ∧ Hid (OwnU wr w.heap.size v (dgs b k)) ∧ Hid (Below w.heap.size w wr)) (fun _ i _ => 9 - (intOf i).toNat)
  case atStart => exact ⟨0, by omega, rfl, Lib.hid (World.ownsRow_nil _ _ _ _), Lib.hid (Below.refl _ _)⟩
  case round =>
    obtain ⟨k, hk, rfl, HO, HB⟩ := hrel
    have k0 : (0 : Int) ≤ (k : Int) := by omega
    by_cases hlt : k < 9
    · have k9 : (k : Int) < 9 := by omega
      have HD := Lib.hid (dgs_succ b k)
      have HL := Lib.hid (dgs_len b k)
      have HH := Lib.hid (fun w => has_any b k HBB.out hlt w)
      cases hh : hs b k
      · rw [hh] at HD HH
        clear hh
        go_wp2_with (go_at_call 46; refine (HH.out _).mono ?_; rintro e w' ⟨rfl, rfl⟩)
        go_roundw
        case rel => exact ⟨k + 1, by omega, by go_num, by rw [HD.out]; exact HO, HB⟩
        case measure => simp [intOf]; omega
      · rw [hh] at HD HH
        clear hh
        go_wp2_with (first | (go_at_call 46; refine (HH.out _).mono ?_; rintro e w' ⟨rfl, rfl⟩) | (at_builtin; refine wpList_append_own _ rfl (.tmp 11) (.tmp 15) 97 rfl w.heap.size 21 i0 (.int .i32 0) 1 4 Tryz.underlying97 HI.out HI0.out HI1.out HI2.out rfl (by decide) _ (dgs b k).length ((dgs b k).map (fun c : Nat => Value.int .i32 (c : Int))) rfl (HO.out.alloc _) ⟨wr.heap.size, 0, none⟩ 1 1 [.int .i32 (48 + (k : Int))] rfl rfl (by intro j u hj; exact cell_one_new _ _ _ j u hj) (by intro u hu; rw [List.mem_singleton.1 hu]; rfl) (by have := HL.out; unfold maxLen; omega) (by have := HL.out; omega) (by have := HB.out.size; simp; omega) ?_; intro v2 w5 hown hgrow _; have HO5 := Lib.hid hown; have HB5 := Lib.hid ((HB.out.alloc HB.out.size (.cells #[.int .i32 (48 + (k : Int))] 21)).grown hgrow (by have := HB.out.size; simp; omega) (fun j hj => (HO.out.lt j hj).1)); clear hown hgrow))
        go_roundw
        case rel => exact ⟨k + 1, by omega, by go_num, by rw [HD.out]; exact Lib.hid (by have h := HO5.out; unfold OwnU; simp only [if_true, List.length_append, List.map_append]; exact h), HB5⟩
        case measure => simp [intOf]; omega
    · obtain rfl : k = 9 := by omega
      have HC := Lib.hid (own_str HO.out (fun c hc => by have := dgs_lt b 9 (by decide) c hc; omega))
      have hcv := HC.out
      go_wp2
      go_ret
      exact ⟨rfl, HB.out⟩
theorem bel_on {A W W' : World} (h : Below A.heap.size A W) (k : Below W.heap.size W W') : Below A.heap.size A W' := h.trans (k.mono h.size)
/-- an error by its number -/
def ev (n : Int) : Value := if n = 0 then .nilIface else .iface 48 (.int .i64 n)
theorem text_bad (b l : Nat) (hb : b < 65536) (hl : l < 65536) (h : mayR b l = false) (w : World) :
    Calls Tryz.prog 11 #[Rv b l] w fun e w' => e = .returned (.tuple #[.string ByteArray.empty, .iface 48 (.int .i64 11)]) ∧ Below w.heap.size w w' := by
  have HC := Lib.hid (fun w => check_bad b l hb hl h w)
  clear h hb hl
  unfold Rv at HC ⊢
  go_enter Tryz.func11, Tryz.ntmps11
  go_wp2_with (go_at_call 23; refine (HC.out _).mono ?_; rintro e w1 ⟨rfl, hb1⟩; have HB1 := Lib.hid ((alX w _).trans (hb1.mono (by simp))); clear hb1)
  go_ret2
  exact ⟨rfl, HB1.out⟩
set_option maxRecDepth 100000 in
theorem text_ok (b l : Nat) (h : mayR b l = true) (w : World) :
    Calls Tryz.prog 11 #[Rv b l] w fun e w' => e = .returned (.tuple #[.string (str (txt b l)), .nilIface]) ∧ Below w.heap.size w w' := by
  have hm := mayR_true h
  have HC := Lib.hid (fun w => check_ok b l h w)
  have HDB := Lib.hid (fun w => digits_any b (by omega) w)
  have HDL := Lib.hid (fun w => digits_any l (by omega) w)
  have HT := Lib.hid (show str [66] ++ str (dg b) ++ str [47, 83] ++ str (dg l) = str (txt b l) by
    rw [str_app, str_app, str_app]
    congr 1
    unfold txt
    simp)
  have z1 := str_size (dg b)
  have z2 := str_size (dg l)
  have y1 := dgs_len b 9
  have y2 := dgs_len l 9
  unfold Rv at HC ⊢
  have s1 : (str (dg b)).size ≤ 9 := by rw [z1]; exact y1
  have s2 : (str (dg l)).size ≤ 9 := by rw [z2]; exact y2
  generalize hB : str (dg b) = tb at HDB HT s1
  generalize hL : str (dg l) = tl at HDL HT s2
  have q1 : (⟨#[66]⟩ : ByteArray).size = 1 := rfl
  have q2 : (⟨#[47, 83]⟩ : ByteArray).size = 2 := rfl
  have e1 : ∀ w, (Op.stringOp .add (⟨#[66]⟩ : ByteArray) tb).run Tryz.prog w = .ok (.string (⟨#[66]⟩ ++ tb)) w := fun w => run_string_add_sum w _ _ (by rw [q1]; omega)
  have e2 : ∀ w, (Op.stringOp .add (⟨#[66]⟩ ++ tb : ByteArray) ⟨#[47, 83]⟩).run Tryz.prog w = .ok (.string (⟨#[66]⟩ ++ tb ++ ⟨#[47, 83]⟩)) w := fun w => run_string_add_sum w _ _ (by rw [ByteArray.size_append, q1, q2]; omega)
  have e3 : ∀ w, (Op.stringOp .add (⟨#[66]⟩ ++ tb ++ ⟨#[47, 83]⟩ : ByteArray) tl).run Tryz.prog w = .ok (.string (⟨#[66]⟩ ++ tb ++ ⟨#[47, 83]⟩ ++ tl)) w := fun w => run_string_add_sum w _ _ (by rw [ByteArray.size_append, ByteArray.size_append, q1, q2]; omega)
  clear q1 q2
  clear hB hL z1 z2 y1 y2 hm h
  go_enter Tryz.func11, Tryz.ntmps11
  go_upto_region 4 with (go_at_call 23; refine (HC.out _).mono ?_; rintro e w1 ⟨rfl, hb1⟩; have HB1 := Lib.hid hb1; clear hb1)
  have hc0 : ∀ W, Below (w.alloc (.cells #[.int .u16 b, .int .u16 l] 32)).heap.size (w.alloc (.cells #[.int .u16 b, .int .u16 l] 32)) W → W.cell? ⟨w.heap.size, 0, none⟩ = some (.int .u16 b) ∧ W.cell? ⟨w.heap.size, 1, none⟩ = some (.int .u16 l) := fun W hW => by
    have e := (hW.block w.heap.size (by simp)).trans (heap_alloc_new w _)
    exact ⟨cell_of_row _ _ 0 _ _ _ e, cell_of_row _ _ 1 _ _ _ e⟩
  have HB2 := HB1
  have HB3 := Lib.hid HB2.out.drew
  have HC0 := Lib.hid hc0
  clear hc0
  have K2 := Lib.hid (HC0.out _ HB2.out)
  have K3 := Lib.hid (HC0.out _ HB3.out)
  go_region_held3 (fun W => W.cell? ⟨w.heap.size, 0, none⟩ = some (.int .u16 b) ∧ W.cell? ⟨w.heap.size, 1, none⟩ = some (.int .u16 l)) (first | with_reducible exact K2.out | with_reducible exact K3.out | with_reducible exact K4.out | with_reducible exact K5.out) (first | (go_at_call 24; (first | with_reducible refine (HDB.out _).mono ?_ | with_reducible refine (HDL.out _).mono ?_); rintro e w2 ⟨rfl, hb2⟩; (first | (have HB4 := Lib.hid (bel_on HB3.out hb2); have K4 := Lib.hid (HC0.out _ HB4.out)) | (have HB5 := Lib.hid (bel_on HB4.out hb2); have K5 := Lib.hid (HC0.out _ HB5.out))); clear hb2))
  all_goals
    go_wp2
    go_ret2
    exact ⟨by rw [← HT.out]; rfl, (alX w _).trans (HB5.out.mono (by simp))⟩
/-- what Parse answers -/
def prs : Option (Nat × Nat) → Nat × Nat × Int
  | none => (0, 0, 3)
  | some (b, l) => if mayR b l then (b, l, 0) else (0, 0, 11)
/-- the answer's variable, not yet written -/
structure ResW (w V : World) : Prop where
  h0 : V.heap[w.heap.size]? = some (.cells #[.int .u16 0, .int .u16 0] 32)
  bl : Below w.heap.size w V
theorem res_of {w V : World} (h : Below (w.alloc (.cells #[.int .u16 0, .int .u16 0] 32)).heap.size (w.alloc (.cells #[.int .u16 0, .int .u16 0] 32)) V) : ResW w V :=
  ⟨(h.block _ (by simp)).trans (heap_alloc_new w _), (alX w _).trans (h.mono (by simp))⟩
theorem ResW.below {w V V' : World} (h : ResW w V) (k : Below V.heap.size V V') : ResW w V' :=
  ⟨(k.block _ (lt_of_block h.h0)).trans h.h0, h.bl.trans (k.mono h.bl.size)⟩
theorem ResW.res {w V : World} (h : ResW w V) : V.cell? ⟨w.heap.size, 0, none⟩ = some (.int .u16 0) ∧ V.cell? ⟨w.heap.size, 1, none⟩ = some (.int .u16 0) ∧ V.frozen? ⟨w.heap.size, 0, none⟩ = false ∧ V.frozen? ⟨w.heap.size, 1, none⟩ = false ∧ w.heap.size < V.heap.size :=
  ⟨cell_of_row _ _ 0 _ _ _ h.h0, cell_of_row _ _ 1 _ _ _ h.h0, frozen_of_row _ _ 0 _ _ h.h0, frozen_of_row _ _ 1 _ _ h.h0, lt_of_block h.h0⟩
theorem ResW.outs {w V : World} (h : ResW w V) (u v : Value) : (V.setCell ⟨w.heap.size, 0, none⟩ u).cell? ⟨w.heap.size, 0, none⟩ = some u ∧ ((V.setCell ⟨w.heap.size, 0, none⟩ u).setCell ⟨w.heap.size, 1, none⟩ v).cell? ⟨w.heap.size, 0, none⟩ = some u ∧ ((V.setCell ⟨w.heap.size, 0, none⟩ u).setCell ⟨w.heap.size, 1, none⟩ v).cell? ⟨w.heap.size, 1, none⟩ = some v ∧ Below w.heap.size w ((V.setCell ⟨w.heap.size, 0, none⟩ u).setCell ⟨w.heap.size, 1, none⟩ v) := by
  have h0 := heap_setCell_same _ _ 0 _ _ u h.h0
  have h1 := heap_setCell_same _ _ 1 _ _ v h0
  exact ⟨cell_of_row _ _ 0 _ _ _ h0, cell_of_row _ _ 0 _ _ _ h1, cell_of_row _ _ 1 _ _ _ h1, (h.bl.setCell (Nat.le_refl _) _).setCell (Nat.le_refl _) _⟩
theorem read_none (s : ByteArray) (h : P (lb s) = none) (w : World) :
    Calls Tryz.prog 59 #[.string s] w fun e w' => (∃ b l : Nat, e = .returned (.tuple #[.agg #[.int .u16 b, .int .u16 l], .bool false])) ∧ Below w.heap.size w w' :=
  (read_any s w).mono fun e w' ⟨he, hb⟩ => ⟨by rw [R_eq, h] at he; exact he, hb⟩
theorem read_some (s : ByteArray) (b l : Nat) (h : P (lb s) = some (b, l)) (w : World) :
    Calls Tryz.prog 59 #[.string s] w fun e w' => e = .returned (.tuple #[.agg #[.int .u16 b, .int .u16 l], .bool true]) ∧ Below w.heap.size w w' :=
  (read_any s w).mono fun e w' ⟨he, hb⟩ => ⟨by rw [R_eq, h] at he; exact he, hb⟩
set_option maxRecDepth 100000 in
theorem parse_any (s : ByteArray) (w : World) :
    Calls Tryz.prog 38 #[.string s] w fun e w' => e = .returned (.tuple #[Rv (prs (P (lb s))).1 (prs (P (lb s))).2.1, ev (prs (P (lb s))).2.2]) ∧ Below w.heap.size w w' := by
  cases hP : P (lb s) with
  | none =>
    have HR := Lib.hid (fun w => read_none s hP w)
    clear hP
    go_enter Tryz.func38, Tryz.ntmps38
    go_wp2_with (go_at_call 59; refine (HR.out _).mono ?_; rintro e w1 ⟨⟨b, l, rfl⟩, hb1⟩; have HV := Lib.hid (res_of hb1); have HW := Lib.hid ((res_of hb1).below (alX w1 (.cells #[.int .u16 b, .int .u16 l] 32))); obtain ⟨z0, z1, g0, g1, hz⟩ := (res_of hb1).res; clear hb1)
    have hx := HV.out.outs (.int .u16 0) (.int .u16 0)
    refine bodyPost_ret (v := .tuple #[Rv 0 0, .iface 48 (.int .i64 3)]) (by simp [results, Tryz.results38, go_sem, Rv, hx.2.1, hx.2.2.1, hz]) rfl ⟨rfl, ?_⟩
    exact hx.2.2.2.alloc hx.2.2.2.size _
  | some q =>
    obtain ⟨b, l⟩ := q
    have hlen := P_len _ b l hP
    have HR := Lib.hid (fun w => read_some s b l hP w)
    clear hP
    cases hm : mayR b l
    · have HC := Lib.hid (fun w => check_bad b l (by omega) (by omega) hm w)
      unfold Rv at HC
      have HM := Lib.hid hm
      clear hm hlen
      go_enter Tryz.func38, Tryz.ntmps38
      go_wp2_with (first | (go_at_call 59; refine (HR.out _).mono ?_; rintro e w1 ⟨rfl, hb1⟩; have HV := Lib.hid ((res_of hb1).below (alX w1 (.cells #[.int .u16 b, .int .u16 l] 32))); have HN := Lib.hid (heap_alloc_new w1 (.cells #[.int .u16 b, .int .u16 l] 32)); clear hb1) | (go_at_call 23; refine (HC.out _).mono ?_; rintro e w2 ⟨rfl, hb2⟩; have HV2 := Lib.hid (HV.out.below hb2); obtain ⟨z0, z1, g0, g1, hz⟩ := HV2.out.res; have hn := (hb2.block _ (by simp)).trans HN.out; have c0 := cell_of_row _ _ 0 _ _ _ hn; have c1 := cell_of_row _ _ 1 _ _ _ hn; clear hn hb2))
      have hx := HV2.out.outs (.int .u16 0) (.int .u16 0)
      refine bodyPost_ret (v := .tuple #[Rv 0 0, .iface 48 (.int .i64 11)]) (by simp [results, Tryz.results38, go_sem, Rv, hx.2.1, hx.2.2.1]) rfl ⟨by simp [prs, HM.out]; rfl, hx.2.2.2⟩
    · have HC := Lib.hid (fun w => check_ok b l hm w)
      unfold Rv at HC
      have HM := Lib.hid hm
      clear hm hlen
      go_enter Tryz.func38, Tryz.ntmps38
      go_wp2_with (first | (go_at_call 59; refine (HR.out _).mono ?_; rintro e w1 ⟨rfl, hb1⟩; have HV := Lib.hid ((res_of hb1).below (alX w1 (.cells #[.int .u16 b, .int .u16 l] 32))); have HN := Lib.hid (heap_alloc_new w1 (.cells #[.int .u16 b, .int .u16 l] 32)); clear hb1) | (go_at_call 23; refine (HC.out _).mono ?_; rintro e w2 ⟨rfl, hb2⟩; have HV2 := Lib.hid (HV.out.below hb2); obtain ⟨z0, z1, g0, g1, hz⟩ := HV2.out.res; have hn := (hb2.block _ (by simp)).trans HN.out; have c0 := cell_of_row _ _ 0 _ _ _ hn; have c1 := cell_of_row _ _ 1 _ _ _ hn; clear hn hb2))
      have hx := HV2.out.outs (.int .u16 (b : Int)) (.int .u16 (l : Int))
      refine bodyPost_ret (v := .tuple #[Rv b l, .nilIface]) (by simp [results, Tryz.results38, go_sem, Rv, hx.2.1, hx.2.2.1]) rfl ⟨by simp [prs, HM.out]; rfl, hx.2.2.2⟩
end Go.Proofs.YtangbokcdgganaaGreatDoor

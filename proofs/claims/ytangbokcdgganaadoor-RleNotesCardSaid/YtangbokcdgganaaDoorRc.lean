/-
  THE WALKS of rule.digits, Text, Parse, Next. Conditions: the parts are numbers of 16 bits.
-/

import Derived.Test.YtangbokcdgganaaDoorRb
import Derived.Laws.AppendOwn
import Derived.Laws.Cover4
import Derived.Maps.AppendAt
import Derived.OneCell
import Derived.Laws.Concat
import Derived.Deep.DeepCutAuto
import Derived.Laws.OwnMore
namespace Go.Proofs.YtangbokcdgganaaDoor
open Go.RowKit Ru

/-- bytes as a text -/
def str (l : List Nat) : ByteArray := ⟨(l.map UInt8.ofNat).toArray⟩
theorem str_app (a b : List Nat) : str a ++ str b = str (a ++ b) := by
  unfold str
  rw [ByteArray.mk_append_mk, List.map_append]
theorem str_size (l : List Nat) : (str l).size = l.length := by simp [str, ByteArray.size]
theorem lb_str (l : List Nat) (h : ∀ c ∈ l, c < 256) : lb (str l) = l := by
  unfold lb str
  rw [show (l.map UInt8.ofNat).toArray.toList = l.map UInt8.ofNat from rfl, List.map_map]
  rw [List.map_congr_left (g := id)]
  · simp
  · intro c hc
    have := h c hc
    simp
    omega
theorem runes_str : ∀ (l : List Nat) (s : ByteArray), (∀ c ∈ l, c < 128) → (l.map (fun c : Nat => (c : Int))).foldl (fun r n => r ++ Utf8.encode n) s = s ++ str l
  | [], s, _ => by
    show s = s ++ str []
    have : str [] = ByteArray.empty := rfl
    rw [this, ByteArray.append_empty]
  | c :: l, s, h => by
    have hc := h c (List.mem_cons_self ..)
    have e : Utf8.encode (c : Int) = str [c] := by
      have hv : Utf8.valid (c : Int) = true := by unfold Utf8.valid; simp; omega
      unfold Utf8.encode
      simp only [hv, if_true, Int.toNat_natCast]
      rw [if_pos (show c < 128 from hc)]
      rfl
    rw [List.map_cons, List.foldl_cons, e, runes_str l _ (fun x hx => h x (List.mem_cons_of_mem _ hx)), ByteArray.append_assoc, str_app]
    rfl
theorem runesBytes_str (l : List Nat) (h : ∀ c ∈ l, c < 128) : runesBytes (l.map (fun c : Nat => (c : Int))) = str l := by
  unfold runesBytes
  rw [runes_str l _ h, ByteArray.empty_append]
/-- runes in new memory -/
abbrev OwnU (w : World) (B : Nat) (v : Value) (l : List Nat) : Prop := w.ownsRow B 21 1 v l.length (l.map (fun c : Nat => Value.int .i32 (c : Int)))
set_option maxRecDepth 100000 in
theorem info_r : (Tryd.prog.info? 21).map (fun i => (i.zero, i.size, i.bytes)) = some (some (.int .i32 0), 1, 4) := by kernel_rfl
theorem bel_on {A W W' : World} (h : Below A.heap.size A W) (k : Below W.heap.size W W') : Below A.heap.size A W' := h.trans (k.mono h.size)
/-- an error by its number -/
def ev (n : Int) : Value := if n = 0 then .nilIface else .iface 35 (.int .i64 n)
/-- what Parse answers -/
def prs : Option (Nat × Nat) → Nat × Nat × Int
  | none => (0, 0, 3)
  | some (b, l) => if mayR b l then (b, l, 0) else (0, 0, 11)
/-- the answer's variable, not yet written -/
structure ResW (w V : World) : Prop where
  h0 : V.heap[w.heap.size]? = some (.cells #[.int .u16 0, .int .u16 0] 25)
  bl : Below w.heap.size w V
theorem res_of {w V : World} (h : Below (w.alloc (.cells #[.int .u16 0, .int .u16 0] 25)).heap.size (w.alloc (.cells #[.int .u16 0, .int .u16 0] 25)) V) : ResW w V :=
  ⟨(h.block _ (by simp)).trans (heap_alloc_new w _), (alX w _).trans (h.mono (by simp))⟩
theorem ResW.below {w V V' : World} (h : ResW w V) (k : Below V.heap.size V V') : ResW w V' :=
  ⟨(k.block _ (lt_of_block h.h0)).trans h.h0, h.bl.trans (k.mono h.bl.size)⟩
theorem ResW.res {w V : World} (h : ResW w V) : V.cell? ⟨w.heap.size, 0, none⟩ = some (.int .u16 0) ∧ V.cell? ⟨w.heap.size, 1, none⟩ = some (.int .u16 0) ∧ V.frozen? ⟨w.heap.size, 0, none⟩ = false ∧ V.frozen? ⟨w.heap.size, 1, none⟩ = false ∧ w.heap.size < V.heap.size :=
  ⟨cell_of_row _ _ 0 _ _ _ h.h0, cell_of_row _ _ 1 _ _ _ h.h0, frozen_of_row _ _ 0 _ _ h.h0, frozen_of_row _ _ 1 _ _ h.h0, lt_of_block h.h0⟩
theorem ResW.outs {w V : World} (h : ResW w V) (u v : Value) : (V.setCell ⟨w.heap.size, 0, none⟩ u).cell? ⟨w.heap.size, 0, none⟩ = some u ∧ ((V.setCell ⟨w.heap.size, 0, none⟩ u).setCell ⟨w.heap.size, 1, none⟩ v).cell? ⟨w.heap.size, 0, none⟩ = some u ∧ ((V.setCell ⟨w.heap.size, 0, none⟩ u).setCell ⟨w.heap.size, 1, none⟩ v).cell? ⟨w.heap.size, 1, none⟩ = some v ∧ Below w.heap.size w ((V.setCell ⟨w.heap.size, 0, none⟩ u).setCell ⟨w.heap.size, 1, none⟩ v) := by
  have h0 := heap_setCell_same _ _ 0 _ _ u h.h0
  have h1 := heap_setCell_same _ _ 1 _ _ v h0
  exact ⟨cell_of_row _ _ 0 _ _ _ h0, cell_of_row _ _ 0 _ _ _ h1, cell_of_row _ _ 1 _ _ _ h1, (h.bl.setCell (Nat.le_refl _) _).setCell (Nat.le_refl _) _⟩
theorem read_none (s : ByteArray) (h : P (lb s) = none) (w : World) :
    Calls Tryd.prog 29 #[.string s] w fun e w' => (∃ b l : Nat, e = .returned (.tuple #[.agg #[.int .u16 b, .int .u16 l], .bool false])) ∧ Below w.heap.size w w' :=
  (read_any s w).mono fun e w' ⟨he, hb⟩ => ⟨by rw [R_eq, h] at he; exact he, hb⟩
theorem read_some (s : ByteArray) (b l : Nat) (h : P (lb s) = some (b, l)) (w : World) :
    Calls Tryd.prog 29 #[.string s] w fun e w' => e = .returned (.tuple #[.agg #[.int .u16 b, .int .u16 l], .bool true]) ∧ Below w.heap.size w w' :=
  (read_any s w).mono fun e w' ⟨he, hb⟩ => ⟨by rw [R_eq, h] at he; exact he, hb⟩
set_option maxRecDepth 100000 in
theorem parse_any (s : ByteArray) (w : World) :
    Calls Tryd.prog 16 #[.string s] w fun e w' => e = .returned (.tuple #[Rv (prs (P (lb s))).1 (prs (P (lb s))).2.1, ev (prs (P (lb s))).2.2]) ∧ Below w.heap.size w w' := by
  cases hP : P (lb s) with
  | none =>
    have HR := Lib.hid (fun w => read_none s hP w)
    clear hP
    go_enter Tryd.func16, Tryd.ntmps16
    go_wp2_with (go_at_call 29; refine (HR.out _).mono ?_; rintro e w1 ⟨⟨b, l, rfl⟩, hb1⟩; have HV := Lib.hid (res_of hb1); have HW := Lib.hid ((res_of hb1).below (alX w1 (.cells #[.int .u16 b, .int .u16 l] 25))); obtain ⟨z0, z1, g0, g1, hz⟩ := (res_of hb1).res; clear hb1)
    have hx := HV.out.outs (.int .u16 0) (.int .u16 0)
    refine bodyPost_ret (v := .tuple #[Rv 0 0, .iface 35 (.int .i64 3)]) (by simp [results, Tryd.results16, go_sem, Rv, hx.2.1, hx.2.2.1, hz]) rfl ⟨rfl, ?_⟩
    exact hx.2.2.2.alloc hx.2.2.2.size _
  | some q =>
    obtain ⟨b, l⟩ := q
    have hlen := P_len _ b l hP
    have HR := Lib.hid (fun w => read_some s b l hP w)
    clear hP
    cases hm : mayR b l
    · have HC := Lib.hid (fun w => check_bad b l (by omega) (by omega) hm w)
      unfold Rv at HC
      have HM := Lib.hid hm
      clear hm hlen
      go_enter Tryd.func16, Tryd.ntmps16
      go_wp2_with (first | (go_at_call 29; refine (HR.out _).mono ?_; rintro e w1 ⟨rfl, hb1⟩; have HV := Lib.hid ((res_of hb1).below (alX w1 (.cells #[.int .u16 b, .int .u16 l] 25))); have HN := Lib.hid (heap_alloc_new w1 (.cells #[.int .u16 b, .int .u16 l] 25)); clear hb1) | (go_at_call 30; refine (HC.out _).mono ?_; rintro e w2 ⟨rfl, hb2⟩; have HV2 := Lib.hid (HV.out.below hb2); obtain ⟨z0, z1, g0, g1, hz⟩ := HV2.out.res; have hn := (hb2.block _ (by simp)).trans HN.out; have c0 := cell_of_row _ _ 0 _ _ _ hn; have c1 := cell_of_row _ _ 1 _ _ _ hn; clear hn hb2))
      have hx := HV2.out.outs (.int .u16 0) (.int .u16 0)
      refine bodyPost_ret (v := .tuple #[Rv 0 0, .iface 35 (.int .i64 11)]) (by simp [results, Tryd.results16, go_sem, Rv, hx.2.1, hx.2.2.1]) rfl ⟨by simp [prs, HM.out]; rfl, hx.2.2.2⟩
    · have HC := Lib.hid (fun w => check_ok b l hm w)
      unfold Rv at HC
      have HM := Lib.hid hm
      clear hm hlen
      go_enter Tryd.func16, Tryd.ntmps16
      go_wp2_with (first | (go_at_call 29; refine (HR.out _).mono ?_; rintro e w1 ⟨rfl, hb1⟩; have HV := Lib.hid ((res_of hb1).below (alX w1 (.cells #[.int .u16 b, .int .u16 l] 25))); have HN := Lib.hid (heap_alloc_new w1 (.cells #[.int .u16 b, .int .u16 l] 25)); clear hb1) | (go_at_call 30; refine (HC.out _).mono ?_; rintro e w2 ⟨rfl, hb2⟩; have HV2 := Lib.hid (HV.out.below hb2); obtain ⟨z0, z1, g0, g1, hz⟩ := HV2.out.res; have hn := (hb2.block _ (by simp)).trans HN.out; have c0 := cell_of_row _ _ 0 _ _ _ hn; have c1 := cell_of_row _ _ 1 _ _ _ hn; clear hn hb2))
      have hx := HV2.out.outs (.int .u16 (b : Int)) (.int .u16 (l : Int))
      refine bodyPost_ret (v := .tuple #[Rv b l, .nilIface]) (by simp [results, Tryd.results16, go_sem, Rv, hx.2.1, hx.2.2.1]) rfl ⟨by simp [prs, HM.out]; rfl, hx.2.2.2⟩
end Go.Proofs.YtangbokcdgganaaDoor

/-
  THE WALK of freeInTiles. Conditions: the store lies in memory, the library's table as its text lays it; the tiles are there.
-/
import Derived.Test.YtifkhmcdgmnipaaGreatDoorR35
namespace Go.Proofs.YtifkhmcdgmnipaaGreatDoor.Qd
open Ti Ce
def fm (s : Nat) (l : List Cel) (m : Int) : Int := l.foldl (fun a c => min a (dst s 0 c)) m
theorem fm_snoc (s : Nat) (l : List Cel) (c : Cel) (m : Int) : fm s (l ++ [c]) m = min (fm s l m) (dst s 0 c) := by
  unfold fm
  rw [List.foldl_append]
  rfl
theorem fm_is (s : Nat) : ∀ (l : List Cel) (m : Int), (∀ c ∈ l, fm s l m ≤ dst s 0 c) ∧ fm s l m ≤ m ∧ (fm s l m = m ∨ ∃ c ∈ l, dst s 0 c = fm s l m)
  | [], m => ⟨fun c hc => absurd hc List.not_mem_nil, Int.le_refl _, .inl rfl⟩
  | c :: l, m => by
    obtain ⟨h1, h2, h3⟩ := fm_is s l (min m (dst s 0 c))
    have e : fm s (c :: l) m = fm s l (min m (dst s 0 c)) := rfl
    rw [e]
    refine ⟨fun d hd => ?_, by omega, ?_⟩
    · rcases List.mem_cons.1 hd with rfl | hd
      · omega
      · exact h1 d hd
    · rcases h3 with h3 | ⟨d, hd, h3⟩
      · by_cases g : dst s 0 c < m
        · exact .inr ⟨c, by simp, by omega⟩
        · exact .inl (by omega)
      · exact .inr ⟨d, by simp [hd], h3⟩
def tls (L : List Sq) (S : List Int) : List Cel := S.flatMap fun id => tl (at' L id).til
theorem tls_next (L : List Sq) (S : List Int) {i : Nat} {x : Int} (h : S[i]? = some x) : tls L (S.take (i + 1)) = tls L (S.take i) ++ tl (at' L x).til := by
  unfold tls
  rw [List.take_add_one, h, List.flatMap_append]
  simp
theorem tls_mn {L : List Sq} (hi : Inv L) {S : List Int} (h : Fr L 0 S) (s : Nat) : Mn L 0 S s (fm s (tls L S) 8) := by
  obtain ⟨h1, h2, h3⟩ := fm_is s (tls L S) 8
  have hm : ∀ c, c ∈ tls L S ↔ ∃ id ∈ S, c ∈ lst L 0 id := fun c => List.mem_flatMap
  obtain ⟨id, hid⟩ := List.exists_mem_of_ne_nil _ h.ne
  obtain ⟨c, hc⟩ := (cnt_pos hi (h.lv id hid)).1 (h.cn id hid)
  refine ⟨?_, fun id hid c hc => h1 c ((hm c).2 ⟨id, hid, hc⟩)⟩
  rcases h3 with h3 | ⟨d, hd, h3⟩
  · have h4 := h1 c ((hm c).2 ⟨id, hid, hc⟩)
    have h5 := (dst_in (s := s) hi (h.lv id hid) hc).2
    rw [h3] at h4
    have : ((2 ^ (0 + 3) : Nat) : Int) = 8 := by decide
    omega
  · obtain ⟨id, hid, hd⟩ := (hm d).1 hd
    exact ⟨id, hid, d, hd, h3⟩
end Go.Proofs.YtifkhmcdgmnipaaGreatDoor.Qd
namespace Go.Proofs.YtifkhmcdgmnipaaGreatDoor
open Go.RowKit Ti Qd Ce Cl Go.Maps Go.WideMaps

abbrev in1 (x : Int) : Obj := .cells #[.int .i64 x] 3
/-- the least so far -/
def If (s g8 g5 : Nat) (pre : List Cel) (W : World) (F : Nat → Prop) : Prop :=
  W.heap[g8]? = some (in1 (fm s pre 8)) ∧ W.heap[g5]? = some (in1 (s : Int)) ∧ ¬ g8 = g5 ∧ F = fun b => b = g8 ∨ b = g5
theorem far_cell {w : World} {g : Nat} {c : Cel} {T : TypeId} (h : w.heap[g]? = some (.cells #[.int .i64 c.1, .int .i64 c.2, .int .i64 (7 - c.1), .int .i64 (7 - c.2)] T (0, 0))) {s : Nat} (hs : s < 4) : w.cell? ⟨g, s, none⟩ = some (.int .i64 (dst s 0 c)) := by
  have h4 : s = 0 ∨ s = 1 ∨ s = 2 ∨ s = 3 := by omega
  rcases h4 with rfl | rfl | rfl | rfl <;> (rw [cell_of_row w g _ _ _ _ h]; rfl)
set_option maxRecDepth 100000 in
set_option maxHeartbeats 2000000 in
theorem free1_ok (s g8 g5 : Nat) (hs : s < 4) (pre : List Cel) (c : Cel) (w : World) (F : Nat → Prop) (hc : SmC 8 c) (hI : If s g8 g5 pre w F) :
    Calls Tryz.prog 70 #[cv c, .pointer (some ⟨g8, 0, none⟩), .pointer (some ⟨g5, 0, none⟩)] w fun e w' => e = .returned (.tuple #[]) ∧ ∃ F', If s g8 g5 (pre ++ [c]) w' F' ∧ Stp w F w' F' := by
  obtain ⟨h8, h5, hne, rfl⟩ := hI
  unfold SmC at hc
  have e1 : IntKind.i64.wrap (7 - c.1) = 7 - c.1 := IntWalk.i64_in _ (by omega)
  have e2 : IntKind.i64.wrap (7 - c.2) = 7 - c.2 := IntWalk.i64_in _ (by omega)
  have s0 : (0 : Int) ≤ (s : Int) := by omega
  have s4 : (s : Int) < 4 := by omega
  have hb2 : Below w.heap.size w ((w.alloc (ca2 c)).alloc (.cells #[.int .i64 c.1, .int .i64 c.2, .int .i64 (7 - c.1), .int .i64 (7 - c.2)] 43)) := (alX w _).trans ((alX _ _).mono (by simp))
  have HA := Lib.hid (And.intro hb2 (And.intro (row_keep h8 hb2 (Nat.le_refl _)) (row_keep h5 hb2 (Nat.le_refl _))))
  have hf := heap_alloc_new (w.alloc (ca2 c)) (.cells #[.int .i64 c.1, .int .i64 c.2, .int .i64 (7 - c.1), .int .i64 (7 - c.2)] 43)
  rw [World.size_alloc] at hf
  have HF := Lib.hid (And.intro hf (And.intro hne (And.intro hs (lt_of_block h8))))
  have HSN := Lib.hid (fm_snoc s pre c 8)
  have hd := far_cell hf hs
  clear h8 h5 hne hb2 hf hs
  have HD := Lib.hid hd
  clear hd
  obtain ⟨cx, cy⟩ := c
  unfold cv at *
  simp only at e1 e2 hc
  go_enter Tryz.func70, Tryz.ntmps70
  go_upto_region 2 with (fail)
  simp only at HA HD HF
  generalize World.alloc _ _ = W at HA HD HF ⊢
  obtain ⟨c8, f8⟩ := row_cl1 HA.out.2.1
  obtain ⟨c5, _⟩ := row_cl1 HA.out.2.2
  have cd := HD.out
  generalize dst s 0 (cx, cy) = d at *
  generalize fm s pre 8 = m at *
  go_region
  all_goals go_end0
  all_goals
    have h8 := HA.out.2.1
    have hb := HA.out.1
    refine ⟨rfl, _, ⟨?_, ?_, HF.out.2.1, rfl⟩, hb.os, hb.tape, hb.output, Nat.le_trans hb.size (by simp), fun k hk hn => ?_, fun k hk => .inl hk⟩
    · rw [HSN.out]
      exact row_set1 h8 _
    · exact (Below.heap_setCell W ⟨g8, 0, none⟩ _ _ (fun e => HF.out.2.1 e.symm)).trans HA.out.2.2
    · exact (Below.heap_setCell W ⟨g8, 0, none⟩ _ _ (fun e => hn (.inl e))).trans (hb.block k hk)
theorem free_tk (s g8 g5 : Nat) (hs : s < 4) (N : Nat) : Tk N 8 70 #[] #[.pointer (some ⟨g8, 0, none⟩), .pointer (some ⟨g5, 0, none⟩)] (If s g8 g5) where
  enter := enter_run Tryz.func70 (by kernel_rfl) (by kernel_rfl)
  lt := by
    rintro pre w F ⟨h1, h2, h3, rfl⟩ b (rfl | rfl)
    · exact lt_of_block h1
    · exact lt_of_block h2
  up := by
    rintro pre w w' F ⟨h1, h2, h3, rfl⟩ _ hb
    exact ⟨(hb g8 (.inl rfl)).trans h1, (hb g5 (.inr rfl)).trans h2, h3, rfl⟩
  call := fun pre c w F _ hc hI => free1_ok s g8 g5 hs pre c w F hc hI
set_option maxRecDepth 100000 in
set_option maxHeartbeats 4000000 in
theorem freeTiles_ok {B P : Nat} {L : List Sq} {room : Nat} {H : Nat → Prop} {w : World} (hs : St B w P L room H) (hT : TabZ w) (S : List Int) (hS : Fr L 0 S) (s : Nat) (hs4 : s < 4) (v : Value) (hv : Lyi w v S) :
    Calls Tryz.prog 45 #[.pointer (some ⟨P, 0, none⟩), v, .int .i64 (s : Int)] w fun e w' => ∃ d, e = .returned (.tuple #[.int .i64 d, .nilIface]) ∧ Mn L 0 S s d ∧ Below w.heap.size w w' := by
  obtain ⟨a, cap, rfl, hls⟩ := id hv
  have HV := Lib.hid (fun (W : World) (hb : Below w.heap.size w W) => (show ∀ i x, S[i]? = some x → ∃ b off, a = some ⟨b, off, none⟩ ∧ W.cell? ⟨b, off + i, none⟩ = some (.int .i64 x) from by
    obtain ⟨a2, cap2, e, h⟩ := hv.below hb (Nat.le_refl _)
    cases e
    exact h))
  have hlen : S.length ≤ 65536 := Nat.le_trans hS.len hs.small
  have HS := Lib.hid (And.intro hs (And.intro hT (And.intro hS.lv hlen)))
  have HK := Lib.hid (fun (N g8 g5 : Nat) => free_tk s g8 g5 hs4 N)
  have e8 : (w.alloc (in1 (s : Int))).heap.size = w.heap.size + 1 := by simp
  have h8 := heap_alloc_new (w.alloc (in1 (s : Int))) (in1 8)
  rw [e8] at h8
  have hb0 : Below w.heap.size w ((w.alloc (in1 (s : Int))).alloc (in1 8)) := (alX w _).trans ((alX _ _).mono (by simp))
  have HI0 := Lib.hid (And.intro (show If s (w.heap.size + 1) w.heap.size (tls L (S.take 0)) ((w.alloc (in1 (s : Int))).alloc (in1 8)) (fun b => b = w.heap.size + 1 ∨ b = w.heap.size) from ⟨h8, row_keep (heap_alloc_new w (in1 (s : Int))) (alX _ (in1 8)) (Nat.le_refl _), by omega, rfl⟩) hb0)
  have HMN := Lib.hid (tls_mn hs.inv hS s)
  have HTK := Lib.hid (show S.take S.length = S from List.take_length ..)
  have HGET := Lib.hid (fun k (hk : k < S.length) => (⟨S[k], List.getElem?_eq_getElem hk⟩ : ∃ x, S[k]? = some x))
  clear hs hS hv hls hs4 hT e8 h8 hb0 hlen
  generalize hm : S.length = m at *
  go_enter Tryz.func45, Tryz.ntmps45
  go_wp2_with fail
  go_loopw [15] (fun i wr => ∃ k : Nat, k ≤ m ∧ i = .int .i64 (k : Int) ∧ Hid (If s (w.heap.size + 1) w.heap.size (tls L (S.take k)) wr (fun b => b = w.heap.size + 1 ∨ b = w.heap.size) ∧ Below w.heap.size w wr)) (fun i _ => m - (intOf i).toNat)
  case atStart => exact ⟨0, by omega, rfl, HI0⟩
  case round =>
    clear HI0
    obtain ⟨k, hk, rfl, HL⟩ := hrel
    have k0 : (0 : Int) ≤ (k : Int) := by omega
    by_cases hlt : k < m
    · have k1 : (k : Int) < (m : Int) := by omega
      obtain ⟨x, hx⟩ := HGET.out k hlt
      obtain ⟨b, off, rfl, hc⟩ := HV.out wr HL.out.2 k x hx
      have hlx := HS.out.2.2.1 x (List.mem_of_getElem? hx)
      have HTI := Lib.hid (tile_ok (HS.out.1.below HL.out.2 (Nat.le_refl _)) x hlx (at' L x).til rfl)
      have HX := Lib.hid (And.intro (tls_next L S hx) (And.intro hlt (wrap_k hlt HS.out.2.2.2)))
      clear hx hlt hlx
      go_wp2_with fail
      refine HTI.out.mono ?_
      rintro e w1 ⟨rfl, hb⟩
      have HL1 := Lib.hid (And.intro ((HK.out 0 _ _).below HL.out.1 hb) (HL.out.2.trans (hb.mono HL.out.2.size)))
      have HEO := Lib.hid (eachOf_ok (HK.out ((tls L (S.take k)).length + (tl (at' L x).til).length) (w.heap.size + 1) w.heap.size) (at' L x).til _ w1 _ HL1.out.1 (HS.out.2.1.below HL1.out.2) (by have := HS.out.2.1.lt; rintro (g | g) <;> omega) (Nat.le_refl _) (by decide))
      clear hb HTI HL hc
      go_wp2_with fail
      refine HEO.out.mono ?_
      rintro e w2 ⟨rfl, F2, hI2, hs2⟩
      have HL2 := Lib.hid (show If s (w.heap.size + 1) w.heap.size (tls L (S.take (k + 1))) w2 (fun b => b = w.heap.size + 1 ∨ b = w.heap.size) ∧ Below w.heap.size w w2 from by
        obtain ⟨q1, q2, q3, rfl⟩ := hI2
        rw [HX.out.1]
        exact ⟨⟨q1, q2, q3, rfl⟩, HL1.out.2.trans (hs2.below (fun b hb => by rcases hb with rfl | rfl <;> omega) HL1.out.2.size)⟩)
      clear hI2 hs2 HEO HL1
      go_wp2
      go_roundw
      case rel => exact ⟨k + 1, by have := HX.out.2.1; omega, by rw [HX.out.2.2]; rfl, HL2⟩
      case measure =>
        show m - (intOf (Value.int .i64 (wrap64 ((k : Int) + 1)))).toNat < m - (intOf (Value.int .i64 (k : Int))).toNat
        rw [HX.out.2.2]
        exact meas_k HX.out.2.1
    · obtain rfl : k = m := by omega
      rw [HTK.out] at HL
      obtain ⟨c8, _⟩ := row_cl1 HL.out.1.1
      go_wp2
      go_ret2
      exact ⟨_, rfl, HMN.out, HL.out.2⟩
end Go.Proofs.YtifkhmcdgmnipaaGreatDoor

/-
  THE WALK of the pool's New. Conditions: the number of frames is one that can be.
  THE DOCUMENT'S OWN MARK, and bytes as texts. Conditions: those that each lemma names.
-/
import Derived.Test.YtlfkkakohldgnaaGreatDoorN19
import Derived.Test.YtlfkkakohldgnaaGreatDoorN12
namespace Go.Proofs.YtlfkkakohldgnaaGreatDoor
open Go.RowKit Go.Maps

set_option maxRecDepth 100000 in
theorem newp_no (d : Value) (m : Int) (w : World) (hd : d = .pointer none ∨ ((∃ D, d = .pointer (some ⟨D, 0, none⟩)) ∧ (m < 1 ∨ 1024 < m))) :
    Calls Tryz.prog 72 #[d, .int .i64 m] w fun e w' => e = .returned (.tuple #[.pointer none, .iface 78 (.int .i64 1)]) ∧ w = w' := by
  rcases hd with rfl | ⟨⟨D, rfl⟩, h | h⟩
  · go_enter Tryz.func72, Tryz.ntmps72
    go_wp2
    go_ret2
    exact ⟨rfl, rfl⟩
  · go_enter Tryz.func72, Tryz.ntmps72
    go_wp2
    go_ret2
    exact ⟨rfl, rfl⟩
  · have h2 : ¬ m < 1 := by omega
    go_enter Tryz.func72, Tryz.ntmps72
    go_wp2
    go_ret2
    exact ⟨rfl, rfl⟩
def Px.fresh (d : Dk) (m : Nat) : Px := ⟨d, m, 0, fun _ => Fr.new (-1), 0, 0⟩
theorem fresh_ok {d : Dk} {m N : Nat} (h1 : 1 ≤ m) (h2 : m ≤ 1024) (hn : d.n ≤ 16384) (w0 : 0 ≤ d.writes) (wN : d.writes ≤ N) : (Px.fresh d m).Ok N :=
  ⟨h1, h2, Nat.zero_le _, h1, hn, fun k hk => absurd hk (Nat.not_lt_zero _), fun j k hj => absurd hj (Nat.not_lt_zero _), fun _ _ => rfl, fun _ => .inr ⟨rfl, rfl⟩, fun _ => Nat.zero_le _, w0, wN, Int.le_refl _, by show (0 : Int) ≤ N; omega⟩
def NewPAt (B N : Nat) (w : World) (s : St) (d : Dk) (m : Nat) (e : Ending) (w' : World) : Prop :=
  ∃ μ, e = .returned (.tuple #[.pointer (some ⟨μ.P, 0, none⟩), .nilIface]) ∧ PoolAt B N w' μ ∧ μ.s = s ∧ μ.X = Px.fresh d m ∧ Below w.heap.size w w' ∧ ∀ b, μ.all b → s.has b ∨ w.heap.size ≤ b
theorem made_pool {B N : Nat} {w w1 w' : World} {s : St} {d : Dk} {m G : Nat} {P M : Nat} (hd : DiskAt B w s) (ht : Tie s d) (h1 : 1 ≤ m) (h2 : m ≤ 1024) (w0 : 0 ≤ d.writes) (wN : d.writes ≤ N)
    (hG : w1.heap[G]? = some (.cells (rw5 m m).toArray 173 (0, 0))) (hGl : w.heap.size ≤ G) (hb1 : Below w.heap.size w w1) (hM : M = w1.heap.size) (hP : P = w1.heap.size + 1)
    (hw : w' = (w1.alloc (.map #[] 0)).alloc (.cells #[.pointer (some ⟨s.D, 0, none⟩), .slice (some ⟨G, 0, none⟩) m m, .map (some M), .int .i64 0, .int .i64 0] 175)) :
    NewPAt B N w s d m (.returned (.tuple #[.pointer (some ⟨P, 0, none⟩), .nilIface])) w' := by
  have hGlt : G < w1.heap.size := (Array.getElem?_eq_some_iff.1 hG).1
  have hb2 : Below w.heap.size w w' := by
    rw [hw]
    exact (hb1.alloc hb1.size _).alloc (by have := hb1.size; simp; omega) _
  have eG : w'.heap[G]? = w1.heap[G]? := by
    rw [hw, Below.heap_alloc _ _ _ (by simp; omega), Below.heap_alloc _ _ _ hGlt]
  have eP : w'.heap[P]? = some (.cells #[.pointer (some ⟨s.D, 0, none⟩), .slice (some ⟨G, 0, none⟩) m m, .map (some M), .int .i64 0, .int .i64 0] 175 (0, 0)) := by
    rw [hw, hP]
    have := heap_alloc_new (w1.alloc (.map #[] 0)) (.cells #[.pointer (some ⟨s.D, 0, none⟩), .slice (some ⟨G, 0, none⟩) m m, .map (some M), .int .i64 0, .int .i64 0] 175)
    simpa using this
  have hB : B ≤ w.heap.size := Nat.le_trans hd.ok.bD (Nat.le_of_lt (hd.lt _ (.inl rfl)).2)
  have hsl : ∀ b, s.has b → b < w.heap.size := fun b hb => (hd.lt b hb).2
  have hs1 := hb1.size
  refine ⟨⟨P, G, M, s, Px.fresh d m, fun _ => none, fun _ => 0, .map []⟩, rfl, ⟨⟨hd.below hb2, ht, ⟨by show B ≤ P; omega, by show B ≤ G; omega, by show B ≤ M; omega, by show P ≠ G; omega, by show P ≠ M; omega, by show G ≠ M; omega, fun q => ?_, fun q => ?_, fun q => ?_⟩, ⟨cell_of_row _ _ _ _ _ _ eP, cell_of_row _ _ _ _ _ _ eP, cell_of_row _ _ _ _ _ _ eP, cell_of_row _ _ _ _ _ _ eP, cell_of_row _ _ _ _ _ _ eP, fun i => frozen_of_row _ _ _ _ _ eP⟩, ⟨fun k hk j hj => ?_, fun i => frozen_of_row _ _ _ _ _ (eG.trans hG), ?_⟩, ⟨fun k _ i hi => absurd hi (by simp [Px.fresh, Fr.new, nums]), fun k _ b off e => (by cases e), fun k _ => Nat.le_refl _⟩, fresh_ok h1 h2 (by rw [ht.n]; exact hd.ok.n1) w0 wN⟩, (by rw [hw, hM]; exact (World.ownsMap_made w1 _ _ _).alloc _), ⟨tidy_empty, fun i => ⟨fun q => (by simp [Maps.has] at q), fun ⟨k, hk, _⟩ => absurd hk (Nat.not_lt_zero _)⟩, fun k hk => absurd hk (Nat.not_lt_zero _), rfl⟩⟩, rfl, rfl, hb2, fun b hb => ?_⟩
  · have : P < w.heap.size := hsl _ q
    omega
  · have : G < w.heap.size := hsl _ q
    omega
  · have : M < w.heap.size := hsl _ q
    omega
  · show w'.cell? ⟨G, k * 5 + j, none⟩ = some (fv (Fr.new (-1)) none 0 j)
    have hk' : k < m := hk
    rw [cell_of_row _ _ _ _ _ _ (eG.trans hG)]
    have := rw5_get m m (k * 5 + j) (by omega)
    rw [decide_eq_true (by omega), show (k * 5 + j) % 5 = j by omega] at this
    show (rw5 m m).toArray[k * 5 + j]? = some (fz true j)
    simpa using this
  · show G < w'.heap.size
    have := hb2.size
    rw [hw]; simp; omega
  · rcases hb with (q | q | q | q) | ⟨k, off, _, e⟩
    · right; rw [q]; show w.heap.size ≤ P; omega
    · right; rw [q]; exact hGl
    · right; rw [q]; show w.heap.size ≤ M; omega
    · exact .inl q
    · cases e
set_option maxRecDepth 100000 in
set_option maxHeartbeats 1000000 in
theorem newp_any {B N : Nat} (s : St) (d : Dk) (m : Nat) (w : World) (hd : DiskAt B w s) (ht : Tie s d) (h1 : 1 ≤ m) (h2 : m ≤ 1024) (w0 : 0 ≤ d.writes) (wN : d.writes ≤ N) :
    Calls Tryz.prog 72 #[.pointer (some ⟨s.D, 0, none⟩), .int .i64 (m : Int)] w (NewPAt B N w s d m) := by
  have m0 : ¬ (m : Int) < 1 := by omega
  have m1 : ¬ (1024 : Int) < (m : Int) := by omega
  have hmm := @run_makeMap Tryz.prog
  have HD := Lib.hid hd
  have HT := Lib.hid ht
  have HW0 := Lib.hid w0
  have HWN := Lib.hid wN
  have HB0 := Lib.hid ((Below.refl w.heap.size w).alloc (Nat.le_refl _) (.cells #[.int .i64 (-1), .slice none 0 0, .bool false, .bool false, .int .i64 0] 173))
  have HR := Lib.hid (repeat_any w.heap.size 1 m (w.alloc (.cells #[.int .i64 (-1), .slice none 0 0, .bool false, .bool false, .int .i64 0] 173)) h1 h2 (fun j v e => by
    have hj : j < 5 := by have := (List.getElem?_eq_some_iff.1 e).1; rw [rw5_len] at this; omega
    rw [Addr.add_mid, Nat.zero_add, cell_of_row _ _ _ _ _ _ (heap_alloc_new _ _)]
    rw [rw5_get _ _ _ (by omega)] at e
    match j, hj with
    | 0, _ => exact e
    | 1, _ => exact e
    | 2, _ => exact e
    | 3, _ => exact e
    | 4, _ => exact e) (by simp))
  clear hd ht w0 wN
  go_enter Tryz.func72, Tryz.ntmps72
  go_wp2_with (go_at_call 102; refine HR.out.mono ?_; rintro e w1 ⟨G, rfl, hG, hGl, hb⟩; have HG := Lib.hid hG; have HGL := Lib.hid hGl; have HB := Lib.hid hb; clear hG hGl hb)
  go_ret2
  have hb1 : Below w.heap.size w w1 := HB0.out.trans (HB.out.mono (by simp))
  refine made_pool HD.out HT.out h1 h2 HW0.out HWN.out HG.out (by have := HGL.out; simp at this; omega) hb1 rfl rfl ?_
  rfl
end Go.Proofs.YtlfkkakohldgnaaGreatDoor
namespace Go.Proofs.YtlfkkakohldgnaaGreatDoor.Sm
open Go.RowKit Crc

theorem str_inj {xs ys : List Int} (hx : Byte xs) (hy : Byte ys) (h : (strOfNums xs).data.toList = (strOfNums ys).data.toList) : xs = ys := by
  rw [strOfNums_data, strOfNums_data] at h
  have hl := congrArg List.length h
  simp only [List.length_map] at hl
  apply List.ext_getElem hl
  intro i h1 h2
  have e : (xs.map fun n => UInt8.ofNat n.toNat)[i]? = (ys.map fun n => UInt8.ofNat n.toNat)[i]? := by rw [h]
  rw [List.getElem?_map, List.getElem?_map, List.getElem?_eq_getElem h1, List.getElem?_eq_getElem h2] at e
  simp only [Option.map_some, Option.some.injEq] at e
  have a := hx i h1
  have b := hy i h2
  have e2 := congrArg UInt8.toNat e
  simp only [UInt8.toNat_ofNat'] at e2
  omega
theorem good_same {xs : List Int} (hb : Byte xs) (h4 : 4 ≤ xs.length) (hg : isGood xs = true) : mkd xs = xs := by
  obtain ⟨ys, t0, t1, t2, t3, rfl⟩ := four_last xs h4
  have g0 := hb ys.length (by simp)
  have g1 := hb (ys.length + 1) (by simp)
  have g2 := hb (ys.length + 2) (by simp)
  have g3 := hb (ys.length + 3) (by simp)
  simp at g0 g1 g2 g3
  rw [← four_good ys t0 t1 t2 t3 g0 g1 g2 g3] at hg
  simp only [Four, Bool.and_eq_true, beq_iff_eq] at hg
  obtain ⟨e0, e1, e2, e3⟩ := hg
  have hl : (ys ++ [t0, t1, t2, t3]).length - 4 = ys.length := by simp
  unfold mkd
  rw [hl, List.take_left']
  · unfold mk tls
    rw [← e0, ← e1, ← e2, ← e3]
  · rfl
theorem good_str {xs : List Int} (hb : Byte xs) (h4 : 4 ≤ xs.length) : ((strOfNums (mkd xs)).toList == (strOfNums xs).toList) = isGood xs := by
  rw [ByteArray.toList_eq, ByteArray.toList_eq]
  cases hg : isGood xs
  · rw [beq_eq_false_iff_ne]
    intro e
    have := str_inj (byte_mkd hb) hb e
    rw [← this, good_mkd] at hg
    cases hg
  · rw [good_same hb h4 hg]
    exact beq_self_eq_true _

/-- the document's own Mark: the marked bytes, in new memory -/
def RefMarked (w : World) (xs : List Int) (n : Nat) (e : Ending) (w' : World) : Prop :=
  ∃ ao cap, e = .returned (.tuple #[.slice ao n cap, .int .i64 0]) ∧ Lies w' ao (mkd xs) ∧ Below w.heap.size w w'
theorem tls_get (ys : List Int) (k : Nat) (hk : k < 4) : (tls ys)[k]? = some (rg (tb (more 0#32 ys) k)) := by
  match k, hk with
  | 0, _ => rfl
  | 1, _ => rfl
  | 2, _ => rfl
  | 3, _ => rfl
theorem ref_next (ys : List Int) (k : Nat) (hk : k < 4) : bl (ys ++ (tls ys).take k) ++ [Value.int .u8 (rg (more 0#32 ys >>> (8 * k)) % 256)] = bl (ys ++ (tls ys).take (k + 1)) := by
  have e : rg (more 0#32 ys >>> (8 * k)) % 256 = rg (tb (more 0#32 ys) k) := by rw [← shr_rg, tb_int]
  have hl : k < (tls ys).length := hk
  have e2 : (tls ys)[k] = rg (tb (more 0#32 ys) k) := by
    have := tls_get ys k hk
    rw [List.getElem?_eq_getElem hl] at this
    exact Option.some.inj this
  rw [e, List.take_succ_eq_append_getElem hl, e2]
  simp [bl]
theorem shr8 (x : BitVec 32) (k : Nat) : rg (x >>> (8 * k)) / (256 : Int) = rg (x >>> (8 * (k + 1))) := by
  have h := shr_rg (x >>> (8 * k)) 8
  have e : 8 * (k + 1) = 8 * k + 8 := by omega
  rw [e, BitVec.shiftRight_add, ← h]
  rfl

set_option maxRecDepth 100000 in
set_option maxHeartbeats 1000000 in
theorem refmark_any (b off c n : Nat) (xs : List Int) (w : World) (hn : xs.length = n) (h4 : 4 ≤ n) (hx : Lies w (some ⟨b, off, none⟩) xs) (hm : n ≤ 3000) (hc : n ≤ c) :
    Calls Tryz.prog 68 #[.slice (some ⟨b, off, none⟩) n c] w (RefMarked w xs n) := by
  have hty : (xs.take (n - 4)).length = n - 4 := by rw [List.length_take]; omega
  obtain ⟨i0, hi, hz0, hz1, hz2⟩ := info_parts info_b
  have HI := Lib.hid hi
  have HI0 := Lib.hid hz0
  have HI1 := Lib.hid hz1
  have HI2 := Lib.hid hz2
  have HT := Lib.hid hty
  have HN := Lib.hid hn
  have HY := Lib.hid (hx.take (n - 4))
  have HBX := Lib.hid hx.byte
  have k0 : (0 : Int) ≤ (n : Int) - 4 := by omega
  have k1 : (n : Int) - 4 ≤ (c : Int) := by omega
  have E4 := Lib.hid (show ((n : Int) - 4).toNat = n - 4 by omega)
  clear hi hz0 hz1 hz2 hty hn hx
  go_enter Tryz.func68, Tryz.ntmps68
  go_wp2_with (first | (go_at_call 101; refine (ref_0 _ _ _ _ _ HY.out HT.out (by omega)).mono ?_; rintro e w' ⟨rfl, rfl⟩) | (at_builtin; refine wpList_append_own _ rfl (.tmp 18) (.tmp 21) 72 rfl w.heap.size 5 i0 (.int .u8 0) 1 1 Tryz.underlying72 HI.out HI0.out HI1.out HI2.out rfl (by decide) (.slice none 0 0) 0 [] rfl (World.ownsRow_nil _ _ _ _) ⟨b, off, none⟩ (n - 4) c (bl (xs.take (n - 4))) rfl (by rw [bl_len, HT.out, Nat.mul_one]) (bl_lies HY.out) (bl_one _) (by unfold maxLen; omega) (by omega) (Nat.le_refl _) ?_; intro v1 w1 hown hgrow _; simp only [Nat.zero_add, List.nil_append] at hown))
  have HO1 := Lib.hid hown
  have HB1 := Lib.hid ((Below.refl w.heap.size w).grown hgrow (Nat.le_refl _) (fun j hj => by cases hj))
  clear hown hgrow
  have HMK := Lib.hid (show mkd xs = xs.take (n - 4) ++ tls (xs.take (n - 4)) by unfold mkd mk; rw [HN.out])
  have HBY := Lib.hid (show Byte (mkd xs) from byte_mkd HBX.out)
  generalize xs.take (n - 4) = ys at HT HY HO1 HMK ⊢
  go_loopw [5, 6, 7] (fun s v i wr => ∃ k : Nat, k ≤ 4 ∧ i = .int .i64 k ∧ s = .int .u32 (rg (more 0#32 ys >>> (8 * k))) ∧ wr.ownsRow w.heap.size 5 1 v (n - 4 + k) (bl (ys ++ (tls ys).take k)) ∧ Below w.heap.size w wr) (fun _ _ i _ => 4 - (intOf i).toNat)
  case atStart => exact ⟨0, by omega, rfl, by rw [Nat.mul_zero, BitVec.ushiftRight_zero], by rw [List.take_zero, List.append_nil]; exact HO1.out, HB1.out⟩
  case round =>
    obtain ⟨k, hk, rfl, rfl, hown, hb⟩ := hrel
    have HO := Lib.hid hown
    have HB := Lib.hid hb
    clear hown hb
    have hs := rg_bd (more 0#32 ys >>> (8 * k))
    by_cases hlt : k < 4
    · have HN2 := Lib.hid (ref_next ys k hlt)
      have HS := Lib.hid (shr8 (more 0#32 ys) k)
      generalize more 0#32 ys >>> (8 * k) = X at hs HN2 HS ⊢
      have hki : (k : Int) < 4 := by omega
      go_wp2_with (first | (at_builtin; refine wpList_append_own _ rfl (.tmp 27) (.tmp 31) 72 rfl w.heap.size 5 i0 (.int .u8 0) 1 1 Tryz.underlying72 HI.out HI0.out HI1.out HI2.out rfl (by decide) u6 (n - 4 + k) (bl (ys ++ (tls ys).take k)) rfl (HO.out.alloc _) ⟨wr.heap.size, 0, none⟩ 1 1 [Value.int .u8 (rg X % 256)] rfl rfl (cell_one_new _ _ _) (by simp [Value.oneCell']) (by unfold maxLen; omega) (by omega) (by have := HB.out.size; simp; omega) ?_; intro v2 w2 hown hgrow _))
      have HO2 := Lib.hid hown
      have HB2 := Lib.hid ((HB.out.alloc HB.out.size (.cells #[Value.int .u8 (rg X % 256)] 5)).grown hgrow (by have := HB.out.size; simp; omega) (fun j hj => (HO.out.lt j hj).1))
      clear hown hgrow
      go_roundw
      case rel => exact ⟨k + 1, by omega, by go_num, by rw [HS.out], by rw [← HN2.out]; exact HO2.out, HB2.out⟩
      case measure => simp [intOf]; omega
    · obtain rfl : k = 4 := by omega
      have e4 : n - 4 + 4 = n := by omega
      have e5 : ys ++ (tls ys).take 4 = mkd xs := by rw [HMK.out]; rfl
      obtain ⟨ao, cap, rfl, hl, hcp, hq⟩ := own_lies HO.out (by rw [e5]; exact HBY.out)
      rw [e5] at hl
      have HL := Lib.hid hl
      have E := Lib.hid e4
      clear hl e4 e5 hs hcp hq HO
      go_wp2
      go_ret2
      exact ⟨ao, cap, by show Ending.returned (.tuple #[.slice ao (n - 4 + 4) cap, .int .i64 0]) = _; rw [E.out], HL.out, HB.out⟩

theorem refmark_short (a : Option Addr) (n c : Nat) (w : World) (h : n < 4) :
    Calls Tryz.prog 68 #[.slice a n c] w fun e w' => e = .returned (.tuple #[.slice none 0 0, .int .i64 1]) ∧ w = w' := by
  go_enter Tryz.func68, Tryz.ntmps68
  go_wp2
  go_ret2
  exact ⟨rfl, rfl⟩

theorem conv_any {w : World} {a : Option Addr} {n c : Nat} {xs : List Int} (h : Lies w a xs) (hn : xs.length = n) :
    (convert 72 9 (.slice a n c)).run Tryz.prog w = .ok (.string (strOfNums xs)) w := by
  cases a with
  | some x =>
    cases n with
    | zero =>
      obtain rfl : xs = [] := List.eq_nil_of_length_eq_zero hn
      rw [run_convert_bytes_string w 72 9 5 _ 0 c Tryz.underlying72 Tryz.underlying5 Tryz.underlying9]
      rw [run_bytesToString w x 0 c [] (by rfl)]
      rfl
    | succ m =>
      obtain ⟨b, off, ha, _⟩ := h 0 (by omega)
      obtain rfl : x = ⟨b, off, none⟩ := by simpa using ha
      exact conv_lies h hn
  | none =>
    obtain rfl : xs = [] := by
      cases xs with
      | nil => rfl
      | cons x xs =>
        obtain ⟨b, off, ha, _⟩ := h 0 (by simp)
        cases ha
    exact run_convert_bytes_nil w 72 5 Tryz.underlying72 Tryz.underlying5 n c 9 Tryz.underlying9

end Go.Proofs.YtlfkkakohldgnaaGreatDoor.Sm

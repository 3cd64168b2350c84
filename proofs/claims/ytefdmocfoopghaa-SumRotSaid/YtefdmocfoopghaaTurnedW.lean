/-
  THE WALK of the statement on three texts turned by one another. Conditions: what came in could be read.
-/
import Derived.Test.YtefdmocfoopghaaIn
import Derived.Test.YtefdmocfoopghaaNoughtsW
import Derived.Deep.AppendLies
namespace Go.Proofs.Ytefdmocfoopghaa
open Go.RowKit Crc

/-- three bytes turned by one another -/
def x3 (a b c : Int) : Int := bits .xor .u8 (bits .xor .u8 a b) c
def tri (xs ys zs : List Int) (n : Nat) : List Int := (List.range n).map fun i => x3 (xs.getD i 0) (ys.getD i 0) (zs.getD i 0)
theorem tri_len (xs ys zs : List Int) (n : Nat) : (tri xs ys zs n).length = n := by simp [tri]
theorem tri_next (xs ys zs : List Int) (k : Nat) (hx : k < xs.length) (hy : k < ys.length) (hz : k < zs.length) : bl (tri xs ys zs k) ++ [Value.int .u8 (bits .xor .u8 (bits .xor .u8 xs[k] ys[k]) zs[k])] = bl (tri xs ys zs (k + 1)) := by
  simp [bl, tri, List.range_succ, x3, hx, hy, hz]
theorem xor8_b8 (a b : Int) (a0 : 0 ≤ a) (a1 : a < 256) (b0 : 0 ≤ b) (b1 : b < 256) : b8 (bits .xor .u8 a b) = b8 a ^^^ b8 b ∧ 0 ≤ bits .xor .u8 a b ∧ bits .xor .u8 a b < 256 := by
  obtain ⟨A, rfl⟩ := Int.eq_ofNat_of_zero_le a0
  obtain ⟨B, rfl⟩ := Int.eq_ofNat_of_zero_le b0
  have hA : A < 2 ^ 8 := by omega
  have hB : B < 2 ^ 8 := by omega
  have h := u8_xor_nat A B (by omega) (by omega)
  have hlt : A ^^^ B < 2 ^ 8 := Nat.xor_lt_two_pow hA hB
  rw [h]
  refine ⟨?_, by omega, by omega⟩
  unfold b8
  show BitVec.ofInt 32 ((A ^^^ B : Nat) : Int) = BitVec.ofInt 32 ((A : Nat) : Int) ^^^ BitVec.ofInt 32 ((B : Nat) : Int)
  rw [BitVec.ofInt_natCast, BitVec.ofInt_natCast, BitVec.ofInt_natCast]
  apply BitVec.eq_of_toNat_eq
  simp only [BitVec.toNat_ofNat, BitVec.toNat_xor]
  rw [Nat.mod_eq_of_lt (show A ^^^ B < 2 ^ 32 by omega), Nat.mod_eq_of_lt (show A < 2 ^ 32 by omega), Nat.mod_eq_of_lt (show B < 2 ^ 32 by omega)]
theorem x3_b8 {a b c : Int} (ha : 0 ≤ a ∧ a < 256) (hb : 0 ≤ b ∧ b < 256) (hc : 0 ≤ c ∧ c < 256) : b8 (x3 a b c) = b8 a ^^^ b8 b ^^^ b8 c ∧ 0 ≤ x3 a b c ∧ x3 a b c < 256 := by
  have h1 := xor8_b8 a b ha.1 ha.2 hb.1 hb.2
  have h2 := xor8_b8 _ c h1.2.1 h1.2.2 hc.1 hc.2
  rw [h1.1] at h2
  exact h2
theorem getD_byte {xs : List Int} (h : Byte xs) (i : Nat) : 0 ≤ xs.getD i 0 ∧ xs.getD i 0 < 256 := by
  by_cases hi : i < xs.length
  · have := h i hi
    simpa [List.getD_eq_getElem?_getD, hi] using this
  · simp [List.getD_eq_getElem?_getD, hi]
theorem tri_byte {xs ys zs : List Int} (hx : Byte xs) (hy : Byte ys) (hz : Byte zs) (n : Nat) : Byte (tri xs ys zs n) := by
  intro i hi
  simp [tri] at hi ⊢
  have := (x3_b8 (getD_byte hx i) (getD_byte hy i) (getD_byte hz i)).2
  simpa using this
theorem tri_map {xs ys zs : List Int} (hx : Byte xs) (hy : Byte ys) (hz : Byte zs) (n : Nat) (h0 : n ≤ xs.length) (h1 : n ≤ ys.length) (h2 : n ≤ zs.length) :
    (tri xs ys zs n).map b8 = List.zipWith (· ^^^ ·) (List.zipWith (· ^^^ ·) ((xs.take n).map b8) ((ys.take n).map b8)) ((zs.take n).map b8) := by
  apply List.ext_getElem
  · simp [tri]; omega
  · intro i k1 k2
    have hi : i < n := by simpa [tri] using k1
    have := (x3_b8 (getD_byte hx i) (getD_byte hy i) (getD_byte hz i)).1
    simp only [List.getD_eq_getElem?_getD, List.getElem?_eq_getElem (show i < xs.length by omega), List.getElem?_eq_getElem (show i < ys.length by omega), List.getElem?_eq_getElem (show i < zs.length by omega), Option.getD_some] at this
    simp [tri, this, show i < xs.length by omega, show i < ys.length by omega, show i < zs.length by omega]
theorem turned_sum {xs ys zs : List Int} (hx : Byte xs) (hy : Byte ys) (hz : Byte zs) (n : Nat) (h0 : n ≤ xs.length) (h1 : n ≤ ys.length) (h2 : n ≤ zs.length) :
    more 0#32 (xs.take n) ^^^ more 0#32 (ys.take n) ^^^ more 0#32 (zs.take n) = more 0#32 (tri xs ys zs n) := by
  rw [more_zero, more_zero, more_zero, more_zero]
  have e : up ones (tri xs ys zs n) = up ones (xs.take n) ^^^ up ones (ys.take n) ^^^ up ones (zs.take n) := by
    unfold up
    rw [tri_map hx hy hz n h0 h1 h2]
    have l1 : ((xs.take n).map b8).length = ((ys.take n).map b8).length := by simp; omega
    have e1 := upv_lin ones ones _ _ l1
    have l2 : (List.zipWith (· ^^^ ·) ((xs.take n).map b8) ((ys.take n).map b8)).length = ((zs.take n).map b8).length := by simp; omega
    have e2 := upv_lin (ones ^^^ ones) ones _ _ l2
    rw [e1, BitVec.xor_self, BitVec.zero_xor] at e2
    exact e2
  rw [e]
  apply BitVec.eq_of_getLsbD_eq
  intro i hi
  simp only [BitVec.getLsbD_xor, BitVec.getLsbD_not, hi, decide_true, Bool.true_and]
  generalize (up ones (xs.take n)).getLsbD i = p
  generalize (up ones (ys.take n)).getLsbD i = q
  generalize (up ones (zs.take n)).getLsbD i = t
  cases p <;> cases q <;> cases t <;> rfl
theorem own_lies {w : World} {B n : Nat} {v : Value} {xs : List Int} (h : w.ownsRow B 5 1 v n (bl xs)) (hb : Byte xs) : ∃ ao cap, v = .slice ao n cap ∧ Lies w ao xs ∧ n ≤ cap ∧ xs.length = n := by
  obtain ⟨hl, h⟩ := h
  have hn : xs.length = n := by rw [bl_len] at hl; omega
  rcases h with ⟨rfl, h0⟩ | ⟨g, cap, cur, rfl, _, hg, hnc, _, hcs, ht⟩
  · obtain rfl : xs = [] := List.eq_nil_of_length_eq_zero (by omega)
    exact ⟨none, 0, by rw [h0], fun i hi => absurd hi (by simp), by omega, by omega⟩
  · refine ⟨_, cap, rfl, ?_, by omega, hn⟩
    intro i hi
    refine ⟨g, 0, rfl, ?_, (hb i hi).1, (hb i hi).2⟩
    rw [Nat.zero_add, cell_of_row w g i _ _ _ hg]
    have e : (bl xs)[i]? = some (Value.int .u8 xs[i]) := by simp [bl, hi]
    rw [← ht, List.getElem?_take] at e
    have hi' : i < n * 1 := by omega
    rw [if_pos hi'] at e
    simpa using e
theorem sum_n (a : Option Addr) (c n : Nat) (xs : List Int) (w : World) (hx : Lies w a xs) (hn : xs.length = n) (hm : n ≤ 9223372036854775807) :
    Calls Try.prog 10 #[.slice a n c] w fun e w' => e = .returned (.int .u32 (rg (more 0#32 xs))) ∧ w = w' := by
  subst hn
  exact sum_any a c xs w hx hm
theorem min4 (ts : Array TypeId) (t : TypeId) (P : Program) (w : World) (a b c d : Nat) : (Builtin.min_ ts t #[.int .i64 (a : Int), .int .i64 (b : Int), .int .i64 (c : Int), .int .i64 (d : Int)]).run P w = .ok (.int .i64 ((min (min (min a b) c) d : Nat) : Int)) w := by
  simp [Builtin.min_, Builtin.min2]
  omega

set_option maxRecDepth 100000 in
set_option maxHeartbeats 1000000 in
theorem turned_walk (a0 : Option Addr) (len0 cap0 : Nat) (z0 : List Int) (a1 : Option Addr) (len1 cap1 : Nat) (z1 : List Int) (a2 : Option Addr) (len2 cap2 : Nat) (z2 : List Int) (w : World) (w0 : IsRow .u8 w a0 len0 cap0 z0) (w1 : IsRow .u8 w a1 len1 cap1 z1) (w2 : IsRow .u8 w a2 len2 cap2 z2) :
    Calls Try.prog 7 #[.slice a0 len0 cap0, .slice a1 len1 cap1, .slice a2 len2 cap2] w fun e w' => e = .returned (.bool true) ∧ Below w.heap.size w w' := by
  obtain ⟨xs, hx, lx, cx, mx⟩ := isrow_open w0
  obtain ⟨ys, hy, ly, cy, my⟩ := isrow_open w1
  obtain ⟨zs, hz, lz, cz, mz⟩ := isrow_open w2
  obtain ⟨n, hn⟩ : ∃ n : Nat, min (min (min len0 len1) len2) 2000 = n := ⟨_, rfl⟩
  have hn0 : n ≤ len0 := by omega
  have hn1 : n ≤ len1 := by omega
  have hn2 : n ≤ len2 := by omega
  have hn3 : n ≤ 2000 := by omega
  have hmn : ∀ (ts : Array TypeId) (t : TypeId) (w : World), (Builtin.min_ ts t #[.int .i64 (len0 : Int), .int .i64 (len1 : Int), .int .i64 (len2 : Int), .int .i64 2000]).run Try.prog w = .ok (.int .i64 (n : Int)) w := by
    intro ts t w
    have := min4 ts t Try.prog w len0 len1 len2 2000
    rw [hn] at this
    exact this
  have HS := Lib.hid (turned_sum lx.byte ly.byte lz.byte n (by omega) (by omega) (by omega))
  have HD := Lib.hid (tri_byte lx.byte ly.byte lz.byte n)
  have HX := Lib.hid lx
  have HY := Lib.hid ly
  have HZ := Lib.hid lz
  have LX := Lib.hid hx
  have LY := Lib.hid hy
  have LZ := Lib.hid hz
  obtain ⟨i0, hi, hz0, hz1, hz2⟩ := info_parts info_b
  have HI := Lib.hid hi
  have HI0 := Lib.hid hz0
  have HI1 := Lib.hid hz1
  have HI2 := Lib.hid hz2
  clear w0 w1 w2 lx ly lz hn hx hy hz hi hz0 hz1 hz2
  go_enter Try.func7, Try.ntmps7
  go_wp2
  clear hmn
  go_loopw [8, 9] (fun v i wr => ∃ k : Nat, k ≤ n ∧ i = .int .i64 k ∧ wr.ownsRow w.heap.size 5 1 v k (bl (tri xs ys zs k)) ∧ Below w.heap.size w wr) (fun _ i _ => n - (intOf i).toNat)
  case atStart => exact ⟨0, by omega, rfl, World.ownsRow_nil _ _ _ _, Below.refl _ _⟩
  case round =>
    obtain ⟨k, hk, rfl, hown, hb⟩ := hrel
    have HO := Lib.hid hown
    have HB := Lib.hid hb
    clear hown hb
    by_cases hlt : k < n
    · have lx := LX.out
      have ly := LY.out
      have lz := LZ.out
      obtain ⟨bx, ox, rfl, hcx0, x0, x1⟩ := HX.out k (by omega)
      have lxb := World.block_lt_of_cell? w _ hcx0
      have hcx := (HB.out.cell lxb).trans hcx0
      have LxB := Lib.hid lxb
      clear hcx0 lxb
      obtain ⟨by', oy, rfl, hcy0, y0, y1⟩ := HY.out k (by omega)
      have lyb := World.block_lt_of_cell? w _ hcy0
      have hcy := (HB.out.cell lyb).trans hcy0
      have LyB := Lib.hid lyb
      clear hcy0 lyb
      obtain ⟨bz, oz, rfl, hcz0, z0, z1⟩ := HZ.out k (by omega)
      have lzb := World.block_lt_of_cell? w _ hcz0
      have hcz := (HB.out.cell lzb).trans hcz0
      have LzB := Lib.hid lzb
      clear hcz0 lzb
      have HN := Lib.hid (tri_next xs ys zs k (by omega) (by omega) (by omega))
      generalize xs[k] = x at hcx x0 x1 HN
      generalize ys[k] = y at hcy y0 y1 HN
      generalize zs[k] = z at hcz z0 z1 HN
      have hk0 : (k : Int) < (len0 : Int) := by omega
      have hk1 : (k : Int) < (len1 : Int) := by omega
      have hk2 : (k : Int) < (len2 : Int) := by omega
      clear lx ly lz
      go_wp2
      go_region_held3 (fun w' => w'.cell? ⟨bx, ox + k, none⟩ = some (.int .u8 x) ∧ w'.cell? ⟨by', oy + k, none⟩ = some (.int .u8 y) ∧ w'.cell? ⟨bz, oz + k, none⟩ = some (.int .u8 z)) (first | exact ⟨hcx, hcy, hcz⟩ | exact ⟨hx1, hy1, hz1⟩ | go_keep) (first | (refine step_append_lies _ rfl (.tmp 22) (.tmp 37) 22 rfl w.heap.size 5 i0 (.int .u8 0) 1 1 Try.underlying22 HI.out HI0.out HI1.out HI2.out rfl (by decide) u8 k (bl (tri xs ys zs k)) rfl ((HO.out.drew).alloc _) ⟨wr.heap.size, 0, none⟩ 1 1 [Value.int .u8 (bits .xor .u8 (bits .xor .u8 x y) z)] rfl rfl (cell_one_new _ _ _) (by simp [Value.oneCell']) (by decide) (by unfold maxLen; omega) (by omega) (by have := HB.out.size; simp; omega) _ rfl ?_; intro g cap w1 hown hgrow hat hglt; have hB1 := (HB.out.alloc HB.out.size (.cells #[Value.int .u8 (bits .xor .u8 (bits .xor .u8 x y) z)] 5)).drew.grown hgrow (by have := HB.out.size; simp; omega) (fun j hj => (HO.out.lt j hj).1); have hx1 := (hB1.cell LxB.out).trans ((HB.out.cell LxB.out).symm.trans hcx); have hy1 := (hB1.cell LyB.out).trans ((HB.out.cell LyB.out).symm.trans hcy); have hz1 := (hB1.cell LzB.out).trans ((HB.out.cell LzB.out).symm.trans hcz)))
      have HO1 := Lib.hid hown
      have HB1 := Lib.hid hB1
      clear hown hB1 hx1 hy1 hz1 hgrow hat hglt hcx hcy hcz
      go_wp2
      go_roundw
      case rel => exact ⟨k + 1, by omega, by go_num, by rw [← HN.out]; exact HO1.out, HB1.out⟩
      case measure => simp [intOf]; omega
    · obtain rfl : k = n := by omega
      obtain ⟨ao, cap, rfl, hl, hc, _⟩ := own_lies HO.out HD.out
      have HL := Lib.hid hl
      have d0 : (0 : Int) ≤ (k : Int) := by omega
      have dx : (k : Int) ≤ (cap0 : Int) := by omega
      have dy : (k : Int) ≤ (cap1 : Int) := by omega
      have dz : (k : Int) ≤ (cap2 : Int) := by omega
      have SX := Lib.hid ((HX.out.below HB.out).take k)
      have SY := Lib.hid ((HY.out.below HB.out).take k)
      have SZ := Lib.hid ((HZ.out.below HB.out).take k)
      have LT := Lib.hid (tri_len xs ys zs k)
      have q : (bits .xor .u32 (bits .xor .u32 (rg (more 0#32 (xs.take k))) (rg (more 0#32 (ys.take k)))) (rg (more 0#32 (zs.take k))) == rg (more 0#32 (tri xs ys zs k))) = true := by
        rw [xor_rg, xor_rg, HS.out]
        exact beq_self_eq_true _
      clear hl
      go_wp2
      go_region_held3 (fun _ => True) (trivial) (first | (go_at_call_of 10 (Value.slice a0 k cap0); refine (sum_n _ _ _ _ _ SX.out.drew (by rw [List.length_take, LX.out]; omega) (by omega)).mono ?_; rintro e w' ⟨rfl, rfl⟩) | (go_at_call_of 10 (Value.slice a1 k cap1); refine (sum_n _ _ _ _ _ SY.out.drew (by rw [List.length_take, LY.out]; omega) (by omega)).mono ?_; rintro e w' ⟨rfl, rfl⟩) | (go_at_call_of 10 (Value.slice a2 k cap2); refine (sum_n _ _ _ _ _ SZ.out.drew (by rw [List.length_take, LZ.out]; omega) (by omega)).mono ?_; rintro e w' ⟨rfl, rfl⟩) | (go_at_call_of 10 (Value.slice ao k cap); refine (sum_n _ _ _ _ _ HL.out.drew LT.out (by omega)).mono ?_; rintro e w' ⟨rfl, rfl⟩) | (go_at_call 9; refine (sure_any _).mono ?_; rintro e w2 ⟨rfl, hb2⟩))
      all_goals go_wp2
      all_goals go_ret
      all_goals exact ⟨rfl, HB.out.drew.trans (hb2.mono (show w.heap.size ≤ wr.heap.size from HB.out.size))⟩
end Go.Proofs.Ytefdmocfoopghaa

/-
  THE WALK of the pool's New. Conditions: the number of frames is one that can be.
  THE DOCUMENT'S OWN MARK, and bytes as texts. Conditions: those that each lemma names.
  THE POOL's CALLS AS THE STATEMENTS MEET THEM: a pool that was made since the world W, and what has become of it since a world w0. Conditions: those that each lemma names.
-/
import Derived.IntWalk
import Derived.Test.YtlfkkakohldgnaaGreatN19
import Derived.Test.YtlfkkakohldgnaaGreatN12
namespace Go.Proofs.YtlfkkakohldgnaaGreat
open Go.RowKit Go.Maps

set_option maxRecDepth 100000 in
theorem newp_no (d : Value) (m : Int) (w : World) (hd : d = .pointer none ∨ ((∃ D, d = .pointer (some ⟨D, 0, none⟩)) ∧ (m < 1 ∨ 1024 < m))) :
    Calls Tryz.prog 37 #[d, .int .i64 m] w fun e w' => e = .returned (.tuple #[.pointer none, .iface 51 (.int .i64 1)]) ∧ w = w' := by
  rcases hd with rfl | ⟨⟨D, rfl⟩, h | h⟩
  · go_enter Tryz.func37, Tryz.ntmps37
    go_wp2
    go_ret2
    exact ⟨rfl, rfl⟩
  · go_enter Tryz.func37, Tryz.ntmps37
    go_wp2
    go_ret2
    exact ⟨rfl, rfl⟩
  · have h2 : ¬ m < 1 := by omega
    go_enter Tryz.func37, Tryz.ntmps37
    go_wp2
    go_ret2
    exact ⟨rfl, rfl⟩
def Px.fresh (d : Dk) (m : Nat) : Px := ⟨d, m, 0, fun _ => Fr.new (-1), 0, 0⟩
theorem fresh_ok {d : Dk} {m N : Nat} (h1 : 1 ≤ m) (h2 : m ≤ 1024) (hn : d.n ≤ 16384) (w0 : 0 ≤ d.writes) (wN : d.writes ≤ N) : (Px.fresh d m).Ok N :=
  ⟨h1, h2, Nat.zero_le _, h1, hn, fun k hk => absurd hk (Nat.not_lt_zero _), fun j k hj => absurd hj (Nat.not_lt_zero _), fun _ _ => rfl, fun _ => .inr ⟨rfl, rfl⟩, fun _ => Nat.zero_le _, w0, wN, Int.le_refl _, by show (0 : Int) ≤ N; omega⟩
def NewPAt (B N : Nat) (w : World) (s : St) (d : Dk) (m : Nat) (e : Ending) (w' : World) : Prop :=
  ∃ μ, e = .returned (.tuple #[.pointer (some ⟨μ.P, 0, none⟩), .nilIface]) ∧ PoolAt B N w' μ ∧ μ.s = s ∧ μ.X = Px.fresh d m ∧ Below w.heap.size w w' ∧ ∀ b, μ.all b → s.has b ∨ w.heap.size ≤ b
theorem made_pool {B N : Nat} {w w1 w' : World} {s : St} {d : Dk} {m G : Nat} {P M : Nat} (hd : DiskAt B w s) (ht : Tie s d) (h1 : 1 ≤ m) (h2 : m ≤ 1024) (w0 : 0 ≤ d.writes) (wN : d.writes ≤ N)
    (hG : w1.heap[G]? = some (.cells (rw5 m m).toArray 116 (0, 0))) (hGl : w.heap.size ≤ G) (hb1 : Below w.heap.size w w1) (hM : M = w1.heap.size) (hP : P = w1.heap.size + 1)
    (hw : w' = (w1.alloc (.map #[] 0)).alloc (.cells #[.pointer (some ⟨s.D, 0, none⟩), .slice (some ⟨G, 0, none⟩) m m, .map (some M), .int .i64 0, .int .i64 0] 118)) :
    NewPAt B N w s d m (.returned (.tuple #[.pointer (some ⟨P, 0, none⟩), .nilIface])) w' := by
  have hGlt : G < w1.heap.size := (Array.getElem?_eq_some_iff.1 hG).1
  have hb2 : Below w.heap.size w w' := by
    rw [hw]
    exact (hb1.alloc hb1.size _).alloc (by have := hb1.size; simp; omega) _
  have eG : w'.heap[G]? = w1.heap[G]? := by
    rw [hw, Below.heap_alloc _ _ _ (by simp; omega), Below.heap_alloc _ _ _ hGlt]
  have eP : w'.heap[P]? = some (.cells #[.pointer (some ⟨s.D, 0, none⟩), .slice (some ⟨G, 0, none⟩) m m, .map (some M), .int .i64 0, .int .i64 0] 118 (0, 0)) := by
    rw [hw, hP]
    have := heap_alloc_new (w1.alloc (.map #[] 0)) (.cells #[.pointer (some ⟨s.D, 0, none⟩), .slice (some ⟨G, 0, none⟩) m m, .map (some M), .int .i64 0, .int .i64 0] 118)
    simpa using this
  have hB : B ≤ w.heap.size := Nat.le_trans hd.ok.bD (Nat.le_of_lt (hd.lt _ (.inl rfl)).2)
  have hsl : ∀ b, s.has b → b < w.heap.size := fun b hb => (hd.lt b hb).2
  have hs1 := hb1.size
  refine ⟨⟨P, G, M, s, Px.fresh d m, fun _ => none, fun _ => 0, .map []⟩, rfl, ⟨⟨hd.below hb2, ht, ⟨by show B ≤ P; omega, by show B ≤ G; omega, by show B ≤ M; omega, by show P ≠ G; omega, by show P ≠ M; omega, by show G ≠ M; omega, fun q => ?_, fun q => ?_, fun q => ?_⟩, ⟨cell_of_row _ _ _ _ _ _ eP, cell_of_row _ _ _ _ _ _ eP, cell_of_row _ _ _ _ _ _ eP, cell_of_row _ _ _ _ _ _ eP, cell_of_row _ _ _ _ _ _ eP, fun i => frozen_of_row _ _ _ _ _ eP⟩, ⟨fun k hk j hj => ?_, fun i => frozen_of_row _ _ _ _ _ (eG.trans hG), ?_⟩, ⟨fun k _ i hi => absurd hi (by simp [Px.fresh, Fr.new, nums]), fun k _ b off e => (by cases e), fun k _ => Nat.le_refl _⟩, fresh_ok h1 h2 (by rw [ht.n]; exact hd.ok.n1) w0 wN⟩, (by rw [hw, hM]; exact (World.ownsMap_made w1 _ _ _).alloc _), ⟨tidy_empty, fun i => ⟨fun q => (by simp [Maps.has] at q), fun ⟨k, hk, _⟩ => absurd hk (Nat.not_lt_zero _)⟩, fun k hk => absurd hk (Nat.not_lt_zero _), rfl⟩⟩, rfl, rfl, hb2, fun b hb => ?_⟩
  · have : P < w.heap.size := hsl _ q
    omega
  · have : G < w.heap.size := hsl _ q
    omega
  · have : M < w.heap.size := hsl _ q
    omega
  · show w'.cell? ⟨G, k * 5 + j, none⟩ = some (fv (Fr.new (-1)) none 0 j)
    have hk' : k < m := hk
    rw [cell_of_row _ _ _ _ _ _ (eG.trans hG)]
    have := rw5_get m m (k * 5 + j) (by omega)
    rw [decide_eq_true (by omega), show (k * 5 + j) % 5 = j by omega] at this
    show (rw5 m m).toArray[k * 5 + j]? = some (fz true j)
    simpa using this
  · show G < w'.heap.size
    have := hb2.size
    rw [hw]; simp; omega
  · rcases hb with (q | q | q | q) | ⟨k, off, _, e⟩
    · right; rw [q]; show w.heap.size ≤ P; omega
    · right; rw [q]; exact hGl
    · right; rw [q]; show w.heap.size ≤ M; omega
    · exact .inl q
    · cases e
set_option maxRecDepth 100000 in
set_option maxHeartbeats 1000000 in
theorem newp_any {B N : Nat} (s : St) (d : Dk) (m : Nat) (w : World) (hd : DiskAt B w s) (ht : Tie s d) (h1 : 1 ≤ m) (h2 : m ≤ 1024) (w0 : 0 ≤ d.writes) (wN : d.writes ≤ N) :
    Calls Tryz.prog 37 #[.pointer (some ⟨s.D, 0, none⟩), .int .i64 (m : Int)] w (NewPAt B N w s d m) := by
  have m0 : ¬ (m : Int) < 1 := by omega
  have m1 : ¬ (1024 : Int) < (m : Int) := by omega
  have hmm := @run_makeMap Tryz.prog
  have HD := Lib.hid hd
  have HT := Lib.hid ht
  have HW0 := Lib.hid w0
  have HWN := Lib.hid wN
  have HB0 := Lib.hid ((Below.refl w.heap.size w).alloc (Nat.le_refl _) (.cells #[.int .i64 (-1), .slice none 0 0, .bool false, .bool false, .int .i64 0] 116))
  have HR := Lib.hid (repeat_any w.heap.size 1 m (w.alloc (.cells #[.int .i64 (-1), .slice none 0 0, .bool false, .bool false, .int .i64 0] 116)) h1 h2 (fun j v e => by
    have hj : j < 5 := by have := (List.getElem?_eq_some_iff.1 e).1; rw [rw5_len] at this; omega
    rw [Addr.add_mid, Nat.zero_add, cell_of_row _ _ _ _ _ _ (heap_alloc_new _ _)]
    rw [rw5_get _ _ _ (by omega)] at e
    match j, hj with
    | 0, _ => exact e
    | 1, _ => exact e
    | 2, _ => exact e
    | 3, _ => exact e
    | 4, _ => exact e) (by simp))
  clear hd ht w0 wN
  go_enter Tryz.func37, Tryz.ntmps37
  go_wp2_with (go_at_call 59; refine HR.out.mono ?_; rintro e w1 ⟨G, rfl, hG, hGl, hb⟩; have HG := Lib.hid hG; have HGL := Lib.hid hGl; have HB := Lib.hid hb; clear hG hGl hb)
  go_ret2
  have hb1 : Below w.heap.size w w1 := HB0.out.trans (HB.out.mono (by simp))
  refine made_pool HD.out HT.out h1 h2 HW0.out HWN.out HG.out (by have := HGL.out; simp at this; omega) hb1 rfl rfl ?_
  rfl
end Go.Proofs.YtlfkkakohldgnaaGreat
namespace Go.Proofs.YtlfkkakohldgnaaGreat.Sm
open Go.RowKit Crc

theorem str_inj {xs ys : List Int} (hx : Byte xs) (hy : Byte ys) (h : (strOfNums xs).data.toList = (strOfNums ys).data.toList) : xs = ys := by
  rw [strOfNums_data, strOfNums_data] at h
  have hl := congrArg List.length h
  simp only [List.length_map] at hl
  apply List.ext_getElem hl
  intro i h1 h2
  have e : (xs.map fun n => UInt8.ofNat n.toNat)[i]? = (ys.map fun n => UInt8.ofNat n.toNat)[i]? := by rw [h]
  rw [List.getElem?_map, List.getElem?_map, List.getElem?_eq_getElem h1, List.getElem?_eq_getElem h2] at e
  simp only [Option.map_some, Option.some.injEq] at e
  have a := hx i h1
  have b := hy i h2
  have e2 := congrArg UInt8.toNat e
  simp only [UInt8.toNat_ofNat'] at e2
  omega
theorem good_same {xs : List Int} (hb : Byte xs) (h4 : 4 ≤ xs.length) (hg : isGood xs = true) : mkd xs = xs := by
  obtain ⟨ys, t0, t1, t2, t3, rfl⟩ := four_last xs h4
  have g0 := hb ys.length (by simp)
  have g1 := hb (ys.length + 1) (by simp)
  have g2 := hb (ys.length + 2) (by simp)
  have g3 := hb (ys.length + 3) (by simp)
  simp at g0 g1 g2 g3
  rw [← four_good ys t0 t1 t2 t3 g0 g1 g2 g3] at hg
  simp only [Four, Bool.and_eq_true, beq_iff_eq] at hg
  obtain ⟨e0, e1, e2, e3⟩ := hg
  have hl : (ys ++ [t0, t1, t2, t3]).length - 4 = ys.length := by simp
  unfold mkd
  rw [hl, List.take_left']
  · unfold mk tls
    rw [← e0, ← e1, ← e2, ← e3]
  · rfl
theorem good_str {xs : List Int} (hb : Byte xs) (h4 : 4 ≤ xs.length) : ((strOfNums (mkd xs)).toList == (strOfNums xs).toList) = isGood xs := by
  rw [ByteArray.toList_eq, ByteArray.toList_eq]
  cases hg : isGood xs
  · rw [beq_eq_false_iff_ne]
    intro e
    have := str_inj (byte_mkd hb) hb e
    rw [← this, good_mkd] at hg
    cases hg
  · rw [good_same hb h4 hg]
    exact beq_self_eq_true _

/-- the document's own Mark: the marked bytes, in new memory -/
def RefMarked (w : World) (xs : List Int) (n : Nat) (e : Ending) (w' : World) : Prop :=
  ∃ ao cap, e = .returned (.tuple #[.slice ao n cap, .int .i64 0]) ∧ Lies w' ao (mkd xs) ∧ Below w.heap.size w w'
theorem tls_get (ys : List Int) (k : Nat) (hk : k < 4) : (tls ys)[k]? = some (rg (tb (more 0#32 ys) k)) := by
  match k, hk with
  | 0, _ => rfl
  | 1, _ => rfl
  | 2, _ => rfl
  | 3, _ => rfl
theorem ref_next (ys : List Int) (k : Nat) (hk : k < 4) : bl (ys ++ (tls ys).take k) ++ [Value.int .u8 (rg (more 0#32 ys >>> (8 * k)) % 256)] = bl (ys ++ (tls ys).take (k + 1)) := by
  have e : rg (more 0#32 ys >>> (8 * k)) % 256 = rg (tb (more 0#32 ys) k) := by rw [← shr_rg, tb_int]
  have hl : k < (tls ys).length := hk
  have e2 : (tls ys)[k] = rg (tb (more 0#32 ys) k) := by
    have := tls_get ys k hk
    rw [List.getElem?_eq_getElem hl] at this
    exact Option.some.inj this
  rw [e, List.take_succ_eq_append_getElem hl, e2]
  simp [bl]
theorem shr8 (x : BitVec 32) (k : Nat) : rg (x >>> (8 * k)) / (256 : Int) = rg (x >>> (8 * (k + 1))) := by
  have h := shr_rg (x >>> (8 * k)) 8
  have e : 8 * (k + 1) = 8 * k + 8 := by omega
  rw [e, BitVec.shiftRight_add, ← h]
  rfl

theorem conv_any {w : World} {a : Option Addr} {n c : Nat} {xs : List Int} (h : Lies w a xs) (hn : xs.length = n) :
    (convert 48 9 (.slice a n c)).run Tryz.prog w = .ok (.string (strOfNums xs)) w := by
  cases a with
  | some x =>
    cases n with
    | zero =>
      obtain rfl : xs = [] := List.eq_nil_of_length_eq_zero hn
      rw [run_convert_bytes_string w 48 9 5 _ 0 c Tryz.underlying48 Tryz.underlying5 Tryz.underlying9]
      rw [run_bytesToString w x 0 c [] (by rfl)]
      rfl
    | succ m =>
      obtain ⟨b, off, ha, _⟩ := h 0 (by omega)
      obtain rfl : x = ⟨b, off, none⟩ := by simpa using ha
      exact conv_lies h hn
  | none =>
    obtain rfl : xs = [] := by
      cases xs with
      | nil => rfl
      | cons x xs =>
        obtain ⟨b, off, ha, _⟩ := h 0 (by simp)
        cases ha
    exact run_convert_bytes_nil w 48 5 Tryz.underlying48 Tryz.underlying5 n c 9 Tryz.underlying9

end Go.Proofs.YtlfkkakohldgnaaGreat.Sm
namespace Go.Proofs.YtlfkkakohldgnaaGreat
open Go.RowKit Go.Maps

/-! the disk alone -/
theorem DiskAt.mono {B B' : Nat} {w : World} {s : St} (h : DiskAt B w s) (hB : B' ≤ B) : DiskAt B' w s := by
  have o := h.ok
  refine ⟨⟨o.n1, Nat.le_trans hB o.bD, Nat.le_trans hB o.bS, Nat.le_trans hB o.bL, o.DS, o.DL, o.SL, fun i b hi => ⟨Nat.le_trans hB (o.lt i b hi).1, (o.lt i b hi).2⟩, o.inj, o.pD, o.pS, o.pL, o.nd, o.mem, o.lim, o.l0, o.l1, o.us, o.un⟩, h.d0, h.d1, h.d2, h.d3, h.d4, h.dS, h.dL, h.fD, h.cS, h.fS, h.cL, h.fL, ⟨h.p.1, ?_⟩, h.cT, h.fT⟩
  rcases h.p.2 with hn | ⟨g, cap, cur, hv, hg, hh, r⟩
  · exact .inl hn
  · exact .inr ⟨g, cap, cur, hv, Nat.le_trans hB hg, hh, r⟩
def zT : ByteArray := tx fun _ => 0
def Dk.new (n : Nat) : Dk := ⟨n, fun _ => zT, [], 0, -1⟩
theorem fresh_tie {n : Nat} {w w' : World} {s : St} (h : Fresh n w w' s) : Tie s (Dk.new n) := by
  refine ⟨h.n.symm, fun i _ => ?_, h.pend.symm, h.writes.symm, h.left.symm⟩
  show tx (fun _ => 0) = _
  refine tx_congr fun j _ => ?_
  unfold St.cur
  rw [h.late]
  exact (h.sure i j).symm
/-- a disk that was made since the world W -/
def DkN (W w : World) (D : Nat) (d : Dk) (H : Nat → Prop) : Prop := ∃ s, DiskAt W.heap.size w s ∧ Tie s d ∧ s.D = D ∧ H = s.has ∧ Below W.heap.size W w
theorem DkN.below {W w w' : World} {D : Nat} {d : Dk} {H : Nat → Prop} (h : DkN W w D d H) (hb : Below w.heap.size w w') : DkN W w' D d H := by
  obtain ⟨s, h1, h2, h3, h4, h5⟩ := h
  exact ⟨s, h1.below hb, h2, h3, h4, h5.trans (hb.mono h5.size)⟩
theorem DkN.lt {W w : World} {D : Nat} {d : Dk} {H : Nat → Prop} (h : DkN W w D d H) (b : Nat) (hb : H b) : b < w.heap.size := by
  obtain ⟨s, h1, _, _, rfl, _⟩ := h
  exact (h1.lt b hb).2
theorem DkN.b {W w : World} {D : Nat} {d : Dk} {H : Nat → Prop} (h : DkN W w D d H) : Below W.heap.size W w := by
  obtain ⟨s, _, _, _, _, h5⟩ := h
  exact h5
set_option maxRecDepth 100000 in
theorem disk_new {W : World} (n : Nat) (w : World) (hW : Below W.heap.size W w) (h1 : 1 ≤ n) (h2 : n ≤ 16384) :
    Calls Tryz.prog 6 #[.int .i64 n] w fun e w' => ∃ D H, e = .returned (.tuple #[.pointer (some ⟨D, 0, none⟩), .nilIface]) ∧ DkN W w' D (Dk.new n) H ∧ Below w.heap.size w w' :=
  (new_any n w h1 h2).mono fun _ _ ⟨s, he, hf⟩ => ⟨s.D, s.has, he, ⟨s, DiskAt.mono hf.at' hW.size, fresh_tie hf, rfl, rfl, hW.trans (hf.below.mono hW.size)⟩, hf.below⟩
def DkWrote (W w : World) (D : Nat) (d : Dk) (H : Nat → Prop) (e : Ending) (w' : World) : Prop := e = .returned .nilIface ∧ ∃ H', DkN W w' D d H' ∧ Stp w H w' H'
set_option maxRecDepth 100000 in
theorem disk_write {W w : World} {D : Nat} {d : Dk} {H : Nat → Prop} (h : DkN W w D d H) (i : Nat) (b off c : Nat) (t : ByteArray) (hi : i < d.n) (ht : t.size = 512) (hl : Lies w (some ⟨b, off, none⟩) (nums t)) (hb : ¬ H b) (hf : d.left ≠ 0) (w0 : 0 ≤ d.writes) (w1 : d.writes < 4611686018427387904) :
    Calls Tryz.prog 79 #[.pointer (some ⟨D, 0, none⟩), .int .i64 i, .slice (some ⟨b, off, none⟩) 512 c] w (DkWrote W w D (d.wrote i t) H) := by
  obtain ⟨s, hd, htie, rfl, rfl, hB⟩ := h
  refine (write_any s i w b off c (nums t) hd (by rw [← htie.n]; exact hi) hl hb (by rw [nums_len, ht]) (by rw [← htie.left]; exact hf) (by rw [← htie.writes]; exact w0) (by rw [← htie.writes]; exact w1)).mono fun _ _ ⟨he, s', hd', hs, hw⟩ => ⟨he, s'.has, ⟨s', hd', htie.wrote hd.ok hw ht, hw.D, rfl, ?_⟩, ⟨hs.os, hs.tape, hs.output, hs.size, hs.block, hs.own⟩⟩
  exact hB.trans (hs.below hd)

/-! the pool -/
def Pl (W : World) (N : Nat) (w : World) (p D : Nat) (X : Px) (H : Nat → Prop) : Prop := ∃ μ, PoolAt W.heap.size N w μ ∧ μ.P = p ∧ μ.s.D = D ∧ μ.X = X ∧ H = μ.all ∧ Below W.heap.size W w
/-- .. and what has become of it since -/
def PlN (W : World) (N : Nat) (w : World) (p D : Nat) (X : Px) (w0 : World) (H0 : Nat → Prop) : Prop := ∃ H, Pl W N w p D X H ∧ Stp w0 H0 w H
theorem Pl.first {W w : World} {N p D : Nat} {X : Px} {H : Nat → Prop} (h : Pl W N w p D X H) : PlN W N w p D X w H := ⟨H, h, Stp.refl _ _⟩
theorem Pl.below {W w w' : World} {N p D : Nat} {X : Px} {H : Nat → Prop} (h : Pl W N w p D X H) (hb : Below w.heap.size w w') : Pl W N w' p D X H := by
  obtain ⟨μ, h1, h2, h3, h4, h5, h6⟩ := h
  exact ⟨μ, h1.below hb, h2, h3, h4, h5, h6.trans (hb.mono h6.size)⟩
theorem Pl.mono {W w : World} {N M p D : Nat} {X : Px} {H : Nat → Prop} (h : Pl W N w p D X H) (hN : N ≤ M) : Pl W M w p D X H := by
  obtain ⟨μ, h1, h2⟩ := h
  exact ⟨μ, h1.mono hN, h2⟩
theorem Pl.ok {W w : World} {N p D : Nat} {X : Px} {H : Nat → Prop} (h : Pl W N w p D X H) : X.Ok N := by
  obtain ⟨μ, h1, _, _, rfl, _⟩ := h
  exact h1.core.ok
theorem Pl.b {W w : World} {N p D : Nat} {X : Px} {H : Nat → Prop} (h : Pl W N w p D X H) : Below W.heap.size W w := by
  obtain ⟨μ, _, _, _, _, _, h6⟩ := h
  exact h6
theorem Pl.lt {W w : World} {N p D : Nat} {X : Px} {H : Nat → Prop} (h : Pl W N w p D X H) (b : Nat) (hb : H b) : W.heap.size ≤ b ∧ b < w.heap.size := by
  obtain ⟨μ, h1, _, _, _, rfl, _⟩ := h
  exact h1.lt b hb
/-- a block that is none of the pool's is written -/
theorem Pl.other {W w : World} {N p D : Nat} {X : Px} {H : Nat → Prop} (h : Pl W N w p D X H) {g : Nat} (hg : ¬ H g) (hW : W.heap.size ≤ g) (o : Nat) (v : Value) : Pl W N (w.setCell ⟨g, o, none⟩ v) p D X H := by
  obtain ⟨μ, h1, h2, h3, h4, rfl, h6⟩ := h
  exact ⟨μ, h1.moved (by simp) fun b hb => Below.heap_setCell _ _ _ _ (fun e => hg (by have e2 : b = g := e; rw [← e2]; exact hb)), h2, h3, h4, rfl, h6.setCell hW _⟩
theorem PlN.below {W w w' w0 : World} {N p D : Nat} {X : Px} {H0 : Nat → Prop} (h : PlN W N w p D X w0 H0) (hb : Below w.heap.size w w') : PlN W N w' p D X w0 H0 := by
  obtain ⟨H, h1, h2⟩ := h
  exact ⟨H, h1.below hb, h2.trans (.of_below hb)⟩
theorem PlN.drew {W w w0 : World} {N p D : Nat} {X : Px} {H0 : Nat → Prop} (h : PlN W N w p D X w0 H0) : PlN W N w.drew p D X w0 H0 := h.below (Below.refl _ _).drew
theorem PlN.mono {W w w0 : World} {N M p D : Nat} {X : Px} {H0 : Nat → Prop} (h : PlN W N w p D X w0 H0) (hN : N ≤ M) : PlN W M w p D X w0 H0 := by
  obtain ⟨H, h1, h2⟩ := h
  exact ⟨H, h1.mono hN, h2⟩
theorem PlN.ok {W w w0 : World} {N p D : Nat} {X : Px} {H0 : Nat → Prop} (h : PlN W N w p D X w0 H0) : X.Ok N := by
  obtain ⟨H, h1, _⟩ := h
  exact h1.ok
theorem PlN.b {W w w0 : World} {N p D : Nat} {X : Px} {H0 : Nat → Prop} (h : PlN W N w p D X w0 H0) : Below W.heap.size W w := by
  obtain ⟨H, h1, _⟩ := h
  exact h1.b
theorem PlN.cell {W w w0 : World} {N p D : Nat} {X : Px} {H0 : Nat → Prop} (h : PlN W N w p D X w0 H0) {g o : Nat} {v : Value} (hc : w0.cell? ⟨g, o, none⟩ = some v) (hn : ¬ H0 g) : w.cell? ⟨g, o, none⟩ = some v := by
  obtain ⟨H, _, h2⟩ := h
  exact h2.cell hc hn
theorem PlN.block {W w w0 : World} {N p D : Nat} {X : Px} {H0 : Nat → Prop} (h : PlN W N w p D X w0 H0) {g : Nat} (hg : g < w0.heap.size) (hn : ¬ H0 g) : w.heap[g]? = w0.heap[g]? := by
  obtain ⟨H, _, h2⟩ := h
  exact h2.block g hg hn
theorem PlN.frozen {W w w0 : World} {N p D : Nat} {X : Px} {H0 : Nat → Prop} (h : PlN W N w p D X w0 H0) {g o : Nat} (hg : g < w0.heap.size) (hn : ¬ H0 g) (hf : w0.frozen? ⟨g, o, none⟩ = false) : w.frozen? ⟨g, o, none⟩ = false :=
  (World.frozen?_of_block (h.block hg hn)).trans hf
theorem PlN.open' {W w w0 : World} {N p D : Nat} {X : Px} {H0 : Nat → Prop} (h : PlN W N w p D X w0 H0) {g : Nat} (hg : g < w0.heap.size) (hn : ¬ H0 g) : ∃ H, Pl W N w p D X H ∧ ¬ H g := by
  obtain ⟨H, h1, h2⟩ := h
  exact ⟨H, h1, fun q => by rcases h2.own g q with e | e; exact hn e; omega⟩
theorem goes_pl {W w w' w0 : World} {N M p D : Nat} {X : Px} {H0 : Nat → Prop} {μ : Mp} (h1 : PoolAt W.heap.size N w μ) (h2 : μ.P = p) (h3 : μ.s.D = D) (h6 : Below W.heap.size W w) (hs : Stp w0 H0 w μ.all) (hg : Goes W.heap.size M w μ X w') : PlN W M w' p D X w0 H0 := by
  obtain ⟨μ', g1, g2, g3, g4, g5, g6⟩ := hg
  exact ⟨μ'.all, ⟨μ', g1, g3.trans h2, g5.trans h3, g6, rfl, h6.trans (g2.below (fun b hb => (h1.lt b hb).1) h6.size)⟩, hs.trans g2⟩
theorem newp_at {W w : World} {D : Nat} {d : Dk} {H : Nat → Prop} (N m : Nat) (h : DkN W w D d H) (h1 : 1 ≤ m) (h2 : m ≤ 1024) (w0 : 0 ≤ d.writes) (wN : d.writes ≤ N) :
    Calls Tryz.prog 37 #[.pointer (some ⟨D, 0, none⟩), .int .i64 (m : Int)] w fun e w' => ∃ p H', e = .returned (.tuple #[.pointer (some ⟨p, 0, none⟩), .nilIface]) ∧ Pl W N w' p D (Px.fresh d m) H' := by
  obtain ⟨s, hd, ht, rfl, rfl, hB⟩ := h
  exact (newp_any (N := N) s d m w hd ht h1 h2 w0 wN).mono fun _ _ ⟨μ, he, hp, hs, hX, hb, _⟩ => ⟨μ.P, μ.all, he, μ, hp, rfl, by rw [hs], hX, rfl, hB.trans (hb.mono hB.size)⟩
theorem pl_write {W w w0 : World} {N p D : Nat} {X : Px} {H0 : Nat → Prop} (h : PlN W N w p D X w0 H0) (i : Int) (t : ByteArray) (c : Nat) (n : Nat) (hn : t.size = n) (hc : n ≤ c) (hN : N < 2305843009213693952) :
    Calls Tryz.prog 49 #[.pointer (some ⟨p, 0, none⟩), .int .i64 i, .slice (some ⟨w.heap.size, 0, none⟩) n c] (bw w t) fun e w' => e = .returned (errv (writeP X i t).2) ∧ PlN W (N + 1) w' p D (writeP X i t).1 w0 H0 := by
  subst hn
  have hb := bw_below w t
  obtain ⟨H, ⟨μ, h1, rfl, rfl, rfl, rfl, h6⟩, hs⟩ := h
  exact (write_any' μ i t _ c (bw w t) (h1.below hb) (bw_lies w t) hc (fun b off e q => by
    obtain ⟨rfl, _⟩ : w.heap.size = b ∧ 0 = off := by simpa using e
    have := (h1.lt _ q).2
    omega) hN).mono fun _ _ ⟨he, hg⟩ => ⟨he, goes_pl (h1.below hb) rfl rfl (h6.trans (hb.mono h6.size)) (hs.trans (.of_below hb)) hg⟩
theorem pl_read_got {W w w0 : World} {N p D : Nat} {X : Px} {H0 : Nat → Prop} (h : PlN W N w p D X w0 H0) (i : Int) (hN : N + 1 < 2305843009213693952) (he : (readP X i).2.2 = 0) (hs : (readP X i).2.1.size = 512) :
    Calls Tryz.prog 55 #[.pointer (some ⟨p, 0, none⟩), .int .i64 i] w fun e w' => ∃ g cap, e = .returned (.tuple #[.slice (some ⟨g, 0, none⟩) 512 cap, .nilIface]) ∧ Lies w' (some ⟨g, 0, none⟩) (nums (readP X i).2.1) ∧ PlN W (N + 2) w' p D (readP X i).1 w0 H0 := by
  obtain ⟨H, ⟨μ, h1, rfl, rfl, rfl, rfl, h6⟩, hst⟩ := h
  exact (read_got μ i w h1 hN he hs).mono fun _ _ ⟨g, cap, he, hl, _, _, μ', hp, hs', hE, hX, _⟩ => ⟨g, cap, he, hl, goes_pl h1 rfl rfl h6 hst ⟨μ', hp, hs', hE.1, hE.2.1, hE.2.2, hX⟩⟩
theorem pl_read_bad {W w w0 : World} {N p D : Nat} {X : Px} {H0 : Nat → Prop} (h : PlN W N w p D X w0 H0) (i : Int) (hN : N + 1 < 2305843009213693952) (he : (readP X i).2.2 ≠ 0) :
    Calls Tryz.prog 55 #[.pointer (some ⟨p, 0, none⟩), .int .i64 i] w fun e w' => e = .returned (.tuple #[.slice none 0 0, .iface 51 (.int .i64 (readP X i).2.2)]) ∧ PlN W (N + 2) w' p D (readP X i).1 w0 H0 := by
  obtain ⟨H, ⟨μ, h1, rfl, rfl, rfl, rfl, h6⟩, hst⟩ := h
  exact (read_bad μ i w h1 hN he).mono fun _ _ ⟨he, hg⟩ => ⟨he, goes_pl h1 rfl rfl h6 hst hg⟩
theorem pl_flush {W w w0 : World} {N p D : Nat} {X : Px} {H0 : Nat → Prop} (h : PlN W N w p D X w0 H0) (hN : N + 1025 < 2305843009213693952) :
    Calls Tryz.prog 41 #[.pointer (some ⟨p, 0, none⟩)] w fun e w' => e = .returned (errv (flushP X).2) ∧ PlN W (N + X.m) w' p D (flushP X).1 w0 H0 := by
  obtain ⟨H, ⟨μ, h1, rfl, rfl, rfl, rfl, h6⟩, hst⟩ := h
  exact (flushp_any μ w h1 hN).mono fun _ _ ⟨he, hg⟩ => ⟨he, goes_pl h1 rfl rfl h6 hst hg⟩
/-- the disk is read beside the pool -/
theorem pd_read {W w w0 : World} {N p D : Nat} {X : Px} {H0 : Nat → Prop} (h : PlN W N w p D X w0 H0) (i : Nat) (hi : i < X.d.n) :
    Calls Tryz.prog 119 #[.pointer (some ⟨D, 0, none⟩), .int .i64 i] w fun e w' => ∃ g cap, e = .returned (.tuple #[.slice (some ⟨g, 0, none⟩) 512 cap, .nilIface]) ∧ Lies w' (some ⟨g, 0, none⟩) (nums (X.d.cur i)) ∧ PlN W N w' p D X w0 H0 := by
  have h' := h
  obtain ⟨H, ⟨μ, h1, rfl, rfl, rfl, rfl, h6⟩, hst⟩ := h
  have hin : i < μ.s.n := by have := h1.core.t.n; omega
  exact (read_any μ.s i w h1.core.d hin).mono fun _ _ ⟨g, cap, he, hl, _, _, hb⟩ => ⟨g, cap, he, by rw [cur_is h1 hin]; exact hl, h'.below hb⟩
/-! numbers, and the same calls at numbers that are spelled otherwise -/
/-- int(uint(a) % m) -/
theorem red_bd (a m : Int) (hm : 0 < m) (hm2 : m ≤ 9223372036854775807) : 0 ≤ wrap64 ((IntKind.u64.wrap a).tmod m) ∧ wrap64 ((IntKind.u64.wrap a).tmod m) < m := by
  have h0 := wrap_u64_nonneg a
  rw [Int.tmod_eq_emod_of_nonneg h0]
  have h1 := Int.emod_nonneg (IntKind.u64.wrap a) (show m ≠ 0 by omega)
  have h2 := Int.emod_lt_of_pos (IntKind.u64.wrap a) hm
  rw [IntWalk.wrap64_in _ ⟨by omega, by omega⟩]
  exact ⟨h1, h2⟩
theorem red_nat (a m : Int) (hm : 0 < m) (hm2 : m ≤ 9223372036854775807) : ∃ k : Nat, wrap64 ((IntKind.u64.wrap a).tmod m) = k ∧ (k : Int) < m := by
  have := red_bd a m hm hm2
  exact ⟨(wrap64 ((IntKind.u64.wrap a).tmod m)).toNat, by omega, by omega⟩
theorem disk_new' {W : World} (n : Nat) (x : Int) (hx : x = n) (w : World) (hW : Below W.heap.size W w) (h1 : 1 ≤ n) (h2 : n ≤ 16384) :
    Calls Tryz.prog 6 #[.int .i64 x] w fun e w' => ∃ D H, e = .returned (.tuple #[.pointer (some ⟨D, 0, none⟩), .nilIface]) ∧ DkN W w' D (Dk.new n) H := by
  subst hx
  exact (disk_new n w hW h1 h2).mono fun _ _ ⟨D, H, he, h, _⟩ => ⟨D, H, he, h⟩
theorem newp_at' {W w : World} {D : Nat} {d : Dk} {H : Nat → Prop} (N m : Nat) (x : Int) (hx : x = m) (h : DkN W w D d H) (h1 : 1 ≤ m) (h2 : m ≤ 1024) (w0 : 0 ≤ d.writes) (wN : d.writes ≤ N) :
    Calls Tryz.prog 37 #[.pointer (some ⟨D, 0, none⟩), .int .i64 x] w fun e w' => ∃ p H', e = .returned (.tuple #[.pointer (some ⟨p, 0, none⟩), .nilIface]) ∧ Pl W N w' p D (Px.fresh d m) H' := by
  subst hx
  exact newp_at N m h h1 h2 w0 wN
/-! texts -/
set_option maxRecDepth 100000 in
theorem conv_t {w : World} {a : Option Addr} {c n : Nat} {t : ByteArray} (h : Lies w a (nums t)) (ht : t.size = n) : (convert 48 9 (.slice a n c)).run Tryz.prog w = .ok (.string t) w := by
  rw [conv_any h (by rw [nums_len, ht]), str_nums]
set_option maxRecDepth 100000 in
theorem conv_b (t : ByteArray) (ht : t.size = 512) (w : World) : (convert 9 48 (.string t)).run Tryz.prog w = .ok (.slice (some ⟨w.heap.size, 0, none⟩) 512 (bc w t)) (bw w t) := by
  rw [conv_bytes t w, ht]
end Go.Proofs.YtlfkkakohldgnaaGreat

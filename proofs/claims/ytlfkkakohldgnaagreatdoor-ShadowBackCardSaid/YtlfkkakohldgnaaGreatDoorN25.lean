/-
  WHICH SECTORS ARE FREE, in memory: the walks of clear and spaceOf. Conditions: those that each lemma names.
  PAGES AS PLAIN MATHEMATICS: how many records there is room for, and which pages may be. No program in it.
-/
import Derived.LoopN
import Derived.Test.YtlfkkakohldgnaaGreatDoorN24
import Derived.Test.YtlfkkakohldgnaaGreatDoorN12
namespace Go.Proofs.YtlfkkakohldgnaaGreatDoor.Sh
open Go.RowKit Go.Maps

structure SpRaw (w : World) (G T n : Nat) (x y : Int) (t : Nat → Bool) : Prop where
  c0 : w.cell? ⟨G, 0, none⟩ = some (.slice (some ⟨T, 0, none⟩) n n)
  c1 : w.cell? ⟨G, 1, none⟩ = some (.int .i64 x)
  c2 : w.cell? ⟨G, 2, none⟩ = some (.int .i64 y)
  fG : ∀ i, w.frozen? ⟨G, i, none⟩ = false
  ct : ∀ i, i < n → w.cell? ⟨T, i, none⟩ = some (.bool (t i))
  fT : ∀ i, w.frozen? ⟨T, i, none⟩ = false
  ne : G ≠ T
  n1 : n ≤ 16384
  n2 : 2 ≤ n
theorem SpAt.raw {w : World} {G T : Nat} {S : Spc} (h : SpAt w G T S) : SpRaw w G T S.n S.free S.lo S.t := ⟨h.c0, h.c1, h.c2, h.fG, h.ct, h.fT, h.ne, h.n1, h.n2⟩
theorem SpRaw.setT {w : World} {G T n : Nat} {x y : Int} {t : Nat → Bool} (h : SpRaw w G T n x y t) {s : Nat} (hs : s < n) (b : Bool) : SpRaw (w.setCell ⟨T, s, none⟩ (.bool b)) G T n x y (updB t s b) :=
  ⟨set_ne h.c0 (.inl h.ne), set_ne h.c1 (.inl h.ne), set_ne h.c2 (.inl h.ne), fun i => by rw [World.frozen?_setCell]; exact h.fG i, fun i hi => by
    unfold updB
    by_cases e : i = s
    · rw [if_pos e, e]; exact World.cell?_setCell_same _ _ _ (h.ct s hs)
    · rw [if_neg e]; exact set_ne (h.ct i hi) (.inr e), fun i => by rw [World.frozen?_setCell]; exact h.fT i, h.ne, h.n1, h.n2⟩
theorem SpRaw.set1 {w : World} {G T n : Nat} {x y : Int} {t : Nat → Bool} (h : SpRaw w G T n x y t) (z : Int) : SpRaw (w.setCell ⟨G, 1, none⟩ (.int .i64 z)) G T n z y t :=
  ⟨set_ne h.c0 (.inr (by decide)), World.cell?_setCell_same _ _ _ h.c1, set_ne h.c2 (.inr (by decide)), fun i => by rw [World.frozen?_setCell]; exact h.fG i, fun i hi => set_ne (h.ct i hi) (.inl (fun e => h.ne e.symm)), fun i => by rw [World.frozen?_setCell]; exact h.fT i, h.ne, h.n1, h.n2⟩
theorem SpRaw.set2 {w : World} {G T n : Nat} {x y : Int} {t : Nat → Bool} (h : SpRaw w G T n x y t) (z : Int) : SpRaw (w.setCell ⟨G, 2, none⟩ (.int .i64 z)) G T n x z t :=
  ⟨set_ne h.c0 (.inr (by decide)), set_ne h.c1 (.inr (by decide)), World.cell?_setCell_same _ _ _ h.c2, fun i => by rw [World.frozen?_setCell]; exact h.fG i, fun i hi => set_ne (h.ct i hi) (.inl (fun e => h.ne e.symm)), fun i => by rw [World.frozen?_setCell]; exact h.fT i, h.ne, h.n1, h.n2⟩
theorem wrt_setCells {H : Nat → Prop} {g : Nat} (hg : H g) : ∀ (vs : List Value) (o : Nat) (w : World), Wrt H w (w.setCells g o vs)
  | [], _, _ => Wrt.refl _ _
  | v :: vs, o, w => ((Wrt.refl H w).set hg o v).trans (wrt_setCells hg vs (o + 1) _)
theorem zero_b (w : World) : (zeroValue 4).run Tryz.prog w = .ok (.bool false) w := by kernel_rfl
theorem cleared_raw {w : World} {G T n : Nat} {x y : Int} {t : Nat → Bool} (h : SpRaw w G T n x y t) : SpRaw (w.setCells T 0 (List.replicate n (.bool false))) G T n x y (fun _ => false) ∧ Wrt (spH G T) w (w.setCells T 0 (List.replicate n (.bool false))) := by
  have hw : Wrt (fun b => b = T) w (w.setCells T 0 (List.replicate n (.bool false))) := wrt_setCells (H := fun b => b = T) rfl _ _ _
  have hG := hw.block G h.ne
  refine ⟨⟨(World.cell?_of_block hG).trans h.c0, (World.cell?_of_block hG).trans h.c1, (World.cell?_of_block hG).trans h.c2, fun i => (World.frozen?_of_block hG).trans (h.fG i), fun i hi => ?_, fun i => by rw [World.frozen?_setCells]; exact h.fT i, h.ne, h.n1, h.n2⟩, wrt_setCells (.inr rfl) _ _ _⟩
  have := World.cell?_setCells_in T (List.replicate n (.bool false)) 0 w (fun j hj => by rw [Nat.zero_add, h.ct j (by simpa using hj)]; rfl) i (by simpa using hi)
  rw [Nat.zero_add] at this
  rw [this, List.getElem_replicate]
theorem SpRaw.done {w : World} {G T n : Nat} (h : SpRaw w G T n ((n : Int) - 2) 2 (updB (updB (fun _ => false) 0 true) 1 true)) : SpAt w G T (Spc.clear n) := by
  have n2 := h.n2
  refine ⟨h.c0, ?_, h.c2, h.fG, fun i hi => ?_, h.fT, h.ne, clear_ok h.n2, h.n1, h.n2⟩
  · show _ = some (Value.int .i64 ((n - 2 : Nat) : Int))
    rw [h.c1, show ((n - 2 : Nat) : Int) = (n : Int) - 2 by omega]
  · rw [h.ct i hi]
    show some (Value.bool (updB (updB (fun _ => false) 0 true) 1 true i)) = some (.bool (decide (i < 2)))
    unfold updB
    by_cases e1 : i = 1
    · subst e1; rfl
    · by_cases e0 : i = 0
      · subst e0; rfl
      · rw [if_neg e1, if_neg e0, decide_eq_false (by omega)]
set_option maxRecDepth 100000 in
set_option maxHeartbeats 1000000 in
theorem clear_any (G T n : Nat) (x y : Int) (t : Nat → Bool) (w : World) (h : SpRaw w G T n x y t) :
    Calls Tryz.prog 78 #[.pointer (some ⟨G, 0, none⟩)] w (Gave w G T (Spc.clear n)) := by
  have c0 := h.c0
  have n1 := h.n1
  have n2 := h.n2
  have hcl : ∀ ty, (Builtin.clear_ #[121] ty #[.slice (some ⟨T, 0, none⟩) n n]).run Tryz.prog w = .ok (.tuple #[]) (w.setCells T 0 (List.replicate n (.bool false))) :=
    fun ty => Lib.run_clear_slice w 121 4 ty (.bool false) Tryz.underlying121 zero_b rfl rfl T 0 n n (by omega) (fun j hj => by rw [Nat.zero_add, h.ct j hj]; rfl) (fun j hj => h.fT _)
  obtain ⟨h1, hw1⟩ := cleared_raw h
  have H1 := Lib.hid h1
  have W1 := Lib.hid hw1
  clear h h1 hw1
  go_enter Tryz.func78, Tryz.ntmps78
  go_wp2
  generalize w.setCells T 0 (List.replicate n (.bool false)) = w1 at H1 W1 ⊢
  clear hcl c0
  have c0 := H1.out.c0
  have f0 := H1.out.fT 0
  have f1 := H1.out.fT 1
  have t0 := H1.out.ct 0 (by omega)
  have t1 := H1.out.ct 1 (by omega)
  have H2 := Lib.hid (H1.out.setT (s := 0) (by omega) true)
  have H3 := Lib.hid (H2.out.setT (s := 1) (by omega) true)
  have H4 := Lib.hid (H3.out.set1 ((n : Int) - 2))
  have H5 := Lib.hid (H4.out.set2 2)
  have W5 := Lib.hid ((((W1.out.set (.inr rfl) 0 (.bool true)).set (.inr rfl) 1 (.bool true)).set (.inl rfl) 1 (.int .i64 ((n : Int) - 2))).set (.inl rfl) 2 (.int .i64 2))
  have a0 := H2.out.c0
  have a1 := H2.out.ct 1 (by omega)
  have a2 := H2.out.fT 1
  have b0 := H3.out.c0
  have b1 := H3.out.c1
  have b2 := H3.out.fG 1
  have d0 := H4.out.c2
  have d1 := H4.out.fG 2
  refine wp_loop_rounds 3 ?_
  rw [rounds_succ]
  go_wp2
  rw [rounds_succ]
  go_wp2
  rw [rounds_succ]
  go_wp2
  go_end0
  exact ⟨rfl, H5.out.done, W5.out⟩
theorem below_wrt {B : Nat} {a w w' : World} {H : Nat → Prop} (h : Below B a w) (hw : Wrt H w w') (hH : ∀ b, H b → B ≤ b) : Below B a w' :=
  ⟨hw.os.trans h.os, hw.tape.trans h.tape, hw.output.trans h.output, by rw [hw.size]; exact h.size, fun k hk => (hw.block k (fun q => by have := hH k q; omega)).trans (h.block k hk)⟩
def NewSp (w : World) (n : Nat) (e : Ending) (w' : World) : Prop := ∃ G T, e = .returned (.pointer (some ⟨G, 0, none⟩)) ∧ SpAt w' G T (Spc.clear n) ∧ w.heap.size ≤ G ∧ w.heap.size ≤ T ∧ Below w.heap.size w w'
set_option maxRecDepth 100000 in
theorem info_bool : (Tryz.prog.info? 4).map (fun i => (i.zero, i.size, i.bytes)) = some (some (.bool false), 1, 1) := by kernel_rfl
set_option maxRecDepth 100000 in
theorem make_bool (n : Nat) (hn : n ≤ 16384) (w : World) : (Instr.makeSlice 121 (.int .i64 n) (.int .i64 n)).run Tryz.prog w = .ok (.slice (some ⟨w.heap.size, 0, none⟩) n n) (w.alloc (.cells (Array.replicate n (.bool false)) 4)) := by
  rw [run_make_row' (P := Tryz.prog) 121 4 (.bool false) 1 Tryz.underlying121 info_bool rfl .i64 .i64 n (by omega) (by omega) w, made_eq]
set_option maxRecDepth 100000 in
theorem spaceOf_any (n : Nat) (w : World) (h1 : n ≤ 16384) (h2 : 2 ≤ n) :
    Calls Tryz.prog 73 #[.int .i64 n] w (NewSp w n) := by
  have hmk := make_bool n h1 w
  have hr : SpRaw ((w.alloc (.cells (Array.replicate n (.bool false)) 4)).alloc (.cells #[.slice (some ⟨w.heap.size, 0, none⟩) n n, .int .i64 0, .int .i64 0] 123)) (w.heap.size + 1) w.heap.size n 0 0 (fun _ => false) := by
    have eN : w.heap.size + 1 = (w.alloc (.cells (Array.replicate n (Value.bool false)) 4)).heap.size := by simp
    have hT := heap_alloc_new w (.cells (Array.replicate n (Value.bool false)) 4)
    have hG := heap_alloc_new (w.alloc (.cells (Array.replicate n (Value.bool false)) 4)) (.cells #[.slice (some ⟨w.heap.size, 0, none⟩) n n, .int .i64 0, .int .i64 0] 123)
    rw [← eN] at hG
    have hT2 := (Go.heap_alloc_old (w.alloc (.cells (Array.replicate n (Value.bool false)) 4)) (.cells #[.slice (some ⟨w.heap.size, 0, none⟩) n n, .int .i64 0, .int .i64 0] 123) (lt_of_block hT)).trans hT
    exact ⟨cell_of_row _ _ _ _ _ _ hG, cell_of_row _ _ _ _ _ _ hG, cell_of_row _ _ _ _ _ _ hG, fun i => frozen_of_row _ _ i _ _ hG, fun i hi => by rw [cell_of_row _ _ _ _ _ _ hT2]; simp [hi], fun i => frozen_of_row _ _ i _ _ hT2, by omega, h1, h2⟩
  have HR := Lib.hid hr
  have HB := Lib.hid (((Below.refl w.heap.size w).alloc (Nat.le_refl _) (.cells (Array.replicate n (.bool false)) 4)).alloc (by simp) (.cells #[.slice (some ⟨w.heap.size, 0, none⟩) n n, .int .i64 0, .int .i64 0] 123))
  clear hr
  go_enter Tryz.func73, Tryz.ntmps73
  go_wp2_with (go_at_call 78; refine (clear_any _ _ _ _ _ _ _ HR.out).mono ?_; rintro e w' ⟨rfl, h, hw⟩; have HS := Lib.hid h; have HW := Lib.hid hw; clear h hw)
  go_ret
  exact ⟨_, _, rfl, HS.out, by omega, Nat.le_refl _, below_wrt HB.out HW.out (by rintro b (rfl | rfl) <;> omega)⟩
end Go.Proofs.YtlfkkakohldgnaaGreatDoor.Sh
namespace Go.Proofs.YtlfkkakohldgnaaGreatDoor.Sm
open Go.RowKit Crc

/-- how many records of a size there is room for -/
def room (s : Int) : Int := if s < 1 then 0 else min (492 / s) 255
theorem room_small {s : Int} (h : s < 1) : room s = 0 := by unfold room; rw [if_pos h]
theorem room_big {s : Int} (h : 1 ≤ s) : room s = min (492 / s) 255 := by unfold room; rw [if_neg (by omega)]
theorem room_bd (s : Int) : 0 ≤ room s ∧ room s ≤ 255 := by
  by_cases h : s < 1
  · rw [room_small h]; omega
  · rw [room_big (by omega)]
    have : 0 ≤ 492 / s := Int.ediv_nonneg (by omega) (by omega)
    omega
theorem room_mul {s : Int} (h : 1 ≤ s) : room s * s ≤ 492 := by
  rw [room_big h]
  have h1 : 492 / s * s ≤ 492 := Int.ediv_mul_le 492 (by omega)
  have h2 : min (492 / s) 255 ≤ 492 / s := by omega
  exact Int.le_trans (Int.mul_le_mul_of_nonneg_right h2 (by omega)) h1
theorem room_pos {s : Int} (h1 : 1 ≤ s) (h2 : s ≤ 492) : 1 ≤ room s := by
  rw [room_big h1]
  have : 1 ≤ 492 / s := by
    rw [Int.le_ediv_iff_mul_le (by omega)]
    omega
  omega
theorem room_out {s : Int} (h : 492 < s) : room s = 0 := by
  rw [room_big (by omega)]
  have : 492 / s = 0 := Int.ediv_eq_zero_of_lt (by omega) h
  omega
theorem room_size {s : Int} (h : 0 < room s) : 1 ≤ s ∧ s ≤ 492 := by
  by_cases h1 : s < 1
  · rw [room_small h1] at h; omega
  · by_cases h2 : 492 < s
    · rw [room_out h2] at h; omega
    · omega
/-- may there be so many of a size? -/
def fitsB (s n : Int) : Bool := decide (0 < room s) && decide (n ≤ room s)
theorem fits_no0 {s n : Int} (h : ¬ 0 < room s) : fitsB s n = false := by unfold fitsB; rw [decide_eq_false h]; rfl
theorem fits_yes {s n : Int} (h : 0 < room s) : fitsB s n = decide (n ≤ room s) := by unfold fitsB; rw [decide_eq_true h]; rfl
theorem fits_iff {s n : Int} : fitsB s n = true ↔ 0 < room s ∧ n ≤ room s := by unfold fitsB; simp
/-- a page -/
structure Pg where
  mkPg ::
  kind : Int
  number : Int
  epoch : Int
  size : Int
  recs : List (List Int)
/-- is a record not of the size? -/
def badB (s : Int) (r : List Int) : Bool := (r.length : Int) != s
def Pg.may (p : Pg) : Bool := fitsB p.size p.recs.length && !(p.recs.any (badB p.size))
theorem may_size {p : Pg} (h : p.may = true) : 1 ≤ p.size ∧ p.size ≤ 492 ∧ (p.recs.length : Int) ≤ room p.size ∧ ∀ r ∈ p.recs, (r.length : Int) = p.size := by
  unfold Pg.may at h
  rw [Bool.and_eq_true, fits_iff] at h
  obtain ⟨⟨h1, h2⟩, h3⟩ := h
  have := room_size h1
  refine ⟨this.1, this.2, h2, ?_⟩
  intro r hr
  simp only [Bool.not_eq_true', List.any_eq_false] at h3
  have := h3 r hr
  simpa [badB] using this
theorem snoc_ind {P : List Int → Prop} (h0 : P []) (h1 : ∀ xs x, P xs → P (xs ++ [x])) (xs : List Int) : P xs := by
  have : ∀ ys : List Int, P ys.reverse := by
    intro ys
    induction ys with
    | nil => exact h0
    | cons y ys ih => rw [List.reverse_cons]; exact h1 _ _ ih
  have := this xs.reverse
  rwa [List.reverse_reverse] at this
/-! ### numbers as bytes, the highest first -/
def be : Nat → Int → List Int
  | 0, _ => []
  | k + 1, n => be k (n / 256) ++ [n % 256]
theorem be_len (k : Nat) (n : Int) : (be k n).length = k := by
  induction k generalizing n with
  | zero => rfl
  | succ k ih => simp [be, ih]
theorem be_byte (k : Nat) (n : Int) : Byte (be k n) := by
  induction k generalizing n with
  | zero => intro i hi; exact absurd hi (by simp [be])
  | succ k ih =>
    refine Byte.append (ih _) ?_
    intro i hi
    have : i = 0 := by simpa using hi
    subst this
    simp only [List.getElem_cons_zero]
    omega
/-- the number of bytes -/
def num256 (xs : List Int) : Int := xs.foldl (fun v x => 256 * v + x) 0
theorem num256_snoc (xs : List Int) (x : Int) : num256 (xs ++ [x]) = 256 * num256 xs + x := by simp [num256, List.foldl_append]
theorem num256_bd (xs : List Int) (h : Byte xs) : 0 ≤ num256 xs ∧ num256 xs < 256 ^ xs.length := by
  revert h
  induction xs using snoc_ind with
  | h0 => intro _; simp [num256]
  | h1 xs x ih =>
    intro h
    have h1 := ih h.front
    have h2 := h xs.length (by simp)
    simp at h2
    rw [num256_snoc, List.length_append, List.length_singleton, Int.pow_succ]
    omega
theorem num_be (k : Nat) (n : Int) (h0 : 0 ≤ n) (h1 : n < 256 ^ k) : num256 (be k n) = n := by
  induction k generalizing n with
  | zero => simp at h1; simp [be, num256]; omega
  | succ k ih =>
    rw [be, num256_snoc, ih (n / 256) (by omega) (by rw [Int.pow_succ] at h1; omega)]
    omega
theorem be_num (xs : List Int) (h : Byte xs) : be xs.length (num256 xs) = xs := by
  revert h
  induction xs using snoc_ind with
  | h0 => intro _; rfl
  | h1 xs x ih =>
    intro h
    have h1 := ih h.front
    have h2 := h xs.length (by simp)
    simp at h2
    rw [List.length_append, List.length_singleton, num256_snoc, be]
    have e1 : (256 * num256 xs + x) / 256 = num256 xs := by omega
    have e2 : (256 * num256 xs + x) % 256 = x := by omega
    rw [e1, e2, h1]
theorem be_inj {k : Nat} {m n : Int} (h : be k m = be k n) (m0 : 0 ≤ m) (m1 : m < 256 ^ k) (n0 : 0 ≤ n) (n1 : n < 256 ^ k) : m = n := by
  rw [← num_be k m m0 m1, h, num_be k n n0 n1]
/-! ### a page as bytes -/
def Pg.head (p : Pg) : List Int := be 1 p.kind ++ be 4 p.number ++ be 8 p.epoch ++ be 2 p.size ++ be 1 p.recs.length
theorem head_len (p : Pg) : p.head.length = 16 := by simp [Pg.head, be_len]
def Pg.front (p : Pg) : List Int := p.head ++ p.recs.flatten
def pad (n : Nat) (xs : List Int) : List Int := xs ++ List.replicate (n - xs.length) 0
def Pg.bytes (p : Pg) : List Int := mk (pad 508 p.front)
theorem pad_len {n : Nat} {xs : List Int} (h : xs.length ≤ n) : (pad n xs).length = n := by simp [pad]; omega
theorem flat_len (s : Nat) (rs : List (List Int)) (h : ∀ r ∈ rs, r.length = s) : rs.flatten.length = rs.length * s := by
  induction rs with
  | nil => simp
  | cons r rs ih =>
    rw [List.flatten_cons, List.length_append, ih (fun q hq => h q (by simp [hq])), h r (by simp), List.length_cons, Nat.succ_mul]
    omega
theorem may_nat {p : Pg} (h : p.may = true) : ∃ s : Nat, p.size = s ∧ 1 ≤ s ∧ s ≤ 492 ∧ p.recs.length ≤ 255 ∧ p.recs.length * s ≤ 492 ∧ ∀ r ∈ p.recs, r.length = s := by
  obtain ⟨h1, h2, h3, h4⟩ := may_size h
  obtain ⟨s, hs⟩ := Int.eq_ofNat_of_zero_le (show 0 ≤ p.size by omega)
  have hb := room_bd p.size
  have hm := room_mul h1
  refine ⟨s, hs, by omega, by omega, by omega, ?_, fun r hr => by have := h4 r hr; omega⟩
  have : (p.recs.length : Int) * p.size ≤ room p.size * p.size := Int.mul_le_mul_of_nonneg_right h3 (by omega)
  rw [hs] at this hm
  have e : ((p.recs.length * s : Nat) : Int) = (p.recs.length : Int) * (s : Int) := Int.natCast_mul _ _
  rw [hs] at *
  omega
theorem front_len {p : Pg} (h : p.may = true) : p.front.length ≤ 508 := by
  obtain ⟨s, _, _, _, _, hm, hr⟩ := may_nat h
  rw [Pg.front, List.length_append, head_len, flat_len s _ hr]
  omega
theorem bytes_len {p : Pg} (h : p.may = true) : p.bytes.length = 512 := by
  rw [Pg.bytes, mk_len, pad_len (front_len h)]
theorem byte_zeros (n : Nat) : Byte (List.replicate n 0) := by intro i hi; simp
theorem byte_head (p : Pg) : Byte p.head := ((((be_byte _ _).append (be_byte _ _)).append (be_byte _ _)).append (be_byte _ _)).append (be_byte _ _)
theorem byte_pad {n : Nat} {xs : List Int} (h : Byte xs) : Byte (pad n xs) := h.append (byte_zeros _)
theorem byte_mk {xs : List Int} (h : Byte xs) : Byte (mk xs) := h.append (byte_tls _)
theorem byte_flat {rs : List (List Int)} (h : ∀ r ∈ rs, Byte r) : Byte rs.flatten := by
  induction rs with
  | nil => intro i hi; exact absurd hi (by simp)
  | cons r rs ih => rw [List.flatten_cons]; exact (h r (by simp)).append (ih fun q hq => h q (by simp [hq]))
theorem byte_bytes {p : Pg} (h : ∀ r ∈ p.recs, Byte r) : Byte p.bytes := byte_mk (byte_pad ((byte_head p).append (byte_flat h)))
end Go.Proofs.YtlfkkakohldgnaaGreatDoor.Sm

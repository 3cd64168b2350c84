/-
  THE CONTRACTS OF THE SUMS AS THE STATEMENTS MEET THEM, and small laws on bytes that lie in memory. Conditions: those that each lemma names.
  A POOL's FRAMES AND ITS DISK AS PLAIN DATA, AND WHAT EACH CALL MAKES OF THEM. No program in it. Conditions: those that each lemma names.
-/
import Derived.IntWalk
import Derived.Deep.AppendLies
import Derived.Laws.BytesArg
import Derived.Laws.OwnMore
import Derived.Test.YtlfkkakohldgnaaGreatDoorN11
import Derived.Test.YtlfkkakohldgnaaGreatDoorN05
namespace Go.Proofs.YtlfkkakohldgnaaGreatDoor.Sm
open Go.RowKit Crc

theorem beq_of {a b : Int} (h : a = b) : (a == b) = true := by rw [h]; exact beq_self_eq_true b
/-- int(uint(a) % m) -/
theorem red_bd (a m : Int) (hm : 0 < m) (hm2 : m ≤ 9223372036854775807) : 0 ≤ wrap64 ((IntKind.u64.wrap a).tmod m) ∧ wrap64 ((IntKind.u64.wrap a).tmod m) < m := by
  have h0 := wrap_u64_nonneg a
  rw [Int.tmod_eq_emod_of_nonneg h0]
  have h1 := Int.emod_nonneg (IntKind.u64.wrap a) (show m ≠ 0 by omega)
  have h2 := Int.emod_lt_of_pos (IntKind.u64.wrap a) hm
  rw [IntWalk.wrap64_in _ ⟨by omega, by omega⟩]
  exact ⟨h1, h2⟩

theorem xor8_b8 (a b : Int) (a0 : 0 ≤ a) (a1 : a < 256) (b0 : 0 ≤ b) (b1 : b < 256) : b8 (bits .xor .u8 a b) = b8 a ^^^ b8 b ∧ 0 ≤ bits .xor .u8 a b ∧ bits .xor .u8 a b < 256 := by
  obtain ⟨A, rfl⟩ := Int.eq_ofNat_of_zero_le a0
  obtain ⟨B, rfl⟩ := Int.eq_ofNat_of_zero_le b0
  have hA : A < 2 ^ 8 := by omega
  have hB : B < 2 ^ 8 := by omega
  have h := u8_xor_nat A B (by omega) (by omega)
  have hlt : A ^^^ B < 2 ^ 8 := Nat.xor_lt_two_pow hA hB
  rw [h]
  refine ⟨?_, by omega, by omega⟩
  unfold b8
  show BitVec.ofInt 32 ((A ^^^ B : Nat) : Int) = BitVec.ofInt 32 ((A : Nat) : Int) ^^^ BitVec.ofInt 32 ((B : Nat) : Int)
  rw [BitVec.ofInt_natCast, BitVec.ofInt_natCast, BitVec.ofInt_natCast]
  apply BitVec.eq_of_toNat_eq
  simp only [BitVec.toNat_ofNat, BitVec.toNat_xor]
  rw [Nat.mod_eq_of_lt (show A ^^^ B < 2 ^ 32 by omega), Nat.mod_eq_of_lt (show A < 2 ^ 32 by omega), Nat.mod_eq_of_lt (show B < 2 ^ 32 by omega)]
theorem getD_byte {xs : List Int} (h : Byte xs) (i : Nat) : 0 ≤ xs.getD i 0 ∧ xs.getD i 0 < 256 := by
  by_cases hi : i < xs.length
  · have := h i hi
    simpa [List.getD_eq_getElem?_getD, hi] using this
  · simp [List.getD_eq_getElem?_getD, hi]
theorem own_lies {w : World} {B n : Nat} {v : Value} {xs : List Int} (h : w.ownsRow B 5 1 v n (bl xs)) (hb : Byte xs) : ∃ ao cap, v = .slice ao n cap ∧ Lies w ao xs ∧ n ≤ cap ∧ xs.length = n := by
  obtain ⟨hl, h⟩ := h
  have hn : xs.length = n := by rw [bl_len] at hl; omega
  rcases h with ⟨rfl, h0⟩ | ⟨g, cap, cur, rfl, _, hg, hnc, _, hcs, ht⟩
  · obtain rfl : xs = [] := List.eq_nil_of_length_eq_zero (by omega)
    exact ⟨none, 0, by rw [h0], fun i hi => absurd hi (by simp), by omega, by omega⟩
  · refine ⟨_, cap, rfl, ?_, by omega, hn⟩
    intro i hi
    refine ⟨g, 0, rfl, ?_, (hb i hi).1, (hb i hi).2⟩
    rw [Nat.zero_add, cell_of_row w g i _ _ _ hg]
    have e : (bl xs)[i]? = some (Value.int .u8 xs[i]) := by simp [bl, hi]
    rw [← ht, List.getElem?_take] at e
    have hi' : i < n * 1 := by omega
    rw [if_pos hi'] at e
    simpa using e
theorem sum_n (a : Option Addr) (c n : Nat) (xs : List Int) (w : World) (hx : Lies w a xs) (hn : xs.length = n) (hm : n ≤ 9223372036854775807) :
    Calls Tryz.prog 127 #[.slice a n c] w fun e w' => e = .returned (.int .u32 (rg (more 0#32 xs))) ∧ w = w' := by
  subst hn
  exact sum_any a c xs w hx hm
theorem more_n (s : BitVec 32) (a : Option Addr) (c n : Nat) (xs : List Int) (w : World) (hx : Lies w a xs) (hn : xs.length = n) (hm : n ≤ 9223372036854775807) :
    Calls Tryz.prog 146 #[.int .u32 (rg s), .slice a n c] w fun e w' => e = .returned (.int .u32 (rg (more s xs))) ∧ w = w' := by
  subst hn
  exact more_any s a c xs w hx hm
theorem ref_n (s : BitVec 32) (a : Option Addr) (c n : Nat) (xs : List Int) (w : World) (hx : Lies w a xs) (hn : xs.length = n) (hm : n ≤ 9223372036854775807) :
    Calls Tryz.prog 101 #[.int .u32 (rg s), .slice a n c] w fun e w' => e = .returned (.int .u32 (rg (more s xs))) ∧ w = w' := by
  subst hn
  exact ref_any s a c xs w hx hm
theorem ref_0 (a : Option Addr) (c n : Nat) (xs : List Int) (w : World) (hx : Lies w a xs) (hn : xs.length = n) (hm : n ≤ 9223372036854775807) :
    Calls Tryz.prog 101 #[.int .u32 0, .slice a n c] w fun e w' => e = .returned (.int .u32 (rg (more 0#32 xs))) ∧ w = w' :=
  ref_n 0#32 a c n xs w hx hn hm
theorem lies_zeros (w : World) (n : Nat) : Lies (w.alloc (.cells (List.replicate n (Value.int .u8 0)).toArray 5)) (some ⟨w.heap.size, 0, none⟩) (List.replicate n 0) := by
  have e : List.replicate n (Value.int .u8 0) = bl (List.replicate n 0) := by simp [bl]
  rw [e]
  exact lies_block (heap_alloc_new _ _) (by intro i hi; simp)

theorem mark_n (a : Option Addr) (c n : Nat) (xs : List Int) (w : World) (hn : xs.length = n) (h4 : 4 ≤ n) (hx : Lies w a xs) (hm : n ≤ 281474976710656) (hc : n ≤ c) :
    Calls Tryz.prog 117 #[.slice a n c] w fun e w' => e = .returned (.tuple #[.slice (some ⟨w.heap.size, 0, none⟩) n n, .nilIface]) ∧ Lies w' (some ⟨w.heap.size, 0, none⟩) (mkd xs) ∧ Below w.heap.size w w' ∧ w.heap.size < w'.heap.size := by
  subst hn
  exact (mark_any a c xs w h4 hx hm hc).mono fun e w' ⟨h1, h2, h3⟩ => ⟨h1, lies_block h2 (byte_mkd hx.byte), h3, lt_of_block h2⟩
theorem good_n (a : Option Addr) (c n : Nat) (xs : List Int) (w : World) (hn : xs.length = n) (h4 : 4 ≤ n) (hx : Lies w a xs) (hm : n ≤ 9223372036854775807) (hc : n ≤ c) :
    Calls Tryz.prog 108 #[.slice a n c] w fun e w' => e = .returned (.bool (isGood xs)) ∧ Below w.heap.size w w' := by
  subst hn
  exact good_any a c xs w h4 hx hm hc
theorem mkd_take {xs : List Int} (h : 4 ≤ xs.length) : (mkd xs).take (xs.length - 4) = xs.take (xs.length - 4) := by
  unfold mkd mk
  rw [List.take_append_of_le_length (by rw [List.length_take]; omega), List.take_of_length_le (by rw [List.length_take]; omega)]
theorem mkd_mkd {xs : List Int} (h : 4 ≤ xs.length) : mkd (mkd xs) = mkd xs := by
  have e : mkd (mkd xs) = mk ((mkd xs).take ((mkd xs).length - 4)) := rfl
  rw [e, mkd_len h, mkd_take h]
  rfl
theorem conv_lies {w : World} {b off n c : Nat} {xs : List Int} (h : Lies w (some ⟨b, off, none⟩) xs) (hn : xs.length = n) :
    (convert 72 9 (.slice (some ⟨b, off, none⟩) n c)).run Tryz.prog w = .ok (.string (strOfNums xs)) w := by
  refine run_convert_bytes_arg w 72 5 Tryz.underlying72 Tryz.underlying5 b off n c xs hn (fun i hi => ?_) 9 Tryz.underlying9
  obtain ⟨b', off', ha, h1, _⟩ := h i (by omega)
  obtain ⟨rfl, rfl⟩ : b = b' ∧ off = off' := by simpa using ha
  rw [h1]
  simp [show i < xs.length by omega]
theorem lies_set {w : World} {g off : Nat} {xs : List Int} (h : Lies w (some ⟨g, off, none⟩) xs) (k : Nat) (v : Int) (v0 : 0 ≤ v) (v1 : v < 256) : Lies (w.setCell ⟨g, off + k, none⟩ (.int .u8 v)) (some ⟨g, off, none⟩) (xs.set k v) := by
  intro i hi
  have hi' : i < xs.length := by simpa using hi
  obtain ⟨b', off', ha, h1, h2, h3⟩ := h i hi'
  obtain ⟨rfl, rfl⟩ : g = b' ∧ off = off' := by simpa using ha
  refine ⟨g, off, rfl, ?_, ?_⟩
  · by_cases e : k = i
    · subst e
      rw [World.cell?_setCell_same _ _ _ h1]
      simp
    · rw [World.cell?_setCell_other _ _ _ _ (by intro q; simp only [Addr.mk.injEq] at q; omega), h1]
      simp [e]
  · by_cases e : k = i
    · subst e; simp [v0, v1]
    · simp [e, h2, h3]
theorem own_lies_at {w : World} {B n g cap : Nat} {xs : List Int} (h : w.ownsRow B 5 1 (.slice (some ⟨g, 0, none⟩) n cap) n (bl xs)) (hb : Byte xs) : Lies w (some ⟨g, 0, none⟩) xs ∧ n ≤ cap := by
  obtain ⟨ao, c, hv, hl, hc, _⟩ := own_lies h hb
  simp at hv
  obtain ⟨rfl, rfl⟩ := hv
  exact ⟨hl, hc⟩

theorem lies_cell {w : World} {g : Nat} {xs : List Int} (h : Lies w (some ⟨g, 0, none⟩) xs) {k : Nat} {x : Int} (hx : xs[k]? = some x) : w.cell? ⟨g, k, none⟩ = some (.int .u8 x) := by
  obtain ⟨hk, rfl⟩ := List.getElem?_eq_some_iff.1 hx
  obtain ⟨b', off', ha, h1, _⟩ := h k hk
  obtain ⟨rfl, rfl⟩ : g = b' ∧ 0 = off' := by simpa using ha
  rw [Nat.zero_add] at h1
  exact h1

theorem mark_h (a : Option Addr) (c n : Nat) (xs : List Int) (w : World) (H : Nat) (hH : w.heap.size = H) (hn : xs.length = n) (h4 : 4 ≤ n) (hx : Lies w a xs) (hm : n ≤ 281474976710656) (hc : n ≤ c) :
    Calls Tryz.prog 117 #[.slice a n c] w fun e w' => e = .returned (.tuple #[.slice (some ⟨H, 0, none⟩) n n, .nilIface]) ∧ Lies w' (some ⟨H, 0, none⟩) (mkd xs) ∧ Below H w w' ∧ H < w'.heap.size := by
  subst hH
  exact mark_n a c n xs w hn h4 hx hm hc

end Go.Proofs.YtlfkkakohldgnaaGreatDoor.Sm
namespace Go.Proofs.YtlfkkakohldgnaaGreatDoor
open Go.RowKit

structure Fr where
  i : Int
  t : ByteArray
  d : Bool
  u : Bool
  h : Nat
def Fr.new (i : Int) : Fr := ⟨i, ⟨#[]⟩, false, false, 0⟩
structure Dk where
  n : Nat
  cur : Nat → ByteArray
  pend : List Nat
  writes : Int
  left : Int
def Dk.wrote (d : Dk) (i : Nat) (t : ByteArray) : Dk := { d with cur := fun j => if j = i then t else d.cur j, pend := if i ∈ d.pend then d.pend else d.pend ++ [i], writes := d.writes + 1, left := if 0 < d.left then d.left - 1 else d.left }
def Dk.flush (d : Dk) : Dk := { d with pend := [] }
structure Px where
  d : Dk
  m : Nat
  c : Nat
  fr : Nat → Fr
  hand : Nat
  loads : Int
def Px.put (X : Px) (k : Nat) (f : Fr) : Px := { X with fr := fun j => if j = k then f else X.fr j }
def Px.unuse (X : Px) (k : Nat) : Px := X.put k { X.fr k with u := false }
def Px.turn (X : Px) : Px := { X with hand := (X.hand + 1) % X.m }
def Px.disk (X : Px) (d : Dk) : Px := { X with d := d }
def Px.more (X : Px) : Px := { X with c := X.c + 1 }
def Px.load (X : Px) : Px := { X with loads := X.loads + 1 }
def Px.at (X : Px) (i : Int) : Option Nat := (List.range X.c).find? fun k => (X.fr k).i == i
def Px.held (X : Px) : Bool := (List.range X.m).all fun k => decide (0 < (X.fr k).h)
/-- the hand goes on, so many steps at most -/
def turnP : Nat → Px → Px × Nat
  | 0, X => (X, 0)
  | n + 1, X => if 0 < (X.fr X.hand).h then turnP n X.turn else if (X.fr X.hand).u = true then turnP n (X.turn.unuse X.hand) else (X.turn, X.hand)
/-- a dirty frame is written -/
def cleanP (X : Px) (k : Nat) : Px × Int :=
  if (X.fr k).d = false then (X, 0) else if X.d.left = 0 then (X, 5) else ((X.disk (X.d.wrote (X.fr k).i.toNat (X.fr k).t)).put k { X.fr k with d := false }, 0)
/-- a frame gives way -/
def giveP (X : Px) : Px × Nat × Int :=
  if X.held = true then (X, 0, 10) else
    let r := turnP (3 * X.m) X
    let z := cleanP r.1 r.2
    (z.1, if z.2 = 0 then r.2 else 0, z.2)
def findP (X : Px) (i : Int) : Px × Nat × Int :=
  match X.at i with
  | some k => (X, k, 0)
  | none =>
    if X.c < X.m then (X.more.put X.c (Fr.new i), X.c, 0) else
      let r := giveP X
      if r.2.2 = 0 then (r.1.put r.2.1 (Fr.new i), r.2.1, 0) else (r.1, 0, r.2.2)
def goodT (t : ByteArray) : Bool := Sm.isGood (nums t)
def fetchP (X : Px) (i : Int) : Px × Nat × Int :=
  if goodT (X.d.cur i.toNat) = false then (X.load, 0, 7) else
    let r := findP X.load i
    if r.2.2 = 0 then (r.1.put r.2.1 { r.1.fr r.2.1 with t := X.d.cur i.toNat, u := true }, r.2.1, 0) else (r.1, 0, r.2.2)
def handP (X : Px) (i : Int) : Px × Nat × Int :=
  if i < 0 ∨ (X.d.n : Int) ≤ i then (X, 0, 4) else
    match X.at i with
    | some k => (X.put k { X.fr k with u := true }, k, 0)
    | none => fetchP X i
def readP (X : Px) (i : Int) : Px × ByteArray × Int :=
  let r := handP X i
  (r.1, if r.2.2 = 0 then (r.1.fr r.2.1).t else ⟨#[]⟩, r.2.2)
def writeP (X : Px) (i : Int) (b : ByteArray) : Px × Int :=
  if i < 0 ∨ (X.d.n : Int) ≤ i then (X, 4) else if b.size ≠ 512 then (X, 2) else if goodT b = false then (X, 7) else
    let r := findP X i
    if r.2.2 = 0 then (r.1.put r.2.1 { r.1.fr r.2.1 with t := b, d := true, u := true }, 0) else (r.1, r.2.2)
def pinP (X : Px) (i : Int) : Px × Int :=
  let r := handP X i
  if r.2.2 = 0 then (r.1.put r.2.1 { r.1.fr r.2.1 with h := (r.1.fr r.2.1).h + 1 }, 0) else (r.1, r.2.2)
def unpinP (X : Px) (i : Int) : Px × Int :=
  if i < 0 ∨ (X.d.n : Int) ≤ i then (X, 4) else
    match X.at i with
    | some k => if (X.fr k).h = 0 then (X, 8) else (X.put k { X.fr k with h := (X.fr k).h - 1 }, 0)
    | none => (X, 8)
def flushN : Nat → Nat → Px → Px × Int
  | 0, _, X => (X, 0)
  | n + 1, k, X => if (cleanP X k).2 = 0 then flushN n (k + 1) (cleanP X k).1 else cleanP X k
def flushP (X : Px) : Px × Int :=
  if (flushN X.m 0 X).2 = 0 then ((flushN X.m 0 X).1.disk (flushN X.m 0 X).1.d.flush, 0) else flushN X.m 0 X

/-! what a pool is -/
structure Px.Ok (N : Nat) (X : Px) : Prop where
  m0 : 1 ≤ X.m
  m1 : X.m ≤ 1024
  cm : X.c ≤ X.m
  hm : X.hand < X.m
  n1 : X.d.n ≤ 16384
  sec : ∀ k, k < X.c → 0 ≤ (X.fr k).i ∧ (X.fr k).i < X.d.n
  inj : ∀ j k, j < X.c → k < X.c → (X.fr j).i = (X.fr k).i → j = k
  emp : ∀ k, X.c ≤ k → X.fr k = Fr.new (-1)
  siz : ∀ k, (X.fr k).t.size = 512 ∨ ((X.fr k).t.size = 0 ∧ (X.fr k).d = false)
  hN : ∀ k, (X.fr k).h ≤ N
  w0 : 0 ≤ X.d.writes
  wN : X.d.writes ≤ N
  l0 : 0 ≤ X.loads
  lN : X.loads ≤ N

theorem at_some {X : Px} {i : Int} {k : Nat} (h : X.at i = some k) : k < X.c ∧ (X.fr k).i = i := by
  unfold Px.at at h
  have h1 := List.mem_of_find?_eq_some h
  have h2 := List.find?_some h
  exact ⟨by simpa using h1, by simpa using h2⟩
theorem at_none {X : Px} {i : Int} (h : X.at i = none) : ∀ k, k < X.c → (X.fr k).i ≠ i := by
  intro k hk e
  unfold Px.at at h
  have := List.find?_eq_none.1 h k (by simpa using hk)
  simp [e] at this
theorem at_of {N : Nat} {X : Px} (o : X.Ok N) {i : Int} {k : Nat} (hk : k < X.c) (h : (X.fr k).i = i) : X.at i = some k := by
  cases ha : X.at i with
  | none => exact absurd h (at_none ha k hk)
  | some j =>
    obtain ⟨h1, h2⟩ := at_some ha
    rw [o.inj j k h1 hk (h2.trans h.symm)]
theorem put_fr (X : Px) (k : Nat) (f : Fr) (j : Nat) : (X.put k f).fr j = if j = k then f else X.fr j := rfl
theorem put_same (X : Px) (k : Nat) (f : Fr) : (X.put k f).fr k = f := by rw [put_fr, if_pos rfl]
theorem put_other (X : Px) (k : Nat) (f : Fr) {j : Nat} (h : j ≠ k) : (X.put k f).fr j = X.fr j := by rw [put_fr, if_neg h]
theorem Px.Ok.mono {N M : Nat} {X : Px} (o : X.Ok N) (h : N ≤ M) : X.Ok M := ⟨o.m0, o.m1, o.cm, o.hm, o.n1, o.sec, o.inj, o.emp, o.siz, fun k => Nat.le_trans (o.hN k) h, o.w0, Int.le_trans o.wN (by omega), o.l0, Int.le_trans o.lN (by omega)⟩
/-- a frame is another one, of the same sector -/
theorem Px.Ok.put {N M : Nat} {X : Px} (o : X.Ok N) {k : Nat} (hk : k < X.c) {f : Fr} (hi : f.i = (X.fr k).i) (hs : f.t.size = 512 ∨ (f.t.size = 0 ∧ f.d = false)) (hh : f.h ≤ M) (hNM : N ≤ M) : (X.put k f).Ok M := by
  have hi' : ∀ j, ((X.put k f).fr j).i = (X.fr j).i := fun j => by
    rw [put_fr]
    split
    · rename_i e; rw [e, hi]
    · rfl
  refine ⟨o.m0, o.m1, o.cm, o.hm, o.n1, fun j hj => by rw [hi']; exact o.sec j hj, fun a b ha hb h => o.inj a b ha hb (by rwa [hi', hi'] at h), fun j hj => ?_, fun j => ?_, fun j => ?_, o.w0, Int.le_trans o.wN (by omega), o.l0, Int.le_trans o.lN (by omega)⟩
  · have hj' : X.c ≤ j := hj
    rw [put_other _ _ _ (by omega)]
    exact o.emp j hj'
  · rw [put_fr]; split
    · exact hs
    · exact o.siz j
  · rw [put_fr]; split
    · exact hh
    · exact Nat.le_trans (o.hN j) hNM
theorem Px.Ok.turn {N : Nat} {X : Px} (o : X.Ok N) : X.turn.Ok N := ⟨o.m0, o.m1, o.cm, Nat.mod_lt _ o.m0, o.n1, o.sec, o.inj, o.emp, o.siz, o.hN, o.w0, o.wN, o.l0, o.lN⟩
theorem Px.Ok.load {N : Nat} {X : Px} (o : X.Ok N) : X.load.Ok (N + 1) := ⟨o.m0, o.m1, o.cm, o.hm, o.n1, o.sec, o.inj, o.emp, o.siz, fun k => Nat.le_succ_of_le (o.hN k), o.w0, Int.le_trans o.wN (by omega), by have := o.l0; show 0 ≤ X.loads + 1; omega, by have := o.lN; show X.loads + 1 ≤ _; omega⟩
theorem Px.Ok.wrote {N : Nat} {X : Px} (o : X.Ok N) (i : Nat) (t : ByteArray) : (X.disk (X.d.wrote i t)).Ok (N + 1) := ⟨o.m0, o.m1, o.cm, o.hm, o.n1, o.sec, o.inj, o.emp, o.siz, fun k => Nat.le_succ_of_le (o.hN k), by have := o.w0; show 0 ≤ X.d.writes + 1; omega, by have := o.wN; show X.d.writes + 1 ≤ _; omega, o.l0, Int.le_trans o.lN (by omega)⟩
theorem Px.Ok.flush {N : Nat} {X : Px} (o : X.Ok N) : (X.disk X.d.flush).Ok N := ⟨o.m0, o.m1, o.cm, o.hm, o.n1, o.sec, o.inj, o.emp, o.siz, o.hN, o.w0, o.wN, o.l0, o.lN⟩
/-- an empty frame holds a sector -/
theorem Px.Ok.fill {N : Nat} {X : Px} (o : X.Ok N) {i : Int} (hi : 0 ≤ i ∧ i < X.d.n) (hc : X.c < X.m) (ha : X.at i = none) : (X.more.put X.c (Fr.new i)).Ok N := by
  have hn := at_none ha
  refine ⟨o.m0, o.m1, hc, o.hm, o.n1, fun j hj => ?_, fun a b hA hB h => ?_, fun j hj => ?_, fun j => ?_, fun j => ?_, o.w0, o.wN, o.l0, o.lN⟩
  · rw [put_fr]; split
    · exact hi
    · rename_i e
      have hj' : j < X.c + 1 := hj
      exact o.sec j (by omega)
  · have hA' : a < X.c + 1 := hA
    have hB' : b < X.c + 1 := hB
    rw [put_fr, put_fr] at h
    split at h <;> split at h
    · omega
    · rename_i e1 e2; exact absurd h.symm (hn b (by omega))
    · rename_i e1 e2; exact absurd h (hn a (by omega))
    · exact o.inj a b (by omega) (by omega) h
  · have hj' : X.c + 1 ≤ j := hj
    rw [put_other _ _ _ (by omega)]
    exact o.emp j (by omega)
  · rw [put_fr]; split
    · exact .inr ⟨rfl, rfl⟩
    · exact o.siz j
  · rw [put_fr]; split
    · exact Nat.zero_le _
    · exact o.hN j
/-- a frame that gives way holds another sector -/
theorem Px.Ok.over {N : Nat} {X : Px} (o : X.Ok N) {i : Int} (hi : 0 ≤ i ∧ i < X.d.n) {k : Nat} (hk : k < X.c) (ha : X.at i = none) : (X.put k (Fr.new i)).Ok N := by
  have hn := at_none ha
  refine ⟨o.m0, o.m1, o.cm, o.hm, o.n1, fun j hj => ?_, fun a b hA hB h => ?_, fun j hj => ?_, fun j => ?_, fun j => ?_, o.w0, o.wN, o.l0, o.lN⟩
  · rw [put_fr]; split
    · exact hi
    · exact o.sec j hj
  · rw [put_fr, put_fr] at h
    split at h <;> split at h
    · omega
    · rename_i e1 e2; exact absurd h.symm (hn b hB)
    · rename_i e1 e2; exact absurd h (hn a hA)
    · exact o.inj a b hA hB h
  · have hj' : X.c ≤ j := hj
    rw [put_other _ _ _ (by omega)]
    exact o.emp j hj'
  · rw [put_fr]; split
    · exact .inr ⟨rfl, rfl⟩
    · exact o.siz j
  · rw [put_fr]; split
    · exact Nat.zero_le _
    · exact o.hN j
theorem Px.Ok.unuse {N : Nat} {X : Px} (o : X.Ok N) {k : Nat} (hk : k < X.c) : (X.unuse k).Ok N := o.put hk rfl (o.siz k) (o.hN k) (Nat.le_refl _)

/-! the hand -/
theorem held_no {X : Px} (h : X.held = false) : ∃ k, k < X.m ∧ (X.fr k).h = 0 := by
  unfold Px.held at h
  rw [List.all_eq_false] at h
  obtain ⟨k, hk, hh⟩ := h
  exact ⟨k, by simpa using hk, by simpa using hh⟩
/-- how far the hand may still go, for a frame that is not held -/
def far (X : Px) (t : Nat) : Nat := (if (X.fr t).u = true then X.m else 0) + (t + X.m - X.hand) % X.m
theorem dist_next {m h t : Nat} (hh : h < m) (ht : t < m) (hne : h ≠ t) : (t + m - (h + 1) % m) % m + 1 = (t + m - h) % m := by
  by_cases e : h + 1 = m
  · rw [e, Nat.mod_self]
    have : t < h := by omega
    rw [show t + m - 0 = t + m by omega, Nat.add_mod_right, Nat.mod_eq_of_lt ht, Nat.mod_eq_of_lt (by omega)]
    omega
  · rw [Nat.mod_eq_of_lt (show h + 1 < m by omega)]
    by_cases l : h < t
    · rw [show t + m - (h + 1) = (t - (h + 1)) + m by omega, show t + m - h = (t - h) + m by omega, Nat.add_mod_right, Nat.add_mod_right, Nat.mod_eq_of_lt (by omega), Nat.mod_eq_of_lt (by omega)]
      omega
    · rw [Nat.mod_eq_of_lt (by omega), Nat.mod_eq_of_lt (by omega)]
      omega
theorem dist_self {m t : Nat} (ht : t < m) : (t + m - (t + 1) % m) % m < m ∧ (t + m - t) % m = 0 := by
  refine ⟨Nat.mod_lt _ (by omega), ?_⟩
  rw [show t + m - t = m by omega, Nat.mod_self]
theorem far_held {X : Px} {t : Nat} (hm : X.hand < X.m) (ht : t < X.m) (h0 : (X.fr t).h = 0) (hh : 0 < (X.fr X.hand).h) : far X.turn t < far X t := by
  have hne : X.hand ≠ t := fun e => by rw [e] at hh; omega
  have := dist_next hm ht hne
  unfold far Px.turn
  simp only
  omega
theorem far_used {X : Px} {t : Nat} (hm : X.hand < X.m) (ht : t < X.m) (hu : (X.fr X.hand).u = true) : far (X.turn.unuse X.hand) t < far X t := by
  by_cases hne : X.hand = t
  · subst hne
    have := dist_self ht
    unfold far
    rw [hu, if_pos rfl]
    have e : ((X.turn.unuse X.hand).fr X.hand).u = false := by unfold Px.unuse; rw [put_same]
    rw [e]
    show 0 + (X.hand + X.m - (X.hand + 1) % X.m) % X.m < _
    omega
  · have := dist_next hm ht hne
    have e : (X.turn.unuse X.hand).fr t = X.fr t := by unfold Px.unuse; rw [put_other _ _ _ (fun e => hne e.symm)]; rfl
    unfold far
    rw [e]
    show (if (X.fr t).u = true then X.m else 0) + (t + X.m - (X.hand + 1) % X.m) % X.m < _
    omega
theorem far_le (X : Px) (t : Nat) (hm : 1 ≤ X.m) : far X t < 2 * X.m := by
  have := Nat.mod_lt (t + X.m - X.hand) hm
  unfold far
  split <;> omega

/-- what the hand leaves -/
structure Turned (X Y : Px) (k : Nat) : Prop where
  d : Y.d = X.d
  m : Y.m = X.m
  c : Y.c = X.c
  loads : Y.loads = X.loads
  lt : k < X.m
  h0 : (X.fr k).h = 0
  u0 : (Y.fr k).u = false
  fr : ∀ j, Y.fr j = X.fr j ∨ Y.fr j = { X.fr j with u := false }
theorem turn_any {N : Nat} : ∀ (n : Nat) (X : Px) (t : Nat), X.Ok N → X.c = X.m → t < X.m → (X.fr t).h = 0 → far X t < n → Turned X (turnP n X).1 (turnP n X).2 ∧ (turnP n X).1.Ok N
  | 0, X, t, o, _, ht, h0, hf => absurd hf (by omega)
  | n + 1, X, t, o, hc, ht, h0, hf => by
    unfold turnP
    by_cases hh : 0 < (X.fr X.hand).h
    · rw [if_pos hh]
      have hlt := far_held o.hm ht h0 hh
      have ⟨T, o2⟩ := turn_any n X.turn t o.turn hc ht h0 (by omega)
      exact ⟨⟨T.d, T.m, T.c, T.loads, T.lt, T.h0, T.u0, T.fr⟩, o2⟩
    · rw [if_neg hh]
      by_cases hu : (X.fr X.hand).u = true
      · rw [if_pos hu]
        have hlt := far_used o.hm ht hu
        have o1 : (X.turn.unuse X.hand).Ok N := o.turn.unuse (k := X.hand) (by show X.hand < X.c; have := o.hm; omega)
        have h0' : ((X.turn.unuse X.hand).fr t).h = 0 := by
          unfold Px.unuse; rw [put_fr]; split
          · rename_i e; rw [← e]; exact h0
          · exact h0
        have ⟨T, o2⟩ := turn_any n (X.turn.unuse X.hand) t o1 hc ht h0' (by omega)
        have hfr : ∀ j, (X.turn.unuse X.hand).fr j = X.fr j ∨ (X.turn.unuse X.hand).fr j = { X.fr j with u := false } := fun j => by
          unfold Px.unuse; rw [put_fr]; split
          · rename_i e; rw [e]; exact .inr rfl
          · exact .inl rfl
        refine ⟨⟨T.d, T.m, T.c, T.loads, T.lt, ?_, T.u0, fun j => ?_⟩, o2⟩
        · rcases hfr (turnP n (X.turn.unuse X.hand)).2 with e | e <;> (have := T.h0; rw [e] at this; exact this)
        · rcases T.fr j with e | e <;> rcases hfr j with e2 | e2 <;> rw [e2] at e
          · exact .inl e
          · exact .inr e
          · exact .inr e
          · exact .inr e
      · rw [if_neg hu]
        exact ⟨⟨rfl, rfl, rfl, rfl, o.hm, by show (X.fr X.hand).h = 0; omega, by show (X.fr X.hand).u = false; simpa using hu, fun j => .inl rfl⟩, o.turn⟩
end Go.Proofs.YtlfkkakohldgnaaGreatDoor

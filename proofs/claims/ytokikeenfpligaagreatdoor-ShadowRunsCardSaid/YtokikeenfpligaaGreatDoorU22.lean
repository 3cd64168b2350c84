/-
  THE WALKS of (*Disk).settle and Flush. Conditions: a disk lies in memory.
  A POOL's FRAMES AND ITS DISK AS PLAIN DATA, AND WHAT EACH CALL MAKES OF THEM. No program in it. Conditions: those that each lemma names.
-/
import Derived.Test.YtokikeenfpligaaGreatDoorU21
import Derived.Test.YtokikeenfpligaaGreatDoorU07
namespace Go.Proofs.YtokikeenfpligaaGreatDoor
open Go.RowKit

/-- the first k of those that are pending are no more so -/
structure SettleInv (w : World) (s : St) (k : Nat) (wr : World) : Prop where
  os : wr.os = w.os
  tape : wr.tape = w.tape
  output : wr.output = w.output
  size : wr.heap.size = w.heap.size
  block : ∀ b, b ≠ s.L → wr.heap[b]? = w.heap[b]?
  cL : ∀ i, i < s.n → wr.cell? ⟨s.L, i, none⟩ = some (if i ∈ s.pend.take k then .pointer none else ptr (s.late i))
  fL : ∀ i, wr.frozen? ⟨s.L, i, none⟩ = false
theorem SettleInv.next {w wr : World} {s : St} {k : Nat} (h : SettleInv w s k wr) (hk : k < s.pend.length) (hn : s.pend[k] < s.n) : SettleInv w s (k + 1) (wr.setCell ⟨s.L, s.pend[k], none⟩ (.pointer none)) := by
  refine ⟨h.os, h.tape, h.output, by simpa using h.size, fun b hb => (Below.heap_setCell _ _ _ _ hb).trans (h.block b hb), fun i hi => ?_, fun i => by rw [World.frozen?_setCell]; exact h.fL i⟩
  rw [List.take_succ_eq_append_getElem hk]
  by_cases e : i = s.pend[k]
  · rw [if_pos (by rw [List.mem_append, List.mem_singleton]; exact .inr e), e]
    exact World.cell?_setCell_same _ _ _ (h.cL _ hn)
  · rw [World.cell?_setCell_other _ _ _ _ (by intro q; simp only [Addr.mk.injEq] at q; omega), h.cL i hi]
    by_cases f : i ∈ s.pend.take k
    · rw [if_pos f, if_pos (by rw [List.mem_append]; exact .inl f)]
    · rw [if_neg f, if_neg (by rw [List.mem_append, List.mem_singleton]; exact fun q => q.elim f e)]
def SettledAt (B : Nat) (w : World) (s : St) (e : Ending) (w' : World) : Prop :=
  e = .returned (.tuple #[]) ∧ DiskAt B w' s.settle ∧ Step w s w' s.settle
theorem settled_of {B : Nat} {w wr : World} {s : St} (h : DiskAt B w s) (hi : SettleInv w s s.pend.length wr) : DiskAt B (wr.setCell ⟨s.D, 2, none⟩ (.slice none 0 0)) s.settle ∧ Step w s (wr.setCell ⟨s.D, 2, none⟩ (.slice none 0 0)) s.settle := by
  refine ⟨h.settled hi.block hi.size (fun i hn => ?_) hi.fL, ⟨hi.os, hi.tape, hi.output, by have := hi.size; simp; omega, fun k hk hn => ?_, fun k hk => ?_⟩⟩
  · rw [hi.cL i hn, List.take_length]
    by_cases f : i ∈ s.pend
    · rw [if_pos f]
    · rw [if_neg f]
      have : s.late i = none := by
        cases e : s.late i with
        | none => rfl
        | some b => exact absurd ((h.ok.mem i).2 (by rw [e]; simp)) f
      rw [this]
      rfl
  · rw [Below.heap_setCell _ _ _ _ (fun e => hn (.inl e)), hi.block k (fun e => hn (.inr (.inr (.inl e))))]
  · rcases hk with e | e | e | e | ⟨i, e⟩
    · exact .inl (.inl e)
    · exact .inl (.inr (.inl e))
    · exact .inl (.inr (.inr (.inl e)))
    · simp [St.settle, Value.ownBlock] at e
    · cases e
set_option maxRecDepth 100000 in
theorem settle_any {B : Nat} (s : St) (w : World) (h : DiskAt B w s) :
    Calls Tryz.prog 67 #[.pointer (some ⟨s.D, 0, none⟩)] w (SettledAt B w s) := by
  have c2 := h.d2
  obtain ⟨ao, cap, hv⟩ := own_slice h.p
  rw [hv] at c2
  have n1 := h.ok.n1
  have hle := pend_le h.ok
  have HH := Lib.hid h
  have HV := Lib.hid hv
  clear h hv
  go_enter Tryz.func67, Tryz.ntmps67
  go_wp2
  go_loopw [9] (fun i wr => ∃ k : Nat, k ≤ s.pend.length ∧ i = .int .i64 k ∧ SettleInv w s k wr) (fun i _ => s.pend.length - (intOf i).toNat)
  case atStart =>
    exact ⟨0, by omega, rfl, ⟨rfl, rfl, rfl, rfl, fun _ _ => rfl, fun i hi => by rw [List.take_zero, if_neg (by simp)]; exact HH.out.cL i hi, HH.out.fL⟩⟩
  case round =>
    obtain ⟨k, hk, rfl, hinv⟩ := hrel
    have HI := Lib.hid hinv
    clear hinv
    by_cases hlt : k < s.pend.length
    · obtain ⟨g, cap', hv', _, hcell⟩ := pend_cell HH.out (by omega)
      have hv := HV.out
      rw [hv] at hv'
      injection hv' with e1 _ e2
      subst e1 e2
      have hc := hcell k hlt
      have hgL : g ≠ s.L := by
        have := HH.out.ok.pL
        rw [hv] at this
        exact fun e => this (by rw [e]; rfl)
      rw [← cell_of_block (HI.out.block g hgL)] at hc
      have hmem : s.pend[k] ∈ s.pend := List.getElem_mem hlt
      have hn := HH.out.ok.lim _ ((HH.out.ok.mem _).1 hmem)
      have HN := Lib.hid (HI.out.next hlt hn)
      have d1 := HH.out.d1
      rw [← cell_of_block (HI.out.block s.D HH.out.ok.DL)] at d1
      have cl := HI.out.cL _ hn
      have fl := HI.out.fL s.pend[k]
      generalize s.pend[k] = i at hc hn HN cl fl
      generalize (if i ∈ List.take k s.pend then Value.pointer none else ptr (s.late i)) = v0 at cl
      have i0 : (0 : Int) ≤ (i : Int) := by omega
      have hlt' : (k : Int) < (s.pend.length : Int) := by omega
      clear hmem hcell hv hgL
      go_wp2
      go_roundw
      case rel => exact ⟨k + 1, by omega, by go_num, HN.out⟩
      case measure => simp [intOf]; omega
    · obtain rfl : k = s.pend.length := by omega
      have d2 := HH.out.d2
      rw [← cell_of_block (HI.out.block s.D HH.out.ok.DL)] at d2
      have f2 := HH.out.fD 2
      rw [← frozen_of_block (HI.out.block s.D HH.out.ok.DL)] at f2
      have HN := Lib.hid (settled_of HH.out HI.out)
      go_wp2
      go_end0
      exact ⟨rfl, HN.out.1, HN.out.2⟩

/-- what is sure of all these sectors becomes what they are now -/
def St.outs (s : St) (l : List Nat) : St := { s with sure := fun k j => if k ∈ l ∧ j < 512 then s.now k j else s.sure k j }
theorem outs_nil (s : St) : s.outs [] = s := by unfold St.outs; simp
theorem outs_out (s : St) (l : List Nat) (i : Nat) : (s.outs l).out i 512 = s.outs (l ++ [i]) := by
  unfold St.out St.outs upd
  congr 1
  funext k j
  by_cases e : k = i
  · subst e
    by_cases f : j < 512
    · simp [f]
    · simp [f]
  · simp [e]
def FlushedAt (B : Nat) (w : World) (s : St) (e : Ending) (w' : World) : Prop :=
  e = .returned .nilIface ∧ DiskAt B w' (s.outs s.pend).settle ∧ Step w s w' (s.outs s.pend).settle
set_option maxRecDepth 100000 in
theorem flush_any {B : Nat} (s : St) (w : World) (h : DiskAt B w s) :
    Calls Tryz.prog 104 #[.pointer (some ⟨s.D, 0, none⟩)] w (FlushedAt B w s) := by
  have c2 := h.d2
  obtain ⟨ao, cap, hv⟩ := own_slice h.p
  rw [hv] at c2
  have n1 := h.ok.n1
  have hle := pend_le h.ok
  have HH := Lib.hid h
  clear h hv
  go_enter Tryz.func104, Tryz.ntmps104
  go_wp2
  go_loopw [12] (fun i wr => ∃ k : Nat, k ≤ s.pend.length ∧ i = .int .i64 k ∧ DiskAt B wr (s.outs (s.pend.take k)) ∧ Step w s wr (s.outs (s.pend.take k))) (fun i _ => s.pend.length - (intOf i).toNat)
  case atStart => exact ⟨0, by omega, rfl, by rw [List.take_zero, outs_nil]; exact HH.out, by rw [List.take_zero, outs_nil]; exact Step.refl _ _⟩
  case round =>
    obtain ⟨k, hk, rfl, hd, hs⟩ := hrel
    have HD := Lib.hid hd
    have HS := Lib.hid hs
    clear hd hs
    by_cases hlt : k < s.pend.length
    · have hlt' : (k : Int) < (s.pend.length : Int) := by omega
      go_wp2_with (go_at_call 66; refine (outlive_any (s.outs (s.pend.take k)) k _ 512 512 _ HD.out hlt rfl rfl (by omega)).mono ?_; rintro e w1 ⟨rfl, hd1, hs1⟩)
      have e : (s.outs (s.pend.take k)).out ((s.outs (s.pend.take k)).pend[k]) 512 = s.outs (s.pend.take (k + 1)) := by
        rw [List.take_succ_eq_append_getElem hlt]
        exact outs_out s _ _
      rw [e] at hd1 hs1
      have HD1 := Lib.hid hd1
      have HS1 := Lib.hid (HS.out.trans hs1)
      clear hd1 hs1 e
      go_wp2
      go_roundw
      case rel => exact ⟨k + 1, by omega, by go_num, HD1.out, HS1.out⟩
      case measure => simp [intOf]; omega
    · obtain rfl : k = s.pend.length := by omega
      have HA := Lib.hid (settle_any _ _ HD.out)
      go_wp2_with (go_at_call 67; refine HA.out.mono ?_; rintro e w1 ⟨rfl, hd1, hs1⟩)
      rw [List.take_length] at hd1 hs1 HS
      go_ret
      exact ⟨rfl, hd1, HS.out.trans hs1⟩
end Go.Proofs.YtokikeenfpligaaGreatDoor
namespace Go.Proofs.YtokikeenfpligaaGreatDoor
open Go.RowKit

structure Fr where
  i : Int
  t : ByteArray
  d : Bool
  u : Bool
  h : Nat
def Fr.new (i : Int) : Fr := ⟨i, ⟨#[]⟩, false, false, 0⟩
structure Dk where
  n : Nat
  cur : Nat → ByteArray
  pend : List Nat
  writes : Int
  left : Int
def Dk.wrote (d : Dk) (i : Nat) (t : ByteArray) : Dk := { d with cur := fun j => if j = i then t else d.cur j, pend := if i ∈ d.pend then d.pend else d.pend ++ [i], writes := d.writes + 1, left := if 0 < d.left then d.left - 1 else d.left }
def Dk.flush (d : Dk) : Dk := { d with pend := [] }
structure Px where
  d : Dk
  m : Nat
  c : Nat
  fr : Nat → Fr
  hand : Nat
  loads : Int
def Px.put (X : Px) (k : Nat) (f : Fr) : Px := { X with fr := fun j => if j = k then f else X.fr j }
def Px.unuse (X : Px) (k : Nat) : Px := X.put k { X.fr k with u := false }
def Px.turn (X : Px) : Px := { X with hand := (X.hand + 1) % X.m }
def Px.disk (X : Px) (d : Dk) : Px := { X with d := d }
def Px.more (X : Px) : Px := { X with c := X.c + 1 }
def Px.load (X : Px) : Px := { X with loads := X.loads + 1 }
def Px.at (X : Px) (i : Int) : Option Nat := (List.range X.c).find? fun k => (X.fr k).i == i
def Px.held (X : Px) : Bool := (List.range X.m).all fun k => decide (0 < (X.fr k).h)
/-- the hand goes on, so many steps at most -/
def turnP : Nat → Px → Px × Nat
  | 0, X => (X, 0)
  | n + 1, X => if 0 < (X.fr X.hand).h then turnP n X.turn else if (X.fr X.hand).u = true then turnP n (X.turn.unuse X.hand) else (X.turn, X.hand)
/-- a dirty frame is written -/
def cleanP (X : Px) (k : Nat) : Px × Int :=
  if (X.fr k).d = false then (X, 0) else if X.d.left = 0 then (X, 5) else ((X.disk (X.d.wrote (X.fr k).i.toNat (X.fr k).t)).put k { X.fr k with d := false }, 0)
/-- a frame gives way -/
def giveP (X : Px) : Px × Nat × Int :=
  if X.held = true then (X, 0, 10) else
    let r := turnP (3 * X.m) X
    let z := cleanP r.1 r.2
    (z.1, if z.2 = 0 then r.2 else 0, z.2)
def findP (X : Px) (i : Int) : Px × Nat × Int :=
  match X.at i with
  | some k => (X, k, 0)
  | none =>
    if X.c < X.m then (X.more.put X.c (Fr.new i), X.c, 0) else
      let r := giveP X
      if r.2.2 = 0 then (r.1.put r.2.1 (Fr.new i), r.2.1, 0) else (r.1, 0, r.2.2)
def goodT (t : ByteArray) : Bool := Sm.isGood (nums t)
def fetchP (X : Px) (i : Int) : Px × Nat × Int :=
  if goodT (X.d.cur i.toNat) = false then (X.load, 0, 7) else
    let r := findP X.load i
    if r.2.2 = 0 then (r.1.put r.2.1 { r.1.fr r.2.1 with t := X.d.cur i.toNat, u := true }, r.2.1, 0) else (r.1, 0, r.2.2)
def handP (X : Px) (i : Int) : Px × Nat × Int :=
  if i < 0 ∨ (X.d.n : Int) ≤ i then (X, 0, 4) else
    match X.at i with
    | some k => (X.put k { X.fr k with u := true }, k, 0)
    | none => fetchP X i
def readP (X : Px) (i : Int) : Px × ByteArray × Int :=
  let r := handP X i
  (r.1, if r.2.2 = 0 then (r.1.fr r.2.1).t else ⟨#[]⟩, r.2.2)
def writeP (X : Px) (i : Int) (b : ByteArray) : Px × Int :=
  if i < 0 ∨ (X.d.n : Int) ≤ i then (X, 4) else if b.size ≠ 512 then (X, 2) else if goodT b = false then (X, 7) else
    let r := findP X i
    if r.2.2 = 0 then (r.1.put r.2.1 { r.1.fr r.2.1 with t := b, d := true, u := true }, 0) else (r.1, r.2.2)
def pinP (X : Px) (i : Int) : Px × Int :=
  let r := handP X i
  if r.2.2 = 0 then (r.1.put r.2.1 { r.1.fr r.2.1 with h := (r.1.fr r.2.1).h + 1 }, 0) else (r.1, r.2.2)
def unpinP (X : Px) (i : Int) : Px × Int :=
  if i < 0 ∨ (X.d.n : Int) ≤ i then (X, 4) else
    match X.at i with
    | some k => if (X.fr k).h = 0 then (X, 8) else (X.put k { X.fr k with h := (X.fr k).h - 1 }, 0)
    | none => (X, 8)
def flushN : Nat → Nat → Px → Px × Int
  | 0, _, X => (X, 0)
  | n + 1, k, X => if (cleanP X k).2 = 0 then flushN n (k + 1) (cleanP X k).1 else cleanP X k
def flushP (X : Px) : Px × Int :=
  if (flushN X.m 0 X).2 = 0 then ((flushN X.m 0 X).1.disk (flushN X.m 0 X).1.d.flush, 0) else flushN X.m 0 X

/-! what a pool is -/
structure Px.Ok (N : Nat) (X : Px) : Prop where
  m0 : 1 ≤ X.m
  m1 : X.m ≤ 1024
  cm : X.c ≤ X.m
  hm : X.hand < X.m
  n1 : X.d.n ≤ 16384
  sec : ∀ k, k < X.c → 0 ≤ (X.fr k).i ∧ (X.fr k).i < X.d.n
  inj : ∀ j k, j < X.c → k < X.c → (X.fr j).i = (X.fr k).i → j = k
  emp : ∀ k, X.c ≤ k → X.fr k = Fr.new (-1)
  siz : ∀ k, (X.fr k).t.size = 512 ∨ ((X.fr k).t.size = 0 ∧ (X.fr k).d = false)
  hN : ∀ k, (X.fr k).h ≤ N
  w0 : 0 ≤ X.d.writes
  wN : X.d.writes ≤ N
  l0 : 0 ≤ X.loads
  lN : X.loads ≤ N

theorem at_some {X : Px} {i : Int} {k : Nat} (h : X.at i = some k) : k < X.c ∧ (X.fr k).i = i := by
  unfold Px.at at h
  have h1 := List.mem_of_find?_eq_some h
  have h2 := List.find?_some h
  exact ⟨by simpa using h1, by simpa using h2⟩
theorem at_none {X : Px} {i : Int} (h : X.at i = none) : ∀ k, k < X.c → (X.fr k).i ≠ i := by
  intro k hk e
  unfold Px.at at h
  have := List.find?_eq_none.1 h k (by simpa using hk)
  simp [e] at this
theorem at_of {N : Nat} {X : Px} (o : X.Ok N) {i : Int} {k : Nat} (hk : k < X.c) (h : (X.fr k).i = i) : X.at i = some k := by
  cases ha : X.at i with
  | none => exact absurd h (at_none ha k hk)
  | some j =>
    obtain ⟨h1, h2⟩ := at_some ha
    rw [o.inj j k h1 hk (h2.trans h.symm)]
theorem put_fr (X : Px) (k : Nat) (f : Fr) (j : Nat) : (X.put k f).fr j = if j = k then f else X.fr j := rfl
theorem put_same (X : Px) (k : Nat) (f : Fr) : (X.put k f).fr k = f := by rw [put_fr, if_pos rfl]
theorem put_other (X : Px) (k : Nat) (f : Fr) {j : Nat} (h : j ≠ k) : (X.put k f).fr j = X.fr j := by rw [put_fr, if_neg h]
theorem Px.Ok.mono {N M : Nat} {X : Px} (o : X.Ok N) (h : N ≤ M) : X.Ok M := ⟨o.m0, o.m1, o.cm, o.hm, o.n1, o.sec, o.inj, o.emp, o.siz, fun k => Nat.le_trans (o.hN k) h, o.w0, Int.le_trans o.wN (by omega), o.l0, Int.le_trans o.lN (by omega)⟩
/-- a frame is another one, of the same sector -/
theorem Px.Ok.put {N M : Nat} {X : Px} (o : X.Ok N) {k : Nat} (hk : k < X.c) {f : Fr} (hi : f.i = (X.fr k).i) (hs : f.t.size = 512 ∨ (f.t.size = 0 ∧ f.d = false)) (hh : f.h ≤ M) (hNM : N ≤ M) : (X.put k f).Ok M := by
  have hi' : ∀ j, ((X.put k f).fr j).i = (X.fr j).i := fun j => by
    rw [put_fr]
    split
    · rename_i e; rw [e, hi]
    · rfl
  refine ⟨o.m0, o.m1, o.cm, o.hm, o.n1, fun j hj => by rw [hi']; exact o.sec j hj, fun a b ha hb h => o.inj a b ha hb (by rwa [hi', hi'] at h), fun j hj => ?_, fun j => ?_, fun j => ?_, o.w0, Int.le_trans o.wN (by omega), o.l0, Int.le_trans o.lN (by omega)⟩
  · have hj' : X.c ≤ j := hj
    rw [put_other _ _ _ (by omega)]
    exact o.emp j hj'
  · rw [put_fr]; split
    · exact hs
    · exact o.siz j
  · rw [put_fr]; split
    · exact hh
    · exact Nat.le_trans (o.hN j) hNM
theorem Px.Ok.turn {N : Nat} {X : Px} (o : X.Ok N) : X.turn.Ok N := ⟨o.m0, o.m1, o.cm, Nat.mod_lt _ o.m0, o.n1, o.sec, o.inj, o.emp, o.siz, o.hN, o.w0, o.wN, o.l0, o.lN⟩
theorem Px.Ok.load {N : Nat} {X : Px} (o : X.Ok N) : X.load.Ok (N + 1) := ⟨o.m0, o.m1, o.cm, o.hm, o.n1, o.sec, o.inj, o.emp, o.siz, fun k => Nat.le_succ_of_le (o.hN k), o.w0, Int.le_trans o.wN (by omega), by have := o.l0; show 0 ≤ X.loads + 1; omega, by have := o.lN; show X.loads + 1 ≤ _; omega⟩
theorem Px.Ok.wrote {N : Nat} {X : Px} (o : X.Ok N) (i : Nat) (t : ByteArray) : (X.disk (X.d.wrote i t)).Ok (N + 1) := ⟨o.m0, o.m1, o.cm, o.hm, o.n1, o.sec, o.inj, o.emp, o.siz, fun k => Nat.le_succ_of_le (o.hN k), by have := o.w0; show 0 ≤ X.d.writes + 1; omega, by have := o.wN; show X.d.writes + 1 ≤ _; omega, o.l0, Int.le_trans o.lN (by omega)⟩
theorem Px.Ok.flush {N : Nat} {X : Px} (o : X.Ok N) : (X.disk X.d.flush).Ok N := ⟨o.m0, o.m1, o.cm, o.hm, o.n1, o.sec, o.inj, o.emp, o.siz, o.hN, o.w0, o.wN, o.l0, o.lN⟩
/-- an empty frame holds a sector -/
theorem Px.Ok.fill {N : Nat} {X : Px} (o : X.Ok N) {i : Int} (hi : 0 ≤ i ∧ i < X.d.n) (hc : X.c < X.m) (ha : X.at i = none) : (X.more.put X.c (Fr.new i)).Ok N := by
  have hn := at_none ha
  refine ⟨o.m0, o.m1, hc, o.hm, o.n1, fun j hj => ?_, fun a b hA hB h => ?_, fun j hj => ?_, fun j => ?_, fun j => ?_, o.w0, o.wN, o.l0, o.lN⟩
  · rw [put_fr]; split
    · exact hi
    · rename_i e
      have hj' : j < X.c + 1 := hj
      exact o.sec j (by omega)
  · have hA' : a < X.c + 1 := hA
    have hB' : b < X.c + 1 := hB
    rw [put_fr, put_fr] at h
    split at h <;> split at h
    · omega
    · rename_i e1 e2; exact absurd h.symm (hn b (by omega))
    · rename_i e1 e2; exact absurd h (hn a (by omega))
    · exact o.inj a b (by omega) (by omega) h
  · have hj' : X.c + 1 ≤ j := hj
    rw [put_other _ _ _ (by omega)]
    exact o.emp j (by omega)
  · rw [put_fr]; split
    · exact .inr ⟨rfl, rfl⟩
    · exact o.siz j
  · rw [put_fr]; split
    · exact Nat.zero_le _
    · exact o.hN j
/-- a frame that gives way holds another sector -/
theorem Px.Ok.over {N : Nat} {X : Px} (o : X.Ok N) {i : Int} (hi : 0 ≤ i ∧ i < X.d.n) {k : Nat} (hk : k < X.c) (ha : X.at i = none) : (X.put k (Fr.new i)).Ok N := by
  have hn := at_none ha
  refine ⟨o.m0, o.m1, o.cm, o.hm, o.n1, fun j hj => ?_, fun a b hA hB h => ?_, fun j hj => ?_, fun j => ?_, fun j => ?_, o.w0, o.wN, o.l0, o.lN⟩
  · rw [put_fr]; split
    · exact hi
    · exact o.sec j hj
  · rw [put_fr, put_fr] at h
    split at h <;> split at h
    · omega
    · rename_i e1 e2; exact absurd h.symm (hn b hB)
    · rename_i e1 e2; exact absurd h (hn a hA)
    · exact o.inj a b hA hB h
  · have hj' : X.c ≤ j := hj
    rw [put_other _ _ _ (by omega)]
    exact o.emp j hj'
  · rw [put_fr]; split
    · exact .inr ⟨rfl, rfl⟩
    · exact o.siz j
  · rw [put_fr]; split
    · exact Nat.zero_le _
    · exact o.hN j
theorem Px.Ok.unuse {N : Nat} {X : Px} (o : X.Ok N) {k : Nat} (hk : k < X.c) : (X.unuse k).Ok N := o.put hk rfl (o.siz k) (o.hN k) (Nat.le_refl _)

/-! the hand -/
theorem held_no {X : Px} (h : X.held = false) : ∃ k, k < X.m ∧ (X.fr k).h = 0 := by
  unfold Px.held at h
  rw [List.all_eq_false] at h
  obtain ⟨k, hk, hh⟩ := h
  exact ⟨k, by simpa using hk, by simpa using hh⟩
/-- how far the hand may still go, for a frame that is not held -/
def far (X : Px) (t : Nat) : Nat := (if (X.fr t).u = true then X.m else 0) + (t + X.m - X.hand) % X.m
theorem dist_next {m h t : Nat} (hh : h < m) (ht : t < m) (hne : h ≠ t) : (t + m - (h + 1) % m) % m + 1 = (t + m - h) % m := by
  by_cases e : h + 1 = m
  · rw [e, Nat.mod_self]
    have : t < h := by omega
    rw [show t + m - 0 = t + m by omega, Nat.add_mod_right, Nat.mod_eq_of_lt ht, Nat.mod_eq_of_lt (by omega)]
    omega
  · rw [Nat.mod_eq_of_lt (show h + 1 < m by omega)]
    by_cases l : h < t
    · rw [show t + m - (h + 1) = (t - (h + 1)) + m by omega, show t + m - h = (t - h) + m by omega, Nat.add_mod_right, Nat.add_mod_right, Nat.mod_eq_of_lt (by omega), Nat.mod_eq_of_lt (by omega)]
      omega
    · rw [Nat.mod_eq_of_lt (by omega), Nat.mod_eq_of_lt (by omega)]
      omega
theorem dist_self {m t : Nat} (ht : t < m) : (t + m - (t + 1) % m) % m < m ∧ (t + m - t) % m = 0 := by
  refine ⟨Nat.mod_lt _ (by omega), ?_⟩
  rw [show t + m - t = m by omega, Nat.mod_self]
theorem far_held {X : Px} {t : Nat} (hm : X.hand < X.m) (ht : t < X.m) (h0 : (X.fr t).h = 0) (hh : 0 < (X.fr X.hand).h) : far X.turn t < far X t := by
  have hne : X.hand ≠ t := fun e => by rw [e] at hh; omega
  have := dist_next hm ht hne
  unfold far Px.turn
  simp only
  omega
theorem far_used {X : Px} {t : Nat} (hm : X.hand < X.m) (ht : t < X.m) (hu : (X.fr X.hand).u = true) : far (X.turn.unuse X.hand) t < far X t := by
  by_cases hne : X.hand = t
  · subst hne
    have := dist_self ht
    unfold far
    rw [hu, if_pos rfl]
    have e : ((X.turn.unuse X.hand).fr X.hand).u = false := by unfold Px.unuse; rw [put_same]
    rw [e]
    show 0 + (X.hand + X.m - (X.hand + 1) % X.m) % X.m < _
    omega
  · have := dist_next hm ht hne
    have e : (X.turn.unuse X.hand).fr t = X.fr t := by unfold Px.unuse; rw [put_other _ _ _ (fun e => hne e.symm)]; rfl
    unfold far
    rw [e]
    show (if (X.fr t).u = true then X.m else 0) + (t + X.m - (X.hand + 1) % X.m) % X.m < _
    omega
theorem far_le (X : Px) (t : Nat) (hm : 1 ≤ X.m) : far X t < 2 * X.m := by
  have := Nat.mod_lt (t + X.m - X.hand) hm
  unfold far
  split <;> omega

/-- what the hand leaves -/
structure Turned (X Y : Px) (k : Nat) : Prop where
  d : Y.d = X.d
  m : Y.m = X.m
  c : Y.c = X.c
  loads : Y.loads = X.loads
  lt : k < X.m
  h0 : (X.fr k).h = 0
  u0 : (Y.fr k).u = false
  fr : ∀ j, Y.fr j = X.fr j ∨ Y.fr j = { X.fr j with u := false }
theorem turn_any {N : Nat} : ∀ (n : Nat) (X : Px) (t : Nat), X.Ok N → X.c = X.m → t < X.m → (X.fr t).h = 0 → far X t < n → Turned X (turnP n X).1 (turnP n X).2 ∧ (turnP n X).1.Ok N
  | 0, X, t, o, _, ht, h0, hf => absurd hf (by omega)
  | n + 1, X, t, o, hc, ht, h0, hf => by
    unfold turnP
    by_cases hh : 0 < (X.fr X.hand).h
    · rw [if_pos hh]
      have hlt := far_held o.hm ht h0 hh
      have ⟨T, o2⟩ := turn_any n X.turn t o.turn hc ht h0 (by omega)
      exact ⟨⟨T.d, T.m, T.c, T.loads, T.lt, T.h0, T.u0, T.fr⟩, o2⟩
    · rw [if_neg hh]
      by_cases hu : (X.fr X.hand).u = true
      · rw [if_pos hu]
        have hlt := far_used o.hm ht hu
        have o1 : (X.turn.unuse X.hand).Ok N := o.turn.unuse (k := X.hand) (by show X.hand < X.c; have := o.hm; omega)
        have h0' : ((X.turn.unuse X.hand).fr t).h = 0 := by
          unfold Px.unuse; rw [put_fr]; split
          · rename_i e; rw [← e]; exact h0
          · exact h0
        have ⟨T, o2⟩ := turn_any n (X.turn.unuse X.hand) t o1 hc ht h0' (by omega)
        have hfr : ∀ j, (X.turn.unuse X.hand).fr j = X.fr j ∨ (X.turn.unuse X.hand).fr j = { X.fr j with u := false } := fun j => by
          unfold Px.unuse; rw [put_fr]; split
          · rename_i e; rw [e]; exact .inr rfl
          · exact .inl rfl
        refine ⟨⟨T.d, T.m, T.c, T.loads, T.lt, ?_, T.u0, fun j => ?_⟩, o2⟩
        · rcases hfr (turnP n (X.turn.unuse X.hand)).2 with e | e <;> (have := T.h0; rw [e] at this; exact this)
        · rcases T.fr j with e | e <;> rcases hfr j with e2 | e2 <;> rw [e2] at e
          · exact .inl e
          · exact .inr e
          · exact .inr e
          · exact .inr e
      · rw [if_neg hu]
        exact ⟨⟨rfl, rfl, rfl, rfl, o.hm, by show (X.fr X.hand).h = 0; omega, by show (X.fr X.hand).u = false; simpa using hu, fun j => .inl rfl⟩, o.turn⟩
end Go.Proofs.YtokikeenfpligaaGreatDoor

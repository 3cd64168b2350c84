/-
  THE WALK of (*Disk).Rot. Conditions: a disk lies in memory.
  WHAT TELLS ROT: bytes that are changed, held against those that were marked. Conditions: that the bytes are bytes.
  A DISK THAT ROTS, as what its sectors are; what is read of it. Conditions: those that each lemma names.
  ShadowRots: its pages, plainly. Conditions: those that each lemma names.
  AN ARRAY OF THREE INTEGERS THAT CAME IN BY VALUE: its form. No conditions.
  ShadowRots, the walk. No condition but that the input could be read.
-/
import Derived.Laws.BitsAllLaws
import Derived.ChangeSame
import Derived.Laws.IdiomArrays
import Derived.WideShapes
import Derived.Lib.SmallJoins
import Derived.BigRegion
import Derived.Test.YtlfkkakohldgnaaGreatDoorN05
import Derived.Test.YtlfkkakohldgnaaGreatDoorN12
import Derived.Test.YtlfkkakohldgnaaGreatDoorN49
import Derived.Test.YtlfkkakohldgnaaGreatDoorN50
import Derived.Test.YtlfkkakohldgnaaGreatDoorN26
namespace Go.Proofs.YtlfkkakohldgnaaGreatDoor
open Go.RowKit

theorem xor8_bd (a b : Int) (a0 : 0 ≤ a) (a1 : a < 256) (b0 : 0 ≤ b) (b1 : b < 256) : 0 ≤ bits .xor .u8 a b ∧ bits .xor .u8 a b < 256 := by
  obtain ⟨A, rfl⟩ := Int.eq_ofNat_of_zero_le a0
  obtain ⟨B, rfl⟩ := Int.eq_ofNat_of_zero_le b0
  have hA : A < 2 ^ 8 := by omega
  have hB : B < 2 ^ 8 := by omega
  have h := u8_xor_nat A B (by omega) (by omega)
  have hlt : A ^^^ B < 2 ^ 8 := Nat.xor_lt_two_pow hA hB
  rw [h]
  omega
/-- a row with a byte turned -/
def turn (f : Nat → Int) (p : Nat) (y : Int) : Nat → Int := fun j => if j = p then bits .xor .u8 (f p) y else f j
theorem turn_bd {f : Nat → Int} (hf : ∀ j, 0 ≤ f j ∧ f j < 256) (p : Nat) {y : Int} (y0 : 0 ≤ y) (y1 : y < 256) (j : Nat) : 0 ≤ turn f p y j ∧ turn f p y j < 256 := by
  unfold turn
  by_cases e : j = p
  · rw [if_pos e]; exact xor8_bd _ _ (hf p).1 (hf p).2 y0 y1
  · rw [if_neg e]; exact hf j
def St.rotS (s : St) (i p : Nat) (y : Int) : St := { s with sure := upd s.sure i (turn (s.sure i) p y) }
def St.rotN (s : St) (i p : Nat) (y : Int) : St := { s with now := upd s.now i (turn (s.now i) p y) }
def St.rot (s : St) (i p : Nat) (y : Int) : St := match s.late i with
  | none => s.rotS i p y
  | some _ => (s.rotS i p y).rotN i p y
def RotAt (B : Nat) (w : World) (s : St) (i p : Nat) (y : Int) (e : Ending) (w' : World) : Prop :=
  e = .returned .nilIface ∧ DiskAt B w' (s.rot i p y) ∧ Step w s w' (s.rot i p y)
theorem DiskAt.rotS {B : Nat} {w : World} {s : St} (h : DiskAt B w s) (i p : Nat) (hi : i < s.n) (hp : p < 512) (y : Int) (y0 : 0 ≤ y) (y1 : y < 256) : DiskAt B (w.setCell ⟨s.S, i * 512 + p, none⟩ (.int .u8 (bits .xor .u8 (s.sure i p) y))) (s.rotS i p y) :=
  h.setSure i hi (turn (s.sure i) p y) (turn_bd (h.ok.us i) p y0 y1) [.int .u8 (bits .xor .u8 (s.sure i p) y)] p (by simp; omega) (fun j hj => by
    obtain rfl : j = 0 := by simpa using hj
    simp [turn]) (fun j hj hq => by unfold turn; rw [if_neg (by simp at hq; omega)])
theorem DiskAt.rotN {B : Nat} {w : World} {s : St} (h : DiskAt B w s) (i p T : Nat) (hT : s.late i = some T) (hp : p < 512) (y : Int) (y0 : 0 ≤ y) (y1 : y < 256) : DiskAt B (w.setCell ⟨T, p, none⟩ (.int .u8 (bits .xor .u8 (s.now i p) y))) (s.rotN i p y) :=
  h.setNow i T hT (turn (s.now i) p y) (turn_bd (h.ok.un i) p y0 y1) [.int .u8 (bits .xor .u8 (s.now i p) y)] p (by simp; omega) (fun j hj => by
    obtain rfl : j = 0 := by simpa using hj
    simp [turn]) (fun j hj hq => by unfold turn; rw [if_neg (by simp at hq; omega)])

set_option maxRecDepth 100000 in
theorem rot_range {B : Nat} (s : St) (i p y : Int) (w : World) (h : DiskAt B w s) (hi : i < 0 ∨ (s.n : Int) ≤ i ∨ p < 0 ∨ 512 ≤ p) :
    Calls Tryz.prog 33 #[.pointer (some ⟨s.D, 0, none⟩), .int .i64 i, .int .i64 p, .int .u8 y] w fun e w' => e = .returned (.iface 78 (.int .i64 4)) ∧ w = w' := by
  have HH := Lib.hid h
  by_cases ho : i < 0 ∨ (s.n : Int) ≤ i
  · have HI := Lib.hid ho
    clear h hi ho
    go_enter Tryz.func33, Tryz.ntmps33
    go_wp2_with (go_at_call 69; refine (has_no s i _ HH.out HI.out).mono ?_; rintro e w' ⟨rfl, rfl⟩)
    go_ret
    exact ⟨rfl, rfl⟩
  · obtain ⟨k, rfl⟩ : ∃ k : Nat, i = k := ⟨i.toNat, by omega⟩
    have hk : k < s.n := by omega
    by_cases hp : p < 0
    · clear h hi ho
      go_enter Tryz.func33, Tryz.ntmps33
      go_wp2_with (go_at_call 69; refine (has_yes s k _ HH.out hk).mono ?_; rintro e w' ⟨rfl, rfl⟩)
      go_ret
      exact ⟨rfl, rfl⟩
    · have hp2 : 512 ≤ p := by omega
      have hp0 : 0 ≤ p := by omega
      clear h hi ho hp
      go_enter Tryz.func33, Tryz.ntmps33
      go_wp2_with (go_at_call 69; refine (has_yes s k _ HH.out hk).mono ?_; rintro e w' ⟨rfl, rfl⟩)
      go_ret
      exact ⟨rfl, rfl⟩
set_option maxRecDepth 100000 in
set_option maxHeartbeats 1000000 in
theorem rot_any {B : Nat} (s : St) (i p : Nat) (y : Int) (w : World) (h : DiskAt B w s) (hi : i < s.n) (hp : p < 512) (y0 : 0 ≤ y) (y1 : y < 256) :
    Calls Tryz.prog 33 #[.pointer (some ⟨s.D, 0, none⟩), .int .i64 i, .int .i64 p, .int .u8 y] w (RotAt B w s i p y) := by
  have d0 := h.d0
  have d1 := h.d1
  have cs := h.cS i p hi hp
  have fs := h.fS (i * 512 + p)
  have HH := Lib.hid h
  have n1 := h.ok.n1
  have i0 : (0 : Int) ≤ (i : Int) := by omega
  have i1 : (i : Int) < (s.n : Int) := by omega
  have p0 : (0 : Int) ≤ (p : Int) := by omega
  have p1 : (p : Int) < 512 := by omega
  have nDS := h.ok.DS
  have nSD := Ne.symm nDS
  have nSL := h.ok.SL
  have nLS := Ne.symm nSL
  have cl := h.cL i hi
  have H1 := Lib.hid (h.drew.rotS i p hi hp y y0 y1)
  have S1 := Lib.hid ((Step.drew (Step.refl w s)).trans (Step.setCells (w := w.drew) (s := s) (s' := s.rotS i p y) s.S (.inr (.inl rfl)) (i * 512 + p) [.int .u8 (bits .xor .u8 (s.sure i p) y)] (fun k hk => .inl hk)))
  cases hlt : s.late i with
  | none =>
    rw [hlt] at cl
    change w.cell? _ = some (.pointer none) at cl
    have HE := Lib.hid (show s.rot i p y = s.rotS i p y by unfold St.rot; rw [hlt])
    clear h hlt
    go_enter Tryz.func33, Tryz.ntmps33
    go_wp2_with (go_at_call 69; refine (has_yes s i _ HH.out hi).mono ?_; rintro e w' ⟨rfl, rfl⟩)
    go_region
    go_wp2
    go_ret
    refine ⟨rfl, ?_, ?_⟩
    · rw [HE.out]; exact H1.out
    · rw [HE.out]; exact S1.out
  | some T =>
    rw [hlt] at cl
    change w.cell? _ = some (.pointer (some ⟨T, 0, none⟩)) at cl
    have HE := Lib.hid (show s.rot i p y = (s.rotS i p y).rotN i p y by unfold St.rot; rw [hlt])
    have lt := h.ok.lt i T hlt
    have nTS := lt.2.2.1
    have nST := Ne.symm lt.2.2.1
    have ct := h.cT i T hlt p hp
    have ft := h.fT i T hlt p
    have H2 := Lib.hid (H1.out.drew.rotN i p T hlt hp y y0 y1)
    have S2 := Lib.hid ((S1.out.drew).trans (Step.setCells (s := s.rotS i p y) (s' := (s.rotS i p y).rotN i p y) T (.inr (.inr (.inr (.inr ⟨i, hlt⟩)))) p [.int .u8 (bits .xor .u8 ((s.rotS i p y).now i p) y)] (fun k hk => .inl hk)))
    clear h hlt lt
    go_enter Tryz.func33, Tryz.ntmps33
    go_wp2_with (go_at_call 69; refine (has_yes s i _ HH.out hi).mono ?_; rintro e w' ⟨rfl, rfl⟩)
    go_region
    go_wp2
    go_region
    go_wp2
    go_ret
    refine ⟨rfl, ?_, ?_⟩
    · rw [HE.out]; exact H2.out
    · rw [HE.out]; exact S2.out
end Go.Proofs.YtlfkkakohldgnaaGreatDoor
namespace Go.Proofs.YtlfkkakohldgnaaGreatDoor.Sm
open Crc Go.RowKit

theorem upv_set (vs : List (BitVec 32)) (r v : BitVec 32) (k : Nat) (h : k < vs.length) : upv r (vs.set k (vs[k] ^^^ v)) = upv r vs ^^^ it z (vs.length - k - 1) (it stp 8 v) := by
  induction vs generalizing r k with
  | nil => simp at h
  | cons x vs ih => cases k with
    | zero =>
      show upv (byt r (x ^^^ v)) vs = upv (byt r x) vs ^^^ _
      have e : byt r (x ^^^ v) = byt r x ^^^ it stp 8 v := by
        have := byt_lin r 0#32 x v
        rw [BitVec.xor_zero] at this
        rw [this]
        simp [byt]
      rw [e, upv_split, upv_split (byt r x), lin_it lin_z]
      have e2 : (x :: vs).length - 0 - 1 = vs.length := by simp
      rw [e2, BitVec.xor_assoc, BitVec.xor_comm (it z vs.length (it stp 8 v)), ← BitVec.xor_assoc]
    | succ k =>
      show upv (byt r x) (vs.set k (vs[k]'(by simpa using h) ^^^ v)) = upv (byt r x) vs ^^^ _
      rw [ih _ k (by simpa using h)]
      congr 2
      simp
theorem map_set (xs : List Int) (k : Nat) (v b : Int) (h : k < xs.length) (hv : b8 v = b8 xs[k] ^^^ b8 b) : (xs.set k v).map b8 = (xs.map b8).set k ((xs.map b8)[k]'(by simpa using h) ^^^ b8 b) := by
  rw [List.map_set, hv]
  simp
theorem b8_nought {x : Int} (h0 : 0 ≤ x) (h1 : x < 256) (h : b8 x = 0#32) : x = 0 := by
  have e := rg_b8 x h0 (by omega)
  rw [h] at e
  exact e.symm
/-- one byte changed: good only if it is none -/
theorem good_set (xs : List Int) (k : Nat) (v b : Int) (h : k < xs.length) (hg : isGood xs = true) (hv : b8 v = b8 xs[k] ^^^ b8 b) (b0 : 0 ≤ b) (b1 : b < 256) : isGood (xs.set k v) = (b == 0) := by
  unfold isGood at hg ⊢
  rw [decide_eq_true_eq] at hg
  have e : up ones (xs.set k v) = magic ^^^ it z (xs.length - k - 1) (it stp 8 (b8 b)) := by
    unfold up at hg ⊢
    rw [map_set xs k v b h hv, upv_set _ _ _ _ (by simpa using h), hg, List.length_map]
  rw [e]
  by_cases hb : b = 0
  · subst hb
    have e0 : b8 0 = 0#32 := rfl
    rw [e0, it_at_nought, it_z, it_at_nought, BitVec.xor_zero]
    simp
  · have hne : ¬ (magic ^^^ it z (xs.length - k - 1) (it stp 8 (b8 b)) = magic) := by
      intro hq
      have h2 : it z (xs.length - k - 1) (it stp 8 (b8 b)) = 0#32 := by
        have := congrArg (magic ^^^ ·) hq
        simpa only [← BitVec.xor_assoc, BitVec.xor_self, BitVec.zero_xor] using this
      exact hb (b8_nought b0 b1 (it_nought _ _ (itz_nought _ _ h2)))
    rw [decide_eq_false hne]
    simp [hb]

/-! ### bits that are changed -/
def par8 (xs : List Int) : Bool := pl (xs.map b8)
theorem good_par {xs : List Int} (h : isGood xs = true) : par8 xs = false := by
  unfold isGood at h
  rw [decide_eq_true_eq] at h
  have e := congrArg pr h
  unfold up at e
  rw [pr_upv] at e
  have e2 : pr magic = pr ones := pr_it 32 ones
  rw [e2] at e
  unfold par8
  revert e
  generalize pr ones = p
  generalize pl (xs.map b8) = q
  cases p <;> cases q <;> decide
theorem odd_bad {xs : List Int} (h : par8 xs = true) : isGood xs = false := by
  cases hg : isGood xs
  · rfl
  · rw [good_par hg] at h; cases h
theorem pow8 (j : Nat) (hj : j < 8) : b8 (2 ^ j % 256) = 1#32 <<< j ∧ (0 : Int) ≤ 2 ^ j % 256 ∧ (2 : Int) ^ j % 256 < 256 := by
  have : ∀ k : Fin 8, b8 (2 ^ k.1 % 256) = 1#32 <<< k.1 ∧ (0 : Int) ≤ 2 ^ k.1 % 256 ∧ (2 : Int) ^ k.1 % 256 < 256 := by decide
  exact this ⟨j, hj⟩
theorem pr_pow (j : Nat) (hj : j < 8) : pr (1#32 <<< j) = true := by
  have : ∀ k : Fin 8, pr (1#32 <<< k.1) = true := by decide
  exact this ⟨j, hj⟩
/-- one bit of a byte changed -/
theorem flip_byte {x : Int} (h0 : 0 ≤ x) (h1 : x < 256) (j : Nat) (hj : j < 8) : b8 (bits .xor .u8 x (2 ^ j % 256)) = b8 x ^^^ (1#32 <<< j) ∧ 0 ≤ bits .xor .u8 x (2 ^ j % 256) ∧ bits .xor .u8 x (2 ^ j % 256) < 256 := by
  obtain ⟨e, p0, p1⟩ := pow8 j hj
  have := xor8_b8 x _ h0 h1 p0 p1
  rw [e] at this
  exact this
theorem par_flip {xs : List Int} {k : Nat} {x : Int} (hx : xs[k]? = some x) (h0 : 0 ≤ x) (h1 : x < 256) (j : Nat) (hj : j < 8) : par8 (xs.set k (bits .xor .u8 x (2 ^ j % 256))) = !par8 xs := by
  obtain ⟨hk, rfl⟩ := List.getElem?_eq_some_iff.1 hx
  unfold par8
  rw [List.map_set, (flip_byte h0 h1 j hj).1]
  have e := pl_set (xs.map b8) k (1#32 <<< j) (by simpa using hk)
  rw [List.getElem_map] at e
  rw [e, pr_pow j hj]
  cases pl (xs.map b8) <;> rfl
/-- the bytes of xs, changed by the bits of f -/
def Turned (f : Nat → Bool) (xs zs : List Int) : Prop :=
  ∀ j (h1 : j < xs.length) (h2 : j < zs.length) t, (b8 zs[j]).getLsbD t = ((b8 xs[j]).getLsbD t ^^ (decide (t < 8) && f (8 * j + t)))
theorem Turned.none (xs : List Int) : Turned (fun _ => false) xs xs := by
  intro j _ _ t
  simp
/-- the first i of a pattern's bits, from q on -/
def pat (p : BitVec 32) (q i : Nat) (m : Nat) : Bool := decide (q ≤ m ∧ m < q + i) && p.getLsbD (m - q)
theorem Turned.first (p : BitVec 32) (q : Nat) (xs : List Int) : Turned (pat p q 0) xs xs := by
  intro j _ _ t
  have e : pat p q 0 (8 * j + t) = false := by
    unfold pat
    have : ¬ (q ≤ 8 * j + t ∧ 8 * j + t < q + 0) := by omega
    rw [decide_eq_false this]; rfl
  rw [e]; simp
theorem Turned.skip {p : BitVec 32} {q i : Nat} {xs zs : List Int} (h : Turned (pat p q i) xs zs) (hp : p.getLsbD i = false) : Turned (pat p q (i + 1)) xs zs := by
  intro j h1 h2 t
  rw [h j h1 h2 t]
  congr 2
  unfold pat
  by_cases e : 8 * j + t = q + i
  · have e2 : 8 * j + t - q = i := by omega
    rw [e2, hp, Bool.and_false, Bool.and_false]
  · congr 1
    rw [decide_eq_decide]; omega
theorem Turned.flip {p : BitVec 32} {q i : Nat} {xs zs : List Int} (h : Turned (pat p q i) xs zs) (hp : p.getLsbD i = true) {x : Int} (hx : zs[(q + i) / 8]? = some x) (x0 : 0 ≤ x) (x1 : x < 256) :
    Turned (pat p q (i + 1)) xs (zs.set ((q + i) / 8) (bits .xor .u8 x (2 ^ ((q + i) % 8) % 256))) := by
  obtain ⟨hk, rfl⟩ := List.getElem?_eq_some_iff.1 hx
  intro j h1 h2 t
  have h2' : j < zs.length := by simpa using h2
  have hh := h j h1 h2' t
  have hm : (q + i) % 8 < 8 := Nat.mod_lt _ (by decide)
  by_cases e : (q + i) / 8 = j
  · subst e
    rw [List.getElem_set_self, (flip_byte x0 x1 _ hm).1, BitVec.getLsbD_xor, hh]
    have eb : (1#32 <<< ((q + i) % 8)).getLsbD t = decide (t = (q + i) % 8) := by
      rw [BitVec.getLsbD_shiftLeft, BitVec.getLsbD_one]
      by_cases c : t = (q + i) % 8
      · subst c; simp; omega
      · simp only [c, decide_false]
        by_cases c2 : t < (q + i) % 8
        · simp [c2]
        · have : ¬ (t - (q + i) % 8 = 0) := by omega
          simp [this]
    rw [eb]
    by_cases c : t = (q + i) % 8
    · have c8 : t < 8 := by omega
      have c9 : 8 * ((q + i) / 8) + t = q + i := by omega
      have e1 : pat p q i (q + i) = false := by
        unfold pat
        have : ¬ (q ≤ q + i ∧ q + i < q + i) := by omega
        rw [decide_eq_false this]; rfl
      have e2 : pat p q (i + 1) (q + i) = true := by
        unfold pat
        have : q ≤ q + i ∧ q + i < q + (i + 1) := by omega
        have e3 : q + i - q = i := by omega
        rw [decide_eq_true this, e3, hp]; rfl
      rw [c9, e1, e2, decide_eq_true c, decide_eq_true c8]
      generalize (b8 xs[(q + i) / 8]).getLsbD t = b
      cases b <;> rfl
    · have e1 : (decide (t < 8) && pat p q i (8 * ((q + i) / 8) + t)) = (decide (t < 8) && pat p q (i + 1) (8 * ((q + i) / 8) + t)) := by
        by_cases c8 : t < 8
        · congr 1
          unfold pat
          congr 1
          rw [decide_eq_decide]; omega
        · rw [decide_eq_false c8]; rfl
      rw [e1, decide_eq_false c, Bool.xor_false]
  · rw [List.getElem_set_ne e, hh]
    by_cases c8 : t < 8
    · congr 2
      unfold pat
      congr 1
      rw [decide_eq_decide]; omega
    · rw [decide_eq_false c8]; rfl
theorem turned_up {f : Nat → Bool} {xs zs : List Int} (hl : zs.length = xs.length) (h : Turned f xs zs) : up ones zs = up ones xs ^^^ bup 0#32 f 0 (8 * xs.length) := by
  have hd : ∀ i (hi : i < (List.zipWith (· ^^^ ·) (xs.map b8) (zs.map b8)).length) j, j < 32 → (List.zipWith (· ^^^ ·) (xs.map b8) (zs.map b8))[i].getLsbD j = (decide (j < 8) && f (0 + 8 * i + j)) := by
    intro i hi j _
    simp at hi
    simp only [List.getElem_zipWith, List.getElem_map, BitVec.getLsbD_xor]
    rw [h i (by omega) (by omega) j, Nat.zero_add]
    generalize (b8 xs[i]).getLsbD j = b
    generalize (decide (j < 8) && f (8 * i + j)) = c
    cases b <;> cases c <;> rfl
  have e1 := upv_bup _ 0#32 f 0 hd
  have e2 := upv_lin ones 0#32 (xs.map b8) (List.zipWith (· ^^^ ·) (xs.map b8) (zs.map b8)) (by simp; omega)
  have e3 : List.zipWith (· ^^^ ·) (xs.map b8) (List.zipWith (· ^^^ ·) (xs.map b8) (zs.map b8)) = zs.map b8 := by
    apply List.ext_getElem
    · simp; omega
    · intro i _ _
      simp [← BitVec.xor_assoc]
  have e4 : (List.zipWith (· ^^^ ·) (xs.map b8) (zs.map b8)).length = xs.length := by simp; omega
  rw [e3, BitVec.xor_zero, e1, e4] at e2
  exact e2
theorem burst_bad {p : BitVec 32} {q : Nat} {xs zs : List Int} (hp : p ≠ 0#32) (hq : q + 32 ≤ 8 * xs.length) (hl : zs.length = xs.length) (hg : isGood xs = true) (h : Turned (pat p q 32) xs zs) : isGood zs = false := by
  unfold isGood at hg ⊢
  rw [decide_eq_true_eq] at hg
  rw [turned_up hl h, hg]
  have hb := burst p hp (pat p q 32) q (8 * xs.length) hq
    (fun j hj => by unfold pat; rw [decide_eq_false (by omega)]; rfl)
    (fun j hj => by
      unfold pat
      have e : q + j - q = j := by omega
      rw [decide_eq_true (by omega), e]; rfl)
    (fun j hj => by unfold pat; rw [decide_eq_false (by omega)]; rfl)
  apply decide_eq_false
  intro hc
  apply hb
  have := congrArg (magic ^^^ ·) hc
  simpa only [← BitVec.xor_assoc, BitVec.xor_self, BitVec.zero_xor] using this
theorem bit_test (p : BitVec 32) (k : Nat) : (bits .and .u32 (rg p / 2 ^ k) 1 == 1) = p.getLsbD k := by
  rw [shr_rg, and_one, low_and, BitVec.getLsbD_ushiftRight, Nat.add_zero]
  cases p.getLsbD k <;> rfl
end Go.Proofs.YtlfkkakohldgnaaGreatDoor.Sm
namespace Go.Proofs.YtlfkkakohldgnaaGreatDoor.Sh
open Go.RowKit Go.Maps

theorem rot_cur (s : St) (i p : Nat) (y : Int) (k j : Nat) : (s.rot i p y).cur k j = if k = i then turn (s.cur i) p y j else s.cur k j := by
  by_cases e : k = i
  · subst e
    rw [if_pos rfl]
    cases hl : s.late k with
    | none =>
      have e1 : s.rot k p y = s.rotS k p y := by unfold St.rot; rw [hl]
      have e2 : s.cur k = s.sure k := by funext q; unfold St.cur; rw [hl]
      rw [e1, e2]
      unfold St.cur
      rw [show (s.rotS k p y).late k = none from hl]
      show upd s.sure k _ k j = _
      simp [upd]
    | some b =>
      have e1 : s.rot k p y = (s.rotS k p y).rotN k p y := by unfold St.rot; rw [hl]
      have e2 : s.cur k = s.now k := by funext q; unfold St.cur; rw [hl]
      rw [e1, e2]
      unfold St.cur
      rw [show ((s.rotS k p y).rotN k p y).late k = some b from hl]
      show upd s.now k _ k j = _
      simp [upd]
      rfl
  · rw [if_neg e]
    have hs : (s.rot i p y).sure k j = s.sure k j := by
      unfold St.rot
      cases s.late i <;> simp [St.rotS, St.rotN, upd, e]
    have hn : (s.rot i p y).now k j = s.now k j := by
      unfold St.rot
      cases s.late i <;> simp [St.rotS, St.rotN, upd, e]
    have hl : (s.rot i p y).late = s.late := by
      unfold St.rot
      cases s.late i <;> rfl
    unfold St.cur
    rw [hl]
    cases s.late k <;> assumption
theorem rot_D (s : St) (i q : Nat) (y : Int) : (s.rot i q y).D = s.D := by unfold St.rot; cases s.late i <;> rfl
/-- a sector with a byte turned -/
def rotT (t : ByteArray) (p : Nat) (y : Int) : ByteArray := tx (turn (fun j => (nums t).getD j 0) p y)
theorem nums_bd (t : ByteArray) (j : Nat) : 0 ≤ (nums t).getD j 0 ∧ (nums t).getD j 0 < 256 := Sm.getD_byte (nums_byte t) j
theorem rotT_size (t : ByteArray) (p : Nat) (y : Int) : (rotT t p y).size = 512 := tx_size _
theorem rotT_nums {t : ByteArray} (p : Nat) {y : Int} (y0 : 0 ≤ y) (y1 : y < 256) (ht : t.size = 512) (hp : p < 512) : nums (rotT t p y) = (nums t).set p (bits .xor .u8 ((nums t).getD p 0) y) := by
  unfold rotT
  rw [nums_tx (turn_bd (nums_bd t) p y0 y1)]
  refine List.ext_getElem (by rw [rowOf_len, List.length_set, nums_len, ht]) fun i h1 h2 => ?_
  rw [rowOf_get, List.getElem_set]
  unfold turn
  have hi : i < (nums t).length := by rw [nums_len, ht]; rw [rowOf_len] at h1; exact h1
  by_cases e : i = p
  · subst e; rw [if_pos rfl, if_pos rfl]
  · rw [if_neg e, if_neg (fun q => e q.symm)]
    have hg : (nums t).getD i 0 = (nums t)[i] := by rw [List.getD_eq_getElem?_getD, List.getElem?_eq_getElem hi]; rfl
    exact hg
theorem rot_par {t : ByteArray} (p : Nat) (ht : t.size = 512) (hp : p < 512) (j : Nat) (hj : j < 8) : Sm.par8 (nums (rotT t p (2 ^ j % 256))) = !Sm.par8 (nums t) := by
  have h8 := Sm.pow8 j hj
  rw [rotT_nums p h8.2.1 h8.2.2 ht hp]
  have hi : p < (nums t).length := by rw [nums_len, ht]; exact hp
  have hb := nums_bd t p
  refine Sm.par_flip ?_ hb.1 hb.2 j hj
  rw [List.getD_eq_getElem?_getD, List.getElem?_eq_getElem hi]; rfl
def RotS (W w : World) (D n : Nat) (ct : Nat → ByteArray) (N : Nat) (H : Nat → Prop) (i p : Nat) (y : Int) (e : Ending) (w' : World) : Prop :=
  e = .returned .nilIface ∧ DkS W w' D n (updT ct i (rotT (ct i) p y)) N H ∧ Stp w H w' H
theorem dks_rot {W w : World} {D n N : Nat} {ct : Nat → ByteArray} {H : Nat → Prop} (h : DkS W w D n ct N H) (i p : Nat) (x z y : Int) (hx : x = i) (hz : z = p) (hi : i < n) (hp : p < 512) (y0 : 0 ≤ y) (y1 : y < 256) :
    Calls Tryz.prog 33 #[.pointer (some ⟨D, 0, none⟩), .int .i64 x, .int .i64 z, .int .u8 y] w (RotS W w D n ct N H i p y) := by
  subst hx hz
  obtain ⟨d, ⟨s, hd, ht, rfl, rfl, hB⟩, hn, hl, w0, wN, hc⟩ := h
  have hi' : i < s.n := by rw [← ht.n, hn]; exact hi
  have hD := rot_D s i p y
  have hhas : (s.rot i p y).has = s.has := by unfold St.rot; cases s.late i <;> rfl
  have hN : (s.rot i p y).n = s.n := by unfold St.rot; cases s.late i <;> rfl
  have hP : (s.rot i p y).pend = s.pend := by unfold St.rot; cases s.late i <;> rfl
  have hW : (s.rot i p y).writes = s.writes := by unfold St.rot; cases s.late i <;> rfl
  have hL : (s.rot i p y).left = s.left := by unfold St.rot; cases s.late i <;> rfl
  refine (rot_any s i p y w hd hi' hp y0 y1).mono ?_
  rintro e w' ⟨rfl, hd', hs⟩
  have hst : Stp w s.has w' s.has := ⟨hs.os, hs.tape, hs.output, hs.size, hs.block, fun k q => hs.own k (by rw [hhas]; exact q)⟩
  refine ⟨rfl, ⟨{ d with cur := fun j => if j = i then rotT (ct i) p y else d.cur j }, ⟨s.rot i p y, hd', ⟨ht.n.trans hN.symm, fun k hk => ?_, ht.pend.trans hP.symm, ht.writes.trans hW.symm, ht.left.trans hL.symm⟩, hD, hhas.symm, hB.trans (hst.below (fun b q => (hd.lt b q).1) hB.size)⟩, hn, hl, w0, wN, fun q hq => ?_⟩, hst⟩
  · have hk' : k < s.n := by rw [← hN]; exact hk
    simp only
    by_cases e : k = i
    · subst e
      rw [if_pos rfl]
      unfold rotT
      have hck : ct k = tx (s.cur k) := (hc k hi).symm.trans (ht.cur k hk')
      refine tx_congr fun j hj => ?_
      rw [rot_cur, if_pos rfl]
      unfold turn
      have hg : ∀ j, j < 512 → (nums (ct k)).getD j 0 = s.cur k j := fun j hj => by
        rw [hck, nums_tx (fun j => cur_byte hd.ok k j), List.getD_eq_getElem?_getD, List.getElem?_eq_getElem (by rw [rowOf_len]; exact hj), rowOf_get]; rfl
      by_cases ej : j = p
      · rw [if_pos ej, if_pos ej]; simp only; rw [hg p hp]
      · rw [if_neg ej, if_neg ej]; exact hg j hj
    · rw [if_neg e, ht.cur k hk']
      refine tx_congr fun j _ => ?_
      rw [rot_cur, if_neg e]
  · show (if q = i then rotT (ct i) p y else d.cur q) = updT ct i (rotT (ct i) p y) q
    unfold updT
    by_cases e : q = i
    · rw [if_pos e, if_pos e]
    · rw [if_neg e, if_neg e]; exact hc q hq
def ReadS (w : World) (t : ByteArray) (e : Ending) (w' : World) : Prop :=
  ∃ g cap, e = .returned (.tuple #[.slice (some ⟨g, 0, none⟩) 512 cap, .nilIface]) ∧ Lies w' (some ⟨g, 0, none⟩) (nums t) ∧ w.heap.size ≤ g ∧ g < w'.heap.size ∧ Below w.heap.size w w'
theorem dks_read {W w : World} {D n N : Nat} {ct : Nat → ByteArray} {H : Nat → Prop} (h : DkS W w D n ct N H) (i : Nat) (x : Int) (hx : x = i) (hi : i < n) :
    Calls Tryz.prog 32 #[.pointer (some ⟨D, 0, none⟩), .int .i64 x] w (ReadS w (ct i)) := by
  subst hx
  obtain ⟨d, ⟨s, hd, ht, rfl, rfl, hB⟩, hn, hl, w0, wN, hc⟩ := h
  have hi' : i < s.n := by rw [← ht.n, hn]; exact hi
  refine (read_any s i w hd hi').mono ?_
  rintro e w' ⟨g, cap, rfl, hli, hcap, hg, hb⟩
  have e1 : nums (ct i) = rowOf (s.cur i) := by rw [← hc i hi, ht.cur i hi', nums_tx (fun j => cur_byte hd.ok i j)]
  refine ⟨g, cap, rfl, by rw [e1]; exact hli, hg, ?_, hb⟩
  obtain ⟨b, off, ha, hcell, _⟩ := hli 0 (by rw [rowOf_len]; decide)
  obtain ⟨rfl, rfl⟩ : g = b ∧ 0 = off := by simpa using ha
  exact World.block_lt_of_cell? w' _ hcell
end Go.Proofs.YtlfkkakohldgnaaGreatDoor.Sh
namespace Go.Proofs.YtlfkkakohldgnaaGreatDoor.Sh
open Go.RowKit Go.Maps

theorem lowest_first {S : Spc} (o : S.Ok) {s : Nat} (hs : s < S.n) (hf : S.t s = false) (hall : ∀ j, j < s → S.t j = true) : S.lowest 1 = [s] := by
  have hne : S.lowest 1 ≠ [] := fun e => by
    have := (lowest_nil o (by decide)).1 e s hs
    rw [hf] at this; cases this
  have hlen := lowest_len o 1
  cases hL : S.lowest 1 with
  | nil => exact absurd hL hne
  | cons x rest =>
    have hr : rest = [] := by
      rw [hL] at hlen
      simp only [List.length_cons] at hlen
      exact List.length_eq_zero_iff.1 (by omega)
    subst hr
    obtain ⟨m1, m2, m3⟩ := lowest_mem (S := S) (c := 1) (s := x) (by rw [hL]; simp)
    have hsx : s ≤ x := by
      by_cases q : s ≤ x
      · exact q
      · have := hall x (by omega); rw [m3] at this; cases this
    unfold Spc.lowest at hL
    have hp : ((List.range S.n).filter fun i => decide (S.lo ≤ i) && !S.t i).Pairwise (· < ·) := List.pairwise_lt_range.filter _
    have hlo : S.lo ≤ s := by
      by_cases q : S.lo ≤ s
      · exact q
      · have := o.low s (by omega); rw [hf] at this; cases this
    have hmem : s ∈ ((List.range S.n).filter fun i => decide (S.lo ≤ i) && !S.t i) := by
      rw [List.mem_filter, List.mem_range]
      exact ⟨hs, by simp [hlo, hf]⟩
    cases hF : ((List.range S.n).filter fun i => decide (S.lo ≤ i) && !S.t i) with
    | nil => rw [hF] at hmem; cases hmem
    | cons y F =>
      rw [hF] at hL hmem hp
      have hy : y = x := by simpa using hL
      subst hy
      rcases List.mem_cons.1 hmem with e | e
      · rw [e]
      · have := (List.pairwise_cons.1 hp).1 s e; omega
def rpg (j : Nat) : Sm.Pg := npg (j : Int) j 0 2 [[(j : Int), 7]]
/-- behind the first i pages -/
structure RwR (W wr : World) (P D i : Nat) (σ : Sd) (pn : Nat → Sm.Pg) : Prop where
  ss : Ss W (10000 + 2 * i) wr σ p0 pn
  P : σ.P = P
  D : σ.D = D
  n : σ.n = 24
  kp : σ.kp = fun _ => 0
  tb : σ.tb = []
  ep : σ.ep = 0
  nw : ∀ j, σ.nw j = if j < i then 2 + j else 0
  pn : ∀ j, j < i → pn j = rpg j
theorem RwR.place {W wr : World} {P D i : Nat} {σ : Sd} {pn : Nat → Sm.Pg} (h : RwR W wr P D i σ pn) (hi : i < 6) : PlaceE σ i (2 + i) true := by
  have hw : ¬ wrt σ.kp σ.nw i = true := fun q => by
    have := (wrt_yes q).1
    rw [h.nw i, if_neg (by omega)] at this
    exact this rfl
  have ht := h.ss.iv.tk
  have hf : σ.S.t (2 + i) = false := by
    refine not_true fun e => ?_
    rcases (ht _).1 e with q | q | ⟨k, q1, q2⟩ | ⟨k, q1, q2⟩
    · omega
    · rw [h.tb] at q; cases q
    · rw [h.kp] at q2; exact q2 rfl
    · rw [h.nw k] at q1 q2
      split at q1
      · omega
      · omega
  have hall : ∀ j, j < 2 + i → σ.S.t j = true := fun j hj => (ht j).2 (by
    by_cases q : j < 2
    · exact .inl q
    · exact .inr (.inr (.inr ⟨j - 2, by rw [h.nw, if_pos (by omega)]; omega, by rw [h.nw, if_pos (by omega)]; omega⟩)))
  have hl := lowest_first h.ss.sh.sp.ok (by rw [h.ss.iv.sn, h.n]; omega) hf hall
  unfold PlaceE
  rw [if_neg hw, hl, if_neg (by simp)]
  exact ⟨rfl, rfl⟩
theorem RwR.tbl1 {W wr : World} {P D k : Nat} {σ : Sd} {pn : Nat → Sm.Pg} (h : RwR W wr P D (k + 1) σ pn) (hk : k < 6) : IsTbl σ.nw 1 := by
  refine ⟨fun j q => ?_, .inr ⟨0, ?_, rfl⟩⟩
  · rw [h.nw j] at q
    by_cases e : j < k + 1
    · omega
    · rw [if_neg e] at q; exact absurd rfl q
  · rw [h.nw 0, if_pos (by omega)]; decide
theorem RwR.free {W wr : World} {P D k : Nat} {σ : Sd} {pn : Nat → Sm.Pg} (h : RwR W wr P D (k + 1) σ pn) (hk : k < 6) : ¬ σ.S.free < 1 := by
  have h1 := h.ss.free
  have h2 : (kl σ.nw).length = (List.range (k + 1)).length := kl_len (h.ss.sh.vf.bnd) List.nodup_range fun j => by
    rw [List.mem_range, h.nw j]
    by_cases e : j < k + 1
    · rw [if_pos e]; exact ⟨fun _ => by omega, fun _ => e⟩
    · rw [if_neg e]; exact ⟨fun q => absurd q e, fun q => absurd rfl q⟩
  rw [h.n, h.tb, late_new h.kp, h2, List.length_range, h.kp, kl_none] at h1
  simp only [List.length_nil] at h1
  omega
theorem rpg_may (i : Int) : (Sm.Pg.mkPg i 0 0 2 [[i, 7]]).may = true := by rfl
theorem recs2 (w : World) (i : Int) (i0 : 0 ≤ i) (i1 : i < 256) : Sm.Recs ((w.alloc (.cells #[.int .u8 i, .int .u8 7] 5)).alloc (.cells #[.slice (some ⟨w.heap.size, 0, none⟩) 2 2] 72)) (some ⟨w.heap.size + 1, 0, none⟩) [[i, 7]] := by
  intro j hj
  obtain rfl : j = 0 := by simpa using hj
  refine ⟨w.heap.size + 1, 0, some ⟨w.heap.size, 0, none⟩, 2, rfl, ?_, ?_, (show 2 ≤ 2 by decide), by decide⟩
  · have h := heap_alloc2_new w (.cells #[.int .u8 i, .int .u8 7] 5) (.cells #[.slice (some ⟨w.heap.size, 0, none⟩) 2 2] 72)
    rw [cell_of_row _ _ _ _ _ _ h]
    rfl
  · refine Sm.Lies.below (w := w.alloc (.cells #[.int .u8 i, .int .u8 7] 5)) ?_ (Sm.alX _ _)
    intro j hj
    have hj2 : j < 2 := hj
    refine ⟨w.heap.size, 0, rfl, ?_, ?_⟩
    · rw [cell_of_row _ _ _ _ _ _ (heap_alloc_new w _), Nat.zero_add]
      match j, hj2 with
      | 0, _ => rfl
      | 1, _ => rfl
    · match j, hj2 with
      | 0, _ => exact ⟨i0, i1⟩
      | 1, _ => exact ⟨by show (0 : Int) ≤ 7; decide, by show (7 : Int) < 256; decide⟩
theorem RwR.next {W wr w' w2 : World} {P D i : Nat} {σ : Sd} {pn : Nat → Sm.Pg} (h : RwR W wr P D i σ pn) (hi : i < 6) {e : Ending} (hw : WrOk W (10000 + 2 * i) w2 σ p0 pn i (npg (i : Int) i σ.ep 2 [[(i : Int), 7]]) e w') : e = .returned .nilIface ∧ ∃ σ' pn', RwR W w' P D (i + 1) σ' pn' := by
  obtain ⟨s, H', nV, DV, hp, rfl, hsh, hiv, _⟩ := hw
  obtain ⟨rfl, -⟩ := place_det (h.place hi) hp
  refine ⟨rfl, _, _, ⟨⟨hsh.mono (by omega), hiv⟩, h.P, h.D, h.n, h.kp, h.tb, h.ep, fun j => ?_, fun j hj => ?_⟩⟩
  · show updN σ.nw i (2 + i) j = _
    by_cases e : j = i
    · subst e; rw [updN_same, if_pos (by omega)]
    · rw [updN_ne e, h.nw j]
      by_cases q : j < i
      · rw [if_pos q, if_pos (by omega)]
      · rw [if_neg q, if_neg (by omega)]
  · by_cases e : j = i
    · subst e; rw [updP_same, h.ep]; rfl
    · rw [updP_ne e]; exact h.pn j (by omega)
/-- what is on the disk behind the Commit -/
structure RReady (W1 w : World) (D k : Nat) (ct : Nat → ByteArray) (root ep : Nat) (tb : List Nat) (kp : Nat → Nat) (N : Nat) (Hd : Nat → Prop) : Prop where
  dk : DkS W1 w D 24 ct N Hd
  lt : ∀ b, Hd b → b < w.heap.size
  op : OpenOk 24 ct root ep tb kp
  kp : ∀ j, kp j = if j < k + 1 then 2 + j else 0
  pg : ∀ j, j < k + 1 → ct (2 + j) = bt (rpg j)
theorem rots_ready {W1 wr w : World} {P D k N M : Nat} {σ σ2 : Sd} {pn : Nat → Sm.Pg} (h : RwR W1 wr P D (k + 1) σ pn) (hs : Ss W1 N w σ2 pn pn) (hq : Eqs σ σ2) (ha : Sh W1 M w σ2 (fun _ => True)) (hk : σ2.kp = σ.nw) : ∃ Hd, RReady W1 w D k σ2.ct σ2.root σ2.ep σ2.tb σ2.kp M Hd := by
  obtain ⟨Hd, hd, hH⟩ := ha.ps.disk
  have hn : σ2.n = 24 := hq.2.2.1.trans h.n
  have hD : σ2.D = D := hq.2.1.trans h.D
  have hkp : ∀ j, σ2.kp j = if j < k + 1 then 2 + j else 0 := fun j => by rw [hk]; exact h.nw j
  have ho := hs.iv.openOk ha.kf.bnd (ct := σ2.ct) (fun _ _ => rfl)
  rw [hn, hD] at hd
  rw [hn] at ho
  refine ⟨Hd, hd, fun b q => (ha.ps.lt b (hH b q)).2, ho, hkp, fun j hj => ?_⟩
  have hkj : σ2.kp j = 2 + j := by rw [hkp j, if_pos hj]
  have := (hs.iv.ck j (by rw [hkj]; omega)).1
  rw [hkj, h.pn j hj] at this
  exact this
theorem OpenOk.turn {n : Nat} {ct ct' : Nat → ByteArray} {root ep s : Nat} {tb : List Nat} {kp : Nat → Nat} (h : OpenOk n ct root ep tb kp) (hc : ∀ x, x ≠ s → ct' x = ct x) (s2 : 2 ≤ s) (hs : s ∉ tb) : OpenOk n ct' root ep tb kp := by
  obtain ⟨st, a1, a2⟩ := h.st
  exact ⟨⟨st, fun r hr => rt_ne (a1 r hr) (hc r (by omega)), a2⟩, h.r2, h.e1, h.sk, h.it, h.b, fun i hi => by rw [hc _ (fun e => hs (e ▸ List.getElem_mem hi))]; exact h.tt i hi⟩
theorem rpg_ok (j : Nat) (hj : j < 7) : PgOk (rpg j) := npg_ok (ki := (j : Int)) (nu := 0) (ep := 0) (si := 2) (rs := [[(j : Int), 7]]) (rpg_may _) (by omega) (by omega) (by omega) (by decide) (by
  intro r hr
  rw [List.mem_singleton.1 hr]
  intro i hi
  have hi2 : i < 2 := hi
  match i, hi2 with
  | 0, _ => show 0 ≤ (j : Int) ∧ (j : Int) < 256; omega
  | 1, _ => exact ⟨by show (0 : Int) ≤ 7; decide, by show (7 : Int) < 256; decide⟩)
/-- a sector that rots: r bits of it are turned -/
structure RotRel (W1 w : World) (D q : Nat) (ct ct' : Nat → ByteArray) (N : Nat) (Hd : Nat → Prop) (r : Nat) : Prop where
  dk : DkS W1 w D 24 ct' N Hd
  o : ∀ x, x ≠ 2 + q → ct' x = ct x
  z : (ct' (2 + q)).size = 512
  p : Sm.par8 (nums (ct' (2 + q))) = decide (r % 2 = 1)
theorem RotRel.next {W1 w w' : World} {D q N r p : Nat} {ct ct' : Nat → ByteArray} {Hd : Nat → Prop} (h : RotRel W1 w D q ct ct' N Hd r) (hp : p < 512) (j : Nat) (hj : j < 8) (hd : DkS W1 w' D 24 (updT ct' (2 + q) (rotT (ct' (2 + q)) p (2 ^ j % 256))) N Hd) : RotRel W1 w' D q ct (updT ct' (2 + q) (rotT (ct' (2 + q)) p (2 ^ j % 256))) N Hd (r + 1) := by
  refine ⟨hd, fun x hx => by rw [updT_ne hx]; exact h.o x hx, by rw [updT_same]; exact rotT_size _ _ _, ?_⟩
  rw [updT_same, rot_par p h.z hp j hj, h.p, ← decide_not, decide_eq_decide]
  omega
theorem RotRel.first {W1 w : World} {D k q N : Nat} {ct : Nat → ByteArray} {root ep : Nat} {tb : List Nat} {kp : Nat → Nat} {Hd : Nat → Prop} (h : RReady W1 w D k ct root ep tb kp N Hd) (hk : k < 6) (hq : q < k + 1) {w' : World} (hd : DkS W1 w' D 24 ct N Hd) : RotRel W1 w' D q ct ct N Hd 0 := by
  have ho := rpg_ok q (by omega)
  have hc := h.pg q hq
  refine ⟨hd, fun _ _ => rfl, by rw [hc]; exact bt_size ho, ?_⟩
  rw [hc]
  exact (Sm.good_par (by have := bt_good ho; unfold goodT at this; exact this)).trans rfl
theorem RotRel.bad {W1 w : World} {D q N : Nat} {ct ct' : Nat → ByteArray} {Hd : Nat → Prop} (h : RotRel W1 w D q ct ct' N Hd 3) : goodT (ct' (2 + q)) = false := by
  unfold goodT
  exact Sm.odd_bad (h.p.trans rfl)
theorem lies_stp {w w' : World} {H H' : Nat → Prop} {g : Nat} {xs : List Int} (h : Lies w (some ⟨g, 0, none⟩) xs) (s : Stp w H w' H') (hg : ¬ H g) (hl : g < w.heap.size) : Lies w' (some ⟨g, 0, none⟩) xs :=
  lies_same h fun b off e => by
    obtain ⟨rfl, rfl⟩ : g = b ∧ 0 = off := by simpa using e
    exact s.block g hl hg
theorem lies_keep {w w1 w2 : World} {H H' : Nat → Prop} {g : Nat} {xs : List Int} (h : Lies w (some ⟨g, 0, none⟩) xs) (s : Stp w H w1 H') (hg : ¬ H g) (hl : g < w.heap.size) (hb : Below w1.heap.size w1 w2) : Lies w2 (some ⟨g, 0, none⟩) xs :=
  lies_same (lies_stp h s hg hl) fun b off e => by
    obtain ⟨rfl, rfl⟩ : g = b ∧ 0 = off := by simpa using e
    exact hb.block g (by have := s.size; omega)
end Go.Proofs.YtlfkkakohldgnaaGreatDoor.Sh
namespace Go.Proofs.YtlfkkakohldgnaaGreatDoor.Sm
open Go.ChangeShapes Go.WideShapes

theorem list3 {α : Type} (l : List α) (h : (⟨l⟩ : Array α).size = 3) : ∃ a b c, l = [a, b, c] := by
  match l, h with
  | [a, b, c], _ => exact ⟨a, b, c, rfl⟩
theorem open_three {H : Type} {enc : TypeId × Value → H} {P : Program} {w W : World} {base : Nat} {spare : Nat → Bool} {held : Bool} {r : Reach} {b0 : Nat} {t e : TypeId} {k : IntKind} {v : Value} {d : DataW H} {p : List MemPlace}
    (ht : P.underlying t = some (.array 3 e)) (he : P.underlying e = some (.int k)) (hce : P.cellsOf e = 1) (hct : P.cellsOf t = 3) (hv : Value.okWide P W r b0 t v) (h : DataW.Trod enc P w base spare held t v d p) :
    ∃ x y u, v = .agg #[.int k x, .int k y, .int k u] ∧ (Lit.int k x).wf = true ∧ (Lit.int k y).wf = true ∧ (Lit.int k u).wf = true := by
  obtain ⟨cs, rfl, hsz, _⟩ : ∃ cs, v = .agg cs ∧ cs.size = P.cellsOf t ∧ Row.okWide P W r b0 t cs := by
    simpa [Value.okWide, ht] using hv
  rw [hct] at hsz
  obtain ⟨l⟩ := cs
  obtain ⟨c0, c1, c2, rfl⟩ := list3 l hsz
  obtain ⟨fuel, hf⟩ := h
  obtain ⟨y0, y1, y2, m, hx, hy0, hy1, hy2⟩ := trod_array3 ht hce hf
  obtain ⟨x0, e0, rfl, w0⟩ := DataW.trod_int he hy0
  obtain ⟨x1, e1, rfl, w1⟩ := DataW.trod_int he hy1
  obtain ⟨x2, e2, rfl, w2⟩ := DataW.trod_int he hy2
  simp at e0 e1 e2
  subst e0 e1 e2
  exact ⟨_, _, _, rfl, w0, w1, w2⟩
end Go.Proofs.YtlfkkakohldgnaaGreatDoor.Sm
namespace Go.Proofs.YtlfkkakohldgnaaGreatDoor.Sh
open Go.RowKit Go.Maps

set_option maxRecDepth 100000 in
set_option maxHeartbeats 4000000 in
theorem rots_walk (n0 n1 b0 b1 b2 : Int) (W : World) (_w0 : (Lit.int .i64 n0).wf = true) (_w1 : (Lit.int .i64 n1).wf = true) (_w2 : (Lit.int .i64 b0).wf = true ∧ (Lit.int .i64 b1).wf = true ∧ (Lit.int .i64 b2).wf = true) (hl : Laid W) :
    Calls Tryz.prog 6 #[.int .i64 n0, .int .i64 n1, .agg #[.int .i64 b0, .int .i64 b1, .int .i64 b2]] W fun e w' => e = .returned (.bool true) ∧ Below W.heap.size W w' := by
  obtain ⟨k, hk, hk6⟩ := red_nat n0 6 (by omega) (by omega)
  have k0 : (0 : Int) ≤ (k : Int) := by omega
  have HLD := Lib.hid hl
  have hbx := heap_alloc_new W (.cells #[.int .i64 b0, .int .i64 b1, .int .i64 b2] 71)
  have HBX := Lib.hid (show ∀ j, j < 3 → ∃ x, (W.alloc (.cells #[.int .i64 b0, .int .i64 b1, .int .i64 b2] 71)).cell? ⟨W.heap.size, j, none⟩ = some (.int .i64 x) from fun j hj => by
    rw [cell_of_row _ _ j _ _ _ hbx]
    match j, hj with
    | 0, _ => exact ⟨_, rfl⟩
    | 1, _ => exact ⟨_, rfl⟩
    | 2, _ => exact ⟨_, rfl⟩)
  have HW1 := Lib.hid (Sm.alX W (.cells #[.int .i64 b0, .int .i64 b1, .int .i64 b2] 71))
  have HXL := Lib.hid (show W.heap.size < (W.alloc (.cells #[.int .i64 b0, .int .i64 b1, .int .i64 b2] 71)).heap.size by simp)
  clear hl hbx
  go_enter Tryz.func6, Tryz.ntmps6
  go_wp2_with fail
  generalize W.alloc _ = W1 at HBX HW1 HXL ⊢
  generalize hX : W.heap.size = X at HBX HXL ⊢
  have HX := Lib.hid hX
  clear hX
  refine (disk_new (W := W1) 24 W1 (Below.refl _ _) (by decide) (by decide)).mono ?_
  rintro e w1 ⟨D, H, rfl, hdk, _⟩
  have HDK := Lib.hid hdk
  clear hdk
  go_wp2_with fail
  refine (new_fresh 3 HDK.out (by decide) (by decide) (by decide) (by decide)).mono ?_
  rintro e w2 ⟨σ0, rfl, _, hss, e1, e2, e3, e4, e5, e6, e7⟩
  have HR0 := Lib.hid (show ∃ σ pn, RwR W1 w2 σ0.P D 0 σ pn from ⟨σ0, p0, hss, rfl, e1, e2, e6, e7, e4, fun j => by rw [e5, if_neg (by omega)], fun j hj => absurd hj (by omega)⟩)
  clear hss e1 e2 e3 e4 e5 e6 e7
  generalize σ0.P = P at HR0 ⊢
  clear HDK
  go_wp2_with fail
  go_loopw [12] (fun x wr => ∃ i : Nat, i ≤ k + 1 ∧ x = .int .i64 i ∧ Hid (∃ σ pn, RwR W1 wr P D i σ pn)) (fun x _ => k + 1 - (intOf x).toNat)
  case atStart => exact ⟨0, by omega, rfl, HR0⟩
  case round =>
    obtain ⟨i, hi, rfl, HR⟩ := hrel
    have i0 : (0 : Int) ≤ (i : Int) := by omega
    by_cases hlt : i < k + 1
    · have i1 : (i : Int) < 1 + (k : Int) := by omega
      have i2 : (i : Int) < 7 := by omega
      obtain ⟨σ, pn, hrw⟩ := HR.out
      have HRW := Lib.hid hrw
      have HB3 := Lib.hid ((Sm.alX wr (.cells #[.int .u8 (i : Int), .int .u8 7] 5)).trans ((Sm.alX (wr.alloc (.cells #[.int .u8 (i : Int), .int .u8 7] 5)) (.cells #[.slice (some ⟨wr.heap.size, 0, none⟩) 2 2] 72)).mono (by simp)))
      have HWR := Lib.hid (write_place (hrw.ss.sh.below HB3.out) hrw.ss.iv i (by omega) (2 + i) (hrw.place (by omega)) (i : Int) 0 0 2 _ 1 1 [[(i : Int), 7]] rfl (recs2 wr (i : Int) (by omega) (by omega)) (rpg_may _) (by omega) (by omega) (by omega))
      rw [hrw.P] at HWR
      clear hrw HR
      go_wp2_with (go_at_call 19; refine HWR.out.mono ?_; intro e w3 hw; obtain ⟨rfl, σ', pn', hn⟩ := HRW.out.next (by omega) hw; have HN := Lib.hid hn; clear hw hn)
      go_roundw
      case rel => exact ⟨i + 1, by omega, by go_num, Lib.hid ⟨_, _, HN.out⟩⟩
      case measure => simp [intOf]; omega
    · obtain rfl : i = k + 1 := by omega
      obtain ⟨σ, pn, hrw⟩ := HR.out
      have HRW := Lib.hid hrw
      have HCM := Lib.hid (commit_all hrw.ss 1 (hrw.tbl1 (by omega)) (by rw [hrw.ep]; decide) (by omega))
      rw [hrw.P] at HCM
      have i1 : ¬ ((k + 1 : Nat) : Int) < 1 + (k : Int) := by omega
      clear hrw HR
      go_wp2_with fail
      refine HCM.out.mono ?_
      rintro e w4 ⟨σ2, rfl, hs2, _, hq2, _, hc2⟩
      have hno := HRW.out.free (by omega)
      rw [if_neg hno] at hs2 ⊢
      rw [errv0]
      have HS2 := Lib.hid hs2
      have HQ2 := Lib.hid hq2
      have HC2 := Lib.hid (hc2 hno)
      clear hs2 hq2 hc2 hno
      obtain ⟨Hd, hrd⟩ := rots_ready HRW.out HS2.out HQ2.out HC2.out.1 HC2.out.2.1
      have HRD := Lib.hid hrd
      have HB4 := Lib.hid HS2.out.sh.ps.b
      clear hrd HCM HS2 HQ2 HC2
      generalize σ2.ct = ct at HRD
      generalize σ2.root = root at HRD
      generalize σ2.ep = ep at HRD
      generalize σ2.tb = tb at HRD
      generalize σ2.kp = kp at HRD
      have HNL := Lib.hid (show 10000 + 2 * (k + 1) + 4000 ≤ 20000 by omega)
      generalize 10000 + 2 * (k + 1) + 4000 = N at HRD HNL
      obtain ⟨q, hq, hqk⟩ := red_nat n1 (1 + (k : Int)) (by omega) (by omega)
      have q0 : (0 : Int) ≤ (q : Int) := by omega
      go_wp2_with fail
      simp only [hq]
      clear hq
      refine (dks_read HRD.out.dk (2 + q) _ (by omega) (by omega)).mono ?_
      rintro e w5 ⟨go, co, rfl, hlo, hgo1, hgo2, hb5⟩
      have HLO := Lib.hid hlo
      have HGO := Lib.hid (show w4.heap.size ≤ go ∧ go < w5.heap.size from ⟨hgo1, hgo2⟩)
      have HR5 := Lib.hid (show ∃ ct', RotRel W1 w5 D q ct ct' N Hd 0 from ⟨ct, RotRel.first HRD.out (by omega) (by omega) (HRD.out.dk.below hb5)⟩)
      have HB5 := Lib.hid (HB4.out.trans (hb5.mono HB4.out.size))
      have HHL := Lib.hid (show ∀ b, Hd b → b < w5.heap.size ∧ b ≠ go from fun b hb => by have := HRD.out.lt b hb; have := hb5.size; omega)
      clear hlo hgo1 hgo2 hb5
      go_wp2_with fail
      go_loopw [16, 17] (fun x _ ws => ∃ r : Nat, r ≤ 3 ∧ x = .int .i64 r ∧ Hid (∃ ct', RotRel W1 ws D q ct ct' N Hd r) ∧ Hid (Stp w5 Hd ws Hd)) (fun x _ _ => 3 - (intOf x).toNat)
      case atStart => exact ⟨0, by omega, rfl, HR5, Lib.hid (Stp.refl _ _)⟩
      case round =>
        obtain ⟨r, hr, rfl, HRR, HST⟩ := hrel
        by_cases hr3 : r < 3
        · have r0 : (0 : Int) ≤ (r : Int) := by omega
          have r1 : (r : Int) < 3 := by omega
          obtain ⟨x, hx⟩ := HBX.out r hr3
          have hxs : wr.cell? ⟨X, r, none⟩ = some (.int .i64 x) := by
            have h5 := (HB5.out.cell (p := ⟨X, r, none⟩) HXL.out).trans hx
            exact HST.out.cell h5 (fun q' => by have h1 := HXL.out; obtain ⟨ct', hrr⟩ := HRR.out; obtain ⟨d, hdn, _⟩ := hrr.dk; obtain ⟨s, hs1, _, _, rfl, _⟩ := hdn; have := (hs1.lt X q').1; omega)
          obtain ⟨Q, hQ, hQ4⟩ := red_nat x 4096 (by omega) (by omega)
          obtain ⟨ct', hrr⟩ := HRR.out
          have HRO := Lib.hid hrr
          have Q0 : (0 : Int) ≤ (Q : Int) := by omega
          have Q1 : (Q : Int) / 8 < 512 := by omega
          have Q2 : (0 : Int) ≤ (Q : Int) / 8 := by omega
          have Q3 : (0 : Int) ≤ (Q : Int) % 8 := by omega
          have Q4 : (Q : Int) % 8 < 8 := by omega
          have h8 := Sm.pow8 (Q % 8) (by omega)
          have HRT := Lib.hid (dks_rot hrr.dk (2 + q) (Q / 8) (2 + (q : Int)) ((Q : Int) / 8) (2 ^ (Q % 8) % 256) (by omega) (by omega) (by omega) (by omega) h8.2.1 h8.2.2)
          clear hx hrr HRR h8
          go_wp2_with (go_at_call 33; refine HRT.out.mono ?_; rintro e w6 ⟨rfl, hdk6, hst6⟩; have HD6 := Lib.hid hdk6; have HS6 := Lib.hid (HST.out.trans hst6); clear hdk6 hst6)
          go_roundw
          case rel => exact ⟨r + 1, by omega, by go_num, Lib.hid ⟨_, HRO.out.next (p := Q / 8) (by omega) (Q % 8) (by omega) HD6.out⟩, HS6⟩
          case measure => simp [intOf]; omega
        · obtain rfl : r = 3 := by omega
          obtain ⟨ct', hrr⟩ := HRR.out
          have HRO := Lib.hid hrr
          have HBAD := Lib.hid hrr.bad
          have HLO6 := Lib.hid (lies_stp HLO.out HST.out (fun q' => (HHL.out go q').2 rfl) HGO.out.2)
          have HWB := Lib.hid (show Below W1.heap.size W1 wr by obtain ⟨d, hdn, _⟩ := hrr.dk; exact hdn.b)
          have HGO6 := Lib.hid (show W1.heap.size ≤ go ∧ go < wr.heap.size from ⟨by have := HGO.out.1; have := HB4.out.size; omega, by have := HGO.out.2; have := HST.out.size; omega⟩)
          have HHW := Lib.hid (show ∀ b, Hd b → b < wr.heap.size from fun b hb => by have := (HHL.out b hb).1; have := HST.out.size; omega)
          clear hrr HRR
          go_wp2_with fail
          refine (dks_read HRO.out.dk (2 + q) _ (by omega) (by omega)).mono ?_
          rintro e w7 ⟨gn, cn, rfl, hln, hgn1, hgn2, hb7⟩
          have HLN := Lib.hid hln
          have HLO7 := Lib.hid (lies_same HLO6.out fun b off e => by
            obtain ⟨rfl, rfl⟩ : go = b ∧ 0 = off := by simpa using e
            exact hb7.block go HGO6.out.2)
          have HD7 := Lib.hid (HRO.out.dk.below hb7)
          have HG7 := Lib.hid (show W1.heap.size ≤ gn ∧ gn < w7.heap.size ∧ go < w7.heap.size ∧ (∀ b, Hd b → b ≠ gn ∧ b ≠ go ∧ b < w7.heap.size) from by
            have h1 := HWB.out.size
            have h2 := hb7.size
            have h3 := HGO6.out
            exact ⟨by omega, hgn2, by omega, fun b hb => ⟨by have := HHW.out b hb; omega, (HHL.out b hb).2, by have := HHW.out b hb; omega⟩⟩)
          clear hln hgn1 hgn2 hb7
          have hnt : (2 + q) ∉ tb := fun hm => HRD.out.op.sk.dj q (by rw [HRD.out.kp q, if_pos (by omega)]; omega) (by rw [HRD.out.kp q, if_pos (by omega)]; exact hm)
          have HOP := Lib.hid (open_any 2 HD7.out (fun b hb => (HG7.out.2.2.2 b hb).2.2) (by decide) (by decide) (by decide) (by decide) (HRD.out.op.turn HRO.out.o (by omega) hnt) (by have := HNL.out; omega))
          clear hnt
          go_wp2_with fail
          refine HOP.out.mono ?_
          rintro e w8 ⟨σ3, rfl, hsh, hs, _, hst8, _⟩
          obtain ⟨f1, f2, f3, f4, f5, f6, f7, f8, f9, f10⟩ := hs
          have HS0 := Lib.hid (show ∃ H', Sh W1 (N + 20000 + 2 * 0) w8 { σ3 with H := H' } (fun _ => True) ∧ Stp w8 σ3.all w8 ({ σ3 with H := H' } : Sd).all from ⟨σ3.H, hsh, Stp.refl _ _⟩)
          have HNA := Lib.hid (show ¬ σ3.all go ∧ ¬ σ3.all gn ∧ go < w8.heap.size ∧ gn < w8.heap.size from by
            have h1 := HG7.out
            have h2 := hst8.size
            exact ⟨fun q' => by rcases hst8.own go q' with e | e; exact (h1.2.2.2 go e).2.1 rfl; omega, fun q' => by rcases hst8.own gn q' with e | e; exact (h1.2.2.2 gn e).1 rfl; omega, by omega, by omega⟩)
          have HLO8 := Lib.hid (lies_stp HLO7.out hst8 (fun q' => (HG7.out.2.2.2 go q').2.1 rfl) HG7.out.2.2.1)
          have HLN8 := Lib.hid (lies_stp HLN.out hst8 (fun q' => (HG7.out.2.2.2 gn q').1 rfl) HG7.out.2.1)
          have HF := Lib.hid (show (∀ j, σ3.nw j = if j < k + 1 then 2 + j else 0) ∧ σ3.fl = false ∧ σ3.n = 24 ∧ σ3.ct = ct' from ⟨fun j => by rw [f6]; exact HRD.out.kp j, f9, f2, f10⟩)
          have HZ0 := Lib.hid (show (ct (2 + q)).size = 512 by rw [HRD.out.pg q (by omega)]; exact bt_size (rpg_ok q (by omega)))
          have HNE := Lib.hid (show ((ct' (2 + q)).toList == (ct (2 + q)).toList) = false by
            rw [ByteArray.toList_eq, ByteArray.toList_eq, beq_eq_false_iff_ne]
            intro e
            have e2 : ct' (2 + q) = ct (2 + q) := ByteArray.ext (Array.toList_inj.1 e)
            have hg := bt_good (rpg_ok q (by omega))
            rw [← HRD.out.pg q (by omega), ← e2, HBAD.out] at hg
            cases hg)
          have HPG := Lib.hid (show ∀ j, j < k + 1 → j ≠ q → ct' (2 + j) = bt (rpg j) from fun j hj hne => by rw [HRO.out.o (2 + j) (by omega)]; exact HRD.out.pg j hj)
          have HZN := Lib.hid HRO.out.z
          clear hsh f1 f2 f3 f4 f5 f6 f7 f8 f9 f10 hst8 HOP HRO HRD HD7 HST HR5 HLO HLO6 HLO7 HLN HGO HGO6 HHL HHW HG7
          go_wp2_with fail
          go_loopw [22, 23, 24] (fun x _ _ ws => ∃ i : Nat, i ≤ k + 1 ∧ x = .int .i64 i ∧ Hid (∃ H', Sh W1 (N + 20000 + 2 * i) ws { σ3 with H := H' } (fun _ => True) ∧ Stp w8 σ3.all ws ({ σ3 with H := H' } : Sd).all)) (fun x _ _ _ => k + 1 - (intOf x).toNat)
          case atStart => exact ⟨0, by omega, rfl, HS0⟩
          case round =>
            obtain ⟨i, hi, rfl, HS⟩ := hrel
            have i0 : (0 : Int) ≤ (i : Int) := by omega
            by_cases hlt : i < k + 1
            · have i1 : (i : Int) < 1 + (k : Int) := by omega
              have i2 : (i : Int) < 7 := by omega
              obtain ⟨H', hsh, hst⟩ := HS.out
              have HSH := Lib.hid hsh
              have HST := Lib.hid hst
              have hnw : σ3.nw i = 2 + i := by rw [HF.out.1 i, if_pos hlt]
              clear hsh hst HS
              by_cases hiq : i = q
              · subst hiq
                have HRE := Lib.hid (read_rot HSH.out HF.out.2.1 i (by omega) (by show σ3.nw i ≠ 0; rw [hnw]; omega) (by show σ3.nw i < σ3.n; rw [hnw, HF.out.2.2.1]; omega) (by show goodT (σ3.ct (σ3.nw i)) = false; rw [hnw, HF.out.2.2.2]; exact HBAD.out) (by have := HNL.out; omega))
                clear hnw
                go_wp2_with fail
                refine HRE.out.mono ?_
                rintro e w9 ⟨H9, rfl, hsh9, hfr9⟩
                unfold zpv
                have hba := Sm.alX w9 (.cells #[.int .u8 0, .int .u32 0, .int .u64 0, .int .i64 0, .slice none 0 0] 47)
                have hst9 := HST.out.trans hfr9
                have HS9 := Lib.hid (hsh9.below hba)
                have HT9 := Lib.hid (hst9.trans (.of_below hba))
                have cz := conv_t (c := cn) (lies_keep HLN8.out hst9 HNA.out.2.1 HNA.out.2.2.2 hba) HZN.out
                have cy := conv_t (c := co) (lies_keep HLO8.out hst9 HNA.out.1 HNA.out.2.2.1 hba) HZ0.out
                have hne := HNE.out
                clear hsh9 hfr9 hst9 hba
                go_upto_region 31 with (fail)
                generalize w9.alloc (.cells #[.int .u8 0, .int .u32 0, .int .u64 0, .int .i64 0, .slice none 0 0] 47) = wa at HS9 HT9 cz cy ⊢
                go_wp2_with (go_at_call 16; refine (num_err 7 _ (HLD.out.below (HW1.out.trans (HS9.out.ps.b.mono HW1.out.size)))).mono ?_; rintro e wb ⟨rfl, hb⟩; have HSB := Lib.hid (HS9.out.below hb); have HTB := Lib.hid (HT9.out.trans (.of_below hb)); clear hb)
                clear cz cy hne
                go_roundw
                case rel => exact ⟨i + 1, by omega, by go_num, Lib.hid ⟨H9, HSB.out.mono (by omega), HTB.out⟩⟩
                case measure => simp [intOf]; omega
              · have HPI := Lib.hid (HPG.out i hlt hiq)
                have HRE := Lib.hid (read_ok HSH.out HF.out.2.1 i (by omega) (by show σ3.nw i ≠ 0; rw [hnw]; omega) (by show σ3.nw i < σ3.n; rw [hnw, HF.out.2.2.1]; omega) (rpg i) (rpg_ok i (by omega)) rfl (by show σ3.ct (σ3.nw i) = bt (rpg i); rw [hnw, HF.out.2.2.2]; exact HPI.out) (by have := HNL.out; omega))
                have hqi : ((i : Int) == (q : Int)) = false := beq_eq_false_iff_ne.2 (by omega)
                clear hnw hiq
                go_wp2_with fail
                refine HRE.out.mono ?_
                rintro e w9 ⟨ra, cap, H9, B, C, rfl, hsh9, hfr9, _, _, _, _⟩
                have k1 : Sm.Pg.kind (rpg i) = (i : Int) := rfl
                have k5 : (Sm.Pg.recs (rpg i)).length = 1 := rfl
                rw [k1, k5]
                generalize Sm.Pg.number (rpg i) = pn1
                generalize Sm.Pg.epoch (rpg i) = pe1
                generalize Sm.Pg.size (rpg i) = ps1
                have hba := Sm.alX w9 (.cells #[.int .u8 (i : Int), .int .u32 pn1, .int .u64 pe1, .int .i64 ps1, .slice ra 1 cap] 47)
                have HS9 := Lib.hid (hsh9.below hba)
                have HT9 := Lib.hid ((HST.out.trans hfr9).trans (.of_below hba))
                have hx := box_new w9 (i : Int) pn1 pe1 ps1 (.slice ra 1 cap)
                have x0 := hx.f0
                have x4 := hx.f4
                clear hsh9 hfr9 hba hx k1 k5
                go_upto_region 31 with (fail)
                generalize w9.alloc (.cells #[.int .u8 (i : Int), .int .u32 pn1, .int .u64 pe1, .int .i64 ps1, .slice ra 1 cap] 47) = wa at HS9 HT9 x0 x4 ⊢
                go_wp2
                clear x0 x4 hqi
                go_roundw
                case rel => exact ⟨i + 1, by omega, by go_num, Lib.hid ⟨H9, HS9.out.mono (by omega), HT9.out⟩⟩
                case measure => simp [intOf]; omega
            · obtain rfl : i = k + 1 := by omega
              obtain ⟨H', hsh, hst⟩ := HS.out
              have HB9 := Lib.hid (HW1.out.trans (hsh.ps.b.mono HW1.out.size))
              have i1 : ¬ ((k + 1 : Nat) : Int) < 1 + (k : Int) := by omega
              clear hsh hst HS
              go_wp2_with (go_at_call 9; refine (sure_any _).mono ?_; rintro e w' ⟨rfl, hb⟩; have HB10 := Lib.hid (HB9.out.trans (hb.mono HB9.out.size)); clear hb)
              go_ret
              exact ⟨rfl, HB10.out⟩
end Go.Proofs.YtlfkkakohldgnaaGreatDoor.Sh

/-
  THE WALK of (*Disk).Rot. Conditions: a disk lies in memory.
-/
import Derived.Test.YtibopcbebcikbaaDoorWf
import Derived.Laws.BitsAllLaws
namespace Go.Proofs.YtibopcbebcikbaaDoor
open Go.RowKit

theorem xor8_bd (a b : Int) (a0 : 0 ≤ a) (a1 : a < 256) (b0 : 0 ≤ b) (b1 : b < 256) : 0 ≤ bits .xor .u8 a b ∧ bits .xor .u8 a b < 256 := by
  obtain ⟨A, rfl⟩ := Int.eq_ofNat_of_zero_le a0
  obtain ⟨B, rfl⟩ := Int.eq_ofNat_of_zero_le b0
  have hA : A < 2 ^ 8 := by omega
  have hB : B < 2 ^ 8 := by omega
  have h := u8_xor_nat A B (by omega) (by omega)
  have hlt : A ^^^ B < 2 ^ 8 := Nat.xor_lt_two_pow hA hB
  rw [h]
  omega
/-- a row with a byte turned -/
def turn (f : Nat → Int) (p : Nat) (y : Int) : Nat → Int := fun j => if j = p then bits .xor .u8 (f p) y else f j
theorem turn_bd {f : Nat → Int} (hf : ∀ j, 0 ≤ f j ∧ f j < 256) (p : Nat) {y : Int} (y0 : 0 ≤ y) (y1 : y < 256) (j : Nat) : 0 ≤ turn f p y j ∧ turn f p y j < 256 := by
  unfold turn
  by_cases e : j = p
  · rw [if_pos e]; exact xor8_bd _ _ (hf p).1 (hf p).2 y0 y1
  · rw [if_neg e]; exact hf j
def St.rotS (s : St) (i p : Nat) (y : Int) : St := { s with sure := upd s.sure i (turn (s.sure i) p y) }
def St.rotN (s : St) (i p : Nat) (y : Int) : St := { s with now := upd s.now i (turn (s.now i) p y) }
def St.rot (s : St) (i p : Nat) (y : Int) : St := match s.late i with
  | none => s.rotS i p y
  | some _ => (s.rotS i p y).rotN i p y
def RotAt (B : Nat) (w : World) (s : St) (i p : Nat) (y : Int) (e : Ending) (w' : World) : Prop :=
  e = .returned .nilIface ∧ DiskAt B w' (s.rot i p y) ∧ Step w s w' (s.rot i p y)
theorem DiskAt.rotS {B : Nat} {w : World} {s : St} (h : DiskAt B w s) (i p : Nat) (hi : i < s.n) (hp : p < 512) (y : Int) (y0 : 0 ≤ y) (y1 : y < 256) : DiskAt B (w.setCell ⟨s.S, i * 512 + p, none⟩ (.int .u8 (bits .xor .u8 (s.sure i p) y))) (s.rotS i p y) :=
  h.setSure i hi (turn (s.sure i) p y) (turn_bd (h.ok.us i) p y0 y1) [.int .u8 (bits .xor .u8 (s.sure i p) y)] p (by simp; omega) (fun j hj => by
    obtain rfl : j = 0 := by simpa using hj
    simp [turn]) (fun j hj hq => by unfold turn; rw [if_neg (by simp at hq; omega)])
theorem DiskAt.rotN {B : Nat} {w : World} {s : St} (h : DiskAt B w s) (i p T : Nat) (hT : s.late i = some T) (hp : p < 512) (y : Int) (y0 : 0 ≤ y) (y1 : y < 256) : DiskAt B (w.setCell ⟨T, p, none⟩ (.int .u8 (bits .xor .u8 (s.now i p) y))) (s.rotN i p y) :=
  h.setNow i T hT (turn (s.now i) p y) (turn_bd (h.ok.un i) p y0 y1) [.int .u8 (bits .xor .u8 (s.now i p) y)] p (by simp; omega) (fun j hj => by
    obtain rfl : j = 0 := by simpa using hj
    simp [turn]) (fun j hj hq => by unfold turn; rw [if_neg (by simp at hq; omega)])

set_option maxRecDepth 100000 in
theorem rot_range {B : Nat} (s : St) (i p y : Int) (w : World) (h : DiskAt B w s) (hi : i < 0 ∨ (s.n : Int) ≤ i ∨ p < 0 ∨ 512 ≤ p) :
    Calls Tryd.prog 17 #[.pointer (some ⟨s.D, 0, none⟩), .int .i64 i, .int .i64 p, .int .u8 y] w fun e w' => e = .returned (.iface 56 (.int .i64 4)) ∧ w = w' := by
  have HH := Lib.hid h
  by_cases ho : i < 0 ∨ (s.n : Int) ≤ i
  · have HI := Lib.hid ho
    clear h hi ho
    go_enter Tryd.func17, Tryd.ntmps17
    go_wp2_with (go_at_call 28; refine (has_no s i _ HH.out HI.out).mono ?_; rintro e w' ⟨rfl, rfl⟩)
    go_ret
    exact ⟨rfl, rfl⟩
  · obtain ⟨k, rfl⟩ : ∃ k : Nat, i = k := ⟨i.toNat, by omega⟩
    have hk : k < s.n := by omega
    by_cases hp : p < 0
    · clear h hi ho
      go_enter Tryd.func17, Tryd.ntmps17
      go_wp2_with (go_at_call 28; refine (has_yes s k _ HH.out hk).mono ?_; rintro e w' ⟨rfl, rfl⟩)
      go_ret
      exact ⟨rfl, rfl⟩
    · have hp2 : 512 ≤ p := by omega
      have hp0 : 0 ≤ p := by omega
      clear h hi ho hp
      go_enter Tryd.func17, Tryd.ntmps17
      go_wp2_with (go_at_call 28; refine (has_yes s k _ HH.out hk).mono ?_; rintro e w' ⟨rfl, rfl⟩)
      go_ret
      exact ⟨rfl, rfl⟩
set_option maxRecDepth 100000 in
set_option maxHeartbeats 1000000 in
theorem rot_any {B : Nat} (s : St) (i p : Nat) (y : Int) (w : World) (h : DiskAt B w s) (hi : i < s.n) (hp : p < 512) (y0 : 0 ≤ y) (y1 : y < 256) :
    Calls Tryd.prog 17 #[.pointer (some ⟨s.D, 0, none⟩), .int .i64 i, .int .i64 p, .int .u8 y] w (RotAt B w s i p y) := by
  have d0 := h.d0
  have d1 := h.d1
  have cs := h.cS i p hi hp
  have fs := h.fS (i * 512 + p)
  have HH := Lib.hid h
  have n1 := h.ok.n1
  have i0 : (0 : Int) ≤ (i : Int) := by omega
  have i1 : (i : Int) < (s.n : Int) := by omega
  have p0 : (0 : Int) ≤ (p : Int) := by omega
  have p1 : (p : Int) < 512 := by omega
  have nDS := h.ok.DS
  have nSD := Ne.symm nDS
  have nSL := h.ok.SL
  have nLS := Ne.symm nSL
  have cl := h.cL i hi
  have H1 := Lib.hid (h.drew.rotS i p hi hp y y0 y1)
  have S1 := Lib.hid ((Step.drew (Step.refl w s)).trans (Step.setCells (w := w.drew) (s := s) (s' := s.rotS i p y) s.S (.inr (.inl rfl)) (i * 512 + p) [.int .u8 (bits .xor .u8 (s.sure i p) y)] (fun k hk => .inl hk)))
  cases hlt : s.late i with
  | none =>
    rw [hlt] at cl
    change w.cell? _ = some (.pointer none) at cl
    have HE := Lib.hid (show s.rot i p y = s.rotS i p y by unfold St.rot; rw [hlt])
    clear h hlt
    go_enter Tryd.func17, Tryd.ntmps17
    go_wp2_with (go_at_call 28; refine (has_yes s i _ HH.out hi).mono ?_; rintro e w' ⟨rfl, rfl⟩)
    go_region
    go_wp2
    go_ret
    refine ⟨rfl, ?_, ?_⟩
    · rw [HE.out]; exact H1.out
    · rw [HE.out]; exact S1.out
  | some T =>
    rw [hlt] at cl
    change w.cell? _ = some (.pointer (some ⟨T, 0, none⟩)) at cl
    have HE := Lib.hid (show s.rot i p y = (s.rotS i p y).rotN i p y by unfold St.rot; rw [hlt])
    have lt := h.ok.lt i T hlt
    have nTS := lt.2.2.1
    have nST := Ne.symm lt.2.2.1
    have ct := h.cT i T hlt p hp
    have ft := h.fT i T hlt p
    have H2 := Lib.hid (H1.out.drew.rotN i p T hlt hp y y0 y1)
    have S2 := Lib.hid ((S1.out.drew).trans (Step.setCells (s := s.rotS i p y) (s' := (s.rotS i p y).rotN i p y) T (.inr (.inr (.inr (.inr ⟨i, hlt⟩)))) p [.int .u8 (bits .xor .u8 ((s.rotS i p y).now i p) y)] (fun k hk => .inl hk)))
    clear h hlt lt
    go_enter Tryd.func17, Tryd.ntmps17
    go_wp2_with (go_at_call 28; refine (has_yes s i _ HH.out hi).mono ?_; rintro e w' ⟨rfl, rfl⟩)
    go_region
    go_wp2
    go_region
    go_wp2
    go_ret
    refine ⟨rfl, ?_, ?_⟩
    · rw [HE.out]; exact H2.out
    · rw [HE.out]; exact S2.out
end Go.Proofs.YtibopcbebcikbaaDoor

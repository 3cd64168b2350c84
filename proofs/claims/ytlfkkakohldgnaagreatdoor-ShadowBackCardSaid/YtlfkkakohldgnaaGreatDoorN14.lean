/-
  THE WALKS of the pool's check and turn. Conditions: a pool lies in memory.
  THE WALKS of the pool's clean and giveWay. Conditions: a pool lies in memory.
-/
import Derived.Test.YtlfkkakohldgnaaGreatDoorN13
namespace Go.Proofs.YtlfkkakohldgnaaGreatDoor
open Go.RowKit Go.Maps

def errv (c : Int) : Value := if c = 0 then .nilIface else .iface 78 (.int .i64 c)
theorem errv0 : errv 0 = .nilIface := by unfold errv; rw [if_pos rfl]
theorem errv1 {c : Int} (h : c ≠ 0) : errv c = .iface 78 (.int .i64 c) := by unfold errv; rw [if_neg h]

set_option maxRecDepth 100000 in
theorem size_any {B : Nat} (s : St) (w : World) (h : DiskAt B w s) : Calls Tryz.prog 71 #[.pointer (some ⟨s.D, 0, none⟩)] w fun e w' => e = .returned (.int .i64 (s.n : Int)) ∧ w = w' := by
  have c0 := h.d0
  have n1 := h.ok.n1
  clear h
  go_enter Tryz.func71, Tryz.ntmps71
  go_wp2
  go_ret
  exact ⟨rfl, rfl⟩
set_option maxRecDepth 100000 in
theorem check_ok {B N : Nat} (μ : Mp) (i : Int) (w : World) (h : PoolAt B N w μ) (h0 : 0 ≤ i) (h1 : i < μ.X.d.n) :
    Calls Tryz.prog 118 #[.pointer (some ⟨μ.P, 0, none⟩), .int .i64 i] w fun e w' => e = .returned .nilIface ∧ w = w' := by
  have c0 := h.core.hd.c0
  have HD := Lib.hid h.core.d
  have e := h.core.t.n
  have l0 : ¬ i < 0 := by omega
  have l1 : ¬ (μ.s.n : Int) ≤ i := by omega
  clear h
  go_enter Tryz.func118, Tryz.ntmps118
  go_wp2_with (go_at_call 71; refine (size_any μ.s _ HD.out).mono ?_; rintro e w' ⟨rfl, rfl⟩)
  go_ret
  exact ⟨rfl, rfl⟩
set_option maxRecDepth 100000 in
theorem check_no {B N : Nat} (μ : Mp) (i : Int) (w : World) (h : PoolAt B N w μ) (hi : i < 0 ∨ (μ.X.d.n : Int) ≤ i) :
    Calls Tryz.prog 118 #[.pointer (some ⟨μ.P, 0, none⟩), .int .i64 i] w fun e w' => e = .returned (.iface 78 (.int .i64 4)) ∧ w = w' := by
  have c0 := h.core.hd.c0
  have HD := Lib.hid h.core.d
  have e := h.core.t.n
  clear h
  by_cases l0 : i < 0
  · go_enter Tryz.func118, Tryz.ntmps118
    go_wp2_with (go_at_call 71; refine (size_any μ.s _ HD.out).mono ?_; rintro e w' ⟨rfl, rfl⟩)
    go_ret
    exact ⟨rfl, rfl⟩
  · have l1 : (μ.s.n : Int) ≤ i := by omega
    go_enter Tryz.func118, Tryz.ntmps118
    go_wp2_with (go_at_call 71; refine (size_any μ.s _ HD.out).mono ?_; rintro e w' ⟨rfl, rfl⟩)
    go_ret
    exact ⟨rfl, rfl⟩
set_option maxRecDepth 100000 in
theorem check_nil (i : Int) (w : World) :
    Calls Tryz.prog 118 #[.pointer none, .int .i64 i] w fun e w' => e = .returned (.iface 78 (.int .i64 1)) ∧ w = w' := by
  go_enter Tryz.func118, Tryz.ntmps118
  go_wp2
  go_ret
  exact ⟨rfl, rfl⟩

/-- the frames' bits -/
theorem Row.at0 {w : World} {F m : Nat} {fr : Nat → Fr} {a : Nat → Option Addr} {cp : Nat → Nat} (h : Row w F m fr a cp) {k : Nat} (hk : k < m) : w.cell? ⟨F, k * 5, none⟩ = some (.int .i64 (fr k).i) := h.c k hk 0 (by omega)
theorem Row.at1 {w : World} {F m : Nat} {fr : Nat → Fr} {a : Nat → Option Addr} {cp : Nat → Nat} (h : Row w F m fr a cp) {k : Nat} (hk : k < m) : w.cell? ⟨F, k * 5 + 1, none⟩ = some (.slice (a k) (fr k).t.size (cp k)) := h.c k hk 1 (by omega)
theorem Row.at2 {w : World} {F m : Nat} {fr : Nat → Fr} {a : Nat → Option Addr} {cp : Nat → Nat} (h : Row w F m fr a cp) {k : Nat} (hk : k < m) : w.cell? ⟨F, k * 5 + 2, none⟩ = some (.bool (fr k).d) := h.c k hk 2 (by omega)
theorem Row.at3 {w : World} {F m : Nat} {fr : Nat → Fr} {a : Nat → Option Addr} {cp : Nat → Nat} (h : Row w F m fr a cp) {k : Nat} (hk : k < m) : w.cell? ⟨F, k * 5 + 3, none⟩ = some (.bool (fr k).u) := h.c k hk 3 (by omega)
theorem Row.at4 {w : World} {F m : Nat} {fr : Nat → Fr} {a : Nat → Option Addr} {cp : Nat → Nat} (h : Row w F m fr a cp) {k : Nat} (hk : k < m) : w.cell? ⟨F, k * 5 + 4, none⟩ = some (.int .i64 ((fr k).h : Int)) := h.c k hk 4 (by omega)

/-- the pool when the hand has gone on some steps -/
def TurnInv (B N : Nat) (w : World) (μ : Mp) (wr : World) : Prop := ∃ X t, Goes B N w μ X wr ∧ X.Ok N ∧ X.m = μ.X.m ∧ X.c = X.m ∧ t < X.m ∧ (X.fr t).h = 0
theorem PoolAt.unuse {B N : Nat} {w : World} {μ : Mp} (h : PoolAt B N w μ) {k : Nat} (hk : k < μ.X.c) (hm : k < μ.X.m) : PoolAt B N (w.setCell ⟨μ.F, k * 5 + 3, none⟩ (.bool false)) (μ.put k { μ.X.fr k with u := false } (μ.a k) (μ.cp k)) := by
  refine h.put _ _ _ (((OnF.refl (h.core.row.c k hm)).set 3 (by omega) (.bool false)).congr fun j hj => ?_) rfl (h.core.fit hm) (h.core.ok.put hk rfl (h.core.ok.siz k) (h.core.ok.hN k) (Nat.le_refl _))
  match j, hj with
  | 0, _ => rfl
  | 1, _ => rfl
  | 2, _ => rfl
  | 3, _ => rfl
  | 4, _ => rfl
theorem stp_unuse {B N : Nat} {w : World} {μ : Mp} (h : PoolAt B N w μ) {k : Nat} (hm : k < μ.X.m) : Stp w μ.all (w.setCell ⟨μ.F, k * 5 + 3, none⟩ (.bool false)) (μ.put k { μ.X.fr k with u := false } (μ.a k) (μ.cp k)).all :=
  stp_put (OnF.set (OnF.refl (h.core.row.c k hm)) 3 (by omega) (.bool false)) fun b off e => .inl (.inr ⟨k, off, hm, e⟩)
def TurnAt (B N : Nat) (w : World) (μ : Mp) (r : Px × Nat) (e : Ending) (w' : World) : Prop := e = .returned (.int .i64 (r.2 : Int)) ∧ Goes B N w μ r.1 w'
theorem rem_next (h m : Nat) : Int.tmod ((h : Int) + 1) (m : Int) = (((h + 1) % m : Nat) : Int) := by
  rw [Int.tmod_eq_emod_of_nonneg (by omega)]
  simp
/-- how far the hand may still go, as memory has it -/
def farW (P F m t : Nat) (w : World) : Nat :=
  (match w.cell? ⟨F, t * 5 + 3, none⟩ with | some (.bool true) => m | _ => 0) + (t + m - (match w.cell? ⟨P, 3, none⟩ with | some v => (intOf v).toNat | none => 0)) % m
theorem farW_eq {B N : Nat} {w : World} {μ : Mp} (h : PoolAt B N w μ) {t : Nat} (ht : t < μ.X.m) : farW μ.P μ.F μ.X.m t w = far μ.X t := by
  unfold farW far
  rw [h.core.hd.c3, h.core.row.at3 ht]
  simp only [intOf, Int.toNat_natCast]
  cases (μ.X.fr t).u <;> rfl
def TurnRel (B N : Nat) (w : World) (H : Nat → Prop) (P F D m t : Nat) (R : Px × Nat) (wr : World) : Prop :=
  ∃ μr r, PoolAt B N wr μr ∧ Stp w H wr μr.all ∧ (μr.P = P ∧ μr.F = F ∧ μr.s.D = D ∧ μr.X.m = m ∧ μr.X.c = μr.X.m) ∧ (μr.X.fr t).h = 0 ∧ far μr.X t < r ∧ turnP r μr.X = R
set_option maxRecDepth 100000 in
set_option maxHeartbeats 1000000 in
theorem turn_walk {B N : Nat} (w : World) (H : Nat → Prop) (P F D m t : Nat) (R : Px × Nat) (hI : Hid (TurnRel B N w H P F D m t R w)) (ht : Hid (t < m)) :
    Calls Tryz.prog 150 #[.pointer (some ⟨P, 0, none⟩)] w fun e w' => e = .returned (.int .i64 (R.2 : Int)) ∧ ∃ μ', PoolAt B N w' μ' ∧ Stp w H w' μ'.all ∧ μ'.P = P ∧ μ'.F = F ∧ μ'.s.D = D ∧ μ'.X = R.1 := by
  go_enter Tryz.func150, Tryz.ntmps150
  go_wp2
  go_loopw [3, 4] (fun _ _ wr => Hid (TurnRel B N w H P F D m t R wr)) (fun _ _ wr => farW P F m t wr)
  case atStart => exact hI
  case round =>
    obtain ⟨μr, r, hp, hs, ⟨rfl, rfl, rfl, rfl, ec⟩, h0, hf, hr⟩ := hrel.out
    have hm := hp.core.ok.hm
    have hm1 := hp.core.ok.m1
    have c1 := hp.core.hd.c1
    have c3 := hp.core.hd.c3
    have z3 := hp.core.hd.fz 3
    have f3 := hp.core.row.at3 hm
    have f4 := hp.core.row.at4 hm
    have zF := hp.core.row.fz (μr.X.hand * 5 + 3)
    have e1 := rem_next μr.X.hand μr.X.m
    have PF := hp.core.fx.PF
    have FP := PF.symm
    have i0 : (0 : Int) ≤ (μr.X.hand : Int) := by omega
    have i1 : (μr.X.hand : Int) < (μr.X.m : Int) := by omega
    have HC := Lib.hid (show μr.X.hand < μr.X.c by omega)
    have HM := Lib.hid hm
    have HF := Lib.hid (farW_eq hp ht.out)
    have HP := Lib.hid hp
    have HS := Lib.hid hs
    have HH := Lib.hid h0
    have HR := Lib.hid hr
    have HFR := Lib.hid hf
    have HEC := Lib.hid ec
    clear hp hs h0 hf hr hrel ec
    cases r with
    | zero => exact absurd HFR.out (by omega)
    | succ r =>
      have e2 : ((μr.X.hand : Int) + 1) % (μr.X.m : Int) = (((μr.X.hand + 1) % μr.X.m : Nat) : Int) := by simp
      have HE2 := Lib.hid e2
      clear e2
      have HT2 := Lib.hid HP.out.turn
      have HS2 := Lib.hid (stp_setP (w := wr) (μ := μr) (X := μr.X.turn) 3 (.int .i64 (((μr.X.hand + 1) % μr.X.m : Nat) : Int)) rfl)
      by_cases hh : 0 < (μr.X.fr μr.X.hand).h
      · have hhi : (0 : Int) < ((μr.X.fr μr.X.hand).h : Int) := by omega
        have HHH := Lib.hid hh
        clear hh
        go_wp2
        rw [HE2.out]
        have hlt := far_held HM.out ht.out HH.out HHH.out
        have hr2 := HR.out
        unfold turnP at hr2
        rw [if_pos HHH.out] at hr2
        refine ⟨Lib.hid ⟨_, r, HT2.out, HS.out.trans HS2.out, ⟨rfl, rfl, rfl, rfl, HEC.out⟩, HH.out, by have := HFR.out; show far μr.X.turn t < r; omega, hr2⟩, ?_⟩
        have e := farW_eq HT2.out ht.out
        rw [HF.out]
        exact Nat.lt_of_le_of_lt (Nat.le_of_eq e) hlt
      · have hhi : ¬ (0 : Int) < ((μr.X.fr μr.X.hand).h : Int) := by omega
        have HHH := Lib.hid hh
        clear hh
        cases hu : (μr.X.fr μr.X.hand).u
        · rw [hu] at f3
          have HU := Lib.hid hu
          clear hu
          go_wp2
          go_ret
          rw [HE2.out]
          have hr2 := HR.out
          unfold turnP at hr2
          rw [if_neg HHH.out, if_neg (by rw [HU.out]; decide)] at hr2
          rw [← hr2]
          exact ⟨rfl, _, HT2.out, HS.out.trans HS2.out, rfl, rfl, rfl, rfl⟩
        · rw [hu] at f3
          have HU := Lib.hid hu
          clear hu
          have HT3 := Lib.hid (HT2.out.unuse (k := μr.X.hand) HC.out HM.out)
          have HS3 := Lib.hid (stp_unuse HT2.out (k := μr.X.hand) HM.out)
          go_wp2
          rw [HE2.out]
          have hlt := far_used HM.out ht.out HU.out
          have hr2 := HR.out
          unfold turnP at hr2
          rw [if_neg HHH.out, if_pos HU.out] at hr2
          refine ⟨Lib.hid ⟨_, r, HT3.out, (HS.out.trans HS2.out).trans HS3.out, ⟨rfl, rfl, rfl, rfl, HEC.out⟩, ?_, by have := HFR.out; show far (μr.X.turn.unuse μr.X.hand) t < r; omega, hr2⟩, ?_⟩
          · show ((μr.X.turn.unuse μr.X.hand).fr t).h = 0
            unfold Px.unuse
            rw [put_fr]
            split
            · rename_i e; rw [← e]; exact HH.out
            · exact HH.out
          · have e := farW_eq HT3.out ht.out
            rw [HF.out]
            exact Nat.lt_of_le_of_lt (Nat.le_of_eq e) hlt
theorem turn_any' {B N : Nat} (μ : Mp) (w : World) (h : PoolAt B N w μ) (hc : μ.X.c = μ.X.m) (hh : μ.X.held = false) :
    Calls Tryz.prog 150 #[.pointer (some ⟨μ.P, 0, none⟩)] w fun e w' => e = .returned (.int .i64 ((turnP (3 * μ.X.m) μ.X).2 : Int)) ∧ Goes B N w μ (turnP (3 * μ.X.m) μ.X).1 w' := by
  obtain ⟨t, ht, h0⟩ := held_no hh
  have hf := far_le μ.X t h.core.ok.m0
  exact turn_walk w μ.all μ.P μ.F μ.s.D μ.X.m t _ (Lib.hid ⟨μ, 3 * μ.X.m, h, Stp.refl _ _, ⟨rfl, rfl, rfl, rfl, hc⟩, h0, by omega, rfl⟩) (Lib.hid ht)
end Go.Proofs.YtlfkkakohldgnaaGreatDoor
namespace Go.Proofs.YtlfkkakohldgnaaGreatDoor
open Go.RowKit Go.Maps

/-- the first frame that is not held, or -1 -/
def freeAt (fr : Nat → Fr) (k : Nat) : Prop := ∀ j, j < k → 0 < (fr j).h
theorem free_next {fr : Nat → Fr} {k : Nat} (h : freeAt fr k) (hh : ¬ (fr k).h = 0) : freeAt fr (k + 1) := fun j hj => by
  by_cases e : j = k
  · rw [e]; omega
  · exact h j (by omega)
set_option maxRecDepth 100000 in
theorem idx_any (F m c : Nat) (fr : Nat → Fr) (a : Nat → Option Addr) (cp : Nat → Nat) (w : World) (hm : m ≤ 1024) (hr : Row w F m fr a cp) :
    Calls Tryz.prog 159 #[.slice (some ⟨F, 0, none⟩) m c, .func (.func 148) #[] #[]] w
      fun e w' => ∃ k : Int, e = .returned (.int .i64 k) ∧ ((0 ≤ k ∧ ∃ j, j < m ∧ (fr j).h = 0) ∨ (k < 0 ∧ freeAt fr m)) ∧ Below w.heap.size w w' := by
  have HR := Lib.hid hr
  clear hr
  go_enter Tryz.func159, Tryz.ntmps159
  go_wp2
  go_loopw [8, 5] (fun i _ wr => ∃ k : Nat, k ≤ m ∧ i = .int .i64 k ∧ Hid (freeAt fr k) ∧ Hid (Below w.heap.size w wr)) (fun i _ _ => m - (intOf i).toNat)
  case atStart => exact ⟨0, by omega, rfl, Lib.hid (fun j hj => absurd hj (by omega)), Lib.hid (Below.refl _ _)⟩
  case round =>
    obtain ⟨k, hk, rfl, HA, HB⟩ := hrel
    by_cases hlt : k < m
    · have R := HR.out.same (w' := wr) HB.out.size (HB.out.block _ HR.out.lt)
      have g0 := R.at0 hlt
      have g1 := R.at1 hlt
      have g2 := R.at2 hlt
      have g3 := R.at3 hlt
      have g4 := R.at4 hlt
      have i0 : (0 : Int) ≤ (k : Int) := by omega
      have i1 : (k : Int) < (m : Int) := by omega
      clear R
      by_cases hh : (fr k).h = 0
      · have hb : (((fr k).h : Int) == 0) = true := by simp [hh]
        go_wp2
        go_ret
        exact ⟨k, rfl, .inl ⟨i0, k, hlt, hh⟩, HB.out.alloc HB.out.size _⟩
      · have hb : (((fr k).h : Int) == 0) = false := by simp [hh]
        go_wp2
        go_roundw
        case rel => exact ⟨k + 1, by omega, by go_num, Lib.hid (free_next HA.out hh), Lib.hid (HB.out.alloc HB.out.size _)⟩
        case measure => simp [intOf]; omega
    · obtain rfl : k = m := by omega
      go_wp2
      go_ret
      exact ⟨-1, rfl, .inr ⟨by omega, HA.out⟩, HB.out⟩
theorem held_of {X : Px} (h : freeAt X.fr X.m) : X.held = true := by
  unfold Px.held
  rw [List.all_eq_true]
  intro k hk
  exact decide_eq_true (h k (by simpa using hk))
theorem held_not {X : Px} {j : Nat} (hj : j < X.m) (h : (X.fr j).h = 0) : X.held = false := by
  unfold Px.held
  rw [List.all_eq_false]
  exact ⟨j, by simpa using hj, by simp [h]⟩
set_option maxRecDepth 100000 in
theorem contains_any (F c : Nat) (X : Px) (a : Nat → Option Addr) (cp : Nat → Nat) (w : World) (hm : X.m ≤ 1024) (hr : Row w F X.m X.fr a cp) :
    Calls Tryz.prog 149 #[.slice (some ⟨F, 0, none⟩) X.m c, .func (.func 148) #[] #[]] w
      fun e w' => e = .returned (.bool (!X.held)) ∧ Below w.heap.size w w' := by
  have HR := Lib.hid hr
  clear hr
  go_enter Tryz.func149, Tryz.ntmps149
  go_wp2_with (go_at_call 159; refine (idx_any _ _ _ X.fr a cp _ hm HR.out).mono ?_; rintro e w' ⟨k, rfl, hk, hb⟩; have HK := Lib.hid hk; have HB := Lib.hid hb; clear hk hb)
  go_ret
  refine ⟨?_, HB.out⟩
  congr 2
  rcases HK.out with ⟨h1, j, hj, h2⟩ | ⟨h1, h2⟩
  · rw [held_not hj h2]; simp [h1]
  · rw [held_of h2]; simp; omega
end Go.Proofs.YtlfkkakohldgnaaGreatDoor

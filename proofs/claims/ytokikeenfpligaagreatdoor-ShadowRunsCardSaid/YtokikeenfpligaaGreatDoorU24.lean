/-
  THE WALKS of the pool's check and turn. Conditions: a pool lies in memory.
  THE WALKS of the pool's clean and giveWay. Conditions: a pool lies in memory.
  WHAT A WRITE AND A FLUSH MAKE OF A DISK, AS PLAIN DATA. Conditions: those that each lemma names.
  THE WALK of the pool's giveWay. Conditions: a pool lies in memory, all of whose frames hold a sector.
-/
import Derived.StillTailTactics
import Derived.Test.YtokikeenfpligaaGreatDoorU23
namespace Go.Proofs.YtokikeenfpligaaGreatDoor
open Go.RowKit Go.Maps

def errv (c : Int) : Value := if c = 0 then .nilIface else .iface 78 (.int .i64 c)
theorem errv0 : errv 0 = .nilIface := by unfold errv; rw [if_pos rfl]
theorem errv1 {c : Int} (h : c ≠ 0) : errv c = .iface 78 (.int .i64 c) := by unfold errv; rw [if_neg h]

set_option maxRecDepth 100000 in
theorem size_any {B : Nat} (s : St) (w : World) (h : DiskAt B w s) : Calls Tryz.prog 71 #[.pointer (some ⟨s.D, 0, none⟩)] w fun e w' => e = .returned (.int .i64 (s.n : Int)) ∧ w = w' := by
  have c0 := h.d0
  have n1 := h.ok.n1
  clear h
  go_enter Tryz.func71, Tryz.ntmps71
  go_wp2
  go_ret
  exact ⟨rfl, rfl⟩
set_option maxRecDepth 100000 in
theorem check_ok {B N : Nat} (μ : Mp) (i : Int) (w : World) (h : PoolAt B N w μ) (h0 : 0 ≤ i) (h1 : i < μ.X.d.n) :
    Calls Tryz.prog 118 #[.pointer (some ⟨μ.P, 0, none⟩), .int .i64 i] w fun e w' => e = .returned .nilIface ∧ w = w' := by
  have c0 := h.core.hd.c0
  have HD := Lib.hid h.core.d
  have e := h.core.t.n
  have l0 : ¬ i < 0 := by omega
  have l1 : ¬ (μ.s.n : Int) ≤ i := by omega
  clear h
  go_enter Tryz.func118, Tryz.ntmps118
  go_wp2_with (go_at_call 71; refine (size_any μ.s _ HD.out).mono ?_; rintro e w' ⟨rfl, rfl⟩)
  go_ret
  exact ⟨rfl, rfl⟩
set_option maxRecDepth 100000 in
theorem check_no {B N : Nat} (μ : Mp) (i : Int) (w : World) (h : PoolAt B N w μ) (hi : i < 0 ∨ (μ.X.d.n : Int) ≤ i) :
    Calls Tryz.prog 118 #[.pointer (some ⟨μ.P, 0, none⟩), .int .i64 i] w fun e w' => e = .returned (.iface 78 (.int .i64 4)) ∧ w = w' := by
  have c0 := h.core.hd.c0
  have HD := Lib.hid h.core.d
  have e := h.core.t.n
  clear h
  by_cases l0 : i < 0
  · go_enter Tryz.func118, Tryz.ntmps118
    go_wp2_with (go_at_call 71; refine (size_any μ.s _ HD.out).mono ?_; rintro e w' ⟨rfl, rfl⟩)
    go_ret
    exact ⟨rfl, rfl⟩
  · have l1 : (μ.s.n : Int) ≤ i := by omega
    go_enter Tryz.func118, Tryz.ntmps118
    go_wp2_with (go_at_call 71; refine (size_any μ.s _ HD.out).mono ?_; rintro e w' ⟨rfl, rfl⟩)
    go_ret
    exact ⟨rfl, rfl⟩
set_option maxRecDepth 100000 in
theorem check_nil (i : Int) (w : World) :
    Calls Tryz.prog 118 #[.pointer none, .int .i64 i] w fun e w' => e = .returned (.iface 78 (.int .i64 1)) ∧ w = w' := by
  go_enter Tryz.func118, Tryz.ntmps118
  go_wp2
  go_ret
  exact ⟨rfl, rfl⟩

/-- the frames' bits -/
theorem Row.at0 {w : World} {F m : Nat} {fr : Nat → Fr} {a : Nat → Option Addr} {cp : Nat → Nat} (h : Row w F m fr a cp) {k : Nat} (hk : k < m) : w.cell? ⟨F, k * 5, none⟩ = some (.int .i64 (fr k).i) := h.c k hk 0 (by omega)
theorem Row.at1 {w : World} {F m : Nat} {fr : Nat → Fr} {a : Nat → Option Addr} {cp : Nat → Nat} (h : Row w F m fr a cp) {k : Nat} (hk : k < m) : w.cell? ⟨F, k * 5 + 1, none⟩ = some (.slice (a k) (fr k).t.size (cp k)) := h.c k hk 1 (by omega)
theorem Row.at2 {w : World} {F m : Nat} {fr : Nat → Fr} {a : Nat → Option Addr} {cp : Nat → Nat} (h : Row w F m fr a cp) {k : Nat} (hk : k < m) : w.cell? ⟨F, k * 5 + 2, none⟩ = some (.bool (fr k).d) := h.c k hk 2 (by omega)
theorem Row.at3 {w : World} {F m : Nat} {fr : Nat → Fr} {a : Nat → Option Addr} {cp : Nat → Nat} (h : Row w F m fr a cp) {k : Nat} (hk : k < m) : w.cell? ⟨F, k * 5 + 3, none⟩ = some (.bool (fr k).u) := h.c k hk 3 (by omega)
theorem Row.at4 {w : World} {F m : Nat} {fr : Nat → Fr} {a : Nat → Option Addr} {cp : Nat → Nat} (h : Row w F m fr a cp) {k : Nat} (hk : k < m) : w.cell? ⟨F, k * 5 + 4, none⟩ = some (.int .i64 ((fr k).h : Int)) := h.c k hk 4 (by omega)

/-- the pool when the hand has gone on some steps -/
def TurnInv (B N : Nat) (w : World) (μ : Mp) (wr : World) : Prop := ∃ X t, Goes B N w μ X wr ∧ X.Ok N ∧ X.m = μ.X.m ∧ X.c = X.m ∧ t < X.m ∧ (X.fr t).h = 0
theorem PoolAt.unuse {B N : Nat} {w : World} {μ : Mp} (h : PoolAt B N w μ) {k : Nat} (hk : k < μ.X.c) (hm : k < μ.X.m) : PoolAt B N (w.setCell ⟨μ.F, k * 5 + 3, none⟩ (.bool false)) (μ.put k { μ.X.fr k with u := false } (μ.a k) (μ.cp k)) := by
  refine h.put _ _ _ (((OnF.refl (h.core.row.c k hm)).set 3 (by omega) (.bool false)).congr fun j hj => ?_) rfl (h.core.fit hm) (h.core.ok.put hk rfl (h.core.ok.siz k) (h.core.ok.hN k) (Nat.le_refl _))
  match j, hj with
  | 0, _ => rfl
  | 1, _ => rfl
  | 2, _ => rfl
  | 3, _ => rfl
  | 4, _ => rfl
theorem stp_unuse {B N : Nat} {w : World} {μ : Mp} (h : PoolAt B N w μ) {k : Nat} (hm : k < μ.X.m) : Stp w μ.all (w.setCell ⟨μ.F, k * 5 + 3, none⟩ (.bool false)) (μ.put k { μ.X.fr k with u := false } (μ.a k) (μ.cp k)).all :=
  stp_put (OnF.set (OnF.refl (h.core.row.c k hm)) 3 (by omega) (.bool false)) fun b off e => .inl (.inr ⟨k, off, hm, e⟩)
def TurnAt (B N : Nat) (w : World) (μ : Mp) (r : Px × Nat) (e : Ending) (w' : World) : Prop := e = .returned (.int .i64 (r.2 : Int)) ∧ Goes B N w μ r.1 w'
theorem rem_next (h m : Nat) : Int.tmod ((h : Int) + 1) (m : Int) = (((h + 1) % m : Nat) : Int) := by
  rw [Int.tmod_eq_emod_of_nonneg (by omega)]
  simp
/-- how far the hand may still go, as memory has it -/
def farW (P F m t : Nat) (w : World) : Nat :=
  (match w.cell? ⟨F, t * 5 + 3, none⟩ with | some (.bool true) => m | _ => 0) + (t + m - (match w.cell? ⟨P, 3, none⟩ with | some v => (intOf v).toNat | none => 0)) % m
theorem farW_eq {B N : Nat} {w : World} {μ : Mp} (h : PoolAt B N w μ) {t : Nat} (ht : t < μ.X.m) : farW μ.P μ.F μ.X.m t w = far μ.X t := by
  unfold farW far
  rw [h.core.hd.c3, h.core.row.at3 ht]
  simp only [intOf, Int.toNat_natCast]
  cases (μ.X.fr t).u <;> rfl
def TurnRel (B N : Nat) (w : World) (H : Nat → Prop) (P F D m t : Nat) (R : Px × Nat) (wr : World) : Prop :=
  ∃ μr r, PoolAt B N wr μr ∧ Stp w H wr μr.all ∧ (μr.P = P ∧ μr.F = F ∧ μr.s.D = D ∧ μr.X.m = m ∧ μr.X.c = μr.X.m) ∧ (μr.X.fr t).h = 0 ∧ far μr.X t < r ∧ turnP r μr.X = R
set_option maxRecDepth 100000 in
set_option maxHeartbeats 1000000 in
theorem turn_walk {B N : Nat} (w : World) (H : Nat → Prop) (P F D m t : Nat) (R : Px × Nat) (hI : Hid (TurnRel B N w H P F D m t R w)) (ht : Hid (t < m)) :
    Calls Tryz.prog 150 #[.pointer (some ⟨P, 0, none⟩)] w fun e w' => e = .returned (.int .i64 (R.2 : Int)) ∧ ∃ μ', PoolAt B N w' μ' ∧ Stp w H w' μ'.all ∧ μ'.P = P ∧ μ'.F = F ∧ μ'.s.D = D ∧ μ'.X = R.1 := by
  go_enter Tryz.func150, Tryz.ntmps150
  go_wp2
  go_loopw [3, 4] (fun _ _ wr => Hid (TurnRel B N w H P F D m t R wr)) (fun _ _ wr => farW P F m t wr)
  case atStart => exact hI
  case round =>
    obtain ⟨μr, r, hp, hs, ⟨rfl, rfl, rfl, rfl, ec⟩, h0, hf, hr⟩ := hrel.out
    have hm := hp.core.ok.hm
    have hm1 := hp.core.ok.m1
    have c1 := hp.core.hd.c1
    have c3 := hp.core.hd.c3
    have z3 := hp.core.hd.fz 3
    have f3 := hp.core.row.at3 hm
    have f4 := hp.core.row.at4 hm
    have zF := hp.core.row.fz (μr.X.hand * 5 + 3)
    have e1 := rem_next μr.X.hand μr.X.m
    have PF := hp.core.fx.PF
    have FP := PF.symm
    have i0 : (0 : Int) ≤ (μr.X.hand : Int) := by omega
    have i1 : (μr.X.hand : Int) < (μr.X.m : Int) := by omega
    have HC := Lib.hid (show μr.X.hand < μr.X.c by omega)
    have HM := Lib.hid hm
    have HF := Lib.hid (farW_eq hp ht.out)
    have HP := Lib.hid hp
    have HS := Lib.hid hs
    have HH := Lib.hid h0
    have HR := Lib.hid hr
    have HFR := Lib.hid hf
    have HEC := Lib.hid ec
    clear hp hs h0 hf hr hrel ec
    cases r with
    | zero => exact absurd HFR.out (by omega)
    | succ r =>
      have e2 : ((μr.X.hand : Int) + 1) % (μr.X.m : Int) = (((μr.X.hand + 1) % μr.X.m : Nat) : Int) := by simp
      have HE2 := Lib.hid e2
      clear e2
      have HT2 := Lib.hid HP.out.turn
      have HS2 := Lib.hid (stp_setP (w := wr) (μ := μr) (X := μr.X.turn) 3 (.int .i64 (((μr.X.hand + 1) % μr.X.m : Nat) : Int)) rfl)
      by_cases hh : 0 < (μr.X.fr μr.X.hand).h
      · have hhi : (0 : Int) < ((μr.X.fr μr.X.hand).h : Int) := by omega
        have HHH := Lib.hid hh
        clear hh
        go_wp2
        rw [HE2.out]
        have hlt := far_held HM.out ht.out HH.out HHH.out
        have hr2 := HR.out
        unfold turnP at hr2
        rw [if_pos HHH.out] at hr2
        refine ⟨Lib.hid ⟨_, r, HT2.out, HS.out.trans HS2.out, ⟨rfl, rfl, rfl, rfl, HEC.out⟩, HH.out, by have := HFR.out; show far μr.X.turn t < r; omega, hr2⟩, ?_⟩
        have e := farW_eq HT2.out ht.out
        rw [HF.out]
        exact Nat.lt_of_le_of_lt (Nat.le_of_eq e) hlt
      · have hhi : ¬ (0 : Int) < ((μr.X.fr μr.X.hand).h : Int) := by omega
        have HHH := Lib.hid hh
        clear hh
        cases hu : (μr.X.fr μr.X.hand).u
        · rw [hu] at f3
          have HU := Lib.hid hu
          clear hu
          go_wp2
          go_ret
          rw [HE2.out]
          have hr2 := HR.out
          unfold turnP at hr2
          rw [if_neg HHH.out, if_neg (by rw [HU.out]; decide)] at hr2
          rw [← hr2]
          exact ⟨rfl, _, HT2.out, HS.out.trans HS2.out, rfl, rfl, rfl, rfl⟩
        · rw [hu] at f3
          have HU := Lib.hid hu
          clear hu
          have HT3 := Lib.hid (HT2.out.unuse (k := μr.X.hand) HC.out HM.out)
          have HS3 := Lib.hid (stp_unuse HT2.out (k := μr.X.hand) HM.out)
          go_wp2
          rw [HE2.out]
          have hlt := far_used HM.out ht.out HU.out
          have hr2 := HR.out
          unfold turnP at hr2
          rw [if_neg HHH.out, if_pos HU.out] at hr2
          refine ⟨Lib.hid ⟨_, r, HT3.out, (HS.out.trans HS2.out).trans HS3.out, ⟨rfl, rfl, rfl, rfl, HEC.out⟩, ?_, by have := HFR.out; show far (μr.X.turn.unuse μr.X.hand) t < r; omega, hr2⟩, ?_⟩
          · show ((μr.X.turn.unuse μr.X.hand).fr t).h = 0
            unfold Px.unuse
            rw [put_fr]
            split
            · rename_i e; rw [← e]; exact HH.out
            · exact HH.out
          · have e := farW_eq HT3.out ht.out
            rw [HF.out]
            exact Nat.lt_of_le_of_lt (Nat.le_of_eq e) hlt
theorem turn_any' {B N : Nat} (μ : Mp) (w : World) (h : PoolAt B N w μ) (hc : μ.X.c = μ.X.m) (hh : μ.X.held = false) :
    Calls Tryz.prog 150 #[.pointer (some ⟨μ.P, 0, none⟩)] w fun e w' => e = .returned (.int .i64 ((turnP (3 * μ.X.m) μ.X).2 : Int)) ∧ Goes B N w μ (turnP (3 * μ.X.m) μ.X).1 w' := by
  obtain ⟨t, ht, h0⟩ := held_no hh
  have hf := far_le μ.X t h.core.ok.m0
  exact turn_walk w μ.all μ.P μ.F μ.s.D μ.X.m t _ (Lib.hid ⟨μ, 3 * μ.X.m, h, Stp.refl _ _, ⟨rfl, rfl, rfl, rfl, hc⟩, h0, by omega, rfl⟩) (Lib.hid ht)
end Go.Proofs.YtokikeenfpligaaGreatDoor
namespace Go.Proofs.YtokikeenfpligaaGreatDoor
open Go.RowKit Go.Maps

/-- the first frame that is not held, or -1 -/
def freeAt (fr : Nat → Fr) (k : Nat) : Prop := ∀ j, j < k → 0 < (fr j).h
theorem free_next {fr : Nat → Fr} {k : Nat} (h : freeAt fr k) (hh : ¬ (fr k).h = 0) : freeAt fr (k + 1) := fun j hj => by
  by_cases e : j = k
  · rw [e]; omega
  · exact h j (by omega)
set_option maxRecDepth 100000 in
theorem idx_any (F m c : Nat) (fr : Nat → Fr) (a : Nat → Option Addr) (cp : Nat → Nat) (w : World) (hm : m ≤ 1024) (hr : Row w F m fr a cp) :
    Calls Tryz.prog 159 #[.slice (some ⟨F, 0, none⟩) m c, .func (.func 148) #[] #[]] w
      fun e w' => ∃ k : Int, e = .returned (.int .i64 k) ∧ ((0 ≤ k ∧ ∃ j, j < m ∧ (fr j).h = 0) ∨ (k < 0 ∧ freeAt fr m)) ∧ Below w.heap.size w w' := by
  have HR := Lib.hid hr
  clear hr
  go_enter Tryz.func159, Tryz.ntmps159
  go_wp2
  go_loopw [8, 5] (fun i _ wr => ∃ k : Nat, k ≤ m ∧ i = .int .i64 k ∧ Hid (freeAt fr k) ∧ Hid (Below w.heap.size w wr)) (fun i _ _ => m - (intOf i).toNat)
  case atStart => exact ⟨0, by omega, rfl, Lib.hid (fun j hj => absurd hj (by omega)), Lib.hid (Below.refl _ _)⟩
  case round =>
    obtain ⟨k, hk, rfl, HA, HB⟩ := hrel
    by_cases hlt : k < m
    · have R := HR.out.same (w' := wr) HB.out.size (HB.out.block _ HR.out.lt)
      have g0 := R.at0 hlt
      have g1 := R.at1 hlt
      have g2 := R.at2 hlt
      have g3 := R.at3 hlt
      have g4 := R.at4 hlt
      have i0 : (0 : Int) ≤ (k : Int) := by omega
      have i1 : (k : Int) < (m : Int) := by omega
      clear R
      by_cases hh : (fr k).h = 0
      · have hb : (((fr k).h : Int) == 0) = true := by simp [hh]
        go_wp2
        go_ret
        exact ⟨k, rfl, .inl ⟨i0, k, hlt, hh⟩, HB.out.alloc HB.out.size _⟩
      · have hb : (((fr k).h : Int) == 0) = false := by simp [hh]
        go_wp2
        go_roundw
        case rel => exact ⟨k + 1, by omega, by go_num, Lib.hid (free_next HA.out hh), Lib.hid (HB.out.alloc HB.out.size _)⟩
        case measure => simp [intOf]; omega
    · obtain rfl : k = m := by omega
      go_wp2
      go_ret
      exact ⟨-1, rfl, .inr ⟨by omega, HA.out⟩, HB.out⟩
theorem held_of {X : Px} (h : freeAt X.fr X.m) : X.held = true := by
  unfold Px.held
  rw [List.all_eq_true]
  intro k hk
  exact decide_eq_true (h k (by simpa using hk))
theorem held_not {X : Px} {j : Nat} (hj : j < X.m) (h : (X.fr j).h = 0) : X.held = false := by
  unfold Px.held
  rw [List.all_eq_false]
  exact ⟨j, by simpa using hj, by simp [h]⟩
set_option maxRecDepth 100000 in
theorem contains_any (F c : Nat) (X : Px) (a : Nat → Option Addr) (cp : Nat → Nat) (w : World) (hm : X.m ≤ 1024) (hr : Row w F X.m X.fr a cp) :
    Calls Tryz.prog 149 #[.slice (some ⟨F, 0, none⟩) X.m c, .func (.func 148) #[] #[]] w
      fun e w' => e = .returned (.bool (!X.held)) ∧ Below w.heap.size w w' := by
  have HR := Lib.hid hr
  clear hr
  go_enter Tryz.func149, Tryz.ntmps149
  go_wp2_with (go_at_call 159; refine (idx_any _ _ _ X.fr a cp _ hm HR.out).mono ?_; rintro e w' ⟨k, rfl, hk, hb⟩; have HK := Lib.hid hk; have HB := Lib.hid hb; clear hk hb)
  go_ret
  refine ⟨?_, HB.out⟩
  congr 2
  rcases HK.out with ⟨h1, j, hj, h2⟩ | ⟨h1, h2⟩
  · rw [held_not hj h2]; simp [h1]
  · rw [held_of h2]; simp; omega
end Go.Proofs.YtokikeenfpligaaGreatDoor
namespace Go.Proofs.YtokikeenfpligaaGreatDoor
open Go.RowKit Go.Maps

theorem Wrote.cur {s s' : St} {i : Nat} {f : Nat → Int} (h : Wrote s i f s') (k j : Nat) : s'.cur k j = if k = i then f j else s.cur k j := by
  unfold St.cur
  by_cases e : k = i
  · subst e
    rw [if_pos rfl]
    cases hl : s'.late k with
    | none => exact absurd hl h.late
    | some b => exact h.now j
  · rw [if_neg e, h.lateo k e]
    cases s.late k with
    | none => simp only; rw [h.sure]
    | some b => simp only; rw [h.nowo k e]
def St.flush (s : St) : St := (s.outs s.pend).settle
theorem flush_cur {B : Nat} {s : St} (o : s.Ok B) (k j : Nat) (hj : j < 512) : s.flush.cur k j = s.cur k j := by
  show (if k ∈ s.pend ∧ j < 512 then s.now k j else s.sure k j) = s.cur k j
  unfold St.cur
  by_cases e : k ∈ s.pend
  · rw [if_pos ⟨e, hj⟩]
    cases hl : s.late k with
    | none => exact absurd hl ((o.mem k).1 e)
    | some b => rfl
  · rw [if_neg (fun q => e q.1)]
    cases hl : s.late k with
    | none => rfl
    | some b => exact absurd ((o.mem k).2 (by rw [hl]; simp)) e
theorem tx_nums {t : ByteArray} (h : t.size = 512) : tx (fun j => (nums t).getD j 0) = t := by
  unfold tx
  rw [rowOf_self (by rw [nums_len, h]), str_nums]
theorem tx_congr {f g : Nat → Int} (h : ∀ j, j < 512 → f j = g j) : tx f = tx g := by unfold tx; rw [rowOf_congr h]
theorem cur_byte {B : Nat} {s : St} (o : s.Ok B) (i j : Nat) : 0 ≤ s.cur i j ∧ s.cur i j < 256 := by
  unfold St.cur
  cases s.late i with
  | none => exact o.us i j
  | some b => exact o.un i j
theorem nums_tx {f : Nat → Int} (h : ∀ j, 0 ≤ f j ∧ f j < 256) : nums (tx f) = rowOf f := by
  unfold tx
  exact nums_str fun i hi => by rw [rowOf_get f i hi]; exact h i
theorem tx_size (f : Nat → Int) : (tx f).size = 512 := by unfold tx; rw [strOfNums_size, rowOf_len]
theorem Tie.wrote {B : Nat} {s s' : St} {d : Dk} {i : Nat} {t : ByteArray} (h : Tie s d) (o : s.Ok B) (hw : Wrote s i (fun j => (nums t).getD j 0) s') (ht : t.size = 512) : Tie s' (d.wrote i t) := by
  refine ⟨h.n.trans hw.n.symm, fun k hk => ?_, ?_, by rw [hw.writes]; show d.writes + 1 = _; rw [h.writes], by rw [hw.left]; show (if 0 < d.left then d.left - 1 else d.left) = _; rw [h.left]⟩
  · show (if k = i then t else d.cur k) = _
    by_cases e : k = i
    · subst e
      rw [if_pos rfl, ← tx_nums ht]
      exact (tx_congr fun j _ => by rw [hw.cur, if_pos rfl]).symm
    · rw [if_neg e, h.cur k (by rw [← hw.n]; exact hk)]
      exact (tx_congr fun j _ => by rw [hw.cur, if_neg e]).symm
  · show (if i ∈ d.pend then d.pend else d.pend ++ [i]) = _
    rw [hw.pend, h.pend]
    by_cases e : s.late i = none
    · rw [if_pos e, if_neg (fun q => (o.mem i).1 q e)]
    · rw [if_neg e, if_pos ((o.mem i).2 e)]
theorem Tie.flush {B : Nat} {s : St} {d : Dk} (h : Tie s d) (o : s.Ok B) : Tie s.flush d.flush :=
  ⟨h.n, fun k hk => (h.cur k hk).trans (tx_congr fun j hj => (flush_cur o k j hj).symm), rfl, h.writes, h.left⟩

/-! clean -/
def framePtr (F k : Nat) : Value := .pointer (some ⟨F, k * 5, none⟩)
theorem cleanP_no {X : Px} {k : Nat} (h : (X.fr k).d = false) : cleanP X k = (X, 0) := by unfold cleanP; rw [if_pos h]
theorem cleanP_full {X : Px} {k : Nat} (h : (X.fr k).d = true) (hl : X.d.left = 0) : cleanP X k = (X, 5) := by unfold cleanP; rw [if_neg (by rw [h]; decide), if_pos hl]
theorem cleanP_ok {X : Px} {k : Nat} (h : (X.fr k).d = true) (hl : X.d.left ≠ 0) : cleanP X k = ((X.disk (X.d.wrote (X.fr k).i.toNat (X.fr k).t)).put k { X.fr k with d := false }, 0) := by unfold cleanP; rw [if_neg (by rw [h]; decide), if_neg hl]
theorem PoolAt.clean {B N : Nat} {w : World} {μ : Mp} (h : PoolAt B N w μ) {k : Nat} (hk : k < μ.X.c) (hm : k < μ.X.m) : PoolAt B N (w.setCell ⟨μ.F, k * 5 + 2, none⟩ (.bool false)) (μ.put k { μ.X.fr k with d := false } (μ.a k) (μ.cp k)) := by
  have hs : (μ.X.fr k).t.size = 512 ∨ ((μ.X.fr k).t.size = 0 ∧ false = false) := by rcases h.core.ok.siz k with q | q; exact .inl q; exact .inr ⟨q.1, rfl⟩
  refine h.put _ _ _ (((OnF.refl (h.core.row.c k hm)).set 2 (by omega) (.bool false)).congr fun j hj => ?_) rfl (h.core.fit hm) (h.core.ok.put hk rfl hs (h.core.ok.hN k) (Nat.le_refl _))
  match j, hj with
  | 0, _ => rfl
  | 1, _ => rfl
  | 2, _ => rfl
  | 3, _ => rfl
  | 4, _ => rfl
theorem stp_cell {B N : Nat} {w : World} {μ : Mp} (h : PoolAt B N w μ) {k : Nat} (hm : k < μ.X.m) (j : Nat) (hj : j < 5) (v : Value) (f : Fr) : Stp w μ.all (w.setCell ⟨μ.F, k * 5 + j, none⟩ v) (μ.put k f (μ.a k) (μ.cp k)).all :=
  stp_put (OnF.set (OnF.refl (h.core.row.c k hm)) j hj v) fun _ off e => .inl (.inr ⟨k, off, hm, e⟩)
theorem Fit.addr {B : Nat} {w : World} {μ : Mp} {t : ByteArray} {a : Option Addr} {c : Nat} (h : Fit B w μ t a c) (hs : 0 < t.size) : ∃ b off, a = some ⟨b, off, none⟩ := by
  obtain ⟨g, off, e, _⟩ := h.1 0 (by rw [nums_len]; exact hs)
  exact ⟨g, off, e⟩
set_option maxRecDepth 100000 in
set_option maxHeartbeats 1000000 in
theorem clean_any {B N : Nat} (μ : Mp) (k : Nat) (w : World) (h : PoolAt B N w μ) (hk : k < μ.X.c) (hN : N < 2305843009213693952) :
    Calls Tryz.prog 103 #[.pointer (some ⟨μ.P, 0, none⟩), framePtr μ.F k] w fun e w' => e = .returned (errv (cleanP μ.X k).2) ∧ Goes B (N + 1) w μ (cleanP μ.X k).1 w' := by
  have hm : k < μ.X.m := by have := h.core.ok.cm; omega
  have c0 := h.core.hd.c0
  have g0 := h.core.row.at0 hm
  have g1 := h.core.row.at1 hm
  have g2 := h.core.row.at2 hm
  have HP := Lib.hid h
  unfold framePtr
  cases hd : (μ.X.fr k).d
  · rw [hd] at g2
    rw [cleanP_no hd, errv0]
    clear h
    go_enter Tryz.func103, Tryz.ntmps103
    go_wp2
    go_ret
    exact ⟨rfl, _, HP.out.mono (by omega), Stp.refl _ _, rfl, rfl, rfl, rfl⟩
  · rw [hd] at g2
    have hsz : (μ.X.fr k).t.size = 512 := by rcases h.core.ok.siz k with q | q; exact q; rw [hd] at q; exact absurd q.2 (by decide)
    have hsec := h.core.ok.sec k hk
    obtain ⟨i, hi⟩ : ∃ i : Nat, (μ.X.fr k).i = i := ⟨(μ.X.fr k).i.toNat, by omega⟩
    have hin : i < μ.s.n := by have := h.core.t.n; omega
    have hfit := h.core.fit hm
    obtain ⟨b, off, ha⟩ := hfit.addr (by omega)
    have hlies := hfit.1
    have hnb : ¬ μ.s.has b := fun q => (hfit.2.2 b off ha).2.2 (.inr (.inr (.inr q)))
    rw [hsz, ha] at g1
    rw [ha] at hlies
    rw [hi] at g0
    have HD := Lib.hid h.core.d.drew
    have HT := Lib.hid h.core.t
    have HL := Lib.hid hlies.drew
    have HNB := Lib.hid hnb
    have HSZ := Lib.hid hsz
    have HIN := Lib.hid hin
    have HI := Lib.hid hi
    have HDD := Lib.hid hd
    have HO := Lib.hid h.core.ok
    by_cases hl : μ.X.d.left = 0
    · have HW := Lib.hid (write_full μ.s i w.drew (some ⟨b, off, none⟩) (μ.cp k) HD.out HIN.out (by rw [← HT.out.left]; exact hl))
      rw [cleanP_full hd hl, errv1 (show ((μ.X, (5 : Int)).2 : Int) ≠ 0 from (by decide : (5 : Int) ≠ 0))]
      clear h hd hsz hsec hi hin hfit ha hlies hnb hl
      go_enter Tryz.func103, Tryz.ntmps103
      go_wp2
      go_still_tail 12, (by kernel_rfl)
      change wpList _ _ _ _ _ w.drew
      go_wp2_with (go_at_call 124; refine HW.out.mono ?_; rintro e w' ⟨rfl, rfl⟩)
      go_ret
      exact ⟨rfl, _, HP.out.drew.mono (by omega), .of_below (Below.refl _ _).drew, rfl, rfl, rfl, rfl⟩
    · have HW := Lib.hid (write_any μ.s i w.drew b off (μ.cp k) (nums (μ.X.fr k).t) HD.out HIN.out HL.out HNB.out (by rw [nums_len, HSZ.out]) (by rw [← HT.out.left]; exact hl) (by rw [← HT.out.writes]; exact HO.out.w0) (by rw [← HT.out.writes]; have := HO.out.wN; omega))
      rw [cleanP_ok hd hl, errv0, hi, Int.toNat_natCast]
      have HKC := Lib.hid hk
      have HKM := Lib.hid hm
      clear h hd hsz hsec hi hin hfit ha hlies hnb hl hk hm
      go_enter Tryz.func103, Tryz.ntmps103
      go_wp2
      go_still_tail 12, (by kernel_rfl)
      change wpList _ _ _ _ _ w.drew
      go_wp2_with (go_at_call 124; refine HW.out.mono ?_; rintro e w' ⟨rfl, s', hd, hs, hw⟩; have HP2 := Lib.hid (HP.out.drew.disk hd hs hw.D (HT.out.wrote HD.out.ok hw HSZ.out) (HO.out.wrote i (μ.X.fr k).t)); have HS2 := Lib.hid (stp_disk (μ := μ) (d' := μ.X.d.wrote i (μ.X.fr k).t) hs); have g5 := HP2.out.core.row.at2 HKM.out; have z5 := HP2.out.core.row.fz (k * 5 + 2); change w'.cell? ⟨μ.F, k * 5 + 2, none⟩ = _ at g5; change w'.frozen? ⟨μ.F, k * 5 + 2, none⟩ = _ at z5; have HDD2 := Lib.hid hw.D; clear hd hs hw)
      go_ret
      refine ⟨rfl, _, HP2.out.clean HKC.out HKM.out, (Stp.of_below (H := μ.all) (Below.refl _ _).drew).trans (HS2.out.trans (stp_cell HP2.out HKM.out 2 (by omega) _ _)), rfl, rfl, HDD2.out, rfl⟩
end Go.Proofs.YtokikeenfpligaaGreatDoor
namespace Go.Proofs.YtokikeenfpligaaGreatDoor
open Go.RowKit Go.Maps

theorem klaw : Keyed Tryz.prog 3 := int_keyed Tryz.underlying3
set_option maxRecDepth 100000 in
theorem zeroI (w : World) : (zeroValue 3).run Tryz.prog w = .ok (.int .i64 0) w := by kernel_rfl
theorem key_of {x : Int} (h : -9223372036854775808 ≤ x ∧ x ≤ 9223372036854775807) : keyOf Tryz.prog 3 (.int .i64 x) = some (.int .i64 x) := keyOf_int_mk Tryz.underlying3 (WalkArith.wf_i64 h)

theorem giveP_held {X : Px} (h : X.held = true) : giveP X = (X, 0, 10) := by unfold giveP; rw [if_pos h]
theorem giveP_not {X : Px} (h : X.held = false) : giveP X = ((cleanP (turnP (3 * X.m) X).1 (turnP (3 * X.m) X).2).1, if (cleanP (turnP (3 * X.m) X).1 (turnP (3 * X.m) X).2).2 = 0 then (turnP (3 * X.m) X).2 else 0, (cleanP (turnP (3 * X.m) X).1 (turnP (3 * X.m) X).2).2) := by unfold giveP; rw [if_neg (by rw [h]; decide)]
/-- a frame that gives way: its sector is no longer in the map -/
def Given (B N : Nat) (w : World) (μ : Mp) (X : Px) (k : Nat) (w' : World) : Prop :=
  ∃ μ', Core B N w' μ' ∧ MapOk μ'.X μ'.D ∧ Owns w' μ'.M μ'.X.c (μ'.D.del (.int .i64 (X.fr k).i)) ∧ Stp w μ.all w' μ'.all ∧ (μ'.P = μ.P ∧ μ'.F = μ.F ∧ μ'.s.D = μ.s.D) ∧ μ'.X = X
def GiveAt (B N : Nat) (w : World) (μ : Mp) (r : Px × Nat × Int) (e : Ending) (w' : World) : Prop :=
  e = .returned (.tuple #[.int .i64 (r.2.1 : Int), errv r.2.2]) ∧ (r.2.2 ≠ 0 → Goes B N w μ r.1 w') ∧ (r.2.2 = 0 → Given B N w μ r.1 r.2.1 w')
theorem Goes.trans {B N M : Nat} {w w1 w2 : World} {μ μ1 : Mp} {X : Px} (hs : Stp w μ.all w1 μ1.all) (he : μ1.P = μ.P ∧ μ1.F = μ.F ∧ μ1.s.D = μ.s.D) (hN : N ≤ M) (h : Goes B N w1 μ1 X w2) : Goes B M w μ X w2 := by
  obtain ⟨μ2, h1, h2, h3, h4, h5, h6⟩ := h
  exact ⟨μ2, h1.mono hN, hs.trans h2, h3.trans he.1, h4.trans he.2.1, h5.trans he.2.2, h6⟩
theorem cleanP_c (X : Px) (k : Nat) : (cleanP X k).1.c = X.c ∧ (cleanP X k).1.m = X.m ∧ ∀ j, ((cleanP X k).1.fr j).i = (X.fr j).i := by
  unfold cleanP
  split
  · exact ⟨rfl, rfl, fun _ => rfl⟩
  · split
    · exact ⟨rfl, rfl, fun _ => rfl⟩
    · refine ⟨rfl, rfl, fun j => ?_⟩
      rw [put_fr]
      split
      · rename_i e; rw [e]
      · rfl
set_option maxRecDepth 100000 in
set_option maxHeartbeats 1000000 in
theorem give_held {B N : Nat} (μ : Mp) (w : World) (h : PoolAt B N w μ) (hh : μ.X.held = true) :
    Calls Tryz.prog 130 #[.pointer (some ⟨μ.P, 0, none⟩)] w (GiveAt B (N + 1) w μ (giveP μ.X)) := by
  have c1 := h.core.hd.c1
  have HC := Lib.hid (contains_any μ.F μ.X.m μ.X μ.a μ.cp w h.core.ok.m1 h.core.row)
  have HP := Lib.hid h
  rw [giveP_held hh]
  rw [hh] at HC
  clear h hh
  go_enter Tryz.func130, Tryz.ntmps130
  go_wp2_with (go_at_call 149; refine HC.out.mono ?_; rintro e w' ⟨rfl, hb⟩; have HB := Lib.hid hb; clear hb)
  go_ret2
  exact ⟨by show _ = Ending.returned (.tuple #[_, errv 10]); rw [errv1 (by decide)]; rfl, fun _ => ⟨_, (HP.out.below HB.out).mono (by omega), .of_below HB.out, rfl, rfl, rfl, rfl⟩, fun e => absurd (show (10 : Int) = 0 from e) (by decide)⟩
set_option maxRecDepth 100000 in
set_option maxHeartbeats 1000000 in
theorem give_not {B N : Nat} (μ : Mp) (w : World) (h : PoolAt B N w μ) (hc : μ.X.c = μ.X.m) (hh : μ.X.held = false) (hN : N < 2305843009213693952) :
    Calls Tryz.prog 130 #[.pointer (some ⟨μ.P, 0, none⟩)] w (GiveAt B (N + 1) w μ (giveP μ.X)) := by
  have c1 := h.core.hd.c1
  have hm1 := h.core.ok.m1
  have HC := Lib.hid (contains_any μ.F μ.X.m μ.X μ.a μ.cp w h.core.ok.m1 h.core.row)
  have HT : Hid (Turned μ.X (turnP (3 * μ.X.m) μ.X).1 (turnP (3 * μ.X.m) μ.X).2) := by
    obtain ⟨t, ht, h0⟩ := held_no hh
    have hf := far_le μ.X t h.core.ok.m0
    exact Lib.hid (turn_any _ μ.X t h.core.ok hc ht h0 (by omega)).1
  have HTW := fun w' (hb : Below w.heap.size w w') => turn_any' μ w' (h.below hb) hc hh
  have HP := Lib.hid h
  rw [giveP_not hh]
  rw [hh] at HC
  generalize turnP (3 * μ.X.m) μ.X = r at HT HTW ⊢
  have HTWH := Lib.hid HTW
  have HCM := Lib.hid hc
  clear h hh HTW hc
  obtain ⟨Y, k⟩ := r
  have hk := HT.out.lt
  simp only at hk HT HTWH ⊢
  have i0 : (0 : Int) ≤ (k : Int) := by omega
  have i1 : (k : Int) < (μ.X.m : Int) := by omega
  have hkc : k < Y.c := by have := HT.out.c; have := HCM.out; omega
  have hcc := cleanP_c Y k
  rcases hz : cleanP Y k with ⟨Z, err⟩
  simp only [hz] at hcc ⊢
  have HCC := Lib.hid hcc
  have HZ := Lib.hid hz
  clear hz hcc
  by_cases he : err = 0
  · subst he
    rw [if_pos rfl]
    go_enter Tryz.func130, Tryz.ntmps130
    go_upto_region 5 with (first | (go_at_call 149; refine HC.out.mono ?_; rintro e w1 ⟨rfl, hb⟩; have HB := Lib.hid hb; clear hb) | (go_at_call 150; refine (HTWH.out _ HB.out).mono ?_; rintro e w2 ⟨rfl, hg⟩; have HG := Lib.hid hg; clear hg))
    obtain ⟨μ1, hp1, hs1, eP, eF, eD, eX⟩ := HG.out
    have HE := Lib.hid (show μ1.P = μ.P ∧ μ1.F = μ.F ∧ μ1.s.D = μ.s.D from ⟨eP, eF, eD⟩)
    have HS1 := Lib.hid ((Stp.of_below HB.out).trans hs1)
    have em : μ1.X.m = μ.X.m := by rw [eX]; exact HT.out.m
    have c1 := hp1.core.hd.c1
    have HCL := Lib.hid (clean_any μ1 k w2 hp1 (by rw [eX]; exact hkc) hN)
    rw [eP, eF, em] at c1
    rw [eP, eF, eX] at HCL
    have HP1 := Lib.hid hp1
    have HX1 := Lib.hid eX
    clear hp1 hs1 eP eF eD eX em HG
    unfold framePtr at HCL
    rw [HZ.out] at HCL
    rw [errv0] at HCL
    go_upto_region 9 with (go_at_call 103; refine HCL.out.mono ?_; rintro e w3 ⟨rfl, hg⟩; have HG := Lib.hid hg; clear hg)
    obtain ⟨μ2, hp2, hs2, eP, eF, eD, eX⟩ := HG.out
    have em : k < μ2.X.m := by rw [eX, HCC.out.2.1, HT.out.m]; exact hk
    have hkc2 : k < μ2.X.c := by rw [eX, HCC.out.1]; exact hkc
    have c2 := hp2.core.hd.c2
    have g0 := hp2.core.row.at0 em
    have hsec := hp2.core.ok.sec k hkc2
    have hn1 := hp2.core.ok.n1
    have hkey := key_of (x := (μ2.X.fr k).i) (by omega)
    have HO := Lib.hid (show Owns w3.drew μ2.M μ2.X.c μ2.D from hp2.mo.drew)
    have HP2 := Lib.hid hp2
    have HS2 := Lib.hid hs2
    have HE2 := Lib.hid (show μ2.P = μ.P ∧ μ2.F = μ.F ∧ μ2.s.D = μ.s.D from ⟨eP.trans HE.out.1, eF.trans HE.out.2.1, eD.trans HE.out.2.2⟩)
    rw [HE2.out.1] at c2
    rw [HE2.out.2.1] at g0
    have HX2 := Lib.hid eX
    clear hp2 hs2 eP eF eD eX em hkc2 HG hsec
    go_still_tail 8, (by kernel_rfl)
    change wpList _ _ _ _ _ w3.drew
    go_wp2_with (at_delete; refine wpList_delete_own _ rfl _ _ 100 3 rfl 3 klaw Tryz.underlying100 _ μ2.M μ2.X.c μ2.D rfl HO.out _ _ rfl hkey ?_; intro w4 hown4 hturn4; have HO4 := Lib.hid hown4; have HT4 := Lib.hid hturn4; clear hown4 hturn4)
    go_ret2
    have hg4 := HT4.out.grown
    have hd := HP2.out.drew
    have hb4 : ∀ b, b ≠ μ2.M → b < w3.drew.heap.size → w4.heap[b]? = w3.drew.heap[b]? := fun b hb hl => hg4.block b hl (fun e => hb (Option.some.inj e))
    refine ⟨by show _ = Ending.returned (.tuple #[_, errv 0]); rw [errv0]; rfl, fun e => absurd rfl e, fun _ => ⟨μ2, hd.core.moved hg4.size fun b hb hM => hb4 b hM (hd.lt b hb).2, hd.mp, ?_, HS1.out.trans (HS2.out.trans (.write μ2.M (.inl (.inr (.inr (.inl rfl)))) hg4.os hg4.tape hg4.output hg4.size (fun b hl hb => hb4 b hb hl) (fun b hb => .inl hb))), HE2.out, HX2.out⟩⟩
    rw [HX2.out] at HO4
    have := HO4.out
    rw [← HX2.out] at this ⊢
    exact this
  · rw [if_neg he]
    go_enter Tryz.func130, Tryz.ntmps130
    go_upto_region 5 with (first | (go_at_call 149; refine HC.out.mono ?_; rintro e w1 ⟨rfl, hb⟩; have HB := Lib.hid hb; clear hb) | (go_at_call 150; refine (HTWH.out _ HB.out).mono ?_; rintro e w2 ⟨rfl, hg⟩; have HG := Lib.hid hg; clear hg))
    obtain ⟨μ1, hp1, hs1, eP, eF, eD, eX⟩ := HG.out
    have HE := Lib.hid (show μ1.P = μ.P ∧ μ1.F = μ.F ∧ μ1.s.D = μ.s.D from ⟨eP, eF, eD⟩)
    have HS1 := Lib.hid ((Stp.of_below HB.out).trans hs1)
    have em : μ1.X.m = μ.X.m := by rw [eX]; exact HT.out.m
    have c1 := hp1.core.hd.c1
    have HCL := Lib.hid (clean_any μ1 k w2 hp1 (by rw [eX]; exact hkc) hN)
    rw [eP, eF, em] at c1
    rw [eP, eF, eX] at HCL
    have HP1 := Lib.hid hp1
    have HX1 := Lib.hid eX
    clear hp1 hs1 eP eF eD eX em HG
    unfold framePtr at HCL
    rw [HZ.out] at HCL
    rw [errv1 he] at HCL
    go_wp2_with (go_at_call 103; refine HCL.out.mono ?_; rintro e w3 ⟨rfl, hg⟩; have HG := Lib.hid hg; clear hg)
    go_ret2
    exact ⟨by show _ = Ending.returned (.tuple #[_, errv err]); rw [errv1 he]; rfl, fun _ => Goes.trans HS1.out HE.out (Nat.le_refl _) HG.out, fun e => absurd e he⟩
end Go.Proofs.YtokikeenfpligaaGreatDoor

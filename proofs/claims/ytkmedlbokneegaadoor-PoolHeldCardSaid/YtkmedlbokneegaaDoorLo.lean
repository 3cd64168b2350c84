/-
  THE WALKS of the pool's load and fetch. Conditions: a pool lies in memory, and there is such a sector.
-/
import Derived.Test.YtkmedlbokneegaaDoorFj
namespace Go.Proofs.YtkmedlbokneegaaDoor
open Go.RowKit Go.Maps

theorem Lies.sm {w : World} {a : Option Addr} {xs : List Int} (h : Lies w a xs) : Sm.Lies w a xs := fun i hi => h i hi
set_option maxRecDepth 100000 in
theorem good_is (a : Option Addr) (c : Nat) (xs : List Int) (b : Bool) (w : World) (hn : xs.length = 512) (hx : Lies w a xs) (hc : 512 ≤ c) (hb : Sm.isGood xs = b) :
    Calls Tryd.prog 39 #[.slice a 512 c] w fun e w' => e = .returned (.bool b) ∧ Below w.heap.size w w' := by
  subst hb
  exact Sm.good_n a c 512 xs w hn (by omega) hx.sm (by omega) hc
def LoadAt (B N : Nat) (w : World) (μ : Mp) (i : Nat) (e : Ending) (w' : World) : Prop :=
  ∃ g cap, e = .returned (.tuple #[.slice (some ⟨g, 0, none⟩) 512 cap, .nilIface]) ∧ Lies w' (some ⟨g, 0, none⟩) (nums (μ.X.d.cur i)) ∧ 512 ≤ cap ∧ w.heap.size ≤ g ∧ PoolAt B N w' { μ with X := μ.X.load } ∧ Stp w μ.all w' ({ μ with X := μ.X.load } : Mp).all
theorem cur_is {B N : Nat} {w : World} {μ : Mp} (h : PoolAt B N w μ) {i : Nat} (hi : i < μ.s.n) : nums (μ.X.d.cur i) = rowOf (μ.s.cur i) := by
  rw [h.core.t.cur i hi, nums_tx (cur_byte h.core.d.ok i)]
set_option maxRecDepth 100000 in
set_option maxHeartbeats 1000000 in
theorem load_good {B N : Nat} (μ : Mp) (i : Nat) (w : World) (h : PoolAt B N w μ) (hi : (i : Int) < μ.X.d.n) (hg : goodT (μ.X.d.cur i) = true) (hN : N < 2305843009213693952) :
    Calls Tryd.prog 73 #[.pointer (some ⟨μ.P, 0, none⟩), .int .i64 i] w (LoadAt B (N + 1) w μ i) := by
  have hin : i < μ.s.n := by have := h.core.t.n; omega
  have HCU := Lib.hid (cur_is h hin)
  have c4 := h.core.hd.c4
  have z4 := h.core.hd.fz 4
  have hl0 := h.core.ok.l0
  have hlN := h.core.ok.lN
  have HL := Lib.hid h.load
  have HS := Lib.hid (stp_setP (w := w) (μ := μ) (X := μ.X.load) 4 (.int .i64 (μ.X.loads + 1)) rfl)
  have HR := Lib.hid (read_any μ.s i _ h.load.core.d hin)
  have d0 := h.load.core.hd.c0
  change (w.setCell ⟨μ.P, 4, none⟩ (.int .i64 (μ.X.loads + 1))).cell? ⟨μ.P, 0, none⟩ = some (.pointer (some ⟨μ.s.D, 0, none⟩)) at d0
  unfold goodT at hg
  rw [HCU.out] at hg
  have HG := Lib.hid hg
  have hw : -9223372036854775808 ≤ μ.X.loads + 1 ∧ μ.X.loads + 1 ≤ 9223372036854775807 := by omega
  have hw2 := IntWalk.wrap64_in (μ.X.loads + 1) hw
  have c0 := h.core.hd.c0
  clear h hg hin
  go_enter Tryd.func73, Tryd.ntmps73
  go_wp2_with (first | (go_at_call 26; refine HR.out.mono ?_; rintro e w1 ⟨g, cap, rfl, hl, hc, hgg, hb⟩; have HLI := Lib.hid hl; have HGG := Lib.hid hgg; have HB := Lib.hid hb; have HCC := Lib.hid hc; clear hl hgg hb hc) | (go_at_call 39; refine (good_is _ _ _ true _ (rowOf_len _) HLI.out HCC.out HG.out).mono ?_; rintro e w2 ⟨rfl, hb⟩; have HB2 := Lib.hid hb; clear hb))
  go_ret2
  have hbb := HB.out.trans (HB2.out.mono HB.out.size)
  refine ⟨g, cap, rfl, by rw [HCU.out]; exact HLI.out.below HB2.out, HCC.out, by have := HGG.out; simpa using this, HL.out.below hbb, HS.out.trans (.of_below hbb)⟩
set_option maxRecDepth 100000 in
set_option maxHeartbeats 1000000 in
theorem load_bad {B N : Nat} (μ : Mp) (i : Nat) (w : World) (h : PoolAt B N w μ) (hi : (i : Int) < μ.X.d.n) (hg : goodT (μ.X.d.cur i) = false) (hN : N < 2305843009213693952) :
    Calls Tryd.prog 73 #[.pointer (some ⟨μ.P, 0, none⟩), .int .i64 i] w fun e w' => e = .returned (.tuple #[.slice none 0 0, .iface 60 (.int .i64 7)]) ∧ Goes B (N + 1) w μ μ.X.load w' := by
  have hin : i < μ.s.n := by have := h.core.t.n; omega
  have HCU := Lib.hid (cur_is h hin)
  have c4 := h.core.hd.c4
  have z4 := h.core.hd.fz 4
  have hl0 := h.core.ok.l0
  have hlN := h.core.ok.lN
  have HL := Lib.hid h.load
  have HS := Lib.hid (stp_setP (w := w) (μ := μ) (X := μ.X.load) 4 (.int .i64 (μ.X.loads + 1)) rfl)
  have HR := Lib.hid (read_any μ.s i _ h.load.core.d hin)
  have d0 := h.load.core.hd.c0
  change (w.setCell ⟨μ.P, 4, none⟩ (.int .i64 (μ.X.loads + 1))).cell? ⟨μ.P, 0, none⟩ = some (.pointer (some ⟨μ.s.D, 0, none⟩)) at d0
  unfold goodT at hg
  rw [HCU.out] at hg
  have HG := Lib.hid hg
  have c0 := h.core.hd.c0
  clear h hg hin
  go_enter Tryd.func73, Tryd.ntmps73
  go_wp2_with (first | (go_at_call 26; refine HR.out.mono ?_; rintro e w1 ⟨g, cap, rfl, hl, hc, hgg, hb⟩; have HLI := Lib.hid hl; have HGG := Lib.hid hgg; have HB := Lib.hid hb; have HCC := Lib.hid hc; clear hl hgg hb hc) | (go_at_call 39; refine (good_is _ _ _ false _ (rowOf_len _) HLI.out HCC.out HG.out).mono ?_; rintro e w2 ⟨rfl, hb⟩; have HB2 := Lib.hid hb; clear hb))
  go_ret2
  have hbb := HB.out.trans (HB2.out.mono HB.out.size)
  exact ⟨rfl, _, HL.out.below hbb, HS.out.trans (.of_below hbb), rfl, rfl, rfl, rfl⟩

/-! fetch -/
theorem give_lt {N : Nat} {X : Px} (o : X.Ok N) (hc : X.c = X.m) (h : (giveP X).2.2 = 0) : (giveP X).2.1 < (giveP X).1.c := (give_gave o hc h).lt
/-- the frame that was found is one of those in use, and holds the sector -/
theorem find_lt {N : Nat} {X : Px} (o : X.Ok N) (i : Int) (h : (findP X i).2.2 = 0) : (findP X i).2.1 < (findP X i).1.c ∧ ((findP X i).1.fr (findP X i).2.1).i = i := by
  cases ha : X.at i with
  | some k => rw [findP_some ha]; exact at_some ha
  | none =>
    by_cases hc : X.c < X.m
    · rw [findP_fresh ha hc]
      exact ⟨by show X.c < X.c + 1; omega, by show ((X.more.put X.c (Fr.new i)).fr X.c).i = i; rw [put_same]; rfl⟩
    · have hcm : X.c = X.m := by have := o.cm; omega
      rw [findP_give ha hc] at h ⊢
      by_cases he : (giveP X).2.2 = 0
      · rw [if_pos he]
        exact ⟨give_lt o hcm he, by show (((giveP X).1.put (giveP X).2.1 (Fr.new i)).fr (giveP X).2.1).i = i; rw [put_same]; rfl⟩
      · rw [if_neg he] at h
        exact absurd h he
theorem fetchP_bad {X : Px} {i : Nat} (h : goodT (X.d.cur i) = false) : fetchP X i = (X.load, 0, 7) := by unfold fetchP; rw [Int.toNat_natCast, if_pos h]
theorem fetchP_good {X : Px} {i : Nat} (h : goodT (X.d.cur i) = true) : fetchP X i = (if (findP X.load i).2.2 = 0 then ((findP X.load i).1.put (findP X.load i).2.1 { (findP X.load i).1.fr (findP X.load i).2.1 with t := X.d.cur i, u := true }, (findP X.load i).2.1, 0) else ((findP X.load i).1, 0, (findP X.load i).2.2)) := by unfold fetchP; rw [Int.toNat_natCast, if_neg (by rw [h]; decide)]
theorem found_zero {B N : Nat} {w : World} {μ : Mp} {Y : Px} {k f : Nat} {vs : Array Value} (h : Calls Tryd.prog f vs w (FoundAt B N w μ (Y, k, 0))) : Calls Tryd.prog f vs w fun e w' => e = .returned (.tuple #[.pointer (some ⟨μ.F, k * 5, none⟩), .nilIface]) ∧ Goes B N w μ Y w' :=
  h.mono fun _ _ ⟨he, hg⟩ => ⟨he.trans (ret_found (r := (Y, k, 0)) rfl rfl).symm, hg⟩
theorem found_bad {B N : Nat} {w : World} {μ : Mp} {Y : Px} {k f : Nat} {err : Int} {vs : Array Value} (h : Calls Tryd.prog f vs w (FoundAt B N w μ (Y, k, err))) (hne : err ≠ 0) : Calls Tryd.prog f vs w fun e w' => e = .returned (.tuple #[.pointer none, .iface 60 (.int .i64 err)]) ∧ Goes B N w μ Y w' :=
  h.mono fun _ _ ⟨he, hg⟩ => ⟨he.trans (ret_none (r := (Y, k, err)) rfl hne).symm, hg⟩
/-- a frame's bytes are others, from a world further back -/
theorem stp_put2 {w0 w w' : World} {H : Nat → Prop} {μ : Mp} {k : Nat} {f : Fr} {a : Option Addr} {c : Nat} {g : Nat → Value} (hs : Stp w0 H w μ.all) (hF : OnF w w' μ.F k g) (hn : ∀ b off, a = some ⟨b, off, none⟩ → H b ∨ w0.heap.size ≤ b) : Stp w0 H w' (μ.put k f a c).all := by
  refine ⟨hF.os.trans hs.os, hF.tape.trans hs.tape, hF.output.trans hs.output, by rw [hF.size]; exact hs.size, fun b h1 h2 => ?_, fun b hb => ?_⟩
  · have hne : b ≠ μ.F := fun e => by
      subst e
      rcases hs.own μ.F (.inl (.inr (.inl rfl))) with q | q
      · exact h2 q
      · omega
    exact (hF.block b hne).trans (hs.block b h1 h2)
  · rcases hb with q | q
    · exact hs.own b (.inl q)
    · rcases put_bytes q with q2 | ⟨off, q2⟩
      · exact hs.own b (.inr q2)
      · exact hn b off q2
theorem OnF.fill {w : World} {F m : Nat} {fr : Nat → Fr} {a : Nat → Option Addr} {cp : Nat → Nat} (h : Row w F m fr a cp) {k : Nat} (hk : k < m) (t : ByteArray) (ad : Option Addr) (c : Nat) :
    OnF w ((w.setCell ⟨F, k * 5 + 1, none⟩ (.slice ad t.size c)).setCell ⟨F, k * 5 + 3, none⟩ (.bool true)) F k (fv { fr k with t := t, u := true } ad c) := by
  refine (((OnF.refl (h.c k hk)).set 1 (by omega) _).set 3 (by omega) _).congr fun j hj => ?_
  match j, hj with
  | 0, _ => rfl
  | 1, _ => rfl
  | 2, _ => rfl
  | 3, _ => rfl
  | 4, _ => rfl
set_option maxRecDepth 100000 in
set_option maxHeartbeats 1000000 in
theorem fetch_any {B N : Nat} (μ : Mp) (i : Nat) (w : World) (h : PoolAt B N w μ) (hi : (i : Int) < μ.X.d.n) (hN : N + 1 < 2305843009213693952) :
    Calls Tryd.prog 55 #[.pointer (some ⟨μ.P, 0, none⟩), .int .i64 i] w (FoundAt B (N + 2) w μ (fetchP μ.X i)) := by
  cases hg : goodT (μ.X.d.cur i)
  · rw [fetchP_bad hg]
    have HL := Lib.hid (load_bad μ i w h hi hg (by omega))
    clear h hg
    go_enter Tryd.func55, Tryd.ntmps55
    go_wp2_with (go_at_call 73; refine HL.out.mono ?_; rintro e w1 ⟨rfl, hg⟩; have HG := Lib.hid hg; clear hg)
    go_ret2
    exact ⟨ret_none rfl (by decide), Goes.trans (Stp.refl _ _) ⟨rfl, rfl, rfl⟩ (by omega) HG.out⟩
  · rw [fetchP_good hg]
    have hl := load_good μ i w h hi hg (by omega)
    unfold LoadAt at hl
    have HF := Lib.hid fun w1 (h1 : PoolAt B (N + 1) w1 { μ with X := μ.X.load }) => find_any { μ with X := μ.X.load } i w1 h1 ⟨by omega, hi⟩ (by omega)
    have HFL := Lib.hid (find_lt h.core.ok.load i)
    have HLT := Lib.hid h.lt
    have HSZ := Lib.hid (show (μ.X.d.cur i).size = 512 by rw [h.core.t.cur i (by have := h.core.t.n; omega)]; exact tx_size _)
    have HL := Lib.hid hl
    clear hl
    generalize μ.X.d.cur i = b at HSZ HL ⊢
    change Hid (∀ w1, PoolAt B (N + 1) w1 { μ with X := μ.X.load } → Calls Tryd.prog 40 #[.pointer (some ⟨μ.P, 0, none⟩), .int .i64 i] w1 (FoundAt B (N + 1 + 1) w1 { μ with X := μ.X.load } (findP μ.X.load i))) at HF
    generalize findP μ.X.load i = r at HF HFL ⊢
    obtain ⟨Y, k, err⟩ := r
    simp only at HFL ⊢
    clear h hg
    by_cases he : err = 0
    · subst he
      rw [if_pos rfl]
      have HFL2 := Lib.hid (HFL.out rfl)
      clear HFL
      have HF2 : Hid (∀ w1, PoolAt B (N + 1) w1 { μ with X := μ.X.load } → Calls Tryd.prog 40 #[.pointer (some ⟨μ.P, 0, none⟩), .int .i64 i] w1 fun e w' => e = .returned (.tuple #[.pointer (some ⟨μ.F, k * 5, none⟩), .nilIface]) ∧ Goes B (N + 2) w1 { μ with X := μ.X.load } Y w') := Lib.hid fun w1 h1 => found_zero (HF.out w1 h1)
      clear HF
      go_enter Tryd.func55, Tryd.ntmps55
      go_upto_region 7 with (first | (go_at_call 73; refine HL.out.mono ?_; rintro e w1 ⟨g, cap, rfl, hl, hc, hgg, hp, hs⟩; have HLI := Lib.hid hl; have HCC := Lib.hid hc; have HGG := Lib.hid hgg; have HP1 := Lib.hid hp; have HS1 := Lib.hid hs; clear hl hc hgg hp hs) | (go_at_call 40; refine (HF2.out w1 HP1.out).mono ?_; rintro e w2 ⟨rfl, hg⟩; have HG := Lib.hid hg; clear hg))
      obtain ⟨μ2, hp2, hs2, eP, eF, eD, eX⟩ := HG.out
      change μ2.P = μ.P at eP
      change μ2.F = μ.F at eF
      change μ2.s.D = μ.s.D at eD
      have hkc : k < μ2.X.c := by rw [eX]; exact HFL2.out.1
      have hkm : k < μ2.X.m := by have := hp2.core.ok.cm; omega
      have g1 := hp2.core.row.at1 hkm
      have g3 := hp2.core.row.at3 hkm
      have z1 := hp2.core.row.fz (k * 5 + 1)
      have z3 := hp2.core.row.fz (k * 5 + 3)
      have HON := Lib.hid (OnF.fill hp2.core.row hkm b (some ⟨g, 0, none⟩) cap)
      have hgl : g < w1.heap.size := by
        obtain ⟨b', off, ha, hc, _⟩ := HLI.out 0 (by rw [nums_len, HSZ.out]; omega)
        obtain ⟨rfl, rfl⟩ : g = b' ∧ 0 = off := by simpa using ha
        exact World.block_lt_of_cell? w1 _ hc
      have hgn : ¬ μ2.all g := fun q => by
        rcases hs2.own g q with q2 | q2
        · rcases HS1.out.own g q2 with q3 | q3
          · have := HLT.out g q3; have := HGG.out; omega
          · have h1 := (HP1.out.lt g q2).2
            have := (HLT.out g ((all_X (X := μ.X.load) rfl g).1 q2)).2
            have := HGG.out
            omega
        · omega
      have hfit : Fit B w2 μ2 b (some ⟨g, 0, none⟩) cap := ⟨lies_same HLI.out fun b' off e => by
          obtain ⟨rfl, rfl⟩ : g = b' ∧ 0 = off := by simpa using e
          exact hs2.block g hgl (fun q => hgn (by
            have := (HLT.out g ((all_X (X := μ.X.load) rfl g).1 q)).2
            have := HGG.out
            omega)), by rw [HSZ.out]; exact HCC.out, fun b' off e => by
          obtain ⟨rfl, rfl⟩ : g = b' ∧ 0 = off := by simpa using e
          have := HGG.out
          exact ⟨by have h2 := HLT.out μ.P (.inl (.inl rfl)); omega, Nat.lt_of_lt_of_le hgl hs2.size, fun q => hgn (.inl q)⟩⟩
      have HP3 := Lib.hid (hp2.put (M := N + 2) { μ2.X.fr k with t := b, u := true } (some ⟨g, 0, none⟩) cap HON.out rfl hfit (hp2.core.ok.put hkc rfl (.inl HSZ.out) (hp2.core.ok.hN k) (Nat.le_refl _)))
      have HS3 := Lib.hid (stp_put2 (w0 := w) (H := μ.all) (f := { μ2.X.fr k with t := b, u := true }) (a := some ⟨g, 0, none⟩) (c := cap) (HS1.out.trans hs2) HON.out (fun b' off e => by
          obtain ⟨rfl, rfl⟩ : g = b' ∧ 0 = off := by simpa using e
          exact .inr HGG.out))
      have HE := Lib.hid (show μ2.P = μ.P ∧ μ2.F = μ.F ∧ μ2.s.D = μ.s.D from ⟨eP, eF, eD⟩)
      have HX := Lib.hid eX
      rw [eF] at g1 g3 z1 z3 HP3 HS3
      rw [HSZ.out] at HP3 HS3
      clear hp2 hs2 eP eF eD eX HG hgl hgn hfit HON hkc hkm
      go_wp2
      go_ret2
      refine ⟨ret_found rfl rfl, _, HP3.out, HS3.out, HE.out.1, HE.out.2.1, HE.out.2.2, ?_⟩
      show μ2.X.put k { μ2.X.fr k with t := b, u := true } = _
      rw [HX.out]
    · rw [if_neg he]
      have HF2 : Hid (∀ w1, PoolAt B (N + 1) w1 { μ with X := μ.X.load } → Calls Tryd.prog 40 #[.pointer (some ⟨μ.P, 0, none⟩), .int .i64 i] w1 fun e w' => e = .returned (.tuple #[.pointer none, .iface 60 (.int .i64 err)]) ∧ Goes B (N + 2) w1 { μ with X := μ.X.load } Y w') := Lib.hid fun w1 h1 => found_bad (HF.out w1 h1) he
      clear HF
      go_enter Tryd.func55, Tryd.ntmps55
      go_wp2_with (first | (go_at_call 73; refine HL.out.mono ?_; rintro e w1 ⟨g, cap, rfl, hl, hc, hgg, hp, hs⟩; have HP1 := Lib.hid hp; have HS1 := Lib.hid hs; clear hl hc hgg hp hs) | (go_at_call 40; refine (HF2.out w1 HP1.out).mono ?_; rintro e w2 ⟨rfl, hg⟩; have HG := Lib.hid hg; clear hg))
      go_ret2
      exact ⟨ret_none rfl he, Goes.trans HS1.out ⟨rfl, rfl, rfl⟩ (Nat.le_refl _) HG.out⟩
end Go.Proofs.YtkmedlbokneegaaDoor

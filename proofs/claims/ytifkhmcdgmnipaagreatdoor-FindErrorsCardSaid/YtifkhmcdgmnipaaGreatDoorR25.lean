/-
  LISTS OF CELLS in memory: one that lies there, one of the call's own. Conditions: those that each lemma names.
  THE WALK of eachOf, whatever takes the cells. Conditions: what takes them does so at each world on the way; the library's table lies as its text lays it.
-/
import Derived.Maps.AppendAt
import Derived.WalkKit
import Derived.Test.YtifkhmcdgmnipaaGreatDoorR22
import Derived.Test.YtifkhmcdgmnipaaGreatDoorR24
import Derived.Test.YtifkhmcdgmnipaaGreatDoorR06
namespace Go.Proofs.YtifkhmcdgmnipaaGreatDoor.Cl
open Go.RowKit Ru Ce

def cc (c : Cel) : List Value := [.int .i64 c.1, .int .i64 c.2]
def cv (c : Cel) : Value := .agg #[.int .i64 c.1, .int .i64 c.2]
/-- cells on end -/
def cl : List Cel → List Value
  | [] => []
  | c :: L => cc c ++ cl L
theorem cl_len : ∀ L : List Cel, (cl L).length = L.length * 2
  | [] => rfl
  | x :: L => by
    show (cc x ++ cl L).length = _
    rw [List.length_append, cl_len L, List.length_cons]
    show 2 + L.length * 2 = _
    omega
theorem cl_app : ∀ L M : List Cel, cl (L ++ M) = cl L ++ cl M
  | [], _ => rfl
  | x :: L, M => by
    show cc x ++ cl (L ++ M) = cc x ++ cl L ++ cl M
    rw [cl_app L M, List.append_assoc]
theorem cl_snoc (L : List Cel) (x : Cel) : cl L ++ cc x = cl (L ++ [x]) := by
  rw [cl_app]
  show cl L ++ cc x = cl L ++ (cc x ++ [])
  rw [List.append_nil]
theorem cc_one (x : Cel) : ∀ u ∈ cc x, u.oneCell' = true := by
  intro u hu
  simp [cc] at hu
  rcases hu with rfl | rfl <;> rfl
theorem cl_one : ∀ L : List Cel, ∀ u ∈ cl L, u.oneCell' = true
  | [], _, h => by cases h
  | x :: L, u, h => by
    rcases List.mem_append.1 h with h | h
    · exact cc_one x u h
    · exact cl_one L u h
theorem cl_at : ∀ (L : List Cel) (i : Nat) (h : i < L.length) (j : Nat), j < 2 → (cl L)[i * 2 + j]? = (cc L[i])[j]?
  | [], _, h, _, _ => absurd h (Nat.not_lt_zero _)
  | x :: L, 0, _, j, hj => by
    show (cc x ++ cl L)[0 * 2 + j]? = (cc x)[j]?
    rw [Nat.zero_mul, Nat.zero_add, List.getElem?_append_left hj]
  | x :: L, i + 1, h, j, hj => by
    have h2 : (cc x).length = 2 := rfl
    show (cc x ++ cl L)[(i + 1) * 2 + j]? = _
    rw [List.getElem?_append_right (by rw [h2]; omega), h2, show (i + 1) * 2 + j - 2 = i * 2 + j by omega]
    exact cl_at L i (by simpa using h) j hj
/-- cells that lie in memory -/
def Cls (w : World) (a : Option Addr) (L : List Cel) : Prop := ∀ i (h : i < L.length), ∃ b off, a = some ⟨b, off, none⟩ ∧ w.cell? ⟨b, off + i * 2, none⟩ = some (.int .i64 L[i].1) ∧ w.cell? ⟨b, off + i * 2 + 1, none⟩ = some (.int .i64 L[i].2)
theorem Cls.same {w w' : World} {a : Option Addr} {L : List Cel} (h : Cls w a L) (hb : ∀ b o, a = some ⟨b, o, none⟩ → w'.heap[b]? = w.heap[b]?) : Cls w' a L := fun i hi => by
  obtain ⟨b, off, ha, h0, h1⟩ := h i hi
  exact ⟨b, off, ha, (World.cell?_of_block (hb b off ha)).trans h0, (World.cell?_of_block (hb b off ha)).trans h1⟩
theorem Cls.below {w w' : World} {a : Option Addr} {L : List Cel} {n : Nat} (h : Cls w a L) (hb : Below n w w') (hn : w.heap.size ≤ n) : Cls w' a L := fun i hi => by
  obtain ⟨b, off, ha, h0, h1⟩ := h i hi
  have hlt : b < n := Nat.lt_of_lt_of_le (World.block_lt_of_cell? w _ h0) hn
  exact ⟨b, off, ha, (hb.cell (p := ⟨b, off + i * 2, none⟩) hlt).trans h0, (hb.cell (p := ⟨b, off + i * 2 + 1, none⟩) hlt).trans h1⟩
theorem Cls.lt {w : World} {b o : Nat} {L : List Cel} (h : Cls w (some ⟨b, o, none⟩) L) (h0 : 0 < L.length) : b < w.heap.size := by
  obtain ⟨b', off, ha, c0, _⟩ := h 0 h0
  obtain ⟨rfl, rfl⟩ : b = b' ∧ o = off := by simpa using ha
  exact World.block_lt_of_cell? w _ c0
theorem cls_nil (w : World) (a : Option Addr) : Cls w a [] := fun i hi => absurd hi (by simp)
theorem Cls.take {w : World} {a : Option Addr} {L : List Cel} (h : Cls w a L) (m : Nat) : Cls w a (L.take m) := fun i hi => by
  rw [List.length_take] at hi
  obtain ⟨b, off, ha, h0, h1⟩ := h i (by omega)
  exact ⟨b, off, ha, by rw [h0, List.getElem_take], by rw [h1, List.getElem_take]⟩
/-- numbers of 64 bits -/
def I6 (c : Cel) : Prop := (-9223372036854775808 ≤ c.1 ∧ c.1 ≤ 9223372036854775807) ∧ (-9223372036854775808 ≤ c.2 ∧ c.2 ≤ 9223372036854775807)
theorem i6_ok {c : Cel} (h : okc c = true) : I6 c := by
  have := (okc_iff c).1 h
  unfold I6
  omega
/-- a list of its own in new memory -/
abbrev OwnC (T : TypeId) (w : World) (B : Nat) (v : Value) (n : Nat) (L : List Cel) := w.ownsRow B T 2 v n (cl L)
theorem own_cls {T : TypeId} {w : World} {B n : Nat} {v : Value} {L : List Cel} (h : OwnC T w B v n L) : ∃ ao cap, v = .slice ao n cap ∧ Cls w ao L ∧ n ≤ cap ∧ cap ≤ 9223372036854775807 ∧ L.length = n ∧ (∀ b off, ao = some ⟨b, off, none⟩ → B ≤ b ∧ b < w.heap.size ∧ off = 0) ∧ (ao = none → n = 0) := by
  obtain ⟨hl, h⟩ := h
  have hn : L.length = n := by rw [cl_len] at hl; omega
  rcases h with ⟨rfl, h0⟩ | ⟨g, cap, cur, rfl, hB, hg, hnc, hm, hcs, ht⟩
  · obtain rfl : L = [] := List.eq_nil_of_length_eq_zero (by omega)
    exact ⟨none, 0, by rw [h0], cls_nil _ _, by omega, by omega, by omega, (fun b off e => by cases e), fun _ => h0⟩
  · unfold maxLen at hm
    refine ⟨_, cap, rfl, ?_, by omega, by omega, hn, (fun b off e => by injection e with e; injection e with e1 e2; exact ⟨by omega, by rw [← e1]; exact lt_of_block hg, e2.symm⟩), (fun e => by cases e)⟩
    intro i hi
    have key : ∀ j v, j < 2 → (cc L[i])[j]? = some v → w.cell? ⟨g, 0 + i * 2 + j, none⟩ = some v := fun j v hj hv => by
      rw [cell_of_row w _ _ _ _ _ hg, Nat.zero_add]
      have e := cl_at L i hi j hj
      rw [← ht, List.getElem?_take, if_pos (by omega), hv] at e
      simpa using e
    exact ⟨g, 0, rfl, key 0 _ (by omega) rfl, key 1 _ (by omega) rfl⟩
theorem own_keep {T : TypeId} {A C : World} {B n n₀ : Nat} {v : Value} {L : List Cel} (h : OwnC T A B v n L) (k : Below n₀ A C) (hk : A.heap.size ≤ n₀) : OwnC T C B v n L := by
  obtain ⟨e, h0 | ⟨g, cap, cur, hv, hb, hg, h2⟩⟩ := h
  · exact ⟨e, .inl h0⟩
  · exact ⟨e, .inr ⟨g, cap, cur, hv, hb, (k.block g (by have := lt_of_block hg; omega)).trans hg, h2⟩⟩
theorem cells2 (T : TypeId) (w : World) (x : Cel) : ∀ j u, (cc x)[j]? = some u → (w.alloc (.cells #[.int .i64 x.1, .int .i64 x.2] T)).cell? ((⟨w.heap.size, 0, none⟩ : Addr).add j) = some u := by
  intro j u hj
  rw [show (⟨w.heap.size, 0, none⟩ : Addr).add j = ⟨w.heap.size, j, none⟩ from by simp [Addr.add]; omega]
  rw [cell_of_row _ _ j _ _ _ (heap_alloc_new w _)]
  simpa [cc] using hj
set_option maxRecDepth 100000 in
theorem info_a : (Tryz.prog.info? 30).map (fun i => (i.zero, i.size, i.bytes)) = some (some (cv (0, 0)), 2, 16) := by kernel_rfl
/-- a list of cells in new memory -/
def NewC (T : TypeId) (w : World) (L : List Cel) (e : Ending) (w' : World) : Prop := ∃ v, e = .returned v ∧ OwnC T w' w.heap.size v L.length L ∧ Below w.heap.size w w'
theorem bdn {n : Nat} {w w' : World} (h : Below n w w') (q : Nat) : Below n w (w'.drewN q) := ⟨h.os, h.tape, h.output, h.size, h.block⟩
end Go.Proofs.YtifkhmcdgmnipaaGreatDoor.Cl
namespace Go.Proofs.YtifkhmcdgmnipaaGreatDoor
open Go.RowKit Ti Qd Ce Cl

theorem enter_run {P : Program} {f : FuncId} {fn : Func} (hf : P.funcs[f]? = some fn) (hname : (fn.name == "runtime.NumGoroutine") = false) (hb : fn.body.isNone = false) (args : Array Value) (w : World) :
    (callFunc f args).run P w = .ok (.enter f args) w := by
  have h1 : (fn.name = "runtime.NumGoroutine") = False := by simpa using hname
  have h2 : (fn.body = none) = False := eq_false fun e => by rw [e] at hb; cases hb
  simp [callFunc, hf, h1, h2]
/-- a cell near enough -/
def SmC (M : Int) (c : Cel) : Prop := (0 ≤ c.1 ∧ c.1 < M) ∧ (0 ≤ c.2 ∧ c.2 < M)
/-- what takes cells: a function value, what it keeps, and where that lies -/
structure Tk (N : Nat) (M : Int) (fid : Nat) (fi ca : Array Value) (I : List Cel → World → (Nat → Prop) → Prop) : Prop where
  enter : ∀ (args : Array Value) (w : World), (callFunc fid args).run Tryz.prog w = .ok (.enter fid args) w
  lt : ∀ pre w F, I pre w F → ∀ b, F b → b < w.heap.size
  up : ∀ pre w w' F, I pre w F → w.heap.size ≤ w'.heap.size → (∀ b, F b → w'.heap[b]? = w.heap[b]?) → I pre w' F
  call : ∀ pre c w F, pre.length < N → SmC M c → I pre w F → Calls Tryz.prog fid (fi.push (cv c) ++ ca) w fun e w' => e = .returned (.tuple #[]) ∧ ∃ F', I (pre ++ [c]) w' F' ∧ Stp w F w' F'
theorem Tk.below {N : Nat} {M : Int} {fid : Nat} {fi ca : Array Value} {I : List Cel → World → (Nat → Prop) → Prop} (h : Tk N M fid fi ca I) {pre : List Cel} {w w' : World} {F : Nat → Prop} (hI : I pre w F) (hb : Below w.heap.size w w') : I pre w' F :=
  h.up _ _ _ _ hI hb.size (fun b hF => hb.block b (h.lt _ _ _ hI b hF))
theorem TabZ.stp {w w' : World} {F F' : Nat → Prop} (h : TabZ w) (hF : ¬ F 2) (hs : Stp w F w' F') : TabZ w' ∧ ¬ F' 2 :=
  ⟨h.same (hs.block _ h.lt hF), fun k => (hs.own _ k).elim hF (fun g => absurd h.lt (by omega))⟩
set_option maxRecDepth 100000 in
set_option maxHeartbeats 1000000 in
theorem eachOf_ok {N : Nat} {M : Int} {fid : Nat} {fi ca : Array Value} {I : List Cel → World → (Nat → Prop) → Prop} (hk : Tk N M fid fi ca I) (t : T6) (pre : List Cel) (w : World) (F : Nat → Prop) (hI : I pre w F) (hT : TabZ w) (hF : ¬ F 2) (hN : pre.length + (tl t).length ≤ N) (hM : 8 ≤ M) :
    Calls Tryz.prog 36 #[.int .u64 (rg t), .func (.func fid) fi ca] w fun e w' => e = .returned (.tuple #[]) ∧ ∃ F', I (pre ++ tl t) w' F' ∧ Stp w F w' F' := by
  have HK := Lib.hid hk
  have HI := Lib.hid hI
  have HT := Lib.hid (And.intro hT hF)
  have HN := Lib.hid hN
  have HM := Lib.hid hM
  have HTL := Lib.hid (tl_tlN t)
  have HLT := Lib.hid (show t.toNat < 18446744073709551616 from t.isLt)
  unfold rg
  clear hk hI hT hF hN hM
  generalize t.toNat = x0 at *
  go_enter Tryz.func36, Tryz.ntmps36
  go_wp2
  go_loopw [4] (fun i wr => ∃ (x : Nat) (dn : List Cel), x < 18446744073709551616 ∧ i = .int .u64 (x : Int) ∧ Hid (tl t = dn ++ tlN x) ∧ Hid (∃ F', I (pre ++ dn) wr F' ∧ Stp w F wr F')) (fun i _ => (intOf i).toNat)
  case atStart => exact ⟨x0, [], HLT.out, rfl, Lib.hid (by rw [HTL.out]; rfl), Lib.hid ⟨F, by rw [List.append_nil]; exact HI.out, Stp.refl _ _⟩⟩
  case round =>
    obtain ⟨x, dn, hx, rfl, HD, HW⟩ := hrel
    by_cases h0 : x = 0
    · subst h0
      go_wp2
      go_end0
      refine ⟨rfl, ?_⟩
      have e := HD.out
      rw [tlN_zero, List.append_nil] at e
      rw [e]
      exact HW.out
    · have hx0 : ((x : Int) == 0) = false := by simp; omega
      have hx1 : ((x : Int) != 0) = true := by simp; omega
      obtain ⟨F1, hI1, hs1⟩ := HW.out
      obtain ⟨hk1, hk2, hk3⟩ := ones_step h0 hx
      have hstep := tlN_step h0 hx
      have hT1 := HT.out.1.stp HT.out.2 hs1
      have HZ := Lib.hid (tz_any x hx h0 wr hT1.1)
      have e1 : IntKind.u64.wrap ((x : Int) - 1) = ((x - 1 : Nat) : Int) := by rw [IntKind.wrap_u64]; omega
      have e2 := Go.bits_and_u64_nat x (x - 1) hx (by omega)
      generalize hy : x &&& (x - 1) = y at *
      generalize Go.Lib.ctz 64 x = k at *
      have HC := Lib.hid (HK.out.call (pre ++ dn) (((k % 8 : Nat) : Int), ((k / 8 : Nat) : Int)) wr F1 (by
        have h1 := HN.out
        have h2 := HD.out
        rw [hstep] at h2
        rw [h2, List.length_append, List.length_cons] at h1
        rw [List.length_append]
        omega) (by unfold SmC; simp only; have := HM.out; omega) hI1)
      have hcc : (((k % 8 : Nat) : Int), ((k / 8 : Nat) : Int)) = ((k : Int) % 8, (k : Int) / 8) := by simp
      unfold cv at HC
      have HE := Lib.hid (show tl t = (dn ++ [(((k % 8 : Nat) : Int), ((k / 8 : Nat) : Int))]) ++ tlN y by rw [HD.out, hstep, List.append_assoc]; rfl)
      have HS1 := Lib.hid hs1
      have HY := Lib.hid (And.intro hk3 (show y < 18446744073709551616 by omega))
      have HE1 := Lib.hid (And.intro e1 e2)
      have hcf := HK.out.enter
      rw [hcc] at HC HE
      clear hcc hI1 hs1 hstep hT1 hk3 hk2 HD HW e1 e2 hy
      have k0 : (0 : Int) ≤ (k : Int) := by omega
      go_wp2_with fail
      refine HZ.out.mono ?_
      rintro e w1 ⟨rfl, rfl⟩
      go_wp2_with fail
      refine HC.out.mono ?_
      rintro e w2 ⟨rfl, F2, hI2, hs2⟩
      have HW2 := Lib.hid (show ∃ F', I (pre ++ (dn ++ [((k : Int) % 8, (k : Int) / 8)])) w2 F' ∧ Stp w F w2 F' from ⟨F2, by rw [← List.append_assoc]; exact hI2, HS1.out.trans hs2⟩)
      clear hI2 hs2 HC
      obtain ⟨e1, e2⟩ := HE1.out
      go_wp2
      go_roundw
      case rel => exact ⟨y, _, HY.out.2, rfl, HE, HW2⟩
      case measure => have := HY.out.1; simp [intOf]; omega
end Go.Proofs.YtifkhmcdgmnipaaGreatDoor

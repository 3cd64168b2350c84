/-
  A BLOCK STAYS, AS PLAIN DATA; what is remembered; a square made wide, its middle, and how it goes on. Conditions: those that each lemma names.
-/
import Derived.Test.YtgimphkamjojpaaDoorE43
namespace Go.Proofs.YtgimphkamjojpaaDoor.Qd
open Ti Ru

/-- a block, wherever -/
def blk (a c : Int) : Pl := fun x y => decide (a ≤ x ∧ x ≤ a + 1 ∧ c ≤ y ∧ y ≤ c + 1)
theorem blk_shift (a c : Int) : blk a c = fun x y => blk 0 0 (-a + x) (-c + y) := by
  funext x y
  unfold blk
  rw [decide_eq_decide]
  omega
theorem blk_off {x y : Int} (h : x < 0 ∨ 1 < x ∨ y < 0 ∨ 1 < y) : blk 0 0 x y = false := decide_eq_false (by omega)
theorem nx_dead : nx 8 12 false 0 = false := by decide
theorem blk_near : ∀ u < 6, ∀ v < 6, gen 8 12 (blk 0 0) ((u : Nat) - 2 : Int) ((v : Nat) - 2 : Int) = blk 0 0 ((u : Nat) - 2 : Int) ((v : Nat) - 2 : Int) := by decide +kernel
theorem blk_00 : gen 8 12 (blk 0 0) = blk 0 0 := by
  funext x y
  by_cases h : -2 ≤ x ∧ x ≤ 3 ∧ -2 ≤ y ∧ y ≤ 3
  · have := blk_near (x + 2).toNat (by omega) (y + 2).toNat (by omega)
    rw [show (((x + 2).toNat : Nat) : Int) - 2 = x by omega, show (((y + 2).toNat : Nat) : Int) - 2 = y by omega] at this
    exact this
  · unfold gen nbr
    rw [blk_off (show x < 0 ∨ 1 < x ∨ y < 0 ∨ 1 < y by omega), blk_off (show x - 1 < 0 ∨ 1 < x - 1 ∨ y - 1 < 0 ∨ 1 < y - 1 by omega), blk_off (show x < 0 ∨ 1 < x ∨ y - 1 < 0 ∨ 1 < y - 1 by omega), blk_off (show x + 1 < 0 ∨ 1 < x + 1 ∨ y - 1 < 0 ∨ 1 < y - 1 by omega), blk_off (show x - 1 < 0 ∨ 1 < x - 1 ∨ y + 1 < 0 ∨ 1 < y + 1 by omega), blk_off (show x < 0 ∨ 1 < x ∨ y + 1 < 0 ∨ 1 < y + 1 by omega), blk_off (show x + 1 < 0 ∨ 1 < x + 1 ∨ y + 1 < 0 ∨ 1 < y + 1 by omega), blk_off (show x - 1 < 0 ∨ 1 < x - 1 ∨ y < 0 ∨ 1 < y by omega), blk_off (show x + 1 < 0 ∨ 1 < x + 1 ∨ y < 0 ∨ 1 < y by omega)]
    exact nx_dead
theorem blk_gen (a c : Int) : gen 8 12 (blk a c) = blk a c := by
  rw [blk_shift, gen_shift, blk_00]
theorem blk_gens (a c : Int) : ∀ n, gens 8 12 (blk a c) n = blk a c
  | 0 => rfl
  | n + 1 => by
    show gen 8 12 (gens 8 12 (blk a c) n) = _
    rw [blk_gens a c n, blk_gen]
/-- what was asked last is remembered -/
theorem grow_kn (b l : Nat) : ∀ (m : Nat) (s : GS) (id : Int) (j : Nat), (growQ b l m s id j).1.2 id j = some (growQ b l m s id j).2
  | 0, s, id, j => by
    unfold growQ
    cases e : s.2 id j with
    | some o => exact e
    | none => exact if_pos ⟨rfl, rfl⟩
  | m + 1, s, id, j => by
    unfold growQ
    cases e : s.2 id j with
    | some o => exact e
    | none => exact if_pos ⟨rfl, rfl⟩
def ctrG (s : GS) (id : Int) : GS × Int := midG s (kid (at' s.1 id) 0) (kid (at' s.1 id) 1) (kid (at' s.1 id) 2) (kid (at' s.1 id) 3)
theorem ctr_res {b l : Nat} {s : GS} (hs : GOk b l s) {n : Nat} (hn : n ≤ 36) {id : Int} {p : Pl} {ox oy : Int} (hw : Wn s.1 (n + 1) id p ox oy) : Res b l Tt 1 s (ctrG s id) n p (ox + (2 ^ (n + 2) : Nat)) (oy + (2 ^ (n + 2) : Nat)) :=
  mid_res (f := kid (at' s.1 id)) hs hn (fun i h4 => hw.kid hs.inv i h4) trivial
/-- a middle that is there makes nothing new -/
theorem gok_new (b l : Nat) {L : List Sq} (h : Inv L) : GOk b l (L, fun _ _ => none) := ⟨h, fun _ _ _ h => by cases h⟩
/-- the plane of a square alone -/
def solo (L : List Sq) (n : Nat) (id : Int) : Pl := fun x y => decide (0 ≤ x ∧ x < (2 ^ (n + 3) : Nat) ∧ 0 ≤ y ∧ y < (2 ^ (n + 3) : Nat)) && cel L n id x.toNat y.toNat
theorem solo_wn {L : List Sq} {n : Nat} {id : Int} (h : Lv L n id) : Wn L n id (solo L n id) 0 0 := ⟨h, fun x y hx hy => by
  unfold solo
  rw [decide_eq_true (by omega), Bool.true_and]
  simp⟩
theorem solo_alone (L : List Sq) (n : Nat) (id : Int) : Alone (solo L n id) 0 0 (2 ^ (n + 3)) := fun x y h => by
  unfold solo
  rw [decide_eq_false (by omega), Bool.false_and]
theorem Alone.more {p : Pl} {ox oy ux uy : Int} {w v : Nat} (h : Alone p ox oy w) (h1 : ux ≤ ox) (h2 : uy ≤ oy) (h3 : ox + w ≤ ux + v) (h4 : oy + w ≤ uy + v) : Alone p ux uy v := fun x y q => h x y (by omega)
/-- as many cells between wider lines -/
theorem alone_fld {p : Pl} {ox oy : Int} {w : Nat} (h : Alone p ox oy w) (a : Nat) : fldC p (ox - a) (oy - a) (a + w + a) (a + w + a) = fldC p ox oy w w := by
  have z : ∀ (ux uy : Int) (v k : Nat), (ux + v ≤ ox ∨ ox + w ≤ ux ∨ uy + k ≤ oy ∨ oy + w ≤ uy) → fldC p ux uy v k = 0 := fun ux uy v k q => fldC_zero p ux uy v k fun i j hi hj => h _ _ (by omega)
  rw [fldC_addh, fldC_addh, fldC_addw p _ _ (a + w) a, fldC_addw p _ _ (a + w) a, fldC_addw p _ _ (a + w) a, fldC_addw p _ _ a w, fldC_addw p _ _ a w, fldC_addw p _ _ a w]
  rw [z (ox - a) (oy - a) a a (by omega), z (ox - a + a) (oy - a) w a (by omega), z (ox - a + ((a + w : Nat) : Int)) (oy - a) a a (by omega), z (ox - a) (oy - a + a) a w (by omega), z (ox - a + ((a + w : Nat) : Int)) (oy - a + a) a w (by omega), z (ox - a) (oy - a + ((a + w : Nat) : Int)) a a (by omega), z (ox - a + a) (oy - a + ((a + w : Nat) : Int)) w a (by omega), z (ox - a + ((a + w : Nat) : Int)) (oy - a + ((a + w : Nat) : Int)) a a (by omega)]
  rw [show ox - (a : Int) + a = ox by omega, show oy - (a : Int) + a = oy by omega]
  omega
/-- the statement's chain of squares made wide: what comes of it -/
structure WideCh (b l : Nat) (s : GS) (n : Nat) (id : Int) (A B C D U V T : GS × Int) : Prop where
  lenB : B.1.1.length ≤ s.1.length + (2 * n + 11)
  lenT : T.1.1.length ≤ s.1.length + (2 * n + 11) + 2 + cst (n + 1) 0 + cst n 0 + 1
  kA : GOk b l A.1
  kB : GOk b l B.1
  kC : GOk b l C.1
  kD : GOk b l D.1
  kU : GOk b l U.1
  kV : GOk b l V.1
  eA : s.1 <+: A.1.1
  eB : A.1.1 <+: B.1.1
  eC : B.1.1 <+: C.1.1
  eD : C.1.1 <+: D.1.1
  eU : D.1.1 <+: U.1.1
  eV : U.1.1 <+: V.1.1
  eT : V.1.1 <+: T.1.1
  lA : Lv A.1.1 (n + 1) A.2
  lB : Lv B.1.1 (n + 2) B.2
  lU : Lv U.1.1 (n + 1) U.2
  c : C.2 = id
  d : D.2 = A.2
  t : T.2 = V.2
  cnt : (at' D.1.1 id).cnt = (at' D.1.1 B.2).cnt
theorem wide_ch (b l : Nat) {s : GS} (hs : GOk b l s) {n : Nat} (hn : n ≤ 20) {id : Int} (hl : Lv s.1 n id) (A B C D U V T : GS × Int) (hA : A = wideG s n id) (hB : B = wideG A.1 (n + 1) A.2) (hC : C = ctrG B.1 A.2) (hD : D = ctrG C.1 B.2) (hU : U = growQ b l (n + 1) D.1 B.2 0) (hV : V = growQ b l n U.1 A.2 0) (hT : T = ctrG V.1 U.2) : WideCh b l s n id A B C D U V T := by
  have p0 := solo_wn hl
  have al := solo_alone s.1 n id
  generalize solo s.1 n id = p at *
  have e1 : 2 ^ (n + 3) = 2 * 2 ^ (n + 2) := by rw [show n + 3 = n + 2 + 1 by omega, Nat.pow_succ]; omega
  have e2 : 2 ^ (n + 1 + 3) = 4 * 2 ^ (n + 2) := by rw [show n + 1 + 3 = n + 2 + 2 by omega, Nat.pow_add]; omega
  have e3 : 2 ^ (n + 1 + 2) = 2 * 2 ^ (n + 2) := by rw [show n + 1 + 2 = n + 3 by omega]; exact e1
  have ra := wide_res hs (by omega) p0 al
  rw [← hA] at ra
  have al2 : Alone p (0 - (2 ^ (n + 2) : Nat)) (0 - (2 ^ (n + 2) : Nat)) (2 ^ (n + 1 + 3)) := al.more (by omega) (by omega) (by omega) (by omega)
  have rb := wide_res ra.ok (n := n + 1) (by omega) ra.win al2
  rw [← hB] at rb
  have rc := ctr_res rb.ok (n := n) (by omega) (ra.win.ext ra.ok.inv rb.ext)
  rw [← hC] at rc
  have rd := ctr_res rc.ok (n := n + 1) (by omega) (rb.win.ext rb.ok.inv rc.ext)
  rw [← hD] at rd
  have bD := (rb.win.ext rb.ok.inv rc.ext).ext rc.ok.inv rd.ext
  have aD := ((ra.win.ext ra.ok.inv rb.ext).ext rb.ok.inv rc.ext).ext rc.ok.inv rd.ext
  have iD := (((p0.ext hs.inv ra.ext).ext ra.ok.inv rb.ext).ext rb.ok.inv rc.ext).ext rc.ok.inv rd.ext
  have ru := grow_ok b l (n + 1) Tt _ (uni_any b l) D.1 B.2 0 p _ _ rd.ok (by omega) (by omega) bD trivial
  rw [← hU] at ru
  have rv := grow_ok b l n Tt _ (uni_any b l) U.1 A.2 0 p _ _ ru.ok (by omega) (by omega) (aD.ext rd.ok.inv ru.ext) trivial
  rw [← hV] at rv
  have rt := ctr_res rv.ok (n := n) (by omega) (ru.win.ext ru.ok.inv rv.ext)
  rw [← hT] at rt
  refine ⟨?_, ?_, ra.ok, rb.ok, rc.ok, rd.ok, ru.ok, rv.ok, ra.ext, rb.ext, rc.ext, rd.ext, ru.ext, rv.ext, rt.ext, ra.win.1, rb.win.1, ru.win.1, ?_, ?_, ?_, ?_⟩
  · have := ra.len
    have := rb.len
    omega
  · have := ra.len
    have := rb.len
    have := rc.len
    have := rd.len
    have := ru.len
    have := rv.len
    have := rt.len
    omega
  · refine Wn.uniq rc.ok.inv rc.win (((p0.ext hs.inv ra.ext).ext ra.ok.inv rb.ext).ext rb.ok.inv rc.ext |>.ag fun x y _ _ => ?_)
    congr 1 <;> omega
  · refine Wn.uniq rd.ok.inv rd.win (aD.ag fun x y _ _ => ?_)
    congr 1 <;> omega
  · refine Wn.uniq rt.ok.inv rt.win ((rv.win.ext rv.ok.inv rt.ext).ag fun x y _ _ => ?_)
    congr 1 <;> omega
  · rw [cnt_wn rd.ok.inv n id p 0 0 (by omega) iD, cnt_wn rd.ok.inv (n + 2) B.2 p _ _ (by omega) bD]
    have e4 : 2 ^ (n + 2 + 3) = 3 * 2 ^ (n + 2) + 2 * 2 ^ (n + 2) + 3 * 2 ^ (n + 2) := by rw [show n + 2 + 3 = n + 2 + 3 by rfl, Nat.pow_add 2 (n + 2) 3]; omega
    have h1 := alone_fld al (3 * 2 ^ (n + 2))
    rw [e4, e3, show (0 : Int) - (2 ^ (n + 2) : Nat) - (2 * 2 ^ (n + 2) : Nat) = 0 - (3 * 2 ^ (n + 2) : Nat) by omega]
    rw [e1] at h1
    rw [h1]
end Go.Proofs.YtgimphkamjojpaaDoor.Qd

/-
  THE WALK of In. Conditions: the store lies in memory, the library's table as its text lays it.
  THE WALK of check and Of. Conditions: the store lies in memory, the cells too; there is room.
-/
import Derived.Test.YtifkhmcdgmnipaaGreatDoorR43
namespace Go.Proofs.YtifkhmcdgmnipaaGreatDoor
open Go.RowKit Ti Qd Ce Cl Go.Maps Go.WideMaps

theorem count_all {B P : Nat} {L : List Sq} {room : Nat} {H : Nat → Prop} {C M : Nat} {E : Cnr} : ∀ n, n ≤ 37 → CountP B P L room H C M E n
  | 0, h => fun id lo hi w hct hl ha => cnt_part 0 h hct id hl lo hi ha (fun lo hi W hct' _ _ => counted_tile hct' id hl lo hi)
  | n + 1, h => fun id lo hi w hct hl ha => cnt_part (n + 1) h hct id hl lo hi ha (fun lo hi W hct' hk hw => counted_node n (by omega) (count_all n (by omega)) hct' id hl lo hi hk hw)
set_option maxRecDepth 100000 in
set_option maxHeartbeats 1000000 in
theorem in_ok {B P : Nat} {L : List Sq} {room : Nat} {H : Nat → Prop} {w : World} (hs : St B w P L room H) (hT : TabZ w) (n : Nat) (hn : n ≤ 37) (id : Int) (hl : Lv L n id) (lo hi : Cel) :
    Calls Tryz.prog 8 #[.pointer (some ⟨P, 0, none⟩), .int .i64 id, cv lo, cv hi] w fun e w' => e = .returned (.tuple #[.int .i64 (inV L n id lo hi), .nilIface]) ∧ Below w.heap.size w w' := by
  have hb1 : Below w.heap.size w ((w.alloc (ca2 lo)).alloc (ca2 hi)) := bstep (alX w _) (alX _ _)
  have e1 : ((w.alloc (ca2 lo)).alloc (ca2 hi)).heap.size = w.heap.size + 1 + 1 := by simp
  obtain ⟨W1, hW1⟩ : ∃ W1, W1 = (w.alloc (ca2 lo)).alloc (ca2 hi) := ⟨_, rfl⟩
  rw [← hW1] at hb1 e1
  have hm := World.ownsMap_made (H := Unit) W1 Tryz.prog 66 (plainElem Tryz.prog 3)
  have e2 : (W1.alloc (.map #[] 0)).heap.size = w.heap.size + 1 + 1 + 1 := by rw [World.size_alloc, e1]
  have hC := heap_alloc_new (W1.alloc (.map #[] 0)) (.cells #[.pointer (some ⟨P, 0, none⟩), .map (some W1.heap.size)] 63)
  rw [e2, e1] at hC
  have hbM : Below w.heap.size w ((W1.alloc (.map #[] 0)).alloc (.cells #[.pointer (some ⟨P, 0, none⟩), .map (some W1.heap.size)] 63)) := bstep (bstep hb1 (alX _ _)) (alX _ _)
  rw [e1] at hbM
  have hkn : KAtP L (cnr n lo hi) ((W1.alloc (.map #[] 0)).alloc (.cells #[.pointer (some ⟨P, 0, none⟩), .map (some (w.heap.size + 1 + 1))] 63)) (w.heap.size + 1 + 1) := by
    rw [e1] at hm
    exact ⟨_, [], hm.alloc _, mpP_nil L, List.nodup_nil, fun k hk => by cases hk⟩
  have hct : Ct B P L room H (w.heap.size + 1 + 1 + 1) (w.heap.size + 1 + 1) (cnr n lo hi) ((W1.alloc (.map #[] 0)).alloc (.cells #[.pointer (some ⟨P, 0, none⟩), .map (some (w.heap.size + 1 + 1))] 63)) :=
    ⟨hs.below hbM (Nat.le_refl _), hC, hkn, fun h => by have := (hs.lt _ h).2; omega, by omega, hT.below hbM, by have := hT.lt; omega⟩
  have HCT := Lib.hid (count_all (B := B) (P := P) (L := L) (room := room) (H := H) (C := w.heap.size + 1 + 1 + 1) (M := w.heap.size + 1 + 1) (E := cnr n lo hi) n hn id lo hi _ hct hl (ask_top n lo hi))
  have HB := Lib.hid hbM
  have hmm := @run_makeMap Tryz.prog
  subst hW1
  clear hb1 e1 e2 hC hkn hct hs hT hl hm hbM
  unfold pv cv at *
  simp only at HCT
  generalize inV L n id lo hi = x at *
  obtain ⟨lx, ly⟩ := lo
  obtain ⟨hx, hy⟩ := hi
  go_enter Tryz.func8, Tryz.ntmps8
  go_wp2_with fail
  refine HCT.out.mono ?_
  rintro e w2 ⟨rfl, hg⟩
  have HX := Lib.hid (HB.out.trans (hg.s.below (B := w.heap.size) (fun b hb => by have : b = w.heap.size + 1 + 1 := hb; omega) HB.out.size))
  clear hg HCT
  go_wp2
  go_ret2
  exact ⟨rfl, HX.out⟩
end Go.Proofs.YtifkhmcdgmnipaaGreatDoor
namespace Go.Proofs.YtifkhmcdgmnipaaGreatDoor
open Go.RowKit Ti Qd Ce Cl Go.Maps Go.WideMaps

/-- cells that lie there -/
def Lyc (w : World) (a : Option Addr) (l : List Cel) : Prop := ∀ i c, l[i]? = some c → ∃ b off, a = some ⟨b, off, none⟩ ∧ w.cell? ⟨b, off + i * 2, none⟩ = some (.int .i64 c.1) ∧ w.cell? ⟨b, off + i * 2 + 1, none⟩ = some (.int .i64 c.2)
theorem Lyc.same {w w' : World} {a : Option Addr} {l : List Cel} (h : Lyc w a l) (hb : ∀ b o, a = some ⟨b, o, none⟩ → b < w.heap.size → w'.heap[b]? = w.heap[b]?) : Lyc w' a l := fun i c hc => by
  obtain ⟨b, off, ha, h0, h1⟩ := h i c hc
  have hlt := World.block_lt_of_cell? w _ h0
  exact ⟨b, off, ha, (World.cell?_of_block (hb b off ha hlt)).trans h0, (World.cell?_of_block (hb b off ha hlt)).trans h1⟩
theorem Lyc.below {w w' : World} {a : Option Addr} {l : List Cel} (h : Lyc w a l) (hb : Below w.heap.size w w') : Lyc w' a l := h.same fun b _ _ hlt => hb.block b hlt
theorem own_lyc {T : TypeId} {w : World} {B n : Nat} {v : Value} {l : List Cel} (h : OwnC T w B v n l) : ∃ a cap, v = .slice a l.length cap ∧ Lyc w a l ∧ (∀ b o, a = some ⟨b, o, none⟩ → B ≤ b) := by
  obtain ⟨ao, cap, rfl, hc, _, _, hl, hb, _⟩ := own_cls h
  refine ⟨ao, cap, by rw [hl], fun i c hi => ?_, fun b o e => (hb b o e).1⟩
  have hlt : i < l.length := by
    rcases Nat.lt_or_ge i l.length with g | g
    · exact g
    · rw [List.getElem?_eq_none g] at hi
      cases hi
  obtain ⟨b, off, ha, h0, h1⟩ := hc i hlt
  rw [List.getElem?_eq_getElem hlt] at hi
  have : l[i] = c := Option.some.inj hi
  rw [this] at h0 h1
  exact ⟨b, off, ha, h0, h1⟩
theorem wrap_kc {k m : Nat} (h : k < m) (hm : m ≤ 4096) : wrap64 ((k : Int) + 1) = (k : Int) + 1 := by unfold wrap64; omega
theorem check_nil (lv : Int) (v : Value) (w : World) : Calls Tryz.prog 14 #[.pointer none, .int .i64 lv, v] w fun e w' => e = .returned (.iface 54 (.int .i64 1)) ∧ Below w.heap.size w w' := by
  go_enter Tryz.func14, Tryz.ntmps14
  go_wp2
  go_ret
  exact ⟨rfl, Below.refl _ _⟩
theorem check_long (P : Addr) (n : Nat) (hn : n ≤ 37) (a : Option Addr) (m cap : Nat) (hm : 4096 < m) (w : World) : Calls Tryz.prog 14 #[.pointer (some P), .int .i64 ((n : Int) + 3), .slice a m cap] w fun e w' => e = .returned (.iface 54 (.int .i64 2)) ∧ Below w.heap.size w w' := by
  have m1 : (4096 : Int) < (m : Int) := by omega
  have n0 : (0 : Int) ≤ (n : Int) := by omega
  have n1 : ¬ ((n : Int) + 3 < 3) := by omega
  have n2 : ¬ (40 < (n : Int) + 3) := by omega
  go_enter Tryz.func14, Tryz.ntmps14
  go_wp2
  go_ret
  exact ⟨rfl, Below.refl _ _⟩
set_option maxRecDepth 100000 in
set_option maxHeartbeats 1000000 in
theorem check_ok (P : Addr) (n : Nat) (hn : n ≤ 37) (a : Option Addr) (l : List Cel) (m cap : Nat) (hm : l.length = m) (hm2 : m ≤ 4096) (w : World) (hl : Lyc w a l) (hin : ∀ c ∈ l, InS n c) :
    Calls Tryz.prog 14 #[.pointer (some P), .int .i64 ((n : Int) + 3), .slice a m cap] w fun e w' => e = .returned .nilIface ∧ Below w.heap.size w w' := by
  have m1 : ¬ ((4096 : Int) < (m : Int)) := by omega
  have n0 : (0 : Int) ≤ (n : Int) := by omega
  have n1 : ¬ ((n : Int) + 3 < 3) := by omega
  have n2 : ¬ (40 < (n : Int) + 3) := by omega
  have hsh := shl_run hn
  have h40 := two40 hn
  have hp := Nat.two_pow_pos (n + 3)
  have HI := Lib.hid (fun (k : Nat) (c : Cel) (hc : l[k]? = some c) => hin c (List.mem_of_getElem? hc))
  have HL := Lib.hid hl
  have HM := Lib.hid (And.intro hm hm2)
  have HG := Lib.hid (fun k (hk : k < l.length) => (⟨l[k], List.getElem?_eq_getElem hk⟩ : ∃ c, l[k]? = some c))
  unfold InS at HI
  clear hl hin hm
  generalize 2 ^ (n + 3) = p at *
  go_enter Tryz.func14, Tryz.ntmps14
  go_wp2_with fail
  go_loopw [30] (fun i wr => ∃ k : Nat, k ≤ m ∧ i = .int .i64 (k : Int) ∧ Hid (Below w.heap.size w wr)) (fun i _ => m - (intOf i).toNat)
  case atStart => exact ⟨0, by omega, rfl, Lib.hid (Below.refl _ _)⟩
  case round =>
    obtain ⟨k, hk, rfl, HB⟩ := hrel
    have k0 : (0 : Int) ≤ (k : Int) := by omega
    by_cases hlt : k < m
    · have k1 : (k : Int) < (m : Int) := by omega
      obtain ⟨c, hc⟩ := HG.out k (by rw [HM.out.1]; exact hlt)
      obtain ⟨b, off, rfl, c0, c1⟩ := (HL.out.below HB.out) k c hc
      obtain ⟨i0, i1, i2, i3⟩ := HI.out k c hc
      have HX := Lib.hid (And.intro hlt (wrap_kc hlt hm2))
      have HB2 := Lib.hid (bstep HB.out (alX wr (ca2 c)))
      obtain ⟨cx, cy⟩ := c
      simp only at c0 c1 i0 i1 i2 i3
      have j0 : ¬ cx < 0 := by omega
      have j1 : ¬ (p : Int) - 1 < cx := by omega
      have j2 : ¬ cy < 0 := by omega
      have j3 : ¬ (p : Int) - 1 < cy := by omega
      clear hlt hc
      go_wp2
      go_roundw
      case rel => exact ⟨k + 1, by have := HX.out.1; omega, by go_num, HB2⟩
      case measure =>
        exact meas_k HX.out.1
    · obtain rfl : k = m := by omega
      go_wp2
      go_ret
      exact ⟨rfl, HB.out⟩
/-- one cell that is none of the square -/
theorem check_range (P : Addr) (n : Nat) (hn : n ≤ 37) (b off cap : Nat) (c : Cel) (w : World) (c0 : w.cell? ⟨b, off, none⟩ = some (.int .i64 c.1)) (c1 : w.cell? ⟨b, off + 1, none⟩ = some (.int .i64 c.2)) (hc : c.1 = ((2 ^ (n + 3) : Nat) : Int)) :
    Calls Tryz.prog 14 #[.pointer (some P), .int .i64 ((n : Int) + 3), .slice (some ⟨b, off, none⟩) 1 cap] w fun e w' => e = .returned (.iface 54 (.int .i64 4)) ∧ Below w.heap.size w w' := by
  have n0 : (0 : Int) ≤ (n : Int) := by omega
  have n1 : ¬ ((n : Int) + 3 < 3) := by omega
  have n2 : ¬ (40 < (n : Int) + 3) := by omega
  have hsh := shl_run hn
  have h40 := two40 hn
  have hp := Nat.two_pow_pos (n + 3)
  obtain ⟨cx, cy⟩ := c
  simp only at *
  generalize 2 ^ (n + 3) = p at *
  have j0 : ¬ cx < 0 := by omega
  have j1 : (p : Int) - 1 < cx := by omega
  clear hc
  have HB := Lib.hid (alX w (ca2 (cx, cy)))
  go_enter Tryz.func14, Tryz.ntmps14
  go_wp2_with fail
  go_loopw [30] (fun i wr => i = .int .i64 0 ∧ wr = w) (fun i _ => 1 - (intOf i).toNat)
  case atStart => exact ⟨rfl, rfl⟩
  case round =>
    obtain ⟨rfl, rfl⟩ := hrel
    go_wp2
    go_ret
    exact ⟨rfl, HB.out⟩
theorem St.ptr {B : Nat} {w : World} {P : Nat} {L : List Sq} {room : Nat} {H : Nat → Prop} (_h : St B w P L room H) : True := trivial
theorem of_bad (pt : Option Addr) (lv : Int) (v : Value) (er : Int) (w : World) (h : Calls Tryz.prog 14 #[.pointer pt, .int .i64 lv, v] w fun e w' => e = .returned (.iface 54 (.int .i64 er)) ∧ Below w.heap.size w w') :
    Calls Tryz.prog 5 #[.pointer pt, .int .i64 lv, v] w fun e w' => e = .returned (.tuple #[.int .i64 0, .iface 54 (.int .i64 er)]) ∧ Below w.heap.size w w' := by
  have H := Lib.hid h
  clear h
  go_enter Tryz.func5, Tryz.ntmps5
  go_wp2_with fail
  refine H.out.mono ?_
  rintro e w1 ⟨rfl, hb⟩
  have HB := Lib.hid hb
  clear hb H
  go_wp2
  go_ret2
  exact ⟨rfl, HB.out⟩
set_option maxRecDepth 100000 in
set_option maxHeartbeats 2000000 in
theorem of_ok' {B P : Nat} {L : List Sq} {room : Nat} {H : Nat → Prop} {w : World} (hs : St B w P L room H) (n : Nat) (hn : n ≤ 37) (a : Option Addr) (l : List Cel) (m cap : Nat) (hm : l.length = m) (hm2 : m ≤ 4096) (hl : Lyc w a l) (hd : ∀ b o, a = some ⟨b, o, none⟩ → ¬ H b) (hin : ∀ c ∈ l, InS n c) (hr : ∀ k, k ≤ l.length → (ofL n (l.take k) (emp L n)).1.length ≤ room) :
    Calls Tryz.prog 5 #[.pointer (some ⟨P, 0, none⟩), .int .i64 ((n : Int) + 3), .slice a m cap] w fun e w' => e = .returned (.tuple #[.int .i64 (ofL n l (emp L n)).2, .nilIface]) ∧ Goes B w P room H (ofL n l (emp L n)).1 w' := by
  have HCK := Lib.hid (check_ok ⟨P, 0, none⟩ n hn a l m cap hm hm2 w hl hin)
  have he := emp_ok hs.inv n hn
  have HE := Lib.hid (fun (W : World) (h : St B W P L room H) => empty_ok h n ((n : Int) + 3) rfl hn (by have := hr 0 (Nat.zero_le _); simpa [ofL] using this))
  have HOK := Lib.hid (fun k (hk : k ≤ l.length) => of_ok he.inv hn he.lv l hin k hk)
  have HST := Lib.hid (fun (W : World) (H' : Nat → Prop) (hst : Stp w H W H') => (show Lyc W a l from hl.same fun b o e hlt => hst.block b hlt (hd b o e)))
  have HIN := Lib.hid (fun (k : Nat) (c : Cel) (hc : l[k]? = some c) => hin c (List.mem_of_getElem? hc))
  have HR := Lib.hid hr
  have HM := Lib.hid (And.intro hm hm2)
  have HG := Lib.hid (fun k (hk : k < l.length) => (⟨l[k], List.getElem?_eq_getElem hk⟩ : ∃ c, l[k]? = some c))
  have HS := Lib.hid hs
  have HT0 := Lib.hid (show ofL n (l.take 0) (emp L n) = emp L n from rfl)
  have HTA := Lib.hid (show l.take m = l from by rw [← hm]; exact List.take_length ..)
  have HTK := Lib.hid (fun (k : Nat) (c : Cel) (hc : l[k]? = some c) => (show ofL n (l.take (k + 1)) (emp L n) = setC n (ofL n (l.take k) (emp L n)) c from by
    rw [List.take_add_one, hc]
    exact ofL_snoc n _ c _))
  clear hs hl hin hr hd he hm
  go_enter Tryz.func5, Tryz.ntmps5
  go_wp2_with fail
  refine HCK.out.mono ?_
  rintro e w1 ⟨rfl, hb⟩
  have HE1 := Lib.hid (HE.out w1 (HS.out.below hb (Nat.le_refl _)))
  have HB := Lib.hid hb
  clear hb HE HCK
  go_wp2_with fail
  refine HE1.out.mono ?_
  rintro e w2 ⟨rfl, hg⟩
  have HG2 := Lib.hid (show Goes B w P room H (ofL n (l.take 0) (emp L n)).1 w2 from by
    rw [HT0.out]
    exact Goes.trans (.of_below HB.out) hg)
  clear hg HE1 HB
  go_wp2_with fail
  go_loopw [9, 31] (fun t i wr => ∃ k : Nat, k ≤ m ∧ i = .int .i64 (k : Int) ∧ t = .int .i64 (ofL n (l.take k) (emp L n)).2 ∧ Hid (Goes B w P room H (ofL n (l.take k) (emp L n)).1 wr)) (fun _ i _ => m - (intOf i).toNat)
  case atStart => exact ⟨0, by omega, rfl, by rw [HT0.out], HG2⟩
  case round =>
    clear HG2
    obtain ⟨k, hk, rfl, rfl, HR2⟩ := hrel
    have k0 : (0 : Int) ≤ (k : Int) := by omega
    by_cases hlt : k < m
    · have k1 : (k : Int) < (m : Int) := by omega
      obtain ⟨c, hc⟩ := HG.out k (by rw [HM.out.1]; exact hlt)
      obtain ⟨H1, hst, hsp⟩ := HR2.out
      obtain ⟨b, off, rfl, c0, c1⟩ := HST.out wr H1 hsp k c hc
      have hi := HIN.out k c hc
      have hok := HOK.out k (by rw [HM.out.1]; exact hk)
      have hnat := ins_nat hi
      have hroom := HR.out (k + 1) (by rw [HM.out.1]; exact hlt)
      have htk := HTK.out k c hc
      rw [htk] at hroom
      have HX := Lib.hid (And.intro hlt htk)
      obtain ⟨cx, cy⟩ := c
      unfold InS at hi
      simp only at c0 c1 hi hnat
      obtain ⟨x, rfl⟩ : ∃ x : Nat, cx = (x : Int) := ⟨cx.toNat, by omega⟩
      obtain ⟨y, rfl⟩ : ∃ y : Nat, cy = (y : Int) := ⟨cy.toNat, by omega⟩
      rw [Int.toNat_natCast, Int.toNat_natCast] at hnat
      have HSP := Lib.hid hsp
      have HSE := Lib.hid (fun (W : World) (h' : St B W P (ofL n (l.take k) (emp L n)).1 room H1) => set_is true n (ofL n (l.take k) (emp L n)).1 H1 (ofL n (l.take k) (emp L n)).2 x y W h' hok.lv hn hnat.1 hnat.2 hroom)
      have HST1 := Lib.hid (hst.below (alX wr (ca2 ((x : Int), (y : Int)))) (Nat.le_refl _))
      have HSE1 := Lib.hid (HSE.out _ HST1.out)
      clear hst hsp hi hok hnat hroom htk hc hlt HR2 HSE
      have hsc : setC n (ofL n (l.take k) (emp L n)) ((x : Int), (y : Int)) = setQ (ofL n (l.take k) (emp L n)).1 n (ofL n (l.take k) (emp L n)).2 x y true := rfl
      rw [hsc] at HX
      clear hsc
      generalize ofL n (l.take k) (emp L n) = rk at *
      go_wp2_with fail
      refine HSE1.out.mono ?_
      rintro e w3 ⟨rfl, hg⟩
      have HN := Lib.hid (show Goes B w P room H (ofL n (l.take (k + 1)) (emp L n)).1 w3 from by
        rw [HX.out.2]
        exact Goes.trans (HSP.out.trans (.of_below (alX wr (ca2 ((x : Int), (y : Int)))))) hg)
      have HV := Lib.hid (congrArg Prod.snd HX.out.2)
      clear hg HSE1
      rw [← HV.out]
      go_wp2
      go_roundw
      case rel => exact ⟨k + 1, by have := HX.out.1; omega, by go_num, rfl, HN⟩
      case measure => exact meas_k HX.out.1
    · obtain rfl : k = m := by omega
      rw [HTA.out] at HR2 ⊢
      go_wp2
      go_ret2
      exact ⟨rfl, HR2.out⟩
end Go.Proofs.YtifkhmcdgmnipaaGreatDoor

/-
  OPENED: the walk of Open. Conditions: those that each lemma names.
  HOW MANY SECTORS ARE FREE, plainly; a shadow over a disk that another one has; one opened again. Conditions: those that each lemma names.
-/
import Derived.Test.YtokikeenfpligaaGreatDoorU44
import Derived.Test.YtokikeenfpligaaGreatDoorU42
namespace Go.Proofs.YtokikeenfpligaaGreatDoor.Sh
open Go.RowKit Go.Maps

/-- what a disk must have, so that it is opened: a root that counts, and its tables -/
structure OpenOk (n : Nat) (ct : Nat → ByteArray) (root ep : Nat) (tb : List Nat) (kp : Nat → Nat) : Prop where
  st : ∃ st : Nat → Option (Nat × List Nat), (∀ r, r < 2 → Rt ct r (st r)) ∧ best st 2 = some (root, ep, tb)
  r2 : root < 2
  e1 : ep < 4611686018427387904
  sk : Secs n tb kp
  it : IsTbl kp tb.length
  b : ∀ k, kp k ≠ 0 → k < 15006
  tt : ∀ i (h : i < tb.length), ct tb[i] = bt (pg4 84 (i : Int) (ep : Int) (tbl kp i))
theorem OpenOk.l122 {n : Nat} {ct : Nat → ByteArray} {root ep : Nat} {tb : List Nat} {kp : Nat → Nat} (h : OpenOk n ct root ep tb kp) : tb.length ≤ 122 := by
  rcases h.it.2 with e | ⟨k, hk, e⟩
  · omega
  · have := h.b k hk; omega
theorem Inv.openOk {σ : Sd} {Q : Nat → Prop} {pk pn : Nat → Sm.Pg} (h : Inv σ Q pk pn) (hb : ∀ k, σ.kp k ≠ 0 → k < 15006) {ct : Nat → ByteArray} (hct : ∀ q, q < 2 ∨ q ∈ σ.tb → ct q = σ.ct q) : OpenOk σ.n ct σ.root σ.ep σ.tb σ.kp := by
  obtain ⟨st, s1, s2, s3⟩ := h.st
  exact ⟨⟨st, fun r hr => rt_ne (s1 r hr) (hct r (.inl hr)), s3⟩, h.r2, h.e1, h.sk, h.it, hb, fun i hi => by rw [hct _ (.inr (List.getElem_mem hi))]; exact h.tt i hi⟩
def Newest5 (W : World) (N : Nat) (w : World) (p D : Nat) (ct : Nat → ByteArray) (Q : Nat → Prop) (n m : Nat) (H : Nat → Prop) (root ep : Nat) (tb : List Nat) (e : Ending) (w' : World) : Prop :=
  ∃ ra cap H1 B C, e = .returned (.tuple #[.agg #[.int .u8 82, .int .u32 0, .int .u64 (ep : Int), .int .i64 4, .slice ra tb.length cap], .int .i64 (root : Int), .bool true]) ∧ OwnIn B C w' (.slice ra tb.length cap) tb.length (tb.map rec4) ∧ w.heap.size < B ∧ C ≤ w'.heap.size ∧ (∀ k, H1 k → k < B ∨ C ≤ k) ∧ PS W N w' p D ct Q n m H1 ∧ Stp w H w' H1
theorem newest5 {W w : World} {N p D n m : Nat} {ct : Nat → ByteArray} {Q H : Nat → Prop} (P : Nat) (h : PS W N w p D ct Q n m H) (c0 : w.cell? ⟨P, 0, none⟩ = some (.pointer (some ⟨p, 0, none⟩))) (hPH : ¬ H P) (h2 : 2 ≤ n) {root ep : Nat} {tb : List Nat} {kp : Nat → Nat} (ho : OpenOk n ct root ep tb kp) (hN : N + 6 < 2305843009213693952) :
    Calls Tryz.prog 35 #[.pointer (some ⟨P, 0, none⟩)] w (Newest5 W (N + 4) w p D ct Q n m H root ep tb) := by
  obtain ⟨st, s1, s2⟩ := ho.st
  refine (newest_any P h c0 hPH h2 st s1 hN).mono ?_
  rintro e w' ⟨ra, cap, H1, B, C, rfl, hr, hB, hC, hdj, hps, hst⟩
  have hl : (bpg (some (root, ep, tb))).recs.length = tb.length := by simp [bpg, pg4]
  rw [s2] at hr ⊢
  rw [hl] at hr ⊢
  exact ⟨ra, cap, H1, B, C, rfl, hr, hB, hC, hdj, hps, hst⟩
theorem ownRecs_at {B : Nat} {w : World} {ra : Option Addr} {n cap : Nat} {rs : List (List Int)} (h : Sm.OwnRecs B w (.slice ra n cap) n rs) : Sm.Recs w ra rs := by
  obtain ⟨a, c, e, hr, _⟩ := h.recs
  obtain ⟨rfl, _⟩ : ra = a ∧ cap = c := by simpa using e
  exact hr
theorem tabs_slice {w : World} {base : Nat} {H : Nat → Prop} {v : Value} {e : Nat} {f : Nat → Nat} {k : Nat} (h : TabsR w base H v e f k) : ∃ va vc, v = .slice va k vc := by
  obtain ⟨g, h1, _⟩ := h
  exact Sm.own_slice h1
def OpenE (W : World) (N : Nat) (w : World) (D n m : Nat) (Hd : Nat → Prop) (ct : Nat → ByteArray) (root ep : Nat) (tb : List Nat) (kp : Nat → Nat) (e : Ending) (w' : World) : Prop :=
  ∃ σ : Sd, e = .returned (.tuple #[.pointer (some ⟨σ.P, 0, none⟩), .nilIface]) ∧ Sh W N w' σ (fun _ => True) ∧ (σ.D = D ∧ σ.n = n ∧ σ.m = m ∧ σ.tb = tb ∧ σ.kp = kp ∧ σ.nw = kp ∧ σ.root = root ∧ σ.ep = ep ∧ σ.fl = false ∧ σ.ct = ct) ∧ Tk n tb kp σ.S ∧ Stp w Hd w' σ.all ∧ w.heap.size ≤ σ.P
set_option maxRecDepth 100000 in
set_option maxHeartbeats 4000000 in
theorem open_any {W w : World} {D n N : Nat} {ct : Nat → ByteArray} {Hd : Nat → Prop} (m : Nat) (h : DkS W w D n ct N Hd) (hHd : ∀ k, Hd k → k < w.heap.size) (h4 : 4 ≤ n) (hn : n ≤ 16384) (h1 : 1 ≤ m) (h2 : m ≤ 1024) {root ep : Nat} {tb : List Nat} {kp : Nat → Nat} (ho : OpenOk n ct root ep tb kp) (hN : N + 10000 < 2305843009213693952) :
    Calls Tryz.prog 17 #[.pointer (some ⟨D, 0, none⟩), .int .i64 (m : Int)] w (OpenE W (N + 20000) w D n m Hd ct root ep tb kp) := by
  have HD := Lib.hid h
  have HHD := Lib.hid hHd
  have HO := Lib.hid ho
  have h122 := ho.l122
  have he := ho.e1
  have HWW := Lib.hid (show W.heap.size ≤ w.heap.size by obtain ⟨d, hd, _⟩ := h; exact hd.b.size)
  clear h hHd ho
  go_enter Tryz.func17, Tryz.ntmps17
  go_wp2_with fail
  refine (on_any m HD.out HHD.out h4 hn h1 h2).mono ?_
  rintro e w1 ⟨P, p, K, G, T, H, rfl, hon⟩
  have HON := Lib.hid hon
  clear hon
  go_wp2_with fail
  refine (newest5 P HON.out.ps HON.out.hd.c0 HON.out.nh.1 (by omega) HO.out (by omega)).mono ?_
  rintro e w2 ⟨ra, cap, H2, B, C, rfl, hr, hB, hC, hdj, hps, hst⟩
  obtain ⟨k0, hk0⟩ : ∃ k0, k0 = tb.length := ⟨_, rfl⟩
  rw [← hk0] at hr h122 ⊢
  have HK0 := Lib.hid hk0
  clear hk0
  have hba := Sm.alX w2 (.cells #[.int .u8 82, .int .u32 0, .int .u64 (ep : Int), .int .i64 4, .slice ra k0 cap] 47)
  have HP2 := Lib.hid (hps.below hba)
  have HT2 := Lib.hid (hst.trans (.of_below (H := H2) hba))
  have HX2 := Lib.hid (box_new w2 82 0 (ep : Int) 4 (.slice ra k0 cap))
  have HR2 := Lib.hid (hr.step fun k _ hk => hba.block k (by omega))
  have HBC := Lib.hid (And.intro hB (And.intro hC hdj))
  have HGH := Lib.hid (show ¬ H2 w2.heap.size from fun q => by have := (hps.lt _ q).2; omega)
  have HGL := Lib.hid (show w1.heap.size ≤ w2.heap.size from hst.size)
  clear hps hst hr hB hC hdj hba
  go_upto_region 7 with (fail)
  have HL3 := Lib.hid (show w2.heap.size < (w2.alloc (.cells #[.int .u8 82, .int .u32 0, .int .u64 (ep : Int), .int .i64 4, .slice ra k0 cap] 47)).heap.size by simp)
  have HC0 := Lib.hid (HT2.out.cell HON.out.hd.c0 HON.out.nh.1)
  have HPH := Lib.hid (nh_stp HT2.out (World.block_lt_of_cell? w1 _ HON.out.hd.c0) HON.out.nh.1)
  generalize w2.alloc _ = w3 at HP2 HT2 HX2 HR2 HL3 HC0 ⊢
  generalize w2.heap.size = g at HX2 HGH HGL HL3 HBC HR2 ⊢
  have x0 := HX2.out.f0
  have x1 := HX2.out.f1
  have x2 := HX2.out.f2
  have x3 := HX2.out.f3
  have x4 := HX2.out.f4
  go_wp2_with fail
  refine (tablesOf_any P HP2.out HC0.out HPH.out 82 0 (ep : Int) 4 ra k0 cap tb HK0.out.symm (ownRecs_at HR2.out.now) h122 (fun x hx => (HO.out.sk.tl x hx).2) hn ep he kp HO.out.tt (by omega)).mono ?_
  rintro e w4 ⟨v, H4, base, rfl, hps, hst, hba, htr⟩
  have HP4 := Lib.hid hps
  have HT4 := Lib.hid hst
  have HBA := Lib.hid hba
  have HTR := Lib.hid htr
  have HX4 := Lib.hid (HX2.out.same (hst.block g HL3.out HGH.out))
  have HR4 := Lib.hid (HR2.out.step fun j a b => hst.block j (by have := HBC.out.2.1; have := HL3.out; omega) (fun q => by have := HBC.out.2.2 j q; omega))
  have HTT := Lib.hid (HT2.out.trans hst)
  clear hps hst hba htr x0 x1 x2 x3 x4
  have x0 := HX4.out.f0
  have x1 := HX4.out.f1
  have x2 := HX4.out.f2
  have x3 := HX4.out.f3
  have x4 := HX4.out.f4
  obtain ⟨va, vc, rfl⟩ := tabs_slice HTR.out
  have hPl : P < w1.heap.size := World.block_lt_of_cell? w1 _ HON.out.hd.c0
  have hKl := HON.out.km.lt
  have hGl := HON.out.sp.ltG
  have hTl := HON.out.sp.ltT
  obtain ⟨nh1, nh2, nh3, nh4⟩ := HON.out.nh
  have hd4 := HON.out.hd.same (HTT.out.block P hPl nh1)
  have km4 := owns_same HON.out.km (HTT.out.block K hKl nh2)
  have sp4 := HON.out.sp.same (HTT.out.block G hGl nh3) (HTT.out.block T hTl nh4)
  have hbl : P < base ∧ K < base ∧ G < base ∧ T < base := by have := HBA.out; have := HGL.out; have := HL3.out; omega
  have HRS := Lib.hid (restore_any (n := n) P K G T (Spc.clear n) hd4 km4 sp4 rfl HON.out.ne base hbl ep he ra k0 cap tb HK0.out.symm (ownRecs_at HR4.out.now) h122 (fun x hx => by have := (HO.out.sk.tl x hx).2; omega) kp va vc HTR.out (by rw [HK0.out]; exact HO.out.it) HO.out.sk hn)
  clear hd4 km4 sp4 hbl hPl hKl hGl hTl nh1 nh2 nh3 nh4
  go_upto_region 12 with (go_at_call 49; refine HRS.out.mono ?_; rintro e w5 ⟨rfl, V, ta, tc, nK, DK, S, hd5, km5, kf5, hnk, vm5, ti5, hta, hV, sp5, tk5, st5⟩; have HD5 := Lib.hid hd5; have H5 := Lib.hid (And.intro km5 (And.intro kf5 (And.intro hnk (And.intro vm5 (And.intro ti5 (And.intro hta (And.intro hV (And.intro sp5 (And.intro tk5 st5))))))))); clear hd5 km5 kf5 hnk vm5 ti5 hta hV sp5 tk5 st5)
  clear x0 x1 x2 x3 x4
  have c4 := HD5.out.c4
  have f4 := HD5.out.fz 4
  go_wp2
  go_ret2
  obtain ⟨km5, kf5, hnk, vm5, ti5, hta, hV, sp5, tk5, st5⟩ := H5.out
  obtain rfl : k0 = tb.length := HK0.out
  have hso := (on_stp HON.out).trans HTT.out
  obtain ⟨lo1, lo2, lo3, lo4⟩ := HON.out.lo
  obtain ⟨ne1, ne2, ne3, ne4, ne5⟩ := HON.out.ne
  obtain ⟨nh1, nh2, nh3, nh4⟩ := HON.out.nh
  have hPl : P < w1.heap.size := World.block_lt_of_cell? w1 _ HON.out.hd.c0
  have hKl := HON.out.km.lt
  have hGl := HON.out.sp.ltG
  have hTl := HON.out.sp.ltT
  have l14 := HTT.out.size
  have lw1 := HON.out.b.size
  have l45 := st5.size
  have hWw := HWW.out
  have q1 := nh_stp HTT.out hPl nh1
  have q2 := nh_stp HTT.out hKl nh2
  have q3 := nh_stp HTT.out hGl nh3
  have q4 := nh_stp HTT.out hTl nh4
  have hlt4 := fun b (q : H4 b) => (HP4.out.lt b q).2
  have hVl := vm5.lt
  have hps5 : PS W (N + 20000) w5 p D ct (fun _ => True) n m H4 := (HP4.out.mono (M := N + 20000) (by omega)).stp st5 (fun b hb q => by rcases q with q | q | q | q; exact q1 (q ▸ hb); exact q2 (q ▸ hb); exact q3 (q ▸ hb); exact q4 (q ▸ hb)) (fun b q => by rcases q with q | q | q | q <;> omega)
  have hw6 : Wrt (isB P) w5 (w5.setCell ⟨P, 4, none⟩ (.int .i64 (root : Int))) := (Wrt.refl (isB P) w5).set (show isB P P from rfl) 4 _
  have hps6 := hps5.other q1 (by omega) 4 (.int .i64 (root : Int))
  have hd6 := HD5.out.set4 (root : Int)
  generalize w5.setCell ⟨P, 4, none⟩ (.int .i64 (root : Int)) = w6 at hw6 hps6 hd6
  have s6 := hw6.size
  have hVP : V ≠ P ∧ V ≠ K ∧ V ≠ G ∧ V ≠ T := by omega
  have hnV : ¬ H4 V := fun q => by have := hlt4 V q; omega
  refine ⟨{ P := P, p := p, D := D, K := K, V := V, G := G, T := T, n := n, m := m, nK := nK, nV := nK, DK := DK, DV := DK, ta := ta, tc := tc, tb := tb, kp := kp, nw := kp, root := root, ep := ep, fl := false, S := S, ct := ct, H := H4 }, rfl, ⟨hd6, owns_same km5 (hw6.block K (fun q => ne1 q.symm)), kf5, owns_same vm5 (hw6.block V hVP.1), kf5, ints_same ti5 (fun b o e => hw6.block b (fun q => by have e1 : b = P := q; have := (hta b o e).1; omega)), sp5.same (hw6.block G (fun q => ne2 q.symm)) (hw6.block T (fun q => ne3 q.symm)), hps6, ⟨HON.out.ne, hVP, ⟨q1, q2, q3, q4, hnV⟩, by simp only; omega, fun b o e => ?_⟩, ⟨by simp only; omega, by simp only; omega⟩⟩, ⟨rfl, rfl, rfl, rfl, rfl, rfl, rfl, rfl, rfl, rfl⟩, tk5, ?_, lo1⟩
  · obtain ⟨a1, a2, a3⟩ := hta b o e
    exact ⟨by simp only; omega, by simp only; omega, by simp only; omega, by simp only; omega, a3, fun q => by have := hlt4 b q; omega, by omega, by omega⟩
  · refine ⟨hw6.os.trans (st5.os.trans hso.os), hw6.tape.trans (st5.tape.trans hso.tape), hw6.output.trans (st5.output.trans hso.output), by omega, fun k hk hn => ?_, fun k q => ?_⟩
    · exact (hw6.block k (fun q => by have e1 : k = P := q; omega)).trans ((st5.block k (by omega) (fun q => by rcases q with q | q | q | q <;> omega)).trans (hso.block k hk hn))
    · rcases q with q | q | q | q | q | q
      · right; have e1 : k = P := q; omega
      · right; have e1 : k = K := q; omega
      · right; have e1 : k = V := q; omega
      · right; have e1 : k = G := q; omega
      · right; have e1 : k = T := q; omega
      · exact hso.own k q
end Go.Proofs.YtokikeenfpligaaGreatDoor.Sh
namespace Go.Proofs.YtokikeenfpligaaGreatDoor.Sh
open Go.RowKit Go.Maps

theorem cnt_split (t : Nat → Bool) : ∀ m, cntF t m + ((List.range m).filter fun i => t i).length = m
  | 0 => rfl
  | m + 1 => by
    have ih := cnt_split t m
    rw [List.range_succ, List.filter_append, List.length_append]
    unfold cntF
    cases h : t m
    · simp [h]; omega
    · simp [h]; omega
theorem nodup_len {α : Type _} {a b : List α} (ha : a.Nodup) (hb : b.Nodup) (h : ∀ x, x ∈ a ↔ x ∈ b) : a.length = b.length :=
  ((List.perm_ext_iff_of_nodup ha hb).2 h).length_eq
theorem cnt_list {t : Nat → Bool} {n : Nat} {L : List Nat} (hL : L.Nodup) (hn : ∀ i ∈ L, i < n) (ht : ∀ i, i < n → (t i = true ↔ i ∈ L)) : cntF t n + L.length = n := by
  have h := cnt_split t n
  have e : ((List.range n).filter fun i => t i).length = L.length := by
    refine nodup_len (List.nodup_range.filter _) hL fun x => ?_
    rw [List.mem_filter, List.mem_range]
    exact ⟨fun q => (ht x q.1).1 q.2, fun q => ⟨hn x q, (ht x (hn x q)).2 q⟩⟩
  omega
theorem kl_nd (f : Nat → Nat) : (kl f).Nodup := List.nodup_range.filter _
theorem kl_len {f : Nat → Nat} (hb : ∀ k, f k ≠ 0 → k < 15006) {l : List Nat} (hl : l.Nodup) (h : ∀ k, k ∈ l ↔ f k ≠ 0) : (kl f).length = l.length :=
  nodup_len (kl_nd f) hl fun k => (kl_mem hb k).trans (h k).symm
/-- the pages that were written since all was kept -/
def lateL (kp nw : Nat → Nat) : List Nat := (kl nw).filter fun k => decide (nw k ≠ kp k)
theorem free_eq {σ : Sd} {Q : Nat → Prop} {pk pn : Nat → Sm.Pg} (h : Inv σ Q pk pn) (o : σ.S.Ok) (bk : ∀ k, σ.kp k ≠ 0 → k < 15006) (bn : ∀ k, σ.nw k ≠ 0 → k < 15006) :
    σ.S.free + 2 + σ.tb.length + (kl σ.kp).length + (lateL σ.kp σ.nw).length = σ.n := by
  have mk := kl_mem bk
  have mn := kl_mem bn
  have ml : ∀ k, k ∈ lateL σ.kp σ.nw ↔ σ.nw k ≠ 0 ∧ σ.nw k ≠ σ.kp k := fun k => by
    unfold lateL
    rw [List.mem_filter, mn, decide_eq_true_eq]
  have key := cnt_list (t := σ.S.t) (n := σ.n) (L := [0, 1] ++ (σ.tb ++ ((kl σ.kp).map σ.kp ++ (lateL σ.kp σ.nw).map σ.nw))) ?_ ?_ ?_
  · rw [o.cnt, h.sn]
    simp only [List.length_append, List.length_map, List.length_cons, List.length_nil] at key
    omega
  · have n1 : ((kl σ.kp).map σ.kp).Nodup := by
      refine List.pairwise_map.2 ((kl_nd σ.kp).imp_of_mem ?_)
      intro a b ha _ hab e
      exact hab (h.sk.inj a b ((mk a).1 ha) e)
    have n2 : ((lateL σ.kp σ.nw).map σ.nw).Nodup := by
      refine List.pairwise_map.2 (((kl_nd σ.nw).filter _).imp_of_mem ?_)
      intro a b ha _ hab e
      exact hab (h.sw.inj a b ((ml a).1 ha).1 e)
    refine List.nodup_append.2 ⟨by decide, List.nodup_append.2 ⟨h.sk.nd, List.nodup_append.2 ⟨n1, n2, ?_⟩, ?_⟩, ?_⟩
    · intro a ha b hb e
      obtain ⟨j, hj, rfl⟩ := List.mem_map.1 ha
      obtain ⟨k, hk, rfl⟩ := List.mem_map.1 hb
      obtain ⟨q1, q2⟩ := (ml k).1 hk
      have := h.one k j q1 e.symm
      subst this
      exact q2 e.symm
    · intro a ha b hb e
      subst e
      rcases List.mem_append.1 hb with hb | hb
      · obtain ⟨j, hj, e⟩ := List.mem_map.1 hb
        exact h.sk.dj j ((mk j).1 hj) (e ▸ ha)
      · obtain ⟨j, hj, e⟩ := List.mem_map.1 hb
        exact h.sw.dj j ((ml j).1 hj).1 (e ▸ ha)
    · intro a ha b hb e
      subst e
      have ha2 : a < 2 := by
        rcases List.mem_cons.1 ha with q | q
        · omega
        · have := List.mem_singleton.1 q; omega
      rcases List.mem_append.1 hb with hb | hb
      · have := (h.sk.tl a hb).1; omega
      · rcases List.mem_append.1 hb with hb | hb
        · obtain ⟨j, hj, e⟩ := List.mem_map.1 hb
          have := (h.sk.fl j ((mk j).1 hj)).1; omega
        · obtain ⟨j, hj, e⟩ := List.mem_map.1 hb
          have := (h.sw.fl j ((ml j).1 hj).1).1; omega
  · intro i hi
    have := h.n4
    rcases List.mem_append.1 hi with hi | hi
    · rcases List.mem_cons.1 hi with q | q
      · omega
      · have := List.mem_singleton.1 q; omega
    · rcases List.mem_append.1 hi with hi | hi
      · exact (h.sk.tl i hi).2
      · rcases List.mem_append.1 hi with hi | hi
        · obtain ⟨j, hj, e⟩ := List.mem_map.1 hi
          have := (h.sk.fl j ((mk j).1 hj)).2; omega
        · obtain ⟨j, hj, e⟩ := List.mem_map.1 hi
          have := (h.sw.fl j ((ml j).1 hj).1).2; omega
  · intro i _
    rw [h.tk i]
    simp only [List.mem_append, List.mem_map, List.mem_cons, List.not_mem_nil, or_false]
    constructor
    · rintro (q | q | ⟨k, q1, q2⟩ | ⟨k, q1, q2⟩)
      · exact .inl (by omega)
      · exact .inr (.inl q)
      · exact .inr (.inr (.inl ⟨k, (mk k).2 q2, q1⟩))
      · by_cases e : σ.nw k = σ.kp k
        · exact .inr (.inr (.inl ⟨k, (mk k).2 (by rw [← e]; exact q2), by rw [← e]; exact q1⟩))
        · exact .inr (.inr (.inr ⟨k, (ml k).2 ⟨q2, e⟩, q1⟩))
    · rintro (q | q | ⟨k, q1, q2⟩ | ⟨k, q1, q2⟩)
      · exact .inl (by omega)
      · exact .inr (.inl q)
      · exact .inr (.inr (.inl ⟨k, q2, (mk k).1 q1⟩))
      · exact .inr (.inr (.inr ⟨k, q2, ((ml k).1 q1).1⟩))
theorem lateL_same (f : Nat → Nat) : lateL f f = [] := by
  unfold lateL
  rw [List.filter_eq_nil_iff]
  intro a _
  simp
/-- the disk of one, whatever of it is sure -/
theorem PS.disk' {W w : World} {N p D n m : Nat} {ct : Nat → ByteArray} {Q H : Nat → Prop} (h : PS W N w p D ct Q n m H) : ∃ ct' H', DkS W w D n ct' N H' ∧ (∀ q, q < n → Q q → ct' q = ct q) ∧ ∀ b, H' b → H b := by
  obtain ⟨X, h1, h2, h3, h4, h5, h6⟩ := h
  have ok := h1.ok
  obtain ⟨μ, k1, rfl, rfl, rfl, rfl, k6⟩ := h1
  exact ⟨μ.X.d.cur, μ.s.has, ⟨μ.X.d, ⟨μ.s, k1.core.d, k1.core.t, rfl, rfl, k6⟩, h4, h2.left, ok.w0, ok.wN, fun q _ => rfl⟩, fun q hq hQ => h6 q (by omega) hQ, fun b hb => .inl (.inr (.inr (.inr hb)))⟩
/-- another pool over the same disk has read it: the first one is as it was -/
theorem PS.again {W w : World} {N p D n m : Nat} {ct : Nat → ByteArray} {H : Nat → Prop} (h : PS W N w p D ct (fun _ => True) n m H) :
    ∃ Hd, DkS W w D n ct N Hd ∧ (∀ b, Hd b → H b) ∧ ∀ {w1 : World} {M p2 m2 : Nat} {H2 : Nat → Prop}, PS W M w1 p2 D ct (fun _ => True) n m2 H2 → Stp w Hd w1 H2 → N ≤ M →
      ∃ H', PS W M w1 p D ct (fun _ => True) n m H' ∧ Stp w H w1 H' := by
  obtain ⟨X, h1, h2, h3, h4, h5, h6⟩ := h
  have ok := h1.ok
  obtain ⟨μ, k1, rfl, rfl, rfl, rfl, k6⟩ := h1
  refine ⟨μ.s.has, ⟨μ.X.d, ⟨μ.s, k1.core.d, k1.core.t, rfl, rfl, k6⟩, h4, h2.left, ok.w0, ok.wN, fun q hq => h6 q (by omega) trivial⟩, fun b hb => .inl (.inr (.inr (.inr hb))), ?_⟩
  intro w1 M p2 m2 H2 hp hs hNM
  obtain ⟨Y, g1, g2, g3, g4, g5, g6⟩ := hp
  have ok2 := g1.ok
  obtain ⟨ν, l1, rfl, l3, rfl, rfl, l6⟩ := g1
  have hc := k1.core
  have hl := l1.core
  have own2 : ∀ b, ν.s.has b → μ.s.has b ∨ w.heap.size ≤ b := fun b hb => hs.own b (.inl (.inr (.inr (.inr hb))))
  have lP : μ.P < w.heap.size := World.block_lt_of_cell? w _ hc.hd.c0
  have lF := hc.row.lt
  have lM := k1.mo.lt
  have nb : ∀ b, b < w.heap.size → ¬ μ.s.has b → ¬ ν.s.has b := fun b hb hn q => by rcases own2 b q with e | e; exact hn e; omega
  have blk : ∀ b, b < w.heap.size → ¬ μ.s.has b → w1.heap[b]? = w.heap[b]? := fun b hb hn => hs.block b hb hn
  have hcur : ∀ q, q < n → ν.X.d.cur q = ct q := fun q hq => g6 q (by omega) trivial
  have hbase : ∀ k, k < μ.X.m → ∀ b off, μ.a k = some ⟨b, off, none⟩ → ¬ μ.s.has b := fun k hk b off e q => (hc.by'.b k hk b off e).2.2 (.inr (.inr (.inr q)))
  refine ⟨Mp.all { μ with s := ν.s, X := { μ.X with d := ν.X.d } }, ⟨{ μ.X with d := ν.X.d }, ⟨{ μ with s := ν.s, X := { μ.X with d := ν.X.d } }, ⟨⟨hl.d, hl.t, ⟨hc.fx.bP, hc.fx.bF, hc.fx.bM, hc.fx.PF, hc.fx.PM, hc.fx.FM, nb _ lP hc.fx.sP, nb _ lF hc.fx.sF, nb _ lM hc.fx.sM⟩, ?_, hc.row.same hs.size (blk _ lF hc.fx.sF), ?_, ?_⟩, owns_same k1.mo (blk _ lM hc.fx.sM), ⟨k1.mp.tidy, k1.mp.has, k1.mp.at', k1.mp.size⟩⟩, rfl, l3, rfl, rfl, l6⟩, ?_, h3, g4, h5, fun q hq _ => hcur q (by have hq' : q < ν.X.d.n := hq; omega)⟩, ?_⟩
  · show Head w1 μ.P ν.s.D μ.F μ.X.m μ.M μ.X.hand μ.X.loads
    rw [l3]
    exact hc.hd.same (blk _ lP hc.fx.sP)
  · refine ⟨fun k hk => lies_same (hc.by'.l k hk) fun b off e => blk b (hc.by'.b k hk b off e).2.1 (hbase k hk b off e), fun k hk b off e => ⟨(hc.by'.b k hk b off e).1, Nat.lt_of_lt_of_le (hc.by'.b k hk b off e).2.1 hs.size, fun q => ?_⟩, hc.by'.c⟩
    have hb := (hc.by'.b k hk b off e)
    rcases q with q | q | q | q
    · exact hb.2.2 (.inl q)
    · exact hb.2.2 (.inr (.inl q))
    · exact hb.2.2 (.inr (.inr (.inl q)))
    · exact nb b hb.2.1 (hbase k hk b off e) q
  · have hn : ν.X.d.n = μ.X.d.n := g4.trans h4.symm
    exact ⟨ok.m0, ok.m1, ok.cm, ok.hm, by show ν.X.d.n ≤ 16384; rw [hn]; exact ok.n1, fun k hk => by show _ ∧ _ < (ν.X.d.n : Int); rw [hn]; exact ok.sec k hk, ok.inj, ok.emp, ok.siz, fun k => Nat.le_trans (ok.hN k) hNM, ok2.w0, ok2.wN, ok.l0, by have := ok.lN; show μ.X.loads ≤ _; omega⟩
  · refine ⟨h2.t, h2.z, h2.g, fun k hk hd => ?_, fun q hq _ => hcur q (by have hq' : q < ν.X.d.n := hq; omega), g2.left⟩
    have hsec : 0 ≤ (μ.X.fr k).i ∧ (μ.X.fr k).i < (μ.X.d.n : Int) := ok.sec k hk
    simp only at hd ⊢
    show ν.X.d.cur _ = _
    rw [hcur _ (by have := h4; omega)]
    exact (h2.t k hk).symm
  · refine ⟨hs.os, hs.tape, hs.output, hs.size, fun k hk hn => hs.block k hk (fun q => hn (.inl (.inr (.inr (.inr q))))), fun k q => ?_⟩
    rcases q with (q | q | q | q) | q
    · exact .inl (.inl (.inl q))
    · exact .inl (.inl (.inr (.inl q)))
    · exact .inl (.inl (.inr (.inr (.inl q))))
    · rcases own2 k q with e | e
      · exact .inl (.inl (.inr (.inr (.inr e))))
      · exact .inr e
    · exact .inl (.inr q)
end Go.Proofs.YtokikeenfpligaaGreatDoor.Sh

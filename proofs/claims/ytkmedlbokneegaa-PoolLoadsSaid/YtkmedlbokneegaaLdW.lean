/-
  PoolLoads: with as many frames as there are sectors each is read from the disk once at most, however often it is read. No condition but that the input could be read.
-/
import Derived.Test.YtkmedlbokneegaaLa
import Derived.Deep.RegionHeld3
namespace Go.Proofs.Ytkmedlbokneegaa
open Go.RowKit Go.Maps

/-- a disk of which so many sectors were written -/
def dkS (n : Nat) (t : ByteArray) : Nat → Dk
  | 0 => Dk.new n
  | i + 1 => (dkS n t i).wrote i t
theorem dkS_n (n : Nat) (t : ByteArray) : ∀ i, (dkS n t i).n = n
  | 0 => rfl
  | i + 1 => dkS_n n t i
theorem dkS_left (n : Nat) (t : ByteArray) : ∀ i, (dkS n t i).left = -1
  | 0 => rfl
  | i + 1 => wrote_left _ _ _ (dkS_left n t i)
theorem dkS_writes (n : Nat) (t : ByteArray) : ∀ i : Nat, (dkS n t i).writes = (i : Int)
  | 0 => rfl
  | i + 1 => by show (dkS n t i).writes + 1 = _; rw [dkS_writes n t i]; omega
theorem dkS_cur (n : Nat) (t : ByteArray) : ∀ i q, q < i → (dkS n t i).cur q = t
  | i + 1, q, h => by
    show (if q = i then t else (dkS n t i).cur q) = t
    by_cases e : q = i
    · rw [if_pos e]
    · rw [if_neg e]; exact dkS_cur n t i q (by omega)
/-- the pool in the loop of reads -/
structure Ld (k : Nat) (d0 : Dk) (t : ByteArray) (X : Px) : Prop where
  sem : Sem X (fun _ => t)
  free : Free X
  m : X.m = k
  d : X.d = d0
  nd : ∀ j, (X.fr j).d = false
theorem px_room {N : Nat} {X : Px} (o : X.Ok N) {q : Nat} (hq : q < X.d.n) (ha : X.at (q : Int) = none) : X.c < X.d.n := by
  have hl : (q :: (List.range X.c).map fun j => (X.fr j).i.toNat).Nodup := by
    rw [List.nodup_cons]
    refine ⟨fun h => ?_, ?_⟩
    · obtain ⟨j, hj, e⟩ := List.mem_map.1 h
      have hj' : j < X.c := by simpa using hj
      exact at_none ha j hj' (by have := (o.sec j hj').1; omega)
    · rw [List.nodup_iff_pairwise_ne, List.pairwise_map]
      refine List.Pairwise.imp_of_mem (fun {a b} h1 h2 hne e => ?_) (List.nodup_iff_pairwise_ne.1 List.nodup_range)
      have h1' : a < X.c := by simpa using h1
      have h2' : b < X.c := by simpa using h2
      exact hne (o.inj a b h1' h2' (by have := (o.sec a h1').1; have := (o.sec b h2').1; omega))
  have := nodup_le X.d.n _ hl (fun x hx => by
    rcases List.mem_cons.1 hx with rfl | hx
    · exact hq
    · obtain ⟨j, hj, rfl⟩ := List.mem_map.1 hx
      have hj' : j < X.c := by simpa using hj
      have := o.sec j hj'
      omega)
  simp at this
  omega
theorem put_i (X : Px) (f : Nat) (g : Fr) (h : g.i = (X.fr f).i) (j : Nat) : ((X.put f g).fr j).i = (X.fr j).i := by
  by_cases e : j = f
  · subst e; rw [put_same, h]
  · rw [put_other _ _ _ e]
theorem find_congr {α : Type} {f g : α → Bool} : ∀ (l : List α), (∀ x ∈ l, f x = g x) → l.find? f = l.find? g
  | [], _ => rfl
  | x :: l, h => by
    rw [List.find?_cons, List.find?_cons, h x (by simp), find_congr l fun y hy => h y (by simp [hy])]
theorem ld_step {N k : Nat} {d0 : Dk} {t : ByteArray} {X : Px} (L : Ld k d0 t X) (o : X.Ok N) (hn : d0.n = k) {q : Nat} (hq : q < k) (hz : t.size = 512) (hg : goodT t = true) :
    ∃ Y, readP X q = (Y, t, 0) ∧ Ld k d0 t Y ∧ Y.loads = X.loads + (if (X.at (q : Int)).isSome then 0 else 1) ∧ (Y.at (q : Int)).isSome = true ∧ ∀ p : Nat, p ≠ q → (Y.at (p : Int)).isSome = (X.at (p : Int)).isSome := by
  have hqn : q < X.d.n := by rw [L.d, hn]; exact hq
  obtain ⟨r1, r2, r3⟩ := sem_read L.sem o hqn hz hg (.inr (.inr (L.free.held o)))
  have hk := read_keep L.sem L.free o hqn
  refine ⟨(readP X q).1, by rw [← r1]; exact Prod.ext rfl (Prod.ext r2 rfl), ?_⟩
  cases ha : X.at (q : Int) with
  | some f =>
    obtain ⟨h1, h2⟩ := at_some ha
    have e : (readP X q).1 = X.put f { X.fr f with u := true } := by unfold readP; rw [handP_some (by omega) ha]
    rw [e] at r3 hk ⊢
    have hat : ∀ p : Int, (X.put f { X.fr f with u := true }).at p = X.at p := fun p => at_congr (X := X) (Y := X.put f { X.fr f with u := true }) rfl (fun j => put_i X f { X.fr f with u := true } rfl j) p
    refine ⟨⟨r3, hk.free, hk.m.trans L.m, L.d, fun j => ?_⟩, by show X.loads = X.loads + 0; omega, by rw [hat, ha]; exact Option.isSome_some, fun p _ => by rw [hat]⟩
    rw [put_fr]; split
    · exact L.nd f
    · exact L.nd j
  | none =>
    have hc : X.c < X.m := by rw [L.m]; have := px_room o hqn ha; rw [L.d, hn] at this; exact this
    have hcu : X.d.cur q = t := L.sem.out q hqn ha
    have e : (readP X q).1 = (X.load.more.put X.c (Fr.new q)).put X.c { Fr.new q with t := t, u := true } := by
      unfold readP
      rw [handP_none (by omega) ha, fetchP_good (by rw [hcu]; exact hg), findP_fresh (X := X.load) ha hc, if_pos rfl, hcu]
      show (X.load.more.put X.c (Fr.new q)).put X.c { (X.load.more.put X.c (Fr.new q)).fr X.c with t := t, u := true } = _
      rw [put_same]
    rw [e] at r3 hk ⊢
    have hfr : ∀ j, ((X.load.more.put X.c (Fr.new q)).put X.c { Fr.new q with t := t, u := true }).fr j = if j = X.c then { Fr.new q with t := t, u := true } else X.fr j := fun j => by
      rw [put_fr]; split
      · rfl
      · rename_i e2; rw [put_other _ _ _ e2]; rfl
    have hcc : ((X.load.more.put X.c (Fr.new q)).put X.c { Fr.new q with t := t, u := true }).c = X.c + 1 := rfl
    have hat : ∀ p : Nat, (((X.load.more.put X.c (Fr.new q)).put X.c { Fr.new q with t := t, u := true }).at (p : Int)).isSome = (decide (p = q) || (X.at (p : Int)).isSome) := fun p => by
      unfold Px.at
      rw [hcc, List.range_succ, List.find?_append]
      have e1 : (List.range X.c).find? (fun k => (((X.load.more.put X.c (Fr.new q)).put X.c { Fr.new q with t := t, u := true }).fr k).i == (p : Int)) = (List.range X.c).find? (fun k => (X.fr k).i == (p : Int)) := by
        refine find_congr _ fun j hj => ?_
        have hj' : j < X.c := by simpa using hj
        rw [hfr, if_neg (by omega)]
      rw [e1, List.find?_singleton, hfr, if_pos rfl]
      cases (List.range X.c).find? (fun k => (X.fr k).i == (p : Int)) with
      | some f => simp
      | none =>
        by_cases e : p = q
        · subst e; simp [Fr.new]
        · have e2 : ((q : Int) == (p : Int)) = false := by simp; omega
          simp [Fr.new, e]
          omega
    refine ⟨⟨r3, hk.free, hk.m.trans L.m, L.d, fun j => ?_⟩, rfl, by rw [hat]; simp, fun p hp => by rw [hat]; simp [hp]⟩
    rw [hfr]; split
    · rfl
    · exact L.nd j
set_option maxRecDepth 100000 in
theorem info_bool : (Try.prog.info? 4).map (fun i => (i.zero, i.size, i.bytes)) = some (some (.bool false), 1, 1) := by kernel_rfl
set_option maxRecDepth 100000 in
theorem make_bool (n : Nat) (x : Int) (hx : x = n) (hn : n ≤ 1000) (w : World) : (Instr.makeSlice 35 (.int .i64 x) (.int .i64 x)).run Try.prog w = .ok (.slice (some ⟨w.heap.size, 0, none⟩) n n) (w.alloc (.cells (Array.replicate n (.bool false)) 4)) := by
  subst hx
  rw [run_make_row' (P := Try.prog) 35 4 (.bool false) 1 Try.underlying35 info_bool rfl .i64 .i64 n (by omega) (by omega) w, made_eq]
theorem pl_read_is' {W w w0 : World} {N p D : Nat} {X Y : Px} {t : ByteArray} {H0 : Nat → Prop} (h : PlN W N w p D X w0 H0) (i : Int) (hN : N + 1 < 2305843009213693952) (he : readP X i = (Y, t, 0)) (hs : t.size = 512) :
    Calls Try.prog 9 #[.pointer (some ⟨p, 0, none⟩), .int .i64 i] w fun e w' => ∃ g cap, e = .returned (.tuple #[.slice (some ⟨g, 0, none⟩) 512 cap, .nilIface]) ∧ Lies w' (some ⟨g, 0, none⟩) (nums t) ∧ PlN W (N + 2) w' p D Y w0 H0 := by
  have h2 := pl_read_got h i hN (by rw [he]) (by rw [he]; exact hs)
  rw [he] at h2
  exact h2
/-- which sectors were seen -/
structure LInv (W wr : World) (N p D g k : Nat) (d0 : Dk) (t : ByteArray) (X : Px) (many : Int) : Prop where
  pl : ∃ H, Pl W N wr p D X H ∧ ¬ H g
  gW : W.heap.size ≤ g
  gl : g < wr.heap.size
  c : ∀ q, q < k → wr.cell? ⟨g, q, none⟩ = some (.bool (X.at (q : Int)).isSome)
  f : ∀ q, wr.frozen? ⟨g, q, none⟩ = false
  ld : Ld k d0 t X
  many : many = X.loads
theorem LInv.next {W wr w3 w' : World} {N M p D g k : Nat} {d0 : Dk} {t : ByteArray} {X Y : Px} {many : Int} {H : Nat → Prop} (h : LInv W wr N p D g k d0 t X many) (h4 : PlN W M w' p D Y w3 H) (hg : ¬ H g) (hgl : g < w3.heap.size) (hc : ∀ q, q < k → w3.cell? ⟨g, q, none⟩ = some (.bool (Y.at (q : Int)).isSome)) (hf : ∀ q, w3.frozen? ⟨g, q, none⟩ = false) (hl : Ld k d0 t Y) (m' : Int) (hm : m' = Y.loads) : LInv W w' M p D g k d0 t Y m' := by
  obtain ⟨H2, k1, k2⟩ := h4.open' hgl hg
  have hb := h4.block hgl hg
  refine ⟨⟨H2, k1, k2⟩, h.gW, ?_, fun q hq => (World.cell?_of_block hb).trans (hc q hq), fun q => (World.frozen?_of_block hb).trans (hf q), hl, hm⟩
  obtain ⟨_, _, hs⟩ := h4
  exact Nat.lt_of_lt_of_le hgl hs.size
theorem pl_loads_is {W w w0 w5 : World} {N p D : Nat} {X : Px} {H0 : Nat → Prop} (h : PlN W N w5 p D X w0 H0) (hb : Below w5.heap.size w5 w) (x : Int) (hx : X.loads = x) :
    Calls Try.prog 10 #[.pointer (some ⟨p, 0, none⟩)] w fun e w' => e = .returned (.int .i64 x) ∧ w = w' := hx ▸ pl_loads (h.below hb)
/-- a sector is seen -/
theorem LInv.see {W wr w5 : World} {N M p D g k b cp : Nat} {d0 : Dk} {t : ByteArray} {X Y : Px} {many : Int} {H : Nat → Prop} (h : LInv W wr N p D g k d0 t X many) (h5 : PlN W M w5 p D Y wr H) (hg : ¬ H g) (hl : Lies w5 (some ⟨b, 0, none⟩) (nums t)) (hz : t.size = 512) {q : Nat} (hq : q < k) (hk : k ≤ 100) (hat : (Y.at (q : Int)).isSome = true) (hao : ∀ p : Nat, p ≠ q → (Y.at (p : Int)).isSome = (X.at (p : Int)).isSome) :
    ∃ H6, Pl W M (w5.setCell ⟨g, q, none⟩ (.bool true)) p D Y H6 ∧ ¬ H6 g ∧ g < (w5.setCell ⟨g, q, none⟩ (.bool true)).heap.size ∧ Lies (w5.setCell ⟨g, q, none⟩ (.bool true)) (some ⟨b, 0, none⟩) (nums t) ∧ (∀ p, p < k → (w5.setCell ⟨g, q, none⟩ (.bool true)).cell? ⟨g, p, none⟩ = some (.bool (Y.at (p : Int)).isSome)) ∧ ∀ p, (w5.setCell ⟨g, q, none⟩ (.bool true)).frozen? ⟨g, p, none⟩ = false := by
  have _ := cp
  obtain ⟨H6, k1, k2⟩ := h5.open' h.gl hg
  have hb := h5.block h.gl hg
  have hc : ∀ p, p < k → w5.cell? ⟨g, p, none⟩ = some (.bool (X.at (p : Int)).isSome) := fun p hp => (World.cell?_of_block hb).trans (h.c p hp)
  refine ⟨H6, k1.other k2 h.gW _ _, k2, ?_, lies_same hl fun b' off e => ?_, fun p hp => ?_, fun p => by rw [World.frozen?_setCell]; exact (World.frozen?_of_block hb).trans (h.f p)⟩
  · obtain ⟨_, _, hs⟩ := h5
    have := hs.size
    have := h.gl
    simp
    omega
  · obtain ⟨rfl, rfl⟩ : b = b' ∧ 0 = off := by simpa using e
    refine Below.heap_setCell _ _ _ _ (fun e2 => ?_)
    have e2 : b = g := e2
    subst e2
    obtain ⟨b3, off3, e3, hc3, _⟩ := hl q (by rw [nums_len, hz]; omega)
    obtain ⟨rfl, rfl⟩ : b = b3 ∧ 0 = off3 := by simpa using e3
    rw [Nat.zero_add, hc q hq] at hc3
    cases hc3
  · by_cases e : p = q
    · subst e
      rw [World.cell?_setCell_same _ _ _ (hc p hp), hat]
    · rw [World.cell?_setCell_other _ _ _ _ (by intro x; simp only [Addr.mk.injEq] at x; omega), hao p e]
      exact hc p hp
set_option maxHeartbeats 2000000 in
set_option maxRecDepth 100000 in
theorem loads_walk (n0 : Int) (a : Option Addr) (len cap : Nat) (zs : List Int) (W : World) (_w0 : (Lit.int .i64 n0).wf = true) (hw : IsRow .i64 W a len cap zs) :
    Calls Try.prog 3 #[.int .i64 n0, .slice a len cap] W fun e w' => e = .returned (.bool true) ∧ Below W.heap.size W w' := by
  obtain ⟨k, hk, hk10⟩ := red_nat n0 10 (by omega) (by omega)
  have hmk := make_bool (k + 1) (1 + (k : Int)) (by omega) (by omega)
  have HA := Lib.hid (row_at hw)
  have hcv := conv_b (mkT ⟨#[115]⟩) (mkT_size _)
  have k0 : (0 : Int) ≤ (k : Int) := by omega
  clear hw
  go_enter Try.func3, Try.ntmps3
  go_upto_region 6 with (go_at_call 5; refine (disk_new' (W := W) (k + 1) _ (by omega) _ (Below.refl _ _) (by omega) (by omega)).mono ?_; rintro e wa ⟨D, H, rfl, h⟩; have HD := Lib.hid h; clear h)
  go_loopw [8] (fun x wr => ∃ i : Nat, i ≤ k + 1 ∧ x = .int .i64 i ∧ Hid (∃ H, DkN W wr D (dkS (k + 1) (mkT ⟨#[115]⟩) i) H)) (fun x _ => k + 1 - (intOf x).toNat)
  case atStart => exact ⟨0, by omega, rfl, Lib.hid ⟨_, HD.out⟩⟩
  case round =>
    obtain ⟨i, hi, rfl, HR⟩ := hrel
    by_cases hlt : i < k + 1
    · have i0 : (0 : Int) ≤ (i : Int) := by omega
      have i1 : (i : Int) < 1 + (k : Int) := by omega
      obtain ⟨H2, hd2⟩ := HR.out
      have HD2 := Lib.hid hd2
      clear hd2 HR
      go_wp2_with (first | (go_at_call 7; refine (marked_any ⟨#[115]⟩ _ (by decide)).mono ?_; rintro e w2 ⟨rfl, h⟩; have HD3 := Lib.hid (HD2.out.below h); clear h) | (go_at_call 6; refine (disk_write (HD3.out.below (bw_below w2 (mkT ⟨#[115]⟩))) i w2.heap.size 0 _ (mkT ⟨#[115]⟩) (by rw [dkS_n]; exact hlt) (mkT_size _) (bw_lies w2 _) (fun q => by have := HD3.out.lt _ q; omega) (by rw [dkS_left]; decide) (by rw [dkS_writes]; omega) (by rw [dkS_writes]; omega)).mono ?_; rintro e w3 ⟨rfl, H4, h, _⟩; have HD4 := Lib.hid h; clear h))
      go_roundw
      case rel => exact ⟨i + 1, by omega, by go_num, Lib.hid ⟨H4, HD4.out⟩⟩
      case measure => simp [intOf]; omega
    · obtain rfl : i = k + 1 := by omega
      have i1 : ¬ ((k + 1 : Nat) : Int) < 1 + (k : Int) := by omega
      obtain ⟨H2, hd2⟩ := HR.out
      have HD2 := Lib.hid hd2
      clear hd2 HR
      have HDN := Lib.hid (dkS_n (k + 1) (mkT ⟨#[115]⟩) (k + 1))
      have HDW := Lib.hid (dkS_writes (k + 1) (mkT ⟨#[115]⟩) (k + 1))
      have HDL := Lib.hid (dkS_left (k + 1) (mkT ⟨#[115]⟩) (k + 1))
      have HDC := Lib.hid (dkS_cur (k + 1) (mkT ⟨#[115]⟩) (k + 1))
      generalize dkS (k + 1) (mkT ⟨#[115]⟩) (k + 1) = d0 at HD2 HDN HDW HDL HDC
      clear hcv
      go_upto_region 16 with (go_at_call 8; refine (newp_at' (10 + 2 * 0) (k + 1) _ (by omega) HD2.out (by omega) (by omega) (by rw [HDW.out]; omega) (by rw [HDW.out]; omega)).mono ?_; rintro e wb ⟨p, H1, rfl, h⟩; have HP0 := Lib.hid h; clear h)
      obtain ⟨G, hG⟩ : ∃ G, G = wb.heap.size := ⟨_, rfl⟩
      have HI : Hid (∃ X, LInv W (wb.alloc (.cells (Array.replicate (k + 1) (.bool false)) 4)) (10 + 2 * 0) p D G (k + 1) d0 (mkT ⟨#[115]⟩) X 0) := by
        have h := HP0.out
        rw [hG]
        refine Lib.hid ⟨_, ⟨H1, h.below ((Below.refl _ _).alloc (Nat.le_refl _) _), fun q => by have := (h.lt _ q).2; omega⟩, h.b.size, by simp, fun q hq => ?_, fun q => frozen_of_row _ _ _ _ _ (heap_alloc_new _ _), ⟨⟨fun _ hk => absurd hk (Nat.not_lt_zero _), fun _ hk => absurd hk (Nat.not_lt_zero _), fun _ hk => absurd hk (Nat.not_lt_zero _), fun _ hk => absurd hk (Nat.not_lt_zero _), fun q hq _ => HDC.out q (by rw [← HDN.out]; exact hq), HDL.out⟩, Free.fresh _ _, rfl, rfl, fun _ => rfl⟩, rfl⟩
        rw [cell_of_row _ _ _ _ _ _ (heap_alloc_new _ _)]
        simp only [Array.getElem?_replicate]
        rw [if_pos hq]
        rfl
      rw [← hG]
      clear HP0 HD HD2 hmk
      generalize wb.alloc (.cells (Array.replicate (k + 1) (.bool false)) 4) = w1 at HI ⊢
      clear hG
      have hlen := HA.out.1
      go_loopw [13, 12, 14, 15, 16] (fun x y _ _ _ wr => ∃ (i : Nat) (many : Int), i ≤ len ∧ i ≤ 100 ∧ x = .int .i64 i ∧ y = .int .i64 many ∧ Hid (∃ X, LInv W wr (10 + 2 * i) p D G (k + 1) d0 (mkT ⟨#[115]⟩) X many)) (fun x _ _ _ _ _ => 100 - (intOf x).toNat)
      case atStart => exact ⟨0, 0, by omega, by omega, rfl, rfl, HI⟩
      case round =>
        obtain ⟨i, many, hi1, hi2, rfl, rfl, HR⟩ := hrel
        by_cases hlt : i < len ∧ i < 100
        · obtain ⟨hlt1, hlt2⟩ := hlt
          have j0 : (0 : Int) ≤ (i : Int) := by omega
          have j1 : (i : Int) < (len : Int) := by omega
          have j2 : (i : Int) < 100 := by omega
          obtain ⟨b, o, rfl, hr, hok⟩ := HA.out.2 i hlt1
          obtain ⟨X, hV⟩ := HR.out
          obtain ⟨H, hpl, hg⟩ := hV.pl
          have x0 := (hpl.b.cell (p := ⟨b, o + i, none⟩) (World.block_lt_of_cell? W _ hr)).trans hr
          generalize zs.getD i 0 = z at x0 hok
          obtain ⟨q, hq, hqk⟩ := red_nat z (1 + (k : Int)) (by omega) (by omega)
          have hqk' : q < k + 1 := by omega
          have q0 : (0 : Int) ≤ (q : Int) := by omega
          have q1 : (q : Int) < 1 + (k : Int) := by omega
          have q2 : (q : Int) < (k : Int) + 1 := by omega
          have q3 : (q : Int) < ((k + 1 : Nat) : Int) := by omega
          obtain ⟨Y, hY, hLY, hlo, hat, hao⟩ := ld_step hV.ld hpl.ok HDN.out hqk' (mkT_size ⟨#[115]⟩) (mkT_good ⟨#[115]⟩)
          have c13 := hV.c q hqk'
          have f13 := hV.f q
          have HRD := Lib.hid (pl_read_is' hpl.first q (by omega) hY (mkT_size _))
          have HV := Lib.hid hV
          have HG := Lib.hid hg
          have HLD := Lib.hid hLY
          have hmany := hV.many
          have hln := hpl.ok.lN
          have hl0 := hpl.ok.l0
          have hm0 : 0 ≤ many := by omega
          have hm1 : many ≤ 1000 := by omega
          clear hV hpl hg hY hLY hr HR hok
          cases hs : (X.at (q : Int)).isSome
          · rw [hs] at c13 hlo
            have hlo' : Y.loads = many + 1 := by rw [hlo, hmany]; rfl
            have HAT := Lib.hid hat
            have HAO := Lib.hid hao
            clear hlo hat hao hs
            go_upto_region 23 with (go_at_call 9; refine HRD.out.mono ?_; rintro e w5 ⟨g, cp, rfl, hl, h⟩; have HL5 := Lib.hid hl; have HP5 := Lib.hid h; have d13 := h.cell c13 HG.out; have e13 := h.frozen HV.out.gl HG.out f13; clear hl h)
            obtain ⟨H6, hp6, hg6, hgl6, hl6, hc6, hf6⟩ := HV.out.see (cp := cp) HP5.out HG.out HL5.out (mkT_size _) hqk' (by omega) HAT.out HAO.out
            have HP6 := Lib.hid hp6.first
            have HG6 := Lib.hid hg6
            have HGL6 := Lib.hid hgl6
            have HL6 := Lib.hid hl6
            have HC6 := Lib.hid hc6
            have HF6 := Lib.hid hf6
            have HLO := Lib.hid hlo'
            clear hp6 hg6 hgl6 hl6 hc6 hf6 d13 e13 c13 f13 hlo' HP5 HL5
            generalize w5.setCell ⟨G, q, none⟩ (.bool true) = w6 at HP6 HG6 HGL6 HL6 HC6 HF6 ⊢
            have hb0 : Below w6.heap.size w6 w6.drew := (Below.refl _ _).drew
            go_region_held3 (fun w' => (convert 30 9 (.slice (some ⟨g, 0, none⟩) 512 cp)).run Try.prog w' = .ok (.string (mkT ⟨#[115]⟩)) w') (exact conv_w0 HL6.out rfl (mkT_size _) (by assumption)) (first | (go_at_call 7; refine (marked_w0 (w0 := w6) (by assumption) _ (by decide)).mono ?_; rintro e w7 ⟨rfl, hb7⟩) | (go_at_call 10; refine (pl_loads_is HP6.out (by assumption) (many + 1) HLO.out).mono ?_; rintro e w8 ⟨rfl, rfl⟩))
            all_goals go_wp2
            all_goals go_roundw
            all_goals first | exact ⟨i + 1, many + 1, by omega, by omega, by go_num, by go_num, Lib.hid ⟨Y, HV.out.next (HP6.out.below (by assumption)) HG6.out HGL6.out HC6.out HF6.out HLD.out _ HLO.out.symm⟩⟩ | (simp [intOf]; omega)
          · rw [hs] at c13 hlo
            have hlo' : Y.loads = many := by rw [hlo, hmany]; exact Int.add_zero _
            have HC6 := Lib.hid (show ∀ p, p < k + 1 → wr.cell? ⟨G, p, none⟩ = some (.bool (Y.at (p : Int)).isSome) from fun p hp => by
              by_cases e : p = q
              · subst e; rw [HV.out.c p hp, hs, hat]
              · rw [hao p e]; exact HV.out.c p hp)
            have HLO := Lib.hid hlo'
            clear hlo hat hao hs hlo'
            go_upto_region 23 with (go_at_call 9; refine HRD.out.mono ?_; rintro e w5 ⟨g, cp, rfl, hl, h⟩; have HL5 := Lib.hid hl; have HP5 := Lib.hid h; have d13 := h.cell c13 HG.out; clear hl h)
            clear c13 d13 f13
            have hb0 : Below w5.heap.size w5 w5.drew := (Below.refl _ _).drew
            go_region_held3 (fun w' => (convert 30 9 (.slice (some ⟨g, 0, none⟩) 512 cp)).run Try.prog w' = .ok (.string (mkT ⟨#[115]⟩)) w') (exact conv_w0 HL5.out rfl (mkT_size _) (by assumption)) (first | (go_at_call 7; refine (marked_w0 (w0 := w5) (by assumption) _ (by decide)).mono ?_; rintro e w7 ⟨rfl, hb7⟩) | (go_at_call 10; refine (pl_loads_is HP5.out (by assumption) (many) HLO.out).mono ?_; rintro e w8 ⟨rfl, rfl⟩))
            all_goals go_wp2
            all_goals go_roundw
            all_goals first | exact ⟨i + 1, many, by omega, by omega, by go_num, by go_num, Lib.hid ⟨Y, HV.out.next (HP5.out.below (by assumption)) HG.out HV.out.gl HC6.out HV.out.f HLD.out _ HLO.out.symm⟩⟩ | (simp [intOf]; omega)
        · have hcase : (¬ (i : Int) < (len : Int)) ∨ ((i : Int) < (len : Int) ∧ ¬ (i : Int) < 100) := by omega
          obtain ⟨X, hV⟩ := HR.out
          obtain ⟨H, hpl, hg⟩ := hV.pl
          have HPL := Lib.hid hpl.first
          have HND := Lib.hid (dirt_nil (X := X) fun j _ => hV.ld.nd j)
          have hdw : X.d.writes = 1 + (k : Int) := by rw [hV.ld.d, HDW.out]; omega
          have HDW2 := Lib.hid hdw
          clear hV hpl hg HR hlt hdw
          rcases hcase with e1 | ⟨e1, e2⟩
          all_goals (
            go_wp2_with (first | (go_at_call 11; refine (pl_dirty_nil HPL.out HND.out).mono ?_; rintro e w6 ⟨ao, ac, rfl, h⟩; have HP6 := Lib.hid h; clear h) | (go_at_call 12; refine (pd_writes HP6.out).mono ?_; rintro e w7 ⟨rfl, rfl⟩; rw [HDW2.out]) | (go_at_call 13; refine (sure_any _).mono ?_; rintro e w9 ⟨rfl, h⟩; have HB9 := Lib.hid h; clear h))
            go_ret
            exact ⟨rfl, HP6.out.b.trans (HB9.out.mono HP6.out.b.size)⟩)
end Go.Proofs.Ytkmedlbokneegaa

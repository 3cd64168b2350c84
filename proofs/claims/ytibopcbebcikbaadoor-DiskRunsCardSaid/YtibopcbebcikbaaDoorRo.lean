/-
  THE DOCUMENT's LISTS AND THE DISK, SIDE BY SIDE: what both make of an act, each call with the number of its error. Conditions: those that each lemma names.
-/
import Derived.Test.YtibopcbebcikbaaDoorRn
import Derived.Test.YtibopcbebcikbaaDoorActs
namespace Go.Proofs.YtibopcbebcikbaaDoor
open Go.RowKit

set_option maxHeartbeats 1000000 in
set_option maxRecDepth 100000 in
theorem crash_any2 {B : Nat} (s : St) (a : Option Addr) (n c : Nat) (ks : List Int) (t : Int) (part : Nat) (w : World) (h : DiskAt B w s) (hk : Ints w a ks) (hn : ks.length = n) (hm : n ≤ 9223372036854775807) (hkb : 0 < n → ∀ b off, a = some ⟨b, off, none⟩ → ¬ s.has b) (hp : part ≤ 512) (hf : fitOk s.pend.length ks t) :
    Calls Tryd.prog 16 #[.pointer (some ⟨s.D, 0, none⟩), .slice a n c, .int .i64 t, .int .i64 part] w (CrashAt B w s ks t part) := by
  have h0 : ¬ (part : Int) < 0 := by omega
  have h1 : ¬ (512 : Int) < (part : Int) := by omega
  have HA := Lib.hid (fits_any s a n c ks t w h hk hn hm)
  have HF := Lib.hid hf
  have HK := Lib.hid hk
  have HN := Lib.hid hn
  have HKB := Lib.hid hkb
  have HH := Lib.hid h
  clear h hk hn hf hkb
  go_enter Tryd.func16, Tryd.ntmps16
  go_wp2_with (go_at_call 34; refine HA.out.mono ?_; rintro e w1 ⟨b, rfl, hb, hbel⟩; obtain rfl : b = true := hb.2 HF.out; clear hb; have HD1 := Lib.hid (HH.out.below hbel); have HS1 := Lib.hid (Step.of_below (s := s) hbel); clear hbel)
  go_loopw [31] (fun i wr => ∃ k : Nat, k ≤ n ∧ i = .int .i64 k ∧ DiskAt B wr (s.kept (ks.take k)) ∧ Step w s wr (s.kept (ks.take k))) (fun i _ => n - (intOf i).toNat)
  case atStart => exact ⟨0, by omega, rfl, by rw [List.take_zero, kept_nil]; exact HD1.out, by rw [List.take_zero, kept_nil]; exact HS1.out⟩
  case round =>
    obtain ⟨k, hk, rfl, hd, hs⟩ := hrel
    have HD := Lib.hid hd
    have HS := Lib.hid hs
    clear hd hs
    by_cases hlt : k < n
    · have hkl : k < ks.length := by rw [HN.out]; exact hlt
      have hlt' : (k : Int) < (n : Int) := by omega
      obtain ⟨b, off, rfl, hc⟩ := HK.out k hkl
      have hc2 := (cell_of_block (HS.out.block b (World.block_lt_of_cell? w _ hc) (HKB.out (by omega) b off rfl))).trans hc
      clear hc
      have hr := HF.out.1.1 ks[k] (List.getElem_mem hkl)
      have HO := Lib.hid (outlive_at (s.kept (ks.take k)) ks[k] 512 512 wr HD.out hr.1 hr.2 rfl (by omega))
      have HE := Lib.hid (kept_next s ks k hkl)
      generalize ks[k] = x at hc2 HO HE
      clear hr
      go_wp2_with (go_at_call 32; refine HO.out.mono ?_; rintro e w2 ⟨rfl, hd1, hs1⟩)
      have HD2 : Hid (DiskAt B w2 (s.kept (ks.take (k + 1)))) := Lib.hid (by rw [← HE.out]; exact hd1)
      have HS2 : Hid (Step w s w2 (s.kept (ks.take (k + 1)))) := Lib.hid (by rw [← HE.out]; exact HS.out.trans hs1)
      clear hd1 hs1
      go_wp2
      go_roundw
      case rel => exact ⟨k + 1, by omega, by go_num, HD2.out, HS2.out⟩
      case measure => simp [intOf]; omega
    · obtain rfl : k = n := by omega
      have e := HN.out
      have eT : ks.take k = ks := by rw [← e, List.take_length]
      rw [eT] at HD HS
      clear e eT
      by_cases ht : t = -1
      · subst ht
        have HA := Lib.hid (settle_any _ _ HD.out)
        have HE := Lib.hid (show (s.kept ks).torn (-1) part = s.kept ks by unfold St.torn; rw [if_pos rfl])
        go_wp2_with (go_at_call 33; refine HA.out.mono ?_; rintro e w1 ⟨rfl, hd1, hs1⟩; have k4 := hd1.d4; have f4 := hd1.fD 4; change w1.cell? ⟨s.D, 4, none⟩ = some (.int .i64 s.left) at k4; change w1.frozen? ⟨s.D, 4, none⟩ = false at f4; have HD3 := Lib.hid hd1; have HS3 := Lib.hid (HS.out.trans hs1); clear hd1 hs1)
        go_ret
        refine ⟨rfl, ?_, ?_⟩
        · unfold St.crash; rw [HE.out]; exact HD3.out.setLeft (-1) (by omega) (by omega)
        · unfold St.crash; rw [HE.out]; exact HS3.out.trans (Step.setD (s := (s.kept ks).settle) 4 _ (fun k hk => .inl hk))
      · have hb1 : (t == -1) = false := by simpa using ht
        have hb2 : (t != -1) = true := by simpa using ht
        have hr := HF.out.2.resolve_left ht
        have HO := Lib.hid (outlive_at (s.kept ks) t part part wr HD.out hr.1 hr.2.1 rfl hp)
        have HE := Lib.hid (show (s.kept ks).torn t part = (s.kept ks).out (s.pend.getD t.toNat 0) part by unfold St.torn; rw [if_neg ht]; rfl)
        clear hr ht
        go_wp2_with (first | (go_at_call 32; refine HO.out.mono ?_; rintro e w2 ⟨rfl, hd2, hs2⟩; have HA := Lib.hid (settle_any _ _ hd2); have HS2 := Lib.hid (HS.out.trans hs2); clear hd2 hs2) | (go_at_call 33; refine HA.out.mono ?_; rintro e w1 ⟨rfl, hd1, hs1⟩; have k4 := hd1.d4; have f4 := hd1.fD 4; change w1.cell? ⟨s.D, 4, none⟩ = some (.int .i64 s.left) at k4; change w1.frozen? ⟨s.D, 4, none⟩ = false at f4; have HD3 := Lib.hid hd1; have HS3 := Lib.hid (HS2.out.trans hs1); clear hd1 hs1))
        go_ret
        refine ⟨rfl, ?_, ?_⟩
        · unfold St.crash; rw [HE.out]; exact HD3.out.setLeft (-1) (by omega) (by omega)
        · unfold St.crash; rw [HE.out]; exact HS3.out.trans (Step.setD (s := ((s.kept ks).out (s.pend.getD t.toNat 0) part).settle) 4 _ (fun k hk => .inl hk))

/-- an error by its number -/
def errv (c : Int) : Value := if c = 0 then .nilIface else .iface 56 (.int .i64 c)
theorem errv0 : errv 0 = .nilIface := by unfold errv; rw [if_pos rfl]
theorem errv1 {c : Int} (h : c ≠ 0) : errv c = .iface 56 (.int .i64 c) := by unfold errv; rw [if_neg h]
theorem num_v (c : Int) (w : World) (hl : Laid w) : Calls Tryd.prog 13 #[errv c] w fun e w' => e = .returned (.int .i64 c) ∧ Below w.heap.size w w' := by
  by_cases h : c = 0
  · subst h; rw [errv0]; exact num_nil w
  · rw [errv1 h]; exact num_err c w hl
theorem num_nowv {W : World} {p : Nat} {w0 w : World} {r0 s : St} (h : Now W p w0 r0 w s) (hl : Laid W) (c : Int) : Calls Tryd.prog 13 #[errv c] w fun e w' => e = .returned (.int .i64 c) ∧ Now W p w0 r0 w' s :=
  (num_v c w (hl.below h.a.b)).mono fun _ _ ⟨he, hb⟩ => ⟨he, h.below hb⟩
def OutN (W : World) (p : Nat) (w0 : World) (r0 : St) (v : Value) (P : St → Prop) (e : Ending) (w' : World) : Prop := ∃ s', e = .returned v ∧ Now W p w0 r0 w' s' ∧ P s'
theorem flush_nowu {W : World} {p : Nat} {w0 w : World} {r0 s : St} (h : Now W p w0 r0 w s) : Calls Tryd.prog 15 #[.pointer (some ⟨p, 0, none⟩)] w (OutN W p w0 r0 .nilIface (fun s' => s' = s.flush)) :=
  (flush_at s w h.a).mono fun _ _ ⟨he, ha, hs⟩ => ⟨_, he, ⟨ha, h.s.trans hs⟩, rfl⟩
theorem limit_nowu {W : World} {p : Nat} {w0 w : World} {r0 s : St} (h : Now W p w0 r0 w s) (x : Int) (h0 : -9223372036854775808 ≤ x) (h1 : x ≤ 9223372036854775807) : Calls Tryd.prog 18 #[.pointer (some ⟨p, 0, none⟩), .int .i64 x] w (OutN W p w0 r0 .nilIface (fun s' => s' = s.limit x)) :=
  (limit_at s x w h.a h0 h1).mono fun _ _ ⟨he, ha, hs⟩ => ⟨_, he, ⟨ha, h.s.trans hs⟩, rfl⟩
def crashOk (m : Nat) (ks : List Int) (t x : Int) : Prop := fitOk m ks t ∧ 0 ≤ x ∧ x ≤ 512
open Classical in
noncomputable def crashC (m : Nat) (ks : List Int) (t x : Int) : Int := if crashOk m ks t x then 0 else 1
theorem crashC0 {m : Nat} {ks : List Int} {t x : Int} (h : crashOk m ks t x) : crashC m ks t x = 0 := by unfold crashC; rw [if_pos h]
theorem crashC1 {m : Nat} {ks : List Int} {t x : Int} (h : ¬ crashOk m ks t x) : crashC m ks t x = 1 := by unfold crashC; rw [if_neg h]
theorem crash_nowu {W : World} {p : Nat} {w0 w : World} {r0 s : St} (h : Now W p w0 r0 w s) (a : Option Addr) (n c : Nat) (ks : List Int) (t x : Int) (hk : Ints w0 a ks) (hn : ks.length = n) (hm : n ≤ 9223372036854775807) (hkb : 0 < n → ∀ b off, a = some ⟨b, off, none⟩ → ¬ r0.has b) :
    Calls Tryd.prog 16 #[.pointer (some ⟨p, 0, none⟩), .slice a n c, .int .i64 t, .int .i64 x] w (OutN W p w0 r0 (errv (crashC s.pend.length ks t x)) (fun s' => (crashOk s.pend.length ks t x → s' = s.crash ks t x.toNat) ∧ (¬ crashOk s.pend.length ks t x → s' = s))) := by
  have hkw : Ints w a ks := by
    intro i hi
    obtain ⟨b, off, ha, hc⟩ := hk i hi
    exact ⟨b, off, ha, (cell_of_block (h.s.block b (World.block_lt_of_cell? w0 _ hc) (hkb (by omega) b off ha))).trans hc⟩
  have hkn : 0 < n → ∀ b off, a = some ⟨b, off, none⟩ → ¬ s.has b := by
    intro h0 b off ha e
    obtain ⟨b', off', ha', hc⟩ := hk 0 (by omega)
    rw [ha] at ha'
    obtain ⟨rfl, rfl⟩ : b = b' ∧ off = off' := by simpa using ha'
    have hlt := World.block_lt_of_cell? w0 _ hc
    change b < w0.heap.size at hlt
    rcases h.s.own b e with q | q
    · exact hkb h0 b off ha q
    · omega
  by_cases hf : crashOk s.pend.length ks t x
  · rw [crashC0 hf, errv0]
    obtain ⟨q, rfl⟩ : ∃ q : Nat, x = q := ⟨x.toNat, by have := hf.2; omega⟩
    have e := h.a.e
    subst e
    refine (crash_any2 s a n c ks t q w h.a.d hkw hn hm hkn (by have := hf.2; omega) hf.1).mono fun _ _ ⟨he, hd, hs⟩ => ⟨_, he, ⟨h.a.step hd hs (crash_D s ks t q), h.s.trans hs⟩, fun _ => ?_, fun e => absurd hf e⟩
    rw [Int.toNat_natCast]
  · rw [crashC1 hf, errv1 (by omega)]
    exact (crash_err s a n c ks t x w h.a hkw hn hm hf).mono fun _ _ ⟨he, ha, hb⟩ => ⟨s, he, h.below hb, fun e => absurd e hf, fun _ => rfl⟩
def rotBad (n : Nat) (i q : Int) : Prop := i < 0 ∨ (n : Int) ≤ i ∨ q < 0 ∨ 511 < q
open Classical in
noncomputable def rotC (n : Nat) (i q : Int) : Int := if rotBad n i q then 4 else 0
theorem rot_nowu {W : World} {p : Nat} {w0 w : World} {r0 s : St} (h : Now W p w0 r0 w s) (i q y : Int) (y0 : 0 ≤ y) (y1 : y < 256) :
    Calls Tryd.prog 17 #[.pointer (some ⟨p, 0, none⟩), .int .i64 i, .int .i64 q, .int .u8 y] w (OutN W p w0 r0 (errv (rotC s.n i q)) (fun s' => (rotBad s.n i q → s' = s) ∧ (¬ rotBad s.n i q → s' = s.rot i.toNat q.toNat y))) := by
  by_cases hb : rotBad s.n i q
  · unfold rotC
    rw [if_pos hb, errv1 (by omega)]
    exact (rot_err h.a i q y (by unfold rotBad at hb; omega)).mono fun _ _ ⟨he, hw⟩ => ⟨s, he, hw ▸ h, fun _ => rfl, fun e => absurd hb e⟩
  · unfold rotC
    rw [if_neg hb, errv0]
    obtain ⟨i', rfl⟩ : ∃ k : Nat, i = k := ⟨i.toNat, by unfold rotBad at hb; omega⟩
    obtain ⟨q', rfl⟩ : ∃ k : Nat, q = k := ⟨q.toNat, by unfold rotBad at hb; omega⟩
    exact (rot_now h i' q' _ _ y rfl rfl (by unfold rotBad at hb; omega) (by unfold rotBad at hb; omega) y0 y1).mono fun _ _ ⟨he, hn⟩ => ⟨_, he, hn, fun e => absurd e hb, fun _ => by rw [Int.toNat_natCast, Int.toNat_natCast]⟩
def writeC (n : Nat) (left i : Int) (size : Nat) : Int := if i < 0 ∨ (n : Int) ≤ i then 4 else if size ≠ 512 then 2 else if left = 0 then 5 else 0
theorem writeC0 {n : Nat} {left i : Int} {size : Nat} (h : writeC n left i size = 0) : 0 ≤ i ∧ i < n ∧ size = 512 ∧ left ≠ 0 := by
  unfold writeC at h
  by_cases a : i < 0 ∨ (n : Int) ≤ i
  · rw [if_pos a] at h; omega
  rw [if_neg a] at h
  by_cases b : size ≠ 512
  · rw [if_pos b] at h; omega
  rw [if_neg b] at h
  by_cases c : left = 0
  · rw [if_pos c] at h; omega
  exact ⟨by omega, by omega, by omega, c⟩
theorem write_nowu {W : World} {p : Nat} {w0 w : World} {r0 s : St} (h : Now W p w0 r0 w s) (i : Int) (t : ByteArray) (c : Nat) (k0 : 0 ≤ s.writes) (k1 : s.writes < 4611686018427387904) :
    Calls Tryd.prog 14 #[.pointer (some ⟨p, 0, none⟩), .int .i64 i, .slice (some ⟨w.heap.size, 0, none⟩) t.size c] (bw w t) (OutN W p w0 r0 (errv (writeC s.n s.left i t.size)) (fun s' => (writeC s.n s.left i t.size ≠ 0 → s' = s) ∧ (writeC s.n s.left i t.size = 0 → Wrote s i.toNat (txt t) s'))) := by
  have h2 := h.below (bw_below w t)
  by_cases a : i < 0 ∨ (s.n : Int) ≤ i
  · have e : writeC s.n s.left i t.size = 4 := by unfold writeC; rw [if_pos a]
    rw [e, errv1 (by omega)]
    exact (write_err h2.a i _ a).mono fun _ _ ⟨he, hw⟩ => ⟨s, he, hw ▸ h2, fun _ => rfl, fun e => by omega⟩
  obtain ⟨i', rfl⟩ : ∃ k : Nat, i = k := ⟨i.toNat, by omega⟩
  by_cases b : t.size ≠ 512
  · have e : writeC s.n s.left i' t.size = 2 := by unfold writeC; rw [if_neg a, if_pos b]
    rw [e, errv1 (by omega)]
    exact (long_err h2.a i' i' _ t.size c rfl (by omega) b).mono fun _ _ ⟨he, hw⟩ => ⟨s, he, hw ▸ h2, fun _ => rfl, fun e => by omega⟩
  have b : t.size = 512 := by omega
  by_cases d : s.left = 0
  · have e : writeC s.n s.left i' t.size = 5 := by unfold writeC; rw [if_neg a, if_neg (by omega), if_pos d]
    rw [e, errv1 (by omega), b]
    exact (full_at s i' i' _ _ c h2.a rfl (by omega) d).mono fun _ _ ⟨he, hw⟩ => ⟨s, he, hw ▸ h2, fun _ => rfl, fun e => by omega⟩
  · have e : writeC s.n s.left i' t.size = 0 := by unfold writeC; rw [if_neg a, if_neg (by omega), if_neg d]
    rw [e, errv0, b]
    exact (write_at s i' i' w t c b h.a rfl (by omega) d k0 k1).mono fun _ _ ⟨he, s', ha, hw, hs⟩ => ⟨s', he, ⟨ha, h.s.trans hs⟩, fun e => absurd rfl e, fun _ => by rw [Int.toNat_natCast]; exact hw⟩

/-! the document's -/
structure RefGo (w : World) (r : Ref) (w' : World) (r' : Ref) : Prop where
  ok : RefOk w' r'
  far : ∀ s, Far r s → (∀ b, s.has b → b < w.heap.size) → Far r' s
  below : Below w.heap.size w w'
theorem RefGo.same {w w' : World} {r : Ref} (h : RefOk w r) (hb : Below w.heap.size w w') : RefGo w r w' r := ⟨h.below hb, fun _ h _ => h, hb⟩
def RefOut (w : World) (r : Ref) (c : Int) (P : Ref → Prop) (e : Ending) (w' : World) : Prop := ∃ r', e = .returned (.tuple #[r'.val, .int .i64 c]) ∧ RefGo w r w' r' ∧ P r'
/-- all but what both the texts are -/
structure RefNew (r r' : Ref) (N S : Nat → Nat → Int) (pend : List Nat) (writes left : Int) : Prop where
  n : r'.n = r.n
  N : r'.N = N
  S : r'.S = S
  pend : r'.pend = pend
  writes : r'.writes = writes
  left : r'.left = left
theorem refcrash_u (r : Ref) (a : Option Addr) (n c : Nat) (ks : List Int) (t x : Int) (w : World) (h : RefOk w r) (hk : Ints w a ks) (hn : ks.length = n) (hm : n ≤ 9223372036854775807) (hlt : ∀ i ∈ r.pend, i < r.n) :
    Calls Tryd.prog 25 #[r.val, .slice a n c, .int .i64 t, .int .i64 x] w (RefOut w r (crashC r.pend.length ks t x) (fun r' => (crashOk r.pend.length ks t x → RefNew r r' (rc r ks t x.toNat r.pend.length) (rc r ks t x.toNat r.pend.length) [] r.writes (-1)) ∧ (¬ crashOk r.pend.length ks t x → r' = r))) := by
  by_cases hf : crashOk r.pend.length ks t x
  · rw [crashC0 hf]
    obtain ⟨q, rfl⟩ : ∃ q : Nat, x = q := ⟨x.toNat, by have := hf.2; omega⟩
    exact (refcrash_any r a n c ks t q q w h hk hn hm rfl (by have := hf.2; omega) hf.1 hlt).mono fun _ _ ⟨r', he, k⟩ => ⟨r', he, ⟨k.ok, k.far, k.below⟩, fun _ => ⟨k.n, k.N, k.S, k.pend, k.writes, k.left⟩, fun e => absurd hf e⟩
  · rw [crashC1 hf]
    exact (refcrash_err r a n c ks t x w h hk hn hm hf).mono fun _ _ ⟨he, hb⟩ => ⟨r, he, .same h hb, fun e => absurd e hf, fun _ => rfl⟩
theorem refrot_u (r : Ref) (i q y : Int) (w : World) (h : RefOk w r) (y0 : 0 ≤ y) (y1 : y < 256) :
    Calls Tryd.prog 26 #[r.val, .int .i64 i, .int .i64 q, .int .u8 y] w (RefOut w r (rotC r.n i q) (fun r' => (rotBad r.n i q → r' = r) ∧ (¬ rotBad r.n i q → RefNew r r' (upd r.N i.toNat (turn (r.N i.toNat) q.toNat y)) (upd r.S i.toNat (turn (r.S i.toNat) q.toNat y)) r.pend r.writes r.left))) := by
  by_cases hb : rotBad r.n i q
  · unfold rotC
    rw [if_pos hb]
    exact (refrot_range r i q y w hb h.n1.2).mono fun _ _ ⟨he, hw⟩ => ⟨r, he, .same h hw, fun _ => rfl, fun e => absurd hb e⟩
  · unfold rotC
    rw [if_neg hb]
    obtain ⟨i', rfl⟩ : ∃ k : Nat, i = k := ⟨i.toNat, by unfold rotBad at hb; omega⟩
    obtain ⟨q', rfl⟩ : ∃ k : Nat, q = k := ⟨q.toNat, by unfold rotBad at hb; omega⟩
    exact (refrot_any r i' q' y w h (by unfold rotBad at hb; omega) (by unfold rotBad at hb; omega) y0 y1).mono fun _ _ ⟨r', he, k⟩ => ⟨r', he, ⟨k.ok, k.far, k.below⟩, fun e => absurd e hb, fun _ => by rw [Int.toNat_natCast, Int.toNat_natCast]; exact ⟨k.n, k.N, k.S, k.pend, k.writes, k.left⟩⟩
theorem refwrite_u (r : Ref) (i : Int) (t : ByteArray) (w : World) (h : RefOk w r) (l1 : r.left ≤ 9223372036854775807) (l0 : -1 ≤ r.left) (w0 : 0 ≤ r.writes) (w1 : r.writes < 4611686018427387904) (hp : r.pend.length ≤ 99) :
    Calls Tryd.prog 27 #[r.val, .int .i64 i, .string t] w (RefOut w r (writeC r.n r.left i t.size) (fun r' => (writeC r.n r.left i t.size ≠ 0 → r' = r) ∧ (writeC r.n r.left i t.size = 0 → RefNew r r' (upd r.N i.toNat (txt t)) r.S (if i.toNat ∈ r.pend then r.pend else r.pend ++ [i.toNat]) (r.writes + 1) (if 0 < r.left then r.left - 1 else r.left)))) := by
  by_cases a : i < 0 ∨ (r.n : Int) ≤ i
  · have e : writeC r.n r.left i t.size = 4 := by unfold writeC; rw [if_pos a]
    rw [e]
    exact (refwrite_range r i t w a h.n1.2).mono fun _ _ ⟨he, hw⟩ => ⟨r, he, .same h hw, fun _ => rfl, fun e => by omega⟩
  obtain ⟨i', rfl⟩ : ∃ k : Nat, i = k := ⟨i.toNat, by omega⟩
  by_cases b : t.size ≠ 512
  · have e : writeC r.n r.left i' t.size = 2 := by unfold writeC; rw [if_neg a, if_pos b]
    rw [e]
    exact (refwrite_long r i' t w (by omega) h.n1.2 b).mono fun _ _ ⟨he, hw⟩ => ⟨r, he, .same h hw, fun _ => rfl, fun e => by omega⟩
  have b : t.size = 512 := by omega
  by_cases d : r.left = 0
  · have e : writeC r.n r.left i' t.size = 5 := by unfold writeC; rw [if_neg a, if_neg (by omega), if_pos d]
    rw [e]
    exact (refwrite_full r i' t w (by omega) h.n1.2 b d).mono fun _ _ ⟨he, hw⟩ => ⟨r, he, .same h hw, fun _ => rfl, fun e => by omega⟩
  · have e : writeC r.n r.left i' t.size = 0 := by unfold writeC; rw [if_neg a, if_neg (by omega), if_neg d]
    rw [e]
    exact (refwrite_any r i' t w h (by omega) b d l1 l0 w0 w1 (fun _ => hp)).mono fun _ _ ⟨r', he, k⟩ => ⟨r', he, ⟨k.ok, k.far, k.below⟩, fun e => absurd rfl e, fun _ => by rw [Int.toNat_natCast]; exact ⟨k.n, k.N, k.S, k.pend, k.writes, k.left⟩⟩

/-! the same of both -/
structure Same (s : St) (r : Ref) : Prop where
  n : r.n = s.n
  N : ∀ i j, j < 512 → r.N i j = s.cur i j
  S : ∀ i j, j < 512 → r.S i j = s.sure i j
  pend : r.pend = s.pend
  writes : r.writes = s.writes
  left : r.left = max s.left (-1)
def Ref.flush (r : Ref) : Ref := { r with sb := r.nb, sc := r.nc, S := r.N, pa := none, pc := 0, pend := [] }
theorem same_flush {B : Nat} {s : St} {r : Ref} (o : s.Ok B) (h : Same s r) : Same s.flush r.flush :=
  ⟨h.n, fun i j hj => by rw [flush_cur o i j hj]; exact h.N i j hj, fun i j hj => by rw [flush_sure o i j hj]; exact h.N i j hj, rfl, h.writes, h.left⟩
theorem go_flush {w : World} {r : Ref} (h : RefOk w r) : RefGo w r w r.flush :=
  ⟨⟨h.N, h.N, h.nc, h.nc, ints_nil _ _, h.bN, h.bN, h.n1, Nat.zero_le _, fun _ => ⟨rfl, rfl⟩⟩, fun _ hf _ => ⟨hf.1, hf.1, fun _ _ e => by cases e⟩, Below.refl _ _⟩
theorem same_limit {s : St} {r : Ref} (h : Same s r) (x : Int) : Same (s.limit x) { r with left := max x (-1) } := ⟨h.n, h.N, h.S, h.pend, h.writes, rfl⟩
theorem crash_same {B : Nat} {s : St} {r r' : Ref} (o : s.Ok B) (h : Same s r) {ks : List Int} {t : Int} {p : Nat} (hf : fitOk s.pend.length ks t) (k : RefNew r r' (rc r ks t p r.pend.length) (rc r ks t p r.pend.length) [] r.writes (-1)) : Same (s.crash ks t p) r' := by
  have hv : ∀ i j, j < 512 → rc r ks t p r.pend.length i j = (s.crash ks t p).cur i j := by
    intro i j hj
    rw [rc_all r ks t p (by rw [h.pend]; exact o.nd), crash_val o ks t p hf i j hj, h.pend]
    by_cases a : i ∈ s.pend
    · obtain ⟨b, hb⟩ := Option.ne_none_iff_exists'.1 ((o.mem i).1 a)
      have hc : s.cur i j = s.now i j := by unfold St.cur; rw [hb]
      rw [if_pos a, if_pos a, h.N i j hj, h.S i j hj, hc]
    · rw [if_neg a, if_neg a, h.S i j hj]
  refine ⟨by rw [k.n, h.n, crash_n], fun i j hj => by rw [k.N]; exact hv i j hj, fun i j hj => by rw [k.S]; exact hv i j hj, by rw [k.pend]; rfl, by rw [k.writes, h.writes, crash_writes], by rw [k.left]; rfl⟩
theorem rot_same {s : St} {r r' : Ref} (h : Same s r) (i q : Nat) (hq : q < 512) (y : Int) (k : RefNew r r' (upd r.N i (turn (r.N i) q y)) (upd r.S i (turn (r.S i) q y)) r.pend r.writes r.left) : Same (s.rot i q y) r' := by
  have hk := rot_keeps s i q y
  refine ⟨by rw [k.n, h.n, hk.n], fun a j hj => ?_, fun a j hj => ?_, by rw [k.pend, h.pend, hk.pend], by rw [k.writes, h.writes, hk.writes], by rw [k.left, h.left, hk.left]⟩
  · rw [k.N, rot_cur]
    unfold upd
    by_cases e : a = i
    · rw [if_pos e, if_pos e]; exact turn_congr q y (h.N i q hq) j (h.N i j hj)
    · rw [if_neg e, if_neg e]; exact h.N a j hj
  · rw [k.S, rot_sure]
    unfold upd
    by_cases e : a = i
    · rw [if_pos e, if_pos e]; exact turn_congr q y (h.S i q hq) j (h.S i j hj)
    · rw [if_neg e, if_neg e]; exact h.S a j hj
theorem write_same {B : Nat} {s s' : St} {r r' : Ref} (o : s.Ok B) (h : Same s r) (i : Nat) (f : Nat → Int) (hw : Wrote s i f s') (k : RefNew r r' (upd r.N i f) r.S (if i ∈ r.pend then r.pend else r.pend ++ [i]) (r.writes + 1) (if 0 < r.left then r.left - 1 else r.left)) : Same s' r' := by
  refine ⟨by rw [k.n, h.n, hw.n], fun a j hj => ?_, fun a j hj => by rw [k.S, h.S a j hj, hw.sure], ?_, by rw [k.writes, h.writes, hw.writes], ?_⟩
  · rw [k.N, hw.cur]
    unfold upd
    by_cases e : a = i
    · rw [if_pos e, if_pos e]
    · rw [if_neg e, if_neg e]; exact h.N a j hj
  · rw [k.pend, h.pend, hw.pend]
    by_cases e : i ∈ s.pend
    · rw [if_pos e, if_neg ((o.mem i).1 e)]
    · rw [if_neg e, if_pos (Classical.not_not.1 (fun q => e ((o.mem i).2 q)))]
  · rw [k.left, hw.left, h.left]
    by_cases e : 0 < s.left
    · rw [if_pos e, if_pos (by omega)]; omega
    · rw [if_neg e, if_neg (by omega)]
end Go.Proofs.YtibopcbebcikbaaDoor

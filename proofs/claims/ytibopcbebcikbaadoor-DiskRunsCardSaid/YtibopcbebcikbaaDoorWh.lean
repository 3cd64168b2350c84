/-
  THE WALKS of (*Disk).fits, its closure, and Crash. Conditions: a disk lies in memory; the numbers lie in memory, in no block of the disk's.
-/
import Derived.Test.YtibopcbebcikbaaDoorWg
namespace Go.Proofs.YtibopcbebcikbaaDoor
open Go.RowKit

set_option maxRecDepth 100000 in
theorem take_low (C K m : Nat) (x : Int) (w : World) (hC : w.cell? ⟨C, 0, none⟩ = some (.slice (some ⟨K, 0, none⟩) m m)) (hx : x < 0 ∨ (m : Int) ≤ x) :
    Calls Tryd.prog 45 #[.int .i64 x, .pointer (some ⟨C, 0, none⟩)] w fun e w' => e = .returned (.bool false) ∧ w = w' := by
  by_cases h : x < 0
  · go_enter Tryd.func45, Tryd.ntmps45
    go_wp2
    go_ret
    exact ⟨rfl, rfl⟩
  · have h1 : (m : Int) ≤ x := by omega
    have h0 : 0 ≤ x := by omega
    clear hx h
    go_enter Tryd.func45, Tryd.ntmps45
    go_wp2
    go_ret
    exact ⟨rfl, rfl⟩
set_option maxRecDepth 100000 in
theorem take_had (C K m x : Nat) (w : World) (hC : w.cell? ⟨C, 0, none⟩ = some (.slice (some ⟨K, 0, none⟩) m m)) (hx : x < m) (hK : w.cell? ⟨K, x, none⟩ = some (.bool true)) :
    Calls Tryd.prog 45 #[.int .i64 x, .pointer (some ⟨C, 0, none⟩)] w fun e w' => e = .returned (.bool false) ∧ w = w' := by
  have h0 : (0 : Int) ≤ (x : Int) := by omega
  have h1 : (x : Int) < (m : Int) := by omega
  have h2 : ¬ (m : Int) ≤ (x : Int) := by omega
  go_enter Tryd.func45, Tryd.ntmps45
  go_wp2
  go_ret
  exact ⟨rfl, rfl⟩
set_option maxRecDepth 100000 in
theorem take_new (C K m x : Nat) (w : World) (hC : w.cell? ⟨C, 0, none⟩ = some (.slice (some ⟨K, 0, none⟩) m m)) (hx : x < m) (hK : w.cell? ⟨K, x, none⟩ = some (.bool false)) (fK : w.frozen? ⟨K, x, none⟩ = false) :
    Calls Tryd.prog 45 #[.int .i64 x, .pointer (some ⟨C, 0, none⟩)] w fun e w' => e = .returned (.bool true) ∧ w' = w.setCell ⟨K, x, none⟩ (.bool true) := by
  have h0 : (0 : Int) ≤ (x : Int) := by omega
  have h1 : (x : Int) < (m : Int) := by omega
  have h2 : ¬ (m : Int) ≤ (x : Int) := by omega
  go_enter Tryd.func45, Tryd.ntmps45
  go_wp2
  go_ret
  exact ⟨rfl, rfl⟩

/-- such a crash can be -/
def keepOk (m : Nat) (ks : List Int) : Prop := (∀ k ∈ ks, 0 ≤ k ∧ k < m) ∧ ks.Nodup
def fitOk (m : Nat) (ks : List Int) (t : Int) : Prop := keepOk m ks ∧ (t = -1 ∨ (0 ≤ t ∧ t < m ∧ t ∉ ks))
def FitsAt (m : Nat) (ks : List Int) (t : Int) (w : World) (e : Ending) (w' : World) : Prop :=
  ∃ b, e = .returned (.bool b) ∧ (b = true ↔ fitOk m ks t) ∧ Below w.heap.size w w'
set_option maxRecDepth 100000 in
theorem info_t : (Tryd.prog.info? 4).map (fun i => (i.zero, i.size, i.bytes)) = some (some (.bool false), 1, 1) := by kernel_rfl
set_option maxRecDepth 100000 in
theorem make_t (n : Nat) (hn : n ≤ 16384) (w : World) : (Instr.makeSlice 101 (.int .i64 (n : Int)) (.int .i64 (n : Int))).run Tryd.prog w = .ok (.slice (some ⟨w.heap.size, 0, none⟩) n n) (w.alloc (.cells (Array.replicate n (.bool false)) 4)) := by
  rw [run_make_row' (P := Tryd.prog) 101 4 (.bool false) 1 Tryd.underlying101 info_t rfl .i64 .i64 n (by omega) (by omega) w, made_eq]
/-- which places are taken -/
structure TakeInv (w : World) (m C K : Nat) (l : List Int) (wr : World) : Prop where
  c : wr.cell? ⟨C, 0, none⟩ = some (.slice (some ⟨K, 0, none⟩) m m)
  k : wr.rowIs K 4 m (fun j => .bool (decide ((j : Int) ∈ l)))
  CK : C ≠ K
  B : w.heap.size ≤ K
  below : Below w.heap.size w wr
theorem TakeInv.next {w wr : World} {m C K : Nat} {l : List Int} (h : TakeInv w m C K l wr) (x : Nat) : TakeInv w m C K (l ++ [(x : Int)]) (wr.setCell ⟨K, x, none⟩ (.bool true)) := by
  refine ⟨?_, ?_, h.CK, h.B, h.below.setCell h.B _⟩
  · rw [cell_of_block (Below.heap_setCell _ _ _ _ h.CK)]; exact h.c
  · refine (h.k.set x (.bool true)).congr fun j hj => ?_
    by_cases e : j = x
    · simp [e]
    · simp [e]
      omega
theorem keepOk_bad {m : Nat} {ks : List Int} {k : Nat} (hk : k < ks.length) (h : ks[k] < 0 ∨ (m : Int) ≤ ks[k] ∨ ks[k] ∈ ks.take k) : ¬ keepOk m ks := by
  rintro ⟨h1, h2⟩
  have hm := h1 ks[k] (List.getElem_mem hk)
  rcases h with h | h | h
  · omega
  · omega
  · have e : ks = ks.take k ++ ks.drop k := (List.take_append_drop k ks).symm
    have e2 : ks.drop k = ks[k] :: ks.drop (k + 1) := List.drop_eq_getElem_cons hk
    rw [e2] at e
    have h3 := h2
    rw [e, List.nodup_append] at h3
    exact h3.2.2 ks[k] h ks[k] List.mem_cons_self rfl
theorem keepOk_next {m : Nat} {ks : List Int} {k : Nat} (hk : k < ks.length) (h : keepOk m (ks.take k)) (h0 : 0 ≤ ks[k]) (h1 : ks[k] < m) (h2 : ks[k] ∉ ks.take k) : keepOk m (ks.take (k + 1)) := by
  have e := List.take_succ_eq_append_getElem hk
  unfold keepOk
  rw [e]
  refine ⟨fun x hx => ?_, ?_⟩
  · rw [List.mem_append, List.mem_singleton] at hx
    rcases hx with hx | rfl
    · exact h.1 x hx
    · exact ⟨h0, h1⟩
  · rw [List.nodup_append]
    exact ⟨h.2, by simp, fun a ha b hb e => by
      obtain rfl : b = ks[k] := by simpa using hb
      subst e
      exact h2 ha⟩
set_option maxHeartbeats 1000000 in
set_option maxRecDepth 100000 in
theorem fits_any {B : Nat} (s : St) (a : Option Addr) (n c : Nat) (ks : List Int) (t : Int) (w : World) (h : DiskAt B w s) (hk : Ints w a ks) (hn : ks.length = n) (hm : n ≤ 9223372036854775807) :
    Calls Tryd.prog 34 #[.pointer (some ⟨s.D, 0, none⟩), .slice a n c, .int .i64 t] w (FitsAt s.pend.length ks t w) := by
  have c2 := h.d2
  obtain ⟨ao, cap, hv⟩ := own_slice h.p
  rw [hv] at c2
  have n1 := h.ok.n1
  have hle := pend_le h.ok
  have hmk := make_t s.pend.length (by omega)
  have HK := Lib.hid hk
  have HN := Lib.hid hn
  have H0 := Lib.hid (show TakeInv w s.pend.length (w.heap.size + 1) w.heap.size [] ((w.alloc (.cells (Array.replicate s.pend.length (.bool false)) 4)).alloc (.cells #[.slice (some ⟨w.heap.size, 0, none⟩) s.pend.length s.pend.length] 101)) by
    refine ⟨?_, ?_, by omega, Nat.le_refl _, ((Below.refl _ _).alloc (Nat.le_refl _) _).alloc (by simp) _⟩
    · rw [cell_of_row _ _ _ _ _ _ (heap_alloc2_new _ _ _)]; rfl
    · have e := (World.rowIs_made w (.bool false) s.pend.length 4).congr (g := fun j => .bool (decide ((j : Int) ∈ ([] : List Int)))) (fun i _ => by simp)
      rw [made_eq] at e
      exact e.alloc _)
  generalize s.pend.length = m at *
  clear h hk hn hv
  go_enter Tryd.func34, Tryd.ntmps34
  go_wp2
  go_loopw [20] (fun i wr => ∃ k : Nat, k ≤ n ∧ i = .int .i64 k ∧ keepOk m (ks.take k) ∧ TakeInv w m (w.heap.size + 1) w.heap.size (ks.take k) wr) (fun i _ => n - (intOf i).toNat)
  case atStart => exact ⟨0, by omega, rfl, ⟨by simp, by simp⟩, H0.out⟩
  case round =>
    obtain ⟨k, hk, rfl, hko, hti⟩ := hrel
    have HO := Lib.hid hko
    have HT := Lib.hid hti
    clear hko hti
    by_cases hlt : k < n
    · have hkl : k < ks.length := by rw [HN.out]; exact hlt
      obtain ⟨b, off, rfl, hc⟩ := HK.out k hkl
      have hc2 := (HT.out.below.cell (p := ⟨b, off + k, none⟩) (World.block_lt_of_cell? w _ hc)).trans hc
      have hlt' : (k : Int) < (n : Int) := by omega
      clear hc
      by_cases hlow : ks[k] < 0 ∨ (m : Int) ≤ ks[k]
      · have HB := Lib.hid (show ¬ keepOk m ks from keepOk_bad hkl (by rcases hlow with e | e; exact .inl e; exact .inr (.inl e)))
        have HA := Lib.hid (take_low (w.heap.size + 1) w.heap.size m ks[k] wr HT.out.c hlow)
        generalize ks[k] = x at hc2 HA
        clear hlow
        go_wp2_with (go_at_call 45; refine HA.out.mono ?_; rintro e w1 ⟨rfl, rfl⟩)
        go_ret
        exact ⟨false, rfl, ⟨fun e => (Bool.false_ne_true e).elim, fun e => absurd e.1 HB.out⟩, HT.out.below⟩
      · obtain ⟨x, hx⟩ : ∃ x : Nat, ks[k] = x := ⟨ks[k].toNat, by omega⟩
        have hxm : x < m := by omega
        have HX := Lib.hid hx
        by_cases hin : ks[k] ∈ ks.take k
        · have HB := Lib.hid (show ¬ keepOk m ks from keepOk_bad hkl (.inr (.inr hin)))
          have hcx := HT.out.k.cell hxm
          have HA := Lib.hid (take_had (w.heap.size + 1) w.heap.size m x wr HT.out.c hxm (by rw [hcx, decide_eq_true (by rw [← hx]; exact hin)]))
          rw [hx] at hc2
          clear hx hcx hin hlow
          go_wp2_with (go_at_call 45; refine HA.out.mono ?_; rintro e w1 ⟨rfl, rfl⟩)
          go_ret
          exact ⟨false, rfl, ⟨fun e => (Bool.false_ne_true e).elim, fun e => absurd e.1 HB.out⟩, HT.out.below⟩
        · have hcx := HT.out.k.cell hxm
          have HA := Lib.hid (take_new (w.heap.size + 1) w.heap.size m x wr HT.out.c hxm (by rw [hcx, decide_eq_false (by rw [← hx]; exact hin)]) (HT.out.k.frozen x))
          have HO2 := Lib.hid (keepOk_next hkl HO.out (by omega) (by omega) hin)
          have HT2 := Lib.hid (show TakeInv w m (w.heap.size + 1) w.heap.size (ks.take (k + 1)) (wr.setCell ⟨w.heap.size, x, none⟩ (.bool true)) by
            rw [List.take_succ_eq_append_getElem hkl, hx]
            exact HT.out.next x)
          rw [hx] at hc2
          clear hx hcx hin hlow
          go_wp2_with (go_at_call 45; refine HA.out.mono ?_; rintro e w1 ⟨rfl, rfl⟩)
          go_roundw
          case rel => exact ⟨k + 1, by omega, by go_num, HO2.out, HT2.out⟩
          case measure => simp [intOf]; omega
    · obtain rfl : k = n := by omega
      have e := HN.out
      have eT : ks.take k = ks := by rw [← e, List.take_length]
      rw [eT] at HO HT
      clear e eT
      by_cases h1 : t = -1
      · subst h1
        go_wp2
        go_ret
        exact ⟨true, rfl, ⟨fun _ => ⟨HO.out, .inl rfl⟩, fun _ => rfl⟩, HT.out.below⟩
      · have hb1 : (t == -1) = false := by simpa using h1
        have H1 := Lib.hid h1
        clear h1
        by_cases hlow : t < 0 ∨ (m : Int) ≤ t
        · have HB := Lib.hid (show ¬ fitOk m ks t from fun ⟨_, e⟩ => by have := H1.out; rcases e with e | e; exact this e; omega)
          have HA := Lib.hid (take_low (w.heap.size + 1) w.heap.size m t wr HT.out.c hlow)
          clear hlow
          go_wp2_with (go_at_call 45; refine HA.out.mono ?_; rintro e w1 ⟨rfl, rfl⟩)
          go_ret
          exact ⟨false, rfl, ⟨fun e => (Bool.false_ne_true e).elim, fun e => absurd e HB.out⟩, HT.out.below⟩
        · obtain ⟨x, rfl⟩ : ∃ x : Nat, t = x := ⟨t.toNat, by omega⟩
          have hxm : x < m := by omega
          have hcx := HT.out.k.cell hxm
          by_cases hin : (x : Int) ∈ ks
          · have HB := Lib.hid (show ¬ fitOk m ks x from fun ⟨_, e⟩ => by rcases e with e | e; exact H1.out e; exact e.2.2 hin)
            have HA := Lib.hid (take_had (w.heap.size + 1) w.heap.size m x wr HT.out.c hxm (by rw [hcx, decide_eq_true hin]))
            clear hcx hin hlow
            go_wp2_with (go_at_call 45; refine HA.out.mono ?_; rintro e w1 ⟨rfl, rfl⟩)
            go_ret
            exact ⟨false, rfl, ⟨fun e => (Bool.false_ne_true e).elim, fun e => absurd e HB.out⟩, HT.out.below⟩
          · have HB := Lib.hid (show fitOk m ks x from ⟨HO.out, .inr ⟨by omega, by omega, hin⟩⟩)
            have HA := Lib.hid (take_new (w.heap.size + 1) w.heap.size m x wr HT.out.c hxm (by rw [hcx, decide_eq_false hin]) (HT.out.k.frozen x))
            clear hcx hin hlow
            go_wp2_with (go_at_call 45; refine HA.out.mono ?_; rintro e w1 ⟨rfl, rfl⟩)
            go_ret
            exact ⟨true, rfl, ⟨fun _ => HB.out, fun _ => rfl⟩, (HT.out.next x).below⟩

/-- what a crash leaves -/
def St.kept (s : St) (ks : List Int) : St := s.outs (ks.map fun k => s.pend.getD k.toNat 0)
def St.torn (s : St) (t : Int) (part : Nat) : St := if t = -1 then s else s.out (s.pend.getD t.toNat 0) part
def St.crash (s : St) (ks : List Int) (t : Int) (part : Nat) : St := { ((s.kept ks).torn t part).settle with left := -1 }
def CrashAt (B : Nat) (w : World) (s : St) (ks : List Int) (t : Int) (part : Nat) (e : Ending) (w' : World) : Prop :=
  e = .returned .nilIface ∧ DiskAt B w' (s.crash ks t part) ∧ Step w s w' (s.crash ks t part)
set_option maxRecDepth 100000 in
theorem crash_part (s : St) (v : Value) (t x : Int) (w : World) (hx : x < 0 ∨ 512 < x) :
    Calls Tryd.prog 16 #[.pointer (some ⟨s.D, 0, none⟩), v, .int .i64 t, .int .i64 x] w fun e w' => e = .returned (.iface 56 (.int .i64 1)) ∧ Below w.heap.size w w' := by
  by_cases h0 : x < 0
  · go_enter Tryd.func16, Tryd.ntmps16
    go_wp2
    go_ret
    exact ⟨rfl, Below.refl _ _⟩
  · have h1 : 512 < x := by omega
    go_enter Tryd.func16, Tryd.ntmps16
    go_wp2
    go_ret
    exact ⟨rfl, Below.refl _ _⟩
set_option maxRecDepth 100000 in
theorem crash_no {B : Nat} (s : St) (a : Option Addr) (n c : Nat) (ks : List Int) (t : Int) (part : Nat) (w : World) (h : DiskAt B w s) (hk : Ints w a ks) (hn : ks.length = n) (hm : n ≤ 9223372036854775807) (hp : part ≤ 512) (hf : ¬ fitOk s.pend.length ks t) :
    Calls Tryd.prog 16 #[.pointer (some ⟨s.D, 0, none⟩), .slice a n c, .int .i64 t, .int .i64 part] w fun e w' => e = .returned (.iface 56 (.int .i64 1)) ∧ Below w.heap.size w w' := by
  have h0 : ¬ (part : Int) < 0 := by omega
  have h1 : ¬ (512 : Int) < (part : Int) := by omega
  have HA := Lib.hid (fits_any s a n c ks t w h hk hn hm)
  have HF := Lib.hid hf
  clear h hk hn hf
  go_enter Tryd.func16, Tryd.ntmps16
  go_wp2_with (go_at_call 34; refine HA.out.mono ?_; rintro e w1 ⟨b, rfl, hb, hbel⟩; obtain rfl : b = false := by (cases b; rfl; exact absurd (hb.1 rfl) HF.out))
  go_ret
  exact ⟨rfl, hbel⟩
set_option maxRecDepth 100000 in
theorem outlive_at {B : Nat} (s : St) (q x : Int) (part : Nat) (w : World) (h : DiskAt B w s) (q0 : 0 ≤ q) (q1 : q < s.pend.length) (hx : x = part) (hpart : part ≤ 512) :
    Calls Tryd.prog 32 #[.pointer (some ⟨s.D, 0, none⟩), .int .i64 q, .int .i64 x] w (OutAt B w s (s.pend.getD q.toNat 0) part) := by
  have hp : q.toNat < s.pend.length := by omega
  have e : s.pend.getD q.toNat 0 = s.pend[q.toNat] := by simp [hp]
  rw [e]
  exact outlive_any s q.toNat q x part w h hp (by omega) hx hpart
theorem kept_next (s : St) (ks : List Int) (k : Nat) (hk : k < ks.length) : (s.kept (ks.take k)).out (s.pend.getD (ks[k]).toNat 0) 512 = s.kept (ks.take (k + 1)) := by
  unfold St.kept
  rw [List.take_succ_eq_append_getElem hk, List.map_append]
  exact outs_out s _ _
theorem kept_nil (s : St) : s.kept [] = s := outs_nil s
set_option maxHeartbeats 1000000 in
set_option maxRecDepth 100000 in
theorem crash_any {B : Nat} (s : St) (a : Option Addr) (n c : Nat) (ks : List Int) (t : Int) (part : Nat) (w : World) (h : DiskAt B w s) (hk : Ints w a ks) (hn : ks.length = n) (hm : n ≤ 9223372036854775807) (hkb : ∀ b off, a = some ⟨b, off, none⟩ → ¬ s.has b) (hp : part ≤ 512) (hf : fitOk s.pend.length ks t) :
    Calls Tryd.prog 16 #[.pointer (some ⟨s.D, 0, none⟩), .slice a n c, .int .i64 t, .int .i64 part] w (CrashAt B w s ks t part) := by
  have h0 : ¬ (part : Int) < 0 := by omega
  have h1 : ¬ (512 : Int) < (part : Int) := by omega
  have HA := Lib.hid (fits_any s a n c ks t w h hk hn hm)
  have HF := Lib.hid hf
  have HK := Lib.hid hk
  have HN := Lib.hid hn
  have HKB := Lib.hid hkb
  have HH := Lib.hid h
  clear h hk hn hf hkb
  go_enter Tryd.func16, Tryd.ntmps16
  go_wp2_with (go_at_call 34; refine HA.out.mono ?_; rintro e w1 ⟨b, rfl, hb, hbel⟩; obtain rfl : b = true := hb.2 HF.out; clear hb; have HD1 := Lib.hid (HH.out.below hbel); have HS1 := Lib.hid (Step.of_below (s := s) hbel); clear hbel)
  go_loopw [31] (fun i wr => ∃ k : Nat, k ≤ n ∧ i = .int .i64 k ∧ DiskAt B wr (s.kept (ks.take k)) ∧ Step w s wr (s.kept (ks.take k))) (fun i _ => n - (intOf i).toNat)
  case atStart => exact ⟨0, by omega, rfl, by rw [List.take_zero, kept_nil]; exact HD1.out, by rw [List.take_zero, kept_nil]; exact HS1.out⟩
  case round =>
    obtain ⟨k, hk, rfl, hd, hs⟩ := hrel
    have HD := Lib.hid hd
    have HS := Lib.hid hs
    clear hd hs
    by_cases hlt : k < n
    · have hkl : k < ks.length := by rw [HN.out]; exact hlt
      have hlt' : (k : Int) < (n : Int) := by omega
      obtain ⟨b, off, rfl, hc⟩ := HK.out k hkl
      have hc2 := (cell_of_block (HS.out.block b (World.block_lt_of_cell? w _ hc) (HKB.out b off rfl))).trans hc
      clear hc
      have hr := HF.out.1.1 ks[k] (List.getElem_mem hkl)
      have HO := Lib.hid (outlive_at (s.kept (ks.take k)) ks[k] 512 512 wr HD.out hr.1 hr.2 rfl (by omega))
      have HE := Lib.hid (kept_next s ks k hkl)
      generalize ks[k] = x at hc2 HO HE
      clear hr
      go_wp2_with (go_at_call 32; refine HO.out.mono ?_; rintro e w2 ⟨rfl, hd1, hs1⟩)
      have HD2 : Hid (DiskAt B w2 (s.kept (ks.take (k + 1)))) := Lib.hid (by rw [← HE.out]; exact hd1)
      have HS2 : Hid (Step w s w2 (s.kept (ks.take (k + 1)))) := Lib.hid (by rw [← HE.out]; exact HS.out.trans hs1)
      clear hd1 hs1
      go_wp2
      go_roundw
      case rel => exact ⟨k + 1, by omega, by go_num, HD2.out, HS2.out⟩
      case measure => simp [intOf]; omega
    · obtain rfl : k = n := by omega
      have e := HN.out
      have eT : ks.take k = ks := by rw [← e, List.take_length]
      rw [eT] at HD HS
      clear e eT
      by_cases ht : t = -1
      · subst ht
        have HA := Lib.hid (settle_any _ _ HD.out)
        have HE := Lib.hid (show (s.kept ks).torn (-1) part = s.kept ks by unfold St.torn; rw [if_pos rfl])
        go_wp2_with (go_at_call 33; refine HA.out.mono ?_; rintro e w1 ⟨rfl, hd1, hs1⟩; have k4 := hd1.d4; have f4 := hd1.fD 4; change w1.cell? ⟨s.D, 4, none⟩ = some (.int .i64 s.left) at k4; change w1.frozen? ⟨s.D, 4, none⟩ = false at f4; have HD3 := Lib.hid hd1; have HS3 := Lib.hid (HS.out.trans hs1); clear hd1 hs1)
        go_ret
        refine ⟨rfl, ?_, ?_⟩
        · unfold St.crash; rw [HE.out]; exact HD3.out.setLeft (-1) (by omega) (by omega)
        · unfold St.crash; rw [HE.out]; exact HS3.out.trans (Step.setD (s := (s.kept ks).settle) 4 _ (fun k hk => .inl hk))
      · have hb1 : (t == -1) = false := by simpa using ht
        have hb2 : (t != -1) = true := by simpa using ht
        have hr := HF.out.2.resolve_left ht
        have HO := Lib.hid (outlive_at (s.kept ks) t part part wr HD.out hr.1 hr.2.1 rfl hp)
        have HE := Lib.hid (show (s.kept ks).torn t part = (s.kept ks).out (s.pend.getD t.toNat 0) part by unfold St.torn; rw [if_neg ht]; rfl)
        clear hr ht
        go_wp2_with (first | (go_at_call 32; refine HO.out.mono ?_; rintro e w2 ⟨rfl, hd2, hs2⟩; have HA := Lib.hid (settle_any _ _ hd2); have HS2 := Lib.hid (HS.out.trans hs2); clear hd2 hs2) | (go_at_call 33; refine HA.out.mono ?_; rintro e w1 ⟨rfl, hd1, hs1⟩; have k4 := hd1.d4; have f4 := hd1.fD 4; change w1.cell? ⟨s.D, 4, none⟩ = some (.int .i64 s.left) at k4; change w1.frozen? ⟨s.D, 4, none⟩ = false at f4; have HD3 := Lib.hid hd1; have HS3 := Lib.hid (HS2.out.trans hs1); clear hd1 hs1))
        go_ret
        refine ⟨rfl, ?_, ?_⟩
        · unfold St.crash; rw [HE.out]; exact HD3.out.setLeft (-1) (by omega) (by omega)
        · unfold St.crash; rw [HE.out]; exact HS3.out.trans (Step.setD (s := ((s.kept ks).out (s.pend.getD t.toNat 0) part).settle) 4 _ (fun k hk => .inl hk))
end Go.Proofs.YtibopcbebcikbaaDoor

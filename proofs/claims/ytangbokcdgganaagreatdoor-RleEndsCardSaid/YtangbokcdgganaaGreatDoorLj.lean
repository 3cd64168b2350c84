/-
  RLE: readRuns: the cells of the runs.
-/
import Derived.Test.YtangbokcdgganaaGreatDoorLh
namespace Go.Proofs.YtangbokcdgganaaGreatDoor
open Go.RowKit Ru Ce
open Go.Lib (indexByte hasPrefix)

namespace Rl
theorem tl_suf (l : List UInt8) : l.drop (l.length - (tl l).length) = tl l := by
  have h : tl l <:+ l := List.dropWhile_suffix _
  obtain ⟨p, hp⟩ := h
  have e : l.length - (tl l).length = p.length := by
    have := congrArg List.length hp
    rw [List.length_append] at this
    omega
  rw [e]
  conv => lhs; rw [← hp]
  rw [List.drop_left]
theorem lay_bnd {x y n : Nat} {cs : List Cel} {c : UInt8} {x' y' : Nat} {cs' : List Cel} (hy : y ≤ 274877906944) (hc : cs.length ≤ 4096) (h : layP x y cs n c = some (x', y', cs')) : x' ≤ 274877906945 ∧ y' ≤ 274877906944 ∧ cs'.length ≤ 4096 := by
  unfold layP at h
  split at h
  · split at h
    · simp only [Option.some.injEq, Prod.mk.injEq] at h; obtain ⟨rfl, rfl, rfl⟩ := h; exact ⟨by assumption, hy, hc⟩
    · cases h
  · split at h
    · split at h
      · split at h
        · simp only [Option.some.injEq, Prod.mk.injEq] at h; obtain ⟨rfl, rfl, rfl⟩ := h
          refine ⟨by assumption, hy, ?_⟩
          rw [List.length_append, rowC_len]; assumption
        · cases h
      · cases h
    · split at h
      · simp only [Option.some.injEq, Prod.mk.injEq] at h; obtain ⟨rfl, rfl, rfl⟩ := h; exact ⟨by omega, by assumption, hc⟩
      · cases h
def OutR (w : World) (o : Out) (e : Ending) (w' : World) : Prop :=
  Below w.heap.size w w' ∧ match o with
    | .ok cs => ∃ v, e = .returned (.tuple #[v, .int .i64 0, .nilIface]) ∧ OwnC 25 w' w.heap.size v cs.length cs
    | .err k n => e = .returned (.tuple #[.slice none 0 0, .int .i64 k, .iface 48 (.int .i64 n)])
/-- what one round does: t what is left behind blanks, p where it begins -/
inductive Rnd (t : List UInt8) (p x y : Nat) (cs : List Cel) (R : Out) : Prop
  | fin (h : t.head? = some 33) (hR : R = .ok cs)
  | form (h : ¬ t.head? = some 33) (h2 : (runL t).2.2 = false) (hR : R = .err (p + (runL t).2.1) 3)
  | big (h : ¬ t.head? = some 33) (h2 : (runL t).2.2 = true) (h3 : 274877906944 < (runL t).1) (hR : R = .err p 6)
  | full (h : ¬ t.head? = some 33) (h2 : (runL t).2.2 = true) (h3 : (runL t).1 ≤ 274877906944) (h4 : layP x y cs (runL t).1 (t.getD (runL t).2.1 0) = none) (hR : R = .err p 6)
  | on (h : ¬ t.head? = some 33) (h2 : (runL t).2.2 = true) (h3 : (runL t).1 ≤ 274877906944) (x' y' : Nat) (cs' : List Cel) (h4 : layP x y cs (runL t).1 (t.getD (runL t).2.1 0) = some (x', y', cs'))
      (hR : R = runsL (t.drop ((runL t).2.1 + 1)) (p + (runL t).2.1 + 1) x' y' cs')
theorem rnd_of (l : List UInt8) (a x y : Nat) (cs : List Cel) : Rnd (tl l) (a + (l.length - (tl l).length)) x y cs (runsL l a x y cs) := by
  by_cases h1 : (tl l).head? = some 33
  · exact .fin h1 (by rw [runs_eq, if_pos h1])
  · by_cases h2 : (runL (tl l)).2.2 = true
    · by_cases h3 : (runL (tl l)).1 ≤ 274877906944
      · cases h4 : layP x y cs (runL (tl l)).1 ((tl l).getD (runL (tl l)).2.1 0) with
        | none => exact .full h1 h2 h3 h4 (by rw [runs_eq, if_neg h1, if_pos h2, show layR x y cs (tl l) = none from by unfold layR; rw [if_pos h3, h4]])
        | some q =>
          obtain ⟨x', y', cs'⟩ := q
          exact .on h1 h2 h3 x' y' cs' h4 (by rw [runs_eq, if_neg h1, if_pos h2, show layR x y cs (tl l) = some (x', y', cs') from by unfold layR; rw [if_pos h3, h4]])
      · exact .big h1 h2 (by omega) (by rw [runs_eq, if_neg h1, if_pos h2, show layR x y cs (tl l) = none from by unfold layR; rw [if_neg h3]])
    · exact .form h1 (by simpa using h2) (by rw [runs_eq, if_neg h1, if_neg h2])
theorem runL_le (l : List UInt8) : (runL l).2.1 ≤ l.length := by
  have h := (numL_le l 0 0).2
  unfold runL
  split
  · exact Nat.zero_le _
  · split
    · simpa using h
    · simpa using h
theorem tag_of {l : List UInt8} (h : (runL l).2.2 = true) : isTag (l.getD (runL l).2.1 0) = true := by
  obtain ⟨_, h2, h3⟩ := runL_true h
  have hlt := runL_lt h
  rw [h3] at hlt ⊢
  rw [List.getD_eq_getElem?_getD]
  rw [List.getElem?_eq_getElem hlt] at h2 ⊢
  simpa using h2
theorem row_new (w : World) : Pl w.heap.size (w.alloc (.cells #[.int .i64 0, .int .i64 0, .slice none 0 0] 80)) w.heap.size (.slice none 0 0) 0 0 [] :=
  ⟨heap_alloc_new w _, World.ownsRow_nil _ _ _ _, (fun h => by cases h), Nat.le_refl _⟩
set_option maxRecDepth 100000 in
set_option maxHeartbeats 4000000 in
theorem readRuns_any (s : ByteArray) (a0 : Nat) (w : World) (hs : s.size ≤ 100000) (ha : a0 ≤ s.size) :
    Calls Tryz.prog 21 #[.string s, .int .i64 a0] w (OutR w (runsL ((bl s).drop a0) a0 0 0 [])) := by
  obtain ⟨R, hR⟩ : ∃ R, runsL ((bl s).drop a0) a0 0 0 [] = R := ⟨_, rfl⟩
  rw [hR]
  have HR := Lib.hid hR
  have HN := Lib.hid (row_new w)
  have HA := Lib.hid (alX w (.cells #[.int .i64 0, .int .i64 0, .slice none 0 0] 80))
  clear hR
  go_enter Tryz.func21, Tryz.ntmps21
  go_wp2
  go_loopw [1] (fun i wr => ∃ (a x y : Nat) (cs : List Cel) (v : Value), a ≤ s.size ∧ i = .int .i64 a ∧ Hid (x ≤ 274877906945 ∧ y ≤ 274877906944 ∧ cs.length ≤ 4096) ∧ Hid (runsL ((bl s).drop a) a x y cs = R) ∧ Hid (Pl w.heap.size wr w.heap.size v x y cs) ∧ Hid (Below w.heap.size w wr)) (fun i _ => s.size - (RowKit.intOf i).toNat)
  case atStart => exact ⟨a0, 0, 0, [], _, ha, rfl, Lib.hid ⟨by omega, by omega, by simp⟩, HR, HN, HA⟩
  case round =>
    obtain ⟨a, x, y, cs, v, ha, rfl, HX, HR, HP, HB⟩ := hrel
    have a0 : (0 : Int) ≤ (a : Int) := by omega
    have ha' : (a : Int) ≤ (s.size : Int) := by omega
    have hcut : s.extract a s.size = st ((bl s).drop a) := st_drop s a
    have HT := Lib.hid (fun W => triml_any (s.extract a s.size) W)
    rw [hcut, bl_st] at HT
    rw [← hcut] at HT
    have hlen : ((bl s).drop a).length = s.size - a := by rw [List.length_drop, bl_size]
    have htl := tl_len ((bl s).drop a)
    have hsuf := tl_suf ((bl s).drop a)
    have hrnd := rnd_of ((bl s).drop a) a x y cs
    rw [HR.out] at hrnd
    rw [List.drop_drop] at hsuf
    obtain ⟨t, ht⟩ : ∃ t, tl ((bl s).drop a) = t := ⟨_, rfl⟩
    obtain ⟨p, hp⟩ : ∃ p, a + (((bl s).drop a).length - t.length) = p := ⟨_, rfl⟩
    rw [ht] at hsuf hrnd HT htl
    rw [hp] at hsuf hrnd
    have hpt : p + t.length = s.size := by omega
    have hap : a ≤ p := by omega
    have hp0 : (0 : Int) ≤ (p : Int) := by omega
    have hps : (p : Int) ≤ (s.size : Int) := by omega
    have hpm : (p : Int) ≤ 100000 := by omega
    have hcut2 : s.extract p s.size = st t := by rw [st_drop, hsuf]
    have htsz : (st t).size = t.length := st_size t
    have hsub : (s.size : Int) - ((st t).size : Int) = (p : Int) := by rw [htsz]; omega
    have HH := Lib.hid (fun W => hasp_any (s.extract p s.size) 33 W)
    have HU := Lib.hid (fun W => readRun_any (s.extract p s.size) W (by rw [hcut2, htsz]; omega))
    rw [hcut2, bl_st] at HH HU
    rw [← hcut2] at HH HU
    obtain ⟨⟨c0, c1, c2⟩, f0, f1, f2⟩ := row3 HP.out.blk
    have hg : p ≤ s.size := by omega
    generalize st t = T at *
    rcases hrnd with ⟨h, hR⟩ | ⟨h, h2, hR⟩ | ⟨h, h2, h3, hR⟩ | ⟨h, h2, h3, h4, hR⟩ | ⟨h, h2, h3, x', y', cs', h4, hR⟩
    · rw [decide_eq_true h] at HH
      subst hR
      have HHS := Lib.hid hs
      clear hs hlen htl hsuf ht hp hpt hap hcut hcut2 htsz h hg
      go_wp2_with (first | (go_at_call 39; refine (HT.out _).mono ?_; rintro e w1 ⟨rfl, hb1⟩; have HB1 := Lib.hid (HB.out.trans (hb1.mono HB.out.size)); have HP1 := Lib.hid (HP.out.other hb1.block); obtain ⟨⟨c0, c1, c2⟩, f0, f1, f2⟩ := row3 HP1.out.blk; clear hb1) | (go_at_call 34; refine (HH.out _).mono ?_; rintro e w2 ⟨rfl, rfl⟩))
      go_ret3
      exact ⟨HB1.out, v, rfl, HP1.out.own⟩
    · rw [decide_eq_false h] at HH
      subst hR
      have hd := runL_le t
      obtain ⟨n, d, ok, hrl⟩ : ∃ n d ok, runL t = (n, d, ok) := ⟨_, _, _, rfl⟩
      rw [hrl] at HU h2 hd ⊢
      obtain rfl : ok = false := h2
      have hd0 : (0 : Int) ≤ (d : Int) := by omega
      have hd1 : (p : Int) + (d : Int) ≤ 100000 := by simp at hd; omega
      clear hs hlen htl hsuf ht hp hpt hap hcut hcut2 htsz h hg hd hrl c0 c1 c2 f0 f1 f2
      go_wp2_with (first | (go_at_call 39; refine (HT.out _).mono ?_; rintro e w1 ⟨rfl, hb1⟩; have HB1 := Lib.hid (HB.out.trans (hb1.mono HB.out.size)); have HP1 := Lib.hid (HP.out.other hb1.block); clear hb1) | (go_at_call 34; refine (HH.out _).mono ?_; rintro e w2 ⟨rfl, rfl⟩) | (go_at_call 40; refine (HU.out _).mono ?_; rintro e w3 ⟨rfl, rfl⟩))
      go_ret3
      exact ⟨HB1.out, by simp⟩
    · rw [decide_eq_false h] at HH
      subst hR
      obtain ⟨n, d, ok, hrl⟩ : ∃ n d ok, runL t = (n, d, ok) := ⟨_, _, _, rfl⟩
      rw [hrl] at HU h2 h3
      obtain rfl : ok = true := h2
      have h3' : (274877906944 : Int) < (n : Int) := by simp at h3; omega
      clear hs hlen htl hsuf ht hp hpt hap hcut hcut2 htsz h hg hrl c0 c1 c2 f0 f1 f2
      go_wp2_with (first | (go_at_call 39; refine (HT.out _).mono ?_; rintro e w1 ⟨rfl, hb1⟩; have HB1 := Lib.hid (HB.out.trans (hb1.mono HB.out.size)); have HP1 := Lib.hid (HP.out.other hb1.block); clear hb1) | (go_at_call 34; refine (HH.out _).mono ?_; rintro e w2 ⟨rfl, rfl⟩) | (go_at_call 40; refine (HU.out _).mono ?_; rintro e w3 ⟨rfl, rfl⟩))
      go_ret3
      exact ⟨HB1.out, by simp⟩
    · have hd := runL_lt h2
      have htag := tag_of h2
      obtain ⟨n, d, ok, hrl⟩ : ∃ n d ok, runL t = (n, d, ok) := ⟨_, _, _, rfl⟩
      rw [hrl] at HU h2 h3 h4 hd htag
      have hd : d < t.length := hd
      obtain rfl : ok = true := h2
      have hpd : p + d < s.size := by omega
      have hby : t.getD d 0 = s[p + d] := by
        have e1 : t[d]? = (bl s)[p + d]? := by rw [← hsuf, List.getElem?_drop]
        rw [List.getD_eq_getElem?_getD, e1, show (bl s)[p + d]? = some s[p + d] from getElem?_pos (bl s) (p + d) (by rw [bl_size]; exact hpd)]; rfl
      rw [hby] at htag h4
      subst hR
      rw [decide_eq_false h] at HH
      have HL := Lib.hid (fun (W : World) (hW : Pl w.heap.size W w.heap.size v x y cs) => lay_any w.heap.size w.heap.size v x y n cs (s[p + d]) htag W hW HX.out.1 HX.out.2.1 h3 HX.out.2.2)
      rw [h4] at HL
      have h3' : (n : Int) ≤ 274877906944 := by have : n ≤ 274877906944 := h3; omega
      have hd0 : (0 : Int) ≤ (d : Int) := by omega
      have hd1 : (p : Int) + (d : Int) < (s.size : Int) := by omega
      have hd2 : (p : Int) + (d : Int) ≤ 100000 := by omega
      clear hs hlen htl hsuf ht hp hpt hap hcut hcut2 htsz h hg hrl c0 c1 c2 f0 f1 f2 hby htag h4
      go_wp2_with (first | (go_at_call 39; refine (HT.out _).mono ?_; rintro e w1 ⟨rfl, hb1⟩; have HB1 := Lib.hid (HB.out.trans (hb1.mono HB.out.size)); have HP1 := Lib.hid (HP.out.other hb1.block); clear hb1) | (go_at_call 34; refine (HH.out _).mono ?_; rintro e w2 ⟨rfl, rfl⟩) | (go_at_call 40; refine (HU.out _).mono ?_; rintro e w3 ⟨rfl, rfl⟩) | (go_at_call 41; refine (HL.out _ HP1.out).mono ?_; rintro e w4 ⟨hb4, rfl⟩; have HB4 := Lib.hid (HB1.out.trans hb4); clear hb4))
      go_ret3
      exact ⟨HB4.out, by simp⟩
    · have hd := runL_lt h2
      have htag := tag_of h2
      obtain ⟨n, d, ok, hrl⟩ : ∃ n d ok, runL t = (n, d, ok) := ⟨_, _, _, rfl⟩
      rw [hrl] at HU h2 h3 h4 hd htag hR
      have hd : d < t.length := hd
      obtain rfl : ok = true := h2
      have hpd : p + d < s.size := by omega
      have hby : t.getD d 0 = s[p + d] := by
        have e1 : t[d]? = (bl s)[p + d]? := by rw [← hsuf, List.getElem?_drop]
        rw [List.getD_eq_getElem?_getD, e1, show (bl s)[p + d]? = some s[p + d] from getElem?_pos (bl s) (p + d) (by rw [bl_size]; exact hpd)]; rfl
      have HRN := Lib.hid (show runsL ((bl s).drop (p + d + 1)) (p + d + 1) x' y' cs' = R by
        rw [hR, ← hsuf, List.drop_drop]; rfl)
      have HXN := Lib.hid (lay_bnd HX.out.2.1 HX.out.2.2 h4)
      rw [hby] at htag h4
      clear hR
      rw [decide_eq_false h] at HH
      have HL := Lib.hid (fun (W : World) (hW : Pl w.heap.size W w.heap.size v x y cs) => lay_any w.heap.size w.heap.size v x y n cs (s[p + d]) htag W hW HX.out.1 HX.out.2.1 h3 HX.out.2.2)
      rw [h4] at HL
      have h3' : (n : Int) ≤ 274877906944 := by have : n ≤ 274877906944 := h3; omega
      have hd0 : (0 : Int) ≤ (d : Int) := by omega
      have hd1 : (p : Int) + (d : Int) < (s.size : Int) := by omega
      have hd2 : (p : Int) + (d : Int) ≤ 100000 := by omega
      have HK := Lib.hid (And.intro hap hpd)
      clear hs hlen htl hsuf ht hp hpt hap hcut hcut2 htsz h hg hrl c0 c1 c2 f0 f1 f2 hby htag h4
      go_wp2_with (first | (go_at_call 39; refine (HT.out _).mono ?_; rintro e w1 ⟨rfl, hb1⟩; have HB1 := Lib.hid (HB.out.trans (hb1.mono HB.out.size)); have HP1 := Lib.hid (HP.out.other hb1.block); clear hb1) | (go_at_call 34; refine (HH.out _).mono ?_; rintro e w2 ⟨rfl, rfl⟩) | (go_at_call 40; refine (HU.out _).mono ?_; rintro e w3 ⟨rfl, rfl⟩) | (go_at_call 41; refine (HL.out _ HP1.out).mono ?_; rintro e w4 ⟨hb4, rfl, v4, hp4⟩; have HB4 := Lib.hid (HB1.out.trans hb4); have HP4 := Lib.hid hp4; clear hb4 hp4))
      go_roundw
      case rel => exact ⟨p + d + 1, x', y', cs', v4, by have := HK.out; omega, by go_num, HXN, HRN, HP4, HB4⟩
      case measure => have := HK.out; simp [RowKit.intOf]; omega
end Rl
end Go.Proofs.YtangbokcdgganaaGreatDoor

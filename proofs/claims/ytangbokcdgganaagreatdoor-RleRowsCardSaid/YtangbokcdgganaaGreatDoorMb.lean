/-
  RLE: Itoa, run, head.
-/
import Derived.Test.YtangbokcdgganaaGreatDoorMa
import Derived.Test.YtangbokcdgganaaGreatDoorSj
import Derived.Laws.Concat
namespace Go.Proofs.YtangbokcdgganaaGreatDoor
open Go.RowKit Ru Ce
open Go.Lib (decDigits decDigits_length nDigits itoa itoa_nonneg)

namespace Rl
def Tb (w : World) : Prop := Lib.TabIs Tryz.prog w "internal/strconv.uint64pow10" .u64 Lib.pow10Tab
theorem tb_g : Tryz.prog.globalNamed "internal/strconv.uint64pow10" = some 2 := by kernel_rfl
theorem Tb.lt {w : World} (h : Tb w) : 2 < w.heap.size := by
  unfold Tb Lib.TabIs World.var? at h
  rw [tb_g] at h
  simp only [Option.bind_some] at h
  by_cases hlt : 2 < w.heap.size
  · exact hlt
  · rw [Array.getElem?_eq_none (by omega)] at h
    cases h
theorem Tb.below {w w' : World} (h : Tb w) (hb : Below w.heap.size w w') : Tb w' := by
  have hlt := h.lt
  unfold Tb Lib.TabIs World.var? at h ⊢
  rw [tb_g] at h ⊢
  simp only [Option.bind_some] at h ⊢
  rw [hb.block _ hlt]
  exact h
theorem below_gr (w : World) (k : Nat) (os : Array Obj) : Below w.heap.size w (Sort.grow (w.drewN k) os) :=
  ⟨rfl, rfl, rfl, by simp [Sort.grow], fun i hi => Array.getElem?_append_left hi⟩
theorem itoa_any (n : Nat) (hn : n ≤ 1000000000000) (w : World) (ht : Tb w) : Calls Tryz.prog 31 #[.int .i64 n] w fun e w' => e = .returned (.string (st (decDigits n))) ∧ Below w.heap.size w w' := by
  have h := Any.strconv_Itoa Tryz.l171 (n : Int) (by omega) (by omega) w ht
  rw [itoa_nonneg] at h
  refine h.mono ?_
  rintro e w' ⟨rfl, k, os, rfl⟩
  exact ⟨rfl, below_gr w k os⟩
theorem nd_le : ∀ (k u : Nat), u < 10 ^ (k + 1) → nDigits u ≤ k + 1
  | 0, u, h => by rw [Lib.nDigits_small (by simpa using h)]; exact Nat.le_refl _
  | k + 1, u, h => by
    rw [nDigits]
    split
    · omega
    · have := nd_le k (u / 10) (by rw [Nat.div_lt_iff_lt_mul (by decide)]; rw [Nat.pow_succ] at h; exact h)
      omega
theorem dd_len12 (n : Nat) (h : n ≤ 1000000000000 - 1) : (decDigits n).length ≤ 12 := by
  rw [decDigits_length]
  exact nd_le 11 n (by omega)
def runT (p : List UInt8 × Nat) (n : Nat) (c : UInt8) : List UInt8 × Nat :=
  if n = 0 then p else if n = 1 then putT p [c] else putT p (decDigits n ++ [c])
theorem put_le (p : List UInt8 × Nat) (s : List UInt8) (hp : p.2 ≤ p.1.length) : (putT p s).2 ≤ (putT p s).1.length ∧ (putT p s).1.length ≤ p.1.length + 1 + s.length := by
  unfold putT endT
  split
  · simp; omega
  · simp only [List.length_append]; omega
theorem run_le (p : List UInt8 × Nat) (n : Nat) (c : UInt8) (hn : n ≤ 999999999999) (hp : p.2 ≤ p.1.length) : (runT p n c).2 ≤ (runT p n c).1.length ∧ (runT p n c).1.length ≤ p.1.length + 14 := by
  unfold runT
  split
  · exact ⟨hp, by omega⟩
  · split
    · have := put_le p [c] hp
      simp only [List.length_cons, List.length_nil] at this; omega
    · have := put_le p (decDigits n ++ [c]) hp
      have h2 := dd_len12 n (by omega)
      simp only [List.length_append, List.length_cons, List.length_nil] at this; omega
theorem st_app (a b : List UInt8) : st a ++ st b = st (a ++ b) := bl_inj (by
  unfold bl st
  simp only [ByteArray.data_append, Array.toList_append])
set_option maxRecDepth 100000 in
set_option maxHeartbeats 2000000 in
theorem run_any (B g : Nat) (p : List UInt8 × Nat) (n : Nat) (c : UInt8) (w : World) (h : WtE B w g p) (ht : Tb w) (hp : p.2 ≤ p.1.length) (hl : p.1.length ≤ 900000) (hn : n ≤ 999999999999) (hB : B ≤ w.heap.size) :
    Calls Tryz.prog 32 #[.pointer (some ⟨g, 0, none⟩), .int .i64 n, .string ⟨#[c]⟩] w (WtR B g w (runT p n c)) := by
  unfold runT
  have hB' := Lib.hid hB
  by_cases h0 : n = 0
  · subst h0
    rw [if_pos rfl]
    have H := Lib.hid h
    clear h
    go_enter Tryz.func32, Tryz.ntmps32
    go_wp2
    go_end0
    exact ⟨rfl, Below.refl _ _, H.out, Fr8.refl _ _⟩
  · rw [if_neg h0]
    by_cases h1 : n = 1
    · subst h1
      rw [if_pos rfl]
      have HP := Lib.hid (put_any B g p ⟨#[c]⟩ w h hp (by show _ + 1 ≤ _; omega) (by show 1 ≤ 1000; decide) hB)
      obtain ⟨cs, hcs⟩ : ∃ cs : ByteArray, (⟨#[c]⟩ : ByteArray) = cs := ⟨_, rfl⟩
      rw [hcs] at HP ⊢
      have HP2 : Hid (Calls Tryz.prog 16 #[.pointer (some ⟨g, 0, none⟩), .string cs] w (WtR B g w (putT p [c]))) := by rw [← hcs] at HP ⊢; exact HP
      clear HP h hcs
      go_enter Tryz.func32, Tryz.ntmps32
      go_wp2_with (go_at_call 16; refine HP2.out.mono ?_; rintro e w1 ⟨rfl, hb1, he1, hf1⟩)
      go_end0
      exact ⟨rfl, hb1, he1, hf1⟩
    · rw [if_neg h1]
      have HI := Lib.hid (itoa_any n (by omega) w ht)
      have hd := dd_len12 n (by omega)
      have hx : st (decDigits n) ++ (⟨#[c]⟩ : ByteArray) = st (decDigits n ++ [c]) := st_app _ [c]
      have HP := Lib.hid (fun (W : World) (hb : Below w.heap.size w W) => put_any B g p (st (decDigits n ++ [c])) W (by obtain ⟨v, hv⟩ := h; exact ⟨v, hv.other hb⟩) hp (by rw [st_size, List.length_append]; show _ + (_ + 1) ≤ _; omega) (by rw [st_size, List.length_append]; show _ + 1 ≤ _; omega) (Nat.le_trans hB hb.size))
      rw [bl_st] at HP
      have hs1 : (st (decDigits n)).size ≤ 12 := by rw [st_size]; exact hd
      have e1 : ∀ w, (Op.stringOp .add (st (decDigits n)) (⟨#[c]⟩ : ByteArray)).run Tryz.prog w = .ok (.string (st (decDigits n ++ [c]))) w := fun w => by
        rw [run_string_add_sum w _ _ (by rw [show (⟨#[c]⟩ : ByteArray).size = 1 from rfl]; omega), hx]
      have h0' : ¬ (n : Int) = 0 := by omega
      have h1' : ¬ (n : Int) = 1 := by omega
      generalize st (decDigits n) = D at *
      generalize st (decDigits n ++ [c]) = E at *
      generalize (⟨#[c]⟩ : ByteArray) = cs at *
      clear hx h hd hs1 h0 h1
      go_enter Tryz.func32, Tryz.ntmps32
      go_wp2_with (first | (go_at_call 31; refine HI.out.mono ?_; rintro e w1 ⟨rfl, hb1⟩; have HB1 := Lib.hid hb1; clear hb1) | (go_at_call 16; refine (HP.out _ HB1.out).mono ?_; rintro e w2 ⟨rfl, hb2, he2, hf2⟩; have HB2 := Lib.hid ((HB1.out.mono hB'.out).trans hb2); have HF2 := Lib.hid ((Fr8.below (g := g) HB1.out).trans hf2); clear hb2 hf2))
      go_end0
      exact ⟨rfl, HB2.out, he2, HF2.out⟩
end Rl
end Go.Proofs.YtangbokcdgganaaGreatDoor
